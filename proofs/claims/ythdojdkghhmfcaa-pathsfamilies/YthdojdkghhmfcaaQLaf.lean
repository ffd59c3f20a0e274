/-
  The first family, as it is read again: plain mathematics.
-/
import Derived.Test.YthdojdkghhmfcaaQFst
namespace Go.Proofs.Ythdojdkghhmfcaa

/-- What was found was found by few steps. -/
theorem fndO_st (S E : List (Nat × Nat)) : ∀ (f i : Nat) (p : Nat × Nat) (cl : Nat → Bool) (tx : List (List UInt8)) (st : Nat), (goF S E fndO f i p cl tx st none).2.2 ≠ none → (goF S E fndO f i p cl tx st none).2.1 ≤ 1000000
  | 0, _, _, _, _, _, h => absurd rfl h
  | f + 1, i, p, cl, tx, st, h => by
    rw [goF_succ] at h ⊢
    by_cases h1 : cl (ixP8 p) = true
    · rw [if_pos h1] at h; exact absurd rfl h
    rw [if_neg h1] at h ⊢
    by_cases h2 : 1000000 < st + 1
    · rw [if_pos h2] at h; exact absurd rfl h
    rw [if_neg h2] at h ⊢
    unfold lvF at h ⊢
    by_cases h3 : p = ptD E i
    · rw [if_pos h3] at h ⊢
      by_cases h4 : i + 1 = S.length
      · rw [if_pos h4]; show st + 1 ≤ 1000000; omega
      · rw [if_neg h4] at h ⊢; exact fndO_st S E f _ _ _ _ _ h
    rw [if_neg h3] at h ⊢
    dsimp only at h ⊢
    obtain ⟨a, ha⟩ : ∃ a, a = (if p.1 < (ptD E i).1 then goF S E fndO f i (p.1 + 1, p.2) (mkP cl p true) (txA tx i 82) (st + 1) none else (true, st + 1, none)) := ⟨_, rfl⟩
    rw [← ha] at h ⊢
    by_cases h6 : a.1 = false
    · rw [if_pos h6] at h ⊢
      rw [ha] at h ⊢
      by_cases h5 : p.1 < (ptD E i).1
      · rw [if_pos h5] at h ⊢; exact fndO_st S E f _ _ _ _ _ h
      · rw [if_neg h5] at h; exact absurd rfl h
    rw [if_neg h6] at h ⊢
    have hn : a.2.2 = none := by
      rw [ha]
      by_cases h5 : p.1 < (ptD E i).1
      · rw [if_pos h5]
        have g := simF S E f i (p.1 + 1, p.2) (mkP cl p true) (txA tx i 82) (st + 1) 0
        cases e : (goF S E fndO f i (p.1 + 1, p.2) (mkP cl p true) (txA tx i 82) (st + 1) none).2.2 with
        | none => rfl
        | some _ =>
          have := (g.2 (by rw [e]; intro q; cases q)).1
          rw [ha, if_pos h5] at h6
          exact absurd this h6
      · rw [if_neg h5]
    by_cases h7 : (ptD E i).2 ≤ p.2
    · rw [if_pos h7] at h; exact absurd hn h
    rw [if_neg h7] at h ⊢
    rw [hn] at h ⊢
    exact fndO_st S E f _ _ _ _ _ h
/-- A text that is read goes on to its end. -/
theorem prt_sum : ∀ (s : List UInt8) (gn : List (Nat × Nat)) (p : Nat × Nat) (g2 : List (Nat × Nat)) (q : Nat × Nat), prtP gn p s = some (g2, q) → p.1 ≤ q.1 ∧ p.2 ≤ q.2 ∧ q.1 + q.2 = p.1 + p.2 + s.length ∧ g2.length = gn.length + s.length
  | [], gn, p, g2, q, h => by
    rw [prtP] at h
    simp only [Option.some.injEq, Prod.mk.injEq] at h
    obtain ⟨rfl, rfl⟩ := h
    simp
  | b :: s, gn, p, g2, q, h => by
    rw [prtP] at h
    split at h
    · cases h
    · have g := prt_sum s _ _ _ _ h
      rw [List.length_append, List.length_singleton] at g
      rw [List.length_cons]
      unfold stpP at g
      split at g <;> (simp only at g; omega)
/-- The marks of a grid are those of its barred points. -/
theorem brF_marks {gw gh : Int} : ∀ (ps : List (Int × Int)) (cl cl' : Nat → Bool), brF gw gh cl ps = some cl' → (∀ k, cl k = true → cl' k = true) ∧ ∀ p ∈ ps, inG gw gh p = true ∧ cl' (ixP8 (p.1.toNat, p.2.toNat)) = true
  | [], cl, cl', h => by
    rw [brF] at h
    simp only [Option.some.injEq] at h
    subst h
    exact ⟨fun _ q => q, fun p hp => by cases hp⟩
  | p :: ps, cl, cl', h => by
    rw [brF] at h
    split at h
    · rename_i hc
      obtain ⟨g1, g2⟩ := brF_marks ps _ _ h
      refine ⟨fun k hk => g1 k (by unfold mkP; split; rfl; exact hk), fun q hq => ?_⟩
      rcases List.mem_cons.1 hq with e | e
      · subst e
        exact ⟨hc.1, g1 _ (by unfold mkP; rw [if_pos rfl])⟩
      · exact g2 q e
    · cases h
def toI (ps : List (Nat × Nat)) : List (Int × Int) := ps.map fun p => ((p.1 : Int), (p.2 : Int))
theorem toI_toN {gw gh : Int} (ps : List (Int × Int)) (h : ∀ p ∈ ps, inG gw gh p = true) : toI (toN ps) = ps := by
  unfold toI toN
  rw [List.map_map]
  conv => rhs; rw [← List.map_id ps]
  refine List.map_congr_left fun p hp => ?_
  have hin := h p hp
  unfold inG at hin
  simp only [Bool.and_eq_true, decide_eq_true_eq] at hin
  show (((p.1.toNat : Nat) : Int), ((p.2.toNat : Nat) : Int)) = p
  rw [Int.toNat_of_nonneg (by omega), Int.toNat_of_nonneg (by omega)]
theorem toI_mem (ps : List (Nat × Nat)) (p : Nat × Nat) : ((p.1 : Int), (p.2 : Int)) ∈ toI ps ↔ p ∈ ps := by
  unfold toI
  rw [List.mem_map]
  refine ⟨fun ⟨q, hq, e⟩ => ?_, fun h => ⟨p, h, rfl⟩⟩
  simp only [Prod.mk.injEq] at e
  have : q = p := Prod.ext (by omega) (by omega)
  rw [← this]; exact hq
/-- The way that leaves all as they are. -/
def idW (n : Nat) : List Int := (List.range n).map fun (j : Nat) => (j : Int)
theorem way_id (E : List (Int × Int)) : wayE (idW E.length) E = toN E := by
  apply List.ext_getElem?
  intro j
  simp only [wayE, idW, List.map_map, List.getElem?_map, toN]
  by_cases hj : j < E.length
  · rw [List.getElem?_range hj, List.getElem?_eq_getElem hj]
    simp [ptD, hj]
  · rw [List.getElem?_eq_none (by simpa using hj), List.getElem?_eq_none (by simpa using hj)]; rfl
theorem way_ok : ∀ n, n ≤ 4 → wyF (idW n).length (fun _ => false) (idW n) = true := by
  intro n hn
  rcases n with _ | _ | _ | _ | _ | n
  · rfl
  · rfl
  · rfl
  · rfl
  · rfl
  · omega
/-- First and Apart of the same, side by side. -/
theorem first_apart (cl : Nat → Bool) (S E : List (Nat × Nat)) : ((runF cl S E).2.2 = none → (runA cl S E).2.1 = (runF cl S E).2.1 ∧ (runA cl S E).2.2 = 0) ∧ ((runF cl S E).2.2 ≠ none → 0 < (runA cl S E).2.2 ∧ (runF cl S E).2.1 ≤ 1000000) := by
  unfold runF runA
  by_cases h0 : S.length = 0
  · rw [if_pos h0, if_pos h0]
    exact ⟨(fun h => by cases h), (fun _ => ⟨by decide, by decide⟩)⟩
  · rw [if_neg h0, if_neg h0]
    have g := simF S E 64 0 (ptD S 0) cl (List.replicate S.length []) 0 0
    refine ⟨fun h => ?_, fun h => ⟨(g.2 h).2, fndO_st S E _ _ _ _ _ _ h⟩⟩
    have := (g.1 h).1
    rw [this]; exact ⟨rfl, rfl⟩
/-- The texts that First tells are a family. -/
theorem first_fam (cl : Nat → Bool) (S E : List (Nat × Nat)) (gn0 : List (Nat × Nat)) (hE : S.length = E.length) (hc : ∀ q ∈ gn0, cl (ixP8 q) = true) (ty : List (List UInt8)) (h : (runF cl S E).2.2 = some ty) : ∃ g2, famP S E ty gn0 S.length = some g2 ∧ ty.length = S.length := by
  unfold runF at h
  by_cases h0 : S.length = 0
  · rw [if_pos h0] at h
    simp only [Option.some.injEq] at h
    subst h
    rw [h0]
    exact ⟨gn0, rfl, rfl⟩
  · rw [if_neg h0] at h
    have el : ∀ i, (List.replicate S.length ([] : List UInt8)).getD i [] = [] := fun i => by
      simp only [List.getD, List.getElem?_replicate]
      split <;> rfl
    exact goF_fam S E gn0 hE 64 0 (ptD S 0) cl (List.replicate S.length []) 0 gn0 gn0 ty (by omega) (by simp) (fun j _ => el j) rfl (by rw [el, prtP]) hc h
theorem famP_down (S E : List (Nat × Nat)) (tx : List (List UInt8)) (gn : List (Nat × Nat)) : ∀ (n : Nat) (g2 : List (Nat × Nat)), famP S E tx gn n = some g2 → ∀ i, i < n → ∃ g1 g2' q, famP S E tx gn i = some g1 ∧ prtP g1 (ptD S i) (tx.getD i []) = some (g2', q) ∧ q = ptD E i ∧ q ∉ g2' ∧ famP S E tx gn (i + 1) = some (g2' ++ [q])
  | 0, _, _, i, hi => by omega
  | n + 1, g2, h, i, hi => by
    have h' := h
    rw [famP] at h
    split at h
    · cases h
    · rename_i g1 hg1
      by_cases e : i = n
      · subst e
        split at h
        · cases h
        · rename_i g3 q hq
          split at h
          · rename_i hc
            exact ⟨g1, g3, q, hg1, hq, hc.1, hc.2, by rw [h', ← h]⟩
          · cases h
      · exact famP_down S E tx gn n g1 hg1 i (by omega)

theorem toN_length (ps : List (Int × Int)) : (toN ps).length = ps.length := by simp [toN]
theorem idW_length (n : Nat) : (idW n).length = n := by simp [idW]
theorem apt_id {gw gh : Int} {bs S E : List (Int × Int)} (h : 0 = chkE gw gh (brO gw gh bs) S E) (cl : Nat → Bool) : aptE 0 cl S E (idW (min 4 S.length)) = if 1000000 < (runA cl (toN S) (toN E)).2.1 then 2 else 0 := by
  obtain ⟨h1, h2, h3, h4, h5⟩ := chk_ok h
  have hm : min 4 S.length = E.length := by omega
  unfold aptE
  rw [if_neg (by simp), hm, idW_length, if_neg (by omega), if_neg, way_id]
  have := way_ok E.length (by omega)
  rw [idW_length] at this
  rw [this]; simp
theorem apn_id {gw gh : Int} {bs S E : List (Int × Int)} (h : 0 = chkE gw gh (brO gw gh bs) S E) (cl : Nat → Bool) (h0 : aptE 0 cl S E (idW (min 4 S.length)) = 0) : aptN 0 cl S E (idW (min 4 S.length)) = ((runA cl (toN S) (toN E)).2.2 : Int) := by
  obtain ⟨h1, h2, h3, h4, h5⟩ := chk_ok h
  have hm : min 4 S.length = E.length := by omega
  unfold aptN
  rw [if_pos h0, hm, way_id]
theorem lf_bad {gw gh : Int} {bs S E : List (Int × Int)} {x y : Int} (hx : x = chkE gw gh (brO gw gh bs) S E) (hy : y = fstE x (brC (brO gw gh bs)) S E) (hy0 : y ≠ 0) : fstL x (brC (brO gw gh bs)) S E = [] ∧ (aptE x (brC (brO gw gh bs)) S E (idW (min 4 S.length)) ≠ 0 ∨ aptN x (brC (brO gw gh bs)) S E (idW (min 4 S.length)) = 0) := by
  refine ⟨by unfold fstL; rw [← hy, if_neg hy0], ?_⟩
  by_cases hx0 : x = 0
  · subst hx0
    by_cases h0 : aptE 0 (brC (brO gw gh bs)) S E (idW (min 4 S.length)) = 0
    · right
      rw [apn_id hx _ h0]
      rw [apt_id hx] at h0
      have hn : ¬ 1000000 < (runA (brC (brO gw gh bs)) (toN S) (toN E)).2.1 := by
        intro q; rw [if_pos q] at h0; omega
      obtain ⟨g1, g2⟩ := first_apart (brC (brO gw gh bs)) (toN S) (toN E)
      cases e : (runF (brC (brO gw gh bs)) (toN S) (toN E)).2.2 with
      | none => rw [(g1 e).2]; rfl
      | some ty =>
        have h2 := g2 (by rw [e]; intro q; cases q)
        exfalso
        apply hy0
        rw [hy]; unfold fstE
        rw [if_neg (by simp), if_neg (by omega), e]
        rfl
    · exact Or.inl h0
  · left
    unfold aptE
    rw [if_pos hx0]; exact hx0
theorem lf_ok {gw gh : Int} {bs S E : List (Int × Int)} {x y : Int} (hx : x = chkE gw gh (brO gw gh bs) S E) (hy : y = fstE x (brC (brO gw gh bs)) S E) (hy0 : y = 0) : x = 0 ∧ S.all (inG gw gh) = true ∧ E.all (inG gw gh) = true ∧ S.length = E.length ∧ S.length ≤ 4 ∧ gw ≤ 8 ∧ gh ≤ 8 ∧ (∀ p ∈ bs, inG gw gh p = true) ∧ (aptE x (brC (brO gw gh bs)) S E (idW (min 4 S.length)) = 0 → aptN x (brC (brO gw gh bs)) S E (idW (min 4 S.length)) ≠ 0) ∧ (fstL x (brC (brO gw gh bs)) S E).length = S.length ∧ ∃ g2, famP (toN S) (toN E) (fstL x (brC (brO gw gh bs)) S E) (toN bs) S.length = some g2 := by
  have hx0 : x = 0 := by
    by_cases h : x = 0
    · exact h
    · rw [hy] at hy0; unfold fstE at hy0; rw [if_pos h] at hy0; exact hy0
  subst hx0
  obtain ⟨h1, h2, h3, h4, h5, h6⟩ := chk_ok hx
  have hs : ∃ cl, brO gw gh bs = some cl := by
    cases e : brO gw gh bs with
    | some cl => exact ⟨cl, rfl⟩
    | none => rw [e] at hx; unfold chkE at hx; simp at hx
  obtain ⟨cl, hcl⟩ := hs
  have hbr : brF gw gh (fun _ => false) bs = some cl := by
    unfold brO at hcl
    split at hcl
    · cases hcl
    · exact hcl
  obtain ⟨m1, m2⟩ := brF_marks bs _ _ hbr
  have hbc : brC (brO gw gh bs) = cl := by rw [hcl]; rfl
  have hE := hy0
  rw [hy, fstE, if_neg (by simp)] at hE
  have hst : ¬ 1000000 < (runF (brC (brO gw gh bs)) (toN S) (toN E)).2.1 := by
    intro q; rw [if_pos q] at hE; omega
  rw [if_neg hst] at hE
  obtain ⟨ty, hty⟩ : ∃ ty, (runF (brC (brO gw gh bs)) (toN S) (toN E)).2.2 = some ty := by
    cases e : (runF (brC (brO gw gh bs)) (toN S) (toN E)).2.2 with
    | some ty => exact ⟨ty, rfl⟩
    | none => rw [e] at hE; simp at hE
  have hL : fstL 0 (brC (brO gw gh bs)) S E = ty := by unfold fstL; rw [← hy, hy0, if_pos rfl, hty]; rfl
  obtain ⟨g2, hg2, hgl⟩ := first_fam (brC (brO gw gh bs)) (toN S) (toN E) (toN bs) (by rw [toN_length, toN_length]; exact h3) (fun q hq => by
    unfold toN at hq
    rw [List.mem_map] at hq
    obtain ⟨p, hp, e⟩ := hq
    rw [← e, hbc]; exact (m2 p hp).2) ty hty
  rw [toN_length] at hg2 hgl
  refine ⟨rfl, h1, h2, h3, h4, h5, h6, fun p hp => (m2 p hp).1, fun q => ?_, by rw [hL]; exact hgl, g2, by rw [hL]; exact hg2⟩
  rw [apn_id hx _ q]
  have := (first_apart (brC (brO gw gh bs)) (toN S) (toN E)).2 (by rw [hty]; intro e; cases e)
  omega
theorem lit_first : chkE 2 1 (brO 2 1 []) [(0, 0)] [(1, 0)] = 0 ∧ fstE 0 (brC (brO 2 1 [])) [(0, 0)] [(1, 0)] = 0 ∧ fstL 0 (brC (brO 2 1 [])) [(0, 0)] [(1, 0)] = [[82]] := by decide

end Go.Proofs.Ythdojdkghhmfcaa
