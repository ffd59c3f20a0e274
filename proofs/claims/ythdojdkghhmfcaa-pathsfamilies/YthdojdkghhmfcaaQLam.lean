/-
  The document's looking: plain mathematics.
-/
import Derived.Test.YthdojdkghhmfcaaQLaf
import Derived.Test.YthdojdkghhmfcaaQCnI
namespace Go.Proofs.Ythdojdkghhmfcaa

/-- What the document keeps: how many, and the first one. -/
def fndL (φ : Nat × List (List UInt8)) (tx : List (List UInt8)) : Bool × (Nat × List (List UInt8)) := (true, (φ.1 + 1, if φ.1 = 0 then tx else φ.2))
theorem mapL (S E : List (Nat × Nat)) : ∀ (f i : Nat) (p : Nat × Nat) (cl : Nat → Bool) (tx : List (List UInt8)) (st : Nat) (φ : Nat × List (List UInt8)), goF S E fndN f i p cl tx st φ.1 = ((goF S E fndL f i p cl tx st φ).1, (goF S E fndL f i p cl tx st φ).2.1, (goF S E fndL f i p cl tx st φ).2.2.1)
  | 0, _, _, _, _, _, _ => rfl
  | f + 1, i, p, cl, tx, st, φ => by
    rw [goF_succ, goF_succ]
    by_cases h1 : cl (ixP8 p) = true
    · rw [if_pos h1, if_pos h1]
    rw [if_neg h1, if_neg h1]
    by_cases h2 : 1000000 < st + 1
    · rw [if_pos h2, if_pos h2]
    rw [if_neg h2, if_neg h2]
    unfold lvF
    by_cases h3 : p = ptD E i
    · rw [if_pos h3, if_pos h3]
      by_cases h4 : i + 1 = S.length
      · rw [if_pos h4, if_pos h4]; rfl
      · rw [if_neg h4, if_neg h4]; exact mapL S E f _ _ _ _ _ _
    rw [if_neg h3, if_neg h3]
    dsimp only
    obtain ⟨a, ha⟩ : ∃ a, a = (if p.1 < (ptD E i).1 then goF S E fndL f i (p.1 + 1, p.2) (mkP cl p true) (txA tx i 82) (st + 1) φ else (true, st + 1, φ)) := ⟨_, rfl⟩
    have hb : (if p.1 < (ptD E i).1 then goF S E fndN f i (p.1 + 1, p.2) (mkP cl p true) (txA tx i 82) (st + 1) φ.1 else (true, st + 1, φ.1)) = (a.1, a.2.1, a.2.2.1) := by
      rw [ha]
      by_cases h5 : p.1 < (ptD E i).1
      · rw [if_pos h5, if_pos h5]; exact mapL S E f _ _ _ _ _ _
      · rw [if_neg h5, if_neg h5]
    rw [hb, ← ha]
    dsimp only
    by_cases h6 : a.1 = false
    · rw [if_pos h6, if_pos h6]
    rw [if_neg h6, if_neg h6]
    by_cases h7 : (ptD E i).2 ≤ p.2
    · rw [if_pos h7, if_pos h7]
    rw [if_neg h7, if_neg h7]
    exact mapL S E f _ _ _ _ _ _
/-- The first one stays. -/
theorem keepL (S E : List (Nat × Nat)) : ∀ (f i : Nat) (p : Nat × Nat) (cl : Nat → Bool) (tx : List (List UInt8)) (st : Nat) (φ : Nat × List (List UInt8)), 0 < φ.1 → (goF S E fndL f i p cl tx st φ).2.2.2 = φ.2 ∧ 0 < (goF S E fndL f i p cl tx st φ).2.2.1
  | 0, _, _, _, _, _, _, h => ⟨rfl, h⟩
  | f + 1, i, p, cl, tx, st, φ, h => by
    rw [goF_succ]
    by_cases h1 : cl (ixP8 p) = true
    · rw [if_pos h1]; exact ⟨rfl, h⟩
    rw [if_neg h1]
    by_cases h2 : 1000000 < st + 1
    · rw [if_pos h2]; exact ⟨rfl, h⟩
    rw [if_neg h2]
    unfold lvF
    by_cases h3 : p = ptD E i
    · rw [if_pos h3]
      by_cases h4 : i + 1 = S.length
      · rw [if_pos h4]
        refine ⟨?_, ?_⟩
        · show (if φ.1 = 0 then tx else φ.2) = φ.2
          rw [if_neg (by omega)]
        · show 0 < φ.1 + 1; omega
      · rw [if_neg h4]; exact keepL S E f _ _ _ _ _ _ h
    rw [if_neg h3]
    dsimp only
    obtain ⟨a, ha⟩ : ∃ a, a = (if p.1 < (ptD E i).1 then goF S E fndL f i (p.1 + 1, p.2) (mkP cl p true) (txA tx i 82) (st + 1) φ else (true, st + 1, φ)) := ⟨_, rfl⟩
    rw [← ha]
    have hA : a.2.2.2 = φ.2 ∧ 0 < a.2.2.1 := by
      rw [ha]
      by_cases h5 : p.1 < (ptD E i).1
      · rw [if_pos h5]; exact keepL S E f _ _ _ _ _ _ h
      · rw [if_neg h5]; exact ⟨rfl, h⟩
    by_cases h6 : a.1 = false
    · rw [if_pos h6]; exact hA
    rw [if_neg h6]
    by_cases h7 : (ptD E i).2 ≤ p.2
    · rw [if_pos h7]; exact hA
    rw [if_neg h7]
    have g := keepL S E f i (p.1, p.2 + 1) (mkP cl p true) (txA tx i 85) a.2.1 a.2.2 hA.2
    rw [hA.1] at g; exact g
/-- The first one is what First finds. -/
theorem firstL (S E : List (Nat × Nat)) : ∀ (f i : Nat) (p : Nat × Nat) (cl : Nat → Bool) (tx : List (List UInt8)) (st : Nat) (fl ty : List (List UInt8)), (goF S E fndO f i p cl tx st none).2.2 = some ty → (goF S E fndL f i p cl tx st (0, fl)).2.2.2 = ty
  | 0, _, _, _, _, _, _, _, h => by cases h
  | f + 1, i, p, cl, tx, st, fl, ty, h => by
    rw [goF_succ] at h ⊢
    by_cases h1 : cl (ixP8 p) = true
    · rw [if_pos h1] at h; cases h
    rw [if_neg h1] at h ⊢
    by_cases h2 : 1000000 < st + 1
    · rw [if_pos h2] at h; cases h
    rw [if_neg h2] at h ⊢
    unfold lvF at h ⊢
    by_cases h3 : p = ptD E i
    · rw [if_pos h3] at h ⊢
      by_cases h4 : i + 1 = S.length
      · rw [if_pos h4] at h ⊢
        have h' : some tx = some ty := h
        simp only [Option.some.injEq] at h'
        exact h'
      · rw [if_neg h4] at h ⊢; exact firstL S E f _ _ _ _ _ _ _ h
    rw [if_neg h3] at h ⊢
    dsimp only at h ⊢
    obtain ⟨a, ha⟩ : ∃ a, a = (if p.1 < (ptD E i).1 then goF S E fndO f i (p.1 + 1, p.2) (mkP cl p true) (txA tx i 82) (st + 1) none else (true, st + 1, none)) := ⟨_, rfl⟩
    obtain ⟨b, hb⟩ : ∃ b, b = (if p.1 < (ptD E i).1 then goF S E fndL f i (p.1 + 1, p.2) (mkP cl p true) (txA tx i 82) (st + 1) (0, fl) else (true, st + 1, (0, fl))) := ⟨_, rfl⟩
    obtain ⟨c, hc⟩ : ∃ c, c = (if p.1 < (ptD E i).1 then goF S E fndN f i (p.1 + 1, p.2) (mkP cl p true) (txA tx i 82) (st + 1) 0 else (true, st + 1, 0)) := ⟨_, rfl⟩
    have hcb : c = (b.1, b.2.1, b.2.2.1) := by
      rw [hc, hb]
      by_cases h5 : p.1 < (ptD E i).1
      · rw [if_pos h5, if_pos h5]; exact mapL S E f _ _ _ _ _ (0, fl)
      · rw [if_neg h5, if_neg h5]
    have hac : SimF a c 0 := by
      rw [ha, hc]
      by_cases h5 : p.1 < (ptD E i).1
      · rw [if_pos h5, if_pos h5]; exact simF S E f i _ _ _ _ 0
      · rw [if_neg h5, if_neg h5]; exact ⟨fun _ => ⟨rfl, fun h => by cases h⟩, fun h => absurd rfl h⟩
    have hab : ∀ ty, a.2.2 = some ty → b.2.2.2 = ty ∧ 0 < b.2.2.1 := fun ty hy => by
      have hp : 0 < c.2.2 := (hac.2 (by rw [hy]; intro q; cases q)).2
      rw [hcb] at hp
      refine ⟨?_, hp⟩
      rw [ha] at hy
      rw [hb]
      by_cases h5 : p.1 < (ptD E i).1
      · rw [if_pos h5] at hy ⊢; exact firstL S E f _ _ _ _ _ _ _ hy
      · rw [if_neg h5] at hy; cases hy
    rw [← ha] at h
    rw [← hb]
    cases e : a.2.2 with
    | none =>
      have hn := (hac.1 e).1
      have e1 : b.1 = a.1 := by have := congrArg (fun x => x.1) hn; rw [hcb] at this; exact this
      have e2 : b.2.1 = a.2.1 := by have := congrArg (fun x => x.2.1) hn; rw [hcb] at this; exact this
      have e3 : b.2.2.1 = 0 := by have := congrArg (fun x => x.2.2) hn; rw [hcb] at this; exact this
      rw [e1]
      by_cases h6 : a.1 = false
      · rw [if_pos h6] at h; rw [e] at h; cases h
      rw [if_neg h6] at h ⊢
      by_cases h7 : (ptD E i).2 ≤ p.2
      · rw [if_pos h7] at h; rw [e] at h; cases h
      rw [if_neg h7] at h ⊢
      rw [e] at h
      have eb : b.2.2 = (0, b.2.2.2) := Prod.ext e3 rfl
      rw [e2, eb]
      exact firstL S E f _ _ _ _ _ _ _ h
    | some tz =>
      have h6 := (hac.2 (by rw [e]; intro q; cases q)).1
      rw [if_pos h6, e] at h
      simp only [Option.some.injEq] at h
      subst h
      obtain ⟨k1, k2⟩ := hab _ e
      by_cases h8 : b.1 = false
      · rw [if_pos h8]; exact k1
      rw [if_neg h8]
      by_cases h7 : (ptD E i).2 ≤ p.2
      · rw [if_pos h7]; exact k1
      rw [if_neg h7]
      have g := (keepL S E f i (p.1, p.2 + 1) (mkP cl p true) (txA tx i 85) b.2.1 b.2.2 k2).1
      rw [k1] at g; exact g
def runL (cl : Nat → Bool) (S E : List (Nat × Nat)) : Bool × Nat × (Nat × List (List UInt8)) := goF S E fndL 64 0 (ptD S 0) cl (List.replicate S.length []) 0 (0, [])
theorem runL_A (cl : Nat → Bool) (S E : List (Nat × Nat)) (h : S.length ≠ 0) : (runL cl S E).2.1 = (runA cl S E).2.1 ∧ (runL cl S E).2.2.1 = (runA cl S E).2.2 := by
  unfold runL runA
  rw [if_neg h, mapL S E 64 0 (ptD S 0) cl (List.replicate S.length []) 0 (0, [])]
  exact ⟨rfl, rfl⟩
theorem runL_F (cl : Nat → Bool) (S E : List (Nat × Nat)) (h : S.length ≠ 0) (ty : List (List UInt8)) (hy : (runF cl S E).2.2 = some ty) : (runL cl S E).2.2.2 = ty := by
  unfold runF at hy
  rw [if_neg h] at hy
  exact firstL S E _ _ _ _ _ _ _ _ hy

/-- The numbers from 0 on, each once: all of them are there. -/
theorem wy_iff : ∀ (zs : List Int) (n : Nat) (u : Nat → Bool), wyF n u zs = true ↔ (∀ z ∈ zs, 0 ≤ z ∧ z < (n : Int) ∧ u z.toNat = false) ∧ zs.Nodup
  | [], n, u => by simp [wyF]
  | z :: r, n, u => by
    rw [wyF]
    by_cases hc : 0 ≤ z ∧ z < (n : Int) ∧ u z.toNat = false
    · rw [if_pos hc, wy_iff r n (upd4 u z.toNat), List.nodup_cons]
      constructor
      · rintro ⟨h1, h2⟩
        refine ⟨fun y hy => ?_, fun hm => ?_, h2⟩
        · rcases List.mem_cons.1 hy with e | e
          · subst e; exact hc
          · have := h1 y e
            refine ⟨this.1, this.2.1, ?_⟩
            have h3 := this.2.2
            unfold upd4 at h3
            split at h3
            · cases h3
            · exact h3
        · have h3 := (h1 z hm).2.2
          unfold upd4 at h3
          rw [if_pos rfl] at h3; cases h3
      · rintro ⟨h1, h2, h3⟩
        refine ⟨fun y hy => ?_, h3⟩
        have h4 := h1 y (List.mem_cons_of_mem _ hy)
        refine ⟨h4.1, h4.2.1, ?_⟩
        unfold upd4
        rw [if_neg, h4.2.2]
        intro e
        have : y = z := by omega
        subst this; exact h2 hy
    · rw [if_neg hc]
      constructor
      · intro h; cases h
      · rintro ⟨h1, _⟩
        exact absurd (h1 z (List.mem_cons_self)) hc
theorem nodup_up : ∀ zs : List Int, (zs.map (· + 1)).Nodup ↔ zs.Nodup
  | [] => by simp
  | z :: r => by
    rw [List.map_cons, List.nodup_cons, List.nodup_cons, nodup_up r]
    have : (z + 1 ∈ r.map (· + 1)) ↔ z ∈ r := by
      rw [List.mem_map]
      refine ⟨fun ⟨y, hy, e⟩ => ?_, fun h => ⟨z, h, rfl⟩⟩
      have : y = z := by omega
      rw [← this]; exact hy
    rw [this]
theorem order_iff (zs : List Int) (h4 : zs.length ≤ 4) : wyF zs.length (fun _ => false) zs = true ↔ ∀ v : Nat, v < zs.length → (v : Int) ∈ zs := by
  have hk := okPerm_iff (zs := zs.map (· + 1)) (by simp; omega)
  have e1 : (∀ v : Nat, v < (zs.map (· + 1)).length → (v : Int) + 1 ∈ zs.map (· + 1)) ↔ ∀ v : Nat, v < zs.length → (v : Int) ∈ zs := by
    rw [List.length_map]
    constructor
    · intro h v hv
      obtain ⟨y, hy, e⟩ := List.mem_map.1 (h v hv)
      have : y = (v : Int) := by omega
      rw [← this]; exact hy
    · intro h v hv
      exact List.mem_map.2 ⟨(v : Int), h v hv, rfl⟩
  rw [← e1, ← hk, wy_iff]
  unfold okPerm
  rw [decide_eq_true_eq, List.length_map]
  constructor
  · rintro ⟨h1, h2⟩
    refine ⟨fun z hz => ?_, ?_⟩
    · obtain ⟨y, hy, e⟩ := List.mem_map.1 hz
      have := h1 y hy
      omega
    · exact (nodup_up zs).2 h2
  · rintro ⟨h1, h2⟩
    refine ⟨fun z hz => ?_, ?_⟩
    · have := h1 (z + 1) (List.mem_map.2 ⟨z, hz, rfl⟩)
      exact ⟨by omega, by omega, rfl⟩
    · exact (nodup_up zs).1 h2

/-- Points of the grid, none twice. -/
def gdL (gw gh : Int) (ps : List (Int × Int)) : Bool := decide ((∀ p ∈ ps, inG gw gh p = true) ∧ ps.Nodup)
theorem brF_some {gw gh : Int} (hw : gw ≤ 8) (hh : gh ≤ 8) : ∀ (ps : List (Int × Int)) (cl : Nat → Bool), (brF gw gh cl ps).isSome = true ↔ (∀ p ∈ ps, inG gw gh p = true ∧ cl (ixP8 (p.1.toNat, p.2.toNat)) = false) ∧ ps.Nodup
  | [], cl => by simp [brF]
  | p :: r, cl => by
    rw [brF]
    by_cases hc : inG gw gh p = true ∧ cl (ixP8 (p.1.toNat, p.2.toNat)) = false
    · rw [if_pos hc, brF_some hw hh r, List.nodup_cons]
      constructor
      · rintro ⟨h1, h2⟩
        refine ⟨fun q hq => ?_, fun hm => ?_, h2⟩
        · rcases List.mem_cons.1 hq with e | e
          · subst e; exact hc
          · have := h1 q e
            refine ⟨this.1, ?_⟩
            have h3 := this.2
            unfold mkP at h3
            split at h3
            · cases h3
            · exact h3
        · have h3 := (h1 p hm).2
          unfold mkP at h3
          rw [if_pos rfl] at h3; cases h3
      · rintro ⟨h1, h2, h3⟩
        refine ⟨fun q hq => ?_, h3⟩
        have h4 := h1 q (List.mem_cons_of_mem _ hq)
        refine ⟨h4.1, ?_⟩
        unfold mkP
        rw [if_neg, h4.2]
        intro e
        have g1 := h4.1
        have g2 := hc.1
        unfold inG at g1 g2
        simp only [Bool.and_eq_true, decide_eq_true_eq] at g1 g2
        have e' : q.1.toNat * 8 + q.2.toNat = p.1.toNat * 8 + p.2.toNat := e
        have : q = p := Prod.ext (by omega) (by omega)
        subst this; exact h2 hq
    · rw [if_neg hc]
      constructor
      · intro h; cases h
      · rintro ⟨h1, _⟩
        exact absurd (h1 p (List.mem_cons_self)) hc
theorem brO_is (gw gh : Int) (bs : List (Int × Int)) : (brO gw gh bs).isSome = (!badD gw gh && gdL gw gh bs) := by
  unfold brO
  cases hb : badD gw gh with
  | true => rfl
  | false =>
    rw [if_neg (by simp)]
    have hd : gw ≤ 8 ∧ gh ≤ 8 := by
      unfold badD at hb
      simp only [Bool.or_eq_false_iff, decide_eq_false_iff_not] at hb
      omega
    have h := brF_some hd.1 hd.2 bs (fun _ => false)
    unfold gdL
    by_cases hq : (∀ p ∈ bs, inG gw gh p = true) ∧ bs.Nodup
    · rw [decide_eq_true hq]
      exact h.2 ⟨fun p hp => ⟨hq.1 p hp, rfl⟩, hq.2⟩
    · rw [decide_eq_false hq]
      cases e : (brF gw gh (fun _ => false) bs).isSome with
      | false => rfl
      | true => exact absurd ⟨fun p hp => ((h.1 e).1 p hp).1, (h.1 e).2⟩ hq
theorem gdL_snoc (gw gh : Int) (ps : List (Int × Int)) (p : Int × Int) : gdL gw gh (ps ++ [p]) = (gdL gw gh ps && (inG gw gh p && decide (p ∉ ps))) := by
  unfold gdL
  have e : ((∀ q ∈ ps ++ [p], inG gw gh q = true) ∧ (ps ++ [p]).Nodup) ↔ ((∀ q ∈ ps, inG gw gh q = true) ∧ ps.Nodup) ∧ inG gw gh p = true ∧ p ∉ ps := by
    rw [List.nodup_append]
    constructor
    · rintro ⟨h1, h2, h3, h4⟩
      refine ⟨⟨fun q hq => h1 q (List.mem_append_left _ hq), h2⟩, h1 p (by simp), fun hm => ?_⟩
      exact h4 p hm p (by simp) rfl
    · rintro ⟨⟨h1, h2⟩, h3, h4⟩
      refine ⟨fun q hq => ?_, h2, by simp, fun a ha b hb => ?_⟩
      · rcases List.mem_append.1 hq with e | e
        · exact h1 q e
        · rw [List.mem_singleton.1 e]; exact h3
      · rw [List.mem_singleton] at hb
        rintro rfl
        rw [hb] at ha
        exact h4 ha
  have e2 : decide ((∀ q ∈ ps ++ [p], inG gw gh q = true) ∧ (ps ++ [p]).Nodup) = decide (((∀ q ∈ ps, inG gw gh q = true) ∧ ps.Nodup) ∧ inG gw gh p = true ∧ p ∉ ps) := decide_eq_decide.2 e
  rw [e2, Bool.decide_and, Bool.decide_and (inG gw gh p = true)]
  simp only [Bool.decide_eq_true]
theorem gdL_take {gw gh : Int} {ps : List (Int × Int)} (i : Nat) (h : gdL gw gh ps = true) : gdL gw gh (ps.take i) = true := by
  unfold gdL at h ⊢
  rw [decide_eq_true_eq] at h ⊢
  exact ⟨fun p hp => h.1 p (List.mem_of_mem_take hp), h.2.sublist (List.take_sublist i ps)⟩

end Go.Proofs.Ythdojdkghhmfcaa
