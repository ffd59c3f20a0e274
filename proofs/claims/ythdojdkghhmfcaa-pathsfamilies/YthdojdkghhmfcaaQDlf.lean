/-
  PathsFamilies: what the law holds against each other, plain.
-/
import Derived.Test.YthdojdkghhmfcaaQLam
namespace Go.Proofs.Ythdojdkghhmfcaa

theorem brF_exact {gw gh : Int} : ∀ (ps : List (Int × Int)) (cl cl' : Nat → Bool), brF gw gh cl ps = some cl' → ∀ k, cl' k = true → cl k = true ∨ ∃ p ∈ ps, k = ixP8 (p.1.toNat, p.2.toNat)
  | [], cl, cl', h, k, hk => by
    rw [brF] at h
    simp only [Option.some.injEq] at h
    subst h; exact Or.inl hk
  | p :: ps, cl, cl', h, k, hk => by
    rw [brF] at h
    split at h
    · rcases brF_exact ps _ _ h k hk with q | ⟨p2, q1, q2⟩
      · unfold mkP at q
        split at q
        · rename_i e; exact Or.inr ⟨p, List.mem_cons_self, e⟩
        · exact Or.inl q
      · exact Or.inr ⟨p2, List.mem_cons_of_mem _ q1, q2⟩
    · cases h
theorem ok_marks {gw gh : Int} {bs S E : List (Int × Int)} (hx : 0 = chkE gw gh (brO gw gh bs) S E) : (∀ p ∈ bs, inG gw gh p = true) ∧ ∀ q : Nat × Nat, q.1 < 8 → q.2 < 8 → brC (brO gw gh bs) (ixP8 q) = decide (q ∈ toN bs) := by
  obtain ⟨h1, h2, h3, h4, h5, h6⟩ := chk_ok hx
  have hs : ∃ cl, brO gw gh bs = some cl := by
    cases e : brO gw gh bs with
    | some cl => exact ⟨cl, rfl⟩
    | none => rw [e] at hx; unfold chkE at hx; simp at hx
  obtain ⟨cl, hcl⟩ := hs
  have hbr : brF gw gh (fun _ => false) bs = some cl := by
    unfold brO at hcl
    split at hcl
    · cases hcl
    · exact hcl
  obtain ⟨m1, m2⟩ := brF_marks bs _ _ hbr
  have hbc : brC (brO gw gh bs) = cl := by rw [hcl]; rfl
  refine ⟨fun p hp => (m2 p hp).1, fun q q1 q2 => ?_⟩
  rw [hbc]
  have iff : cl (ixP8 q) = true ↔ q ∈ toN bs := by
    constructor
    · intro hk
      rcases brF_exact bs _ _ hbr _ hk with e | ⟨p, hp, e⟩
      · cases e
      · have hin := (m2 p hp).1
        unfold inG at hin
        simp only [Bool.and_eq_true, decide_eq_true_eq] at hin
        have e' : q.1 * 8 + q.2 = p.1.toNat * 8 + p.2.toNat := e
        have : q = (p.1.toNat, p.2.toNat) := Prod.ext (by show q.1 = p.1.toNat; omega) (by show q.2 = p.2.toNat; omega)
        rw [this]
        exact List.mem_map.2 ⟨p, hp, rfl⟩
    · intro hm
      obtain ⟨p, hp, e⟩ := List.mem_map.1 hm
      rw [← e]; exact (m2 p hp).2
  cases e : cl (ixP8 q) with
  | true => rw [decide_eq_true (iff.1 e)]
  | false => rw [decide_eq_false (fun h => by rw [iff.2 h] at e; cases e)]
/-- Where the sides are wrong, all say so. -/
theorem pf_bad {x : Int} (hx : x ≠ 0) (cl : Nat → Bool) (S E : List (Int × Int)) (zs : List Int) : aptE x cl S E zs = x ∧ aptN x cl S E zs = 0 ∧ fstE x cl S E = x ∧ fstL x cl S E = [] := by
  have h1 : aptE x cl S E zs = x := by unfold aptE; rw [if_pos hx]
  have h2 : fstE x cl S E = x := by unfold fstE; rw [if_pos hx]
  exact ⟨h1, by unfold aptN; rw [h1, if_neg hx], h2, by unfold fstL; rw [h2, if_neg hx]⟩
/-- The first one, against the document's looking. -/
theorem pf_first (cl : Nat → Bool) (S E : List (Int × Int)) (h0 : S.length ≠ 0) (r : Bool × Nat × (Nat × List (List UInt8))) (hr : r = runL cl (toN S) (toN E)) :
    (0 < r.2.2.1 → fstE 0 cl S E = 0 ∧ fstL 0 cl S E = r.2.2.2) ∧ (¬ 0 < r.2.2.1 → 1000000 < r.2.1 → fstE 0 cl S E = 2 ∧ fstL 0 cl S E = []) ∧ (¬ 0 < r.2.2.1 → ¬ 1000000 < r.2.1 → fstE 0 cl S E = 5 ∧ fstL 0 cl S E = []) := by
  have hl : (toN S).length ≠ 0 := by rw [toN_length]; exact h0
  have hA := runL_A cl (toN S) (toN E) hl
  rw [← hr] at hA
  obtain ⟨g1, g2⟩ := first_apart cl (toN S) (toN E)
  cases e : (runF cl (toN S) (toN E)).2.2 with
  | none =>
    have h1 := g1 e
    have hn : ¬ 0 < r.2.2.1 := by rw [hA.2, h1.2]; omega
    refine ⟨fun h => absurd h hn, fun _ h => ?_, fun _ h => ?_⟩
    · have hE : fstE 0 cl S E = 2 := by unfold fstE; rw [if_neg (by simp), if_pos (by rw [← h1.1, ← hA.1]; exact h)]
      exact ⟨hE, by unfold fstL; rw [hE, if_neg (by omega)]⟩
    · have hE : fstE 0 cl S E = 5 := by unfold fstE; rw [if_neg (by simp), if_neg (by rw [← h1.1, ← hA.1]; exact h), e]; rfl
      exact ⟨hE, by unfold fstL; rw [hE, if_neg (by omega)]⟩
  | some ty =>
    have h2 := g2 (by rw [e]; intro q; cases q)
    have hp : 0 < r.2.2.1 := by rw [hA.2]; exact h2.1
    refine ⟨fun _ => ?_, fun h => absurd hp h, fun h => absurd hp h⟩
    have hE : fstE 0 cl S E = 0 := by unfold fstE; rw [if_neg (by simp), if_neg (by omega), e]; rfl
    refine ⟨hE, ?_⟩
    unfold fstL
    rw [hE, if_pos rfl, e, hr, runL_F cl (toN S) (toN E) hl ty e]; rfl
theorem pf_none (cl : Nat → Bool) (S E : List (Int × Int)) (h0 : S.length = 0) : fstE 0 cl S E = 0 ∧ fstL 0 cl S E = [] := by
  have e : runF cl (toN S) (toN E) = (false, 0, some []) := by unfold runF; rw [if_pos (by rw [toN_length]; exact h0)]
  have hE : fstE 0 cl S E = 0 := by unfold fstE; rw [if_neg (by simp), e]; rfl
  exact ⟨hE, by unfold fstL; rw [hE, if_pos rfl, e]; rfl⟩
/-- How many, against the document's looking. -/
theorem pf_apart (cl : Nat → Bool) (S E : List (Int × Int)) (zs : List Int) : (zs.length ≠ S.length → aptE 0 cl S E zs = 3 ∧ aptN 0 cl S E zs = 0) ∧ (zs.length = S.length → wyF zs.length (fun _ => false) zs = false → aptE 0 cl S E zs = 1 ∧ aptN 0 cl S E zs = 0) ∧ (zs.length = S.length → wyF zs.length (fun _ => false) zs = true → 1000000 < (runA cl (toN S) (wayE zs E)).2.1 → aptE 0 cl S E zs = 2 ∧ aptN 0 cl S E zs = 0) ∧ (zs.length = S.length → wyF zs.length (fun _ => false) zs = true → ¬ 1000000 < (runA cl (toN S) (wayE zs E)).2.1 → aptE 0 cl S E zs = 0 ∧ aptN 0 cl S E zs = ((runA cl (toN S) (wayE zs E)).2.2 : Int)) := by
  refine ⟨fun h => ?_, fun h h1 => ?_, fun h h1 h2 => ?_, fun h h1 h2 => ?_⟩
  · have hE : aptE 0 cl S E zs = 3 := by unfold aptE; rw [if_neg (by simp), if_pos h]
    exact ⟨hE, by unfold aptN; rw [hE, if_neg (by omega)]⟩
  · have hE : aptE 0 cl S E zs = 1 := by unfold aptE; rw [if_neg (by simp), if_neg (by omega), if_pos h1]
    exact ⟨hE, by unfold aptN; rw [hE, if_neg (by omega)]⟩
  · have hE : aptE 0 cl S E zs = 2 := by unfold aptE; rw [if_neg (by simp), if_neg (by omega), if_neg (by rw [h1]; simp), if_pos h2]
    exact ⟨hE, by unfold aptN; rw [hE, if_neg (by omega)]⟩
  · have hE : aptE 0 cl S E zs = 0 := by unfold aptE; rw [if_neg (by simp), if_neg (by omega), if_neg (by rw [h1]; simp), if_neg h2]
    exact ⟨hE, by unfold aptN; rw [hE, if_pos rfl]⟩

end Go.Proofs.Ythdojdkghhmfcaa
