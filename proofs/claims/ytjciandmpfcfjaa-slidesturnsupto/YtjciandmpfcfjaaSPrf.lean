/-
  Promoted, as the reference makes it: plain facts.
-/
import Derived.Test.YtjciandmpfcfjaaSDem
namespace Go.Proofs.Ytjciandmpfcfjaa

theorem sb_sb (s : List (List Int)) (i j : Nat) (x y : Int) : sb (sb s i j x) i j y = sb s i j y := by
  unfold sb
  rw [List.set_set]
  congr 1
  have : row (s.set i ((row s i).set j x)) i = (row s i).set j x := by
    have := sb_row s i j x i
    rw [if_pos rfl] at this
    exact this
  rw [this, List.set_set]
theorem left_sb (s : List (List Int)) (i j : Nat) (x : Int) (p q : Nat) : left (sb s i j x) p q = left s p q := by unfold left; rw [sb_length, sb_len]
/-- What stood in the first box is nowhere. -/
theorem mv_first {t : List (List Int)} (k : Hol (fun _ => 0) t 0 0) (x : Int) (n : Nat) (hn : left t 0 0 ≤ n) :
    (mv n (sb t 0 0 x) 0 0).2 = (mv n t 0 0).2 ∧ tk (mv n (sb t 0 0 x) 0 0).1 (mv n t 0 0).2.1 = tk (mv n t 0 0).1 (mv n t 0 0).2.1 := by
  have hE := mv_ends n _ t 0 0 k hn
  have hbx := sb_box (s := t) (i := 0) (j := 0) k.lt x
  have b1 : box (sb t 0 0 x) 1 0 = box t 1 0 := by rw [hbx, if_neg (by omega)]
  have b2 : box (sb t 0 0 x) 0 1 = box t 0 1 := by rw [hbx, if_neg (by omega)]
  cases n with
  | zero => unfold left at hn; have := k.lt; omega
  | succ n =>
    rw [mv_step n t 0 0] at hE ⊢
    rw [mv_step n (sb t 0 0 x) 0 0]
    simp only [Nat.zero_add] at hE ⊢
    rw [b1, b2, sb_sb, sb_sb]
    by_cases c : box t 1 0 ≠ 0 ∧ (box t 0 1 = 0 ∨ box t 1 0 ≤ box t 0 1)
    · rw [if_pos c, if_pos c]; exact ⟨rfl, rfl⟩
    · rw [if_neg c] at hE ⊢
      rw [if_neg c]
      by_cases c2 : box t 0 1 ≠ 0
      · rw [if_pos c2, if_pos c2]; exact ⟨rfl, rfl⟩
      · rw [if_neg c2] at hE ⊢
        rw [if_neg c2]
        have hc := hE.corner.1
        refine ⟨rfl, ?_⟩
        simp only at hc ⊢
        unfold tk
        rw [if_pos (by rw [sb_len]; omega), if_pos (by omega)]
        rfl
/-- A letter put at the end of the row that was cut. -/
theorem lng_cut {s : List (List Int)} {i j : Nat} (hs : Shp s) (c1 : (row s i).length = j + 1) (c2 : (row s (i + 1)).length ≤ j) (x : Int) : lng (tk s i) i x = sb s i j x := by
  have hi : i < s.length := row_lt (c := j) (by omega)
  have hrow : (row s i).dropLast ++ [x] = (row s i).set j x := by
    refine ext_getD (by simp; omega) (fun m hm => ?_)
    have hm' : m < j + 1 := by simp at hm; omega
    rw [getD_app, getD_set, List.length_dropLast, c1]
    by_cases e : m = j
    · rw [if_neg (by omega), if_pos (by omega), if_pos ⟨e, by omega⟩]
    · rw [if_pos (by omega), if_neg (fun q => e q.1), getD_drop, if_pos (by omega)]
  unfold tk
  by_cases h : (row s i).length ≤ 1
  · rw [if_pos h]
    have hl : s.length = i + 1 := by
      refine Nat.le_antisymm (Nat.le_of_not_lt (fun c => ?_)) hi
      have := hs.1 (i + 1) c
      omega
    have e1 : lng (s.take i) i x = s.take i ++ [[x]] := by unfold lng; rw [if_pos (by rw [List.length_take]; omega)]
    rw [e1]
    have e2 : (row s i).set j x = [x] := by
      rw [← hrow]
      have : (row s i).dropLast = [] := List.eq_nil_of_length_eq_zero (by rw [List.length_dropLast]; omega)
      rw [this]; rfl
    unfold sb
    rw [e2, List.set_eq_take_append_cons_drop, if_pos hi, List.drop_eq_nil_of_le (by omega)]
  · rw [if_neg h]
    have hr : row (s.set i (row s i).dropLast) i = (row s i).dropLast := by rw [set_row, if_pos ⟨rfl, hi⟩]
    have e1 : lng (s.set i (row s i).dropLast) i x = (s.set i (row s i).dropLast).set i ((row s i).dropLast ++ [x]) := by
      unfold lng; rw [if_neg (by rw [List.length_set]; omega), hr]
    rw [e1, List.set_set, hrow]
    rfl
/-- What the reference makes it. -/
theorem pr_ref {n : Nat} {t : List (List Int)} (h : Std n t) (h0 : 0 < n) :
    rais (-1) (lng (tk (mv (left t 0 0) (sb t 0 0 0) 0 0).1 (mv (left t 0 0) t 0 0).2.1) (mv (left t 0 0) t 0 0).2.1 ((n : Int) + 1)) = pr n t := by
  have k := T_hol h.tab h.pos (h.some h0)
  have e := mv_ends _ _ t 0 0 k (Nat.le_refl _)
  obtain ⟨c1, c2⟩ := e.corner
  rw [(mv_first k 0 _ (Nat.le_refl _)).2, lng_cut e.hol.sk.shp c1 c2]
  rfl

end Go.Proofs.Ytjciandmpfcfjaa
