/-
  The law ferkeep.SlidesRound.
-/
import Derived.Test.YtjciandmpfcfjaaSEvc
import Derived.Test.YtjciandmpfcfjaaIEq
namespace Go.Proofs.Ytjciandmpfcfjaa
open Go.RowKit

theorem evaT_std {ls : List (List Int)} (h : scode ls = 0) : Std ls.flatten.length (evaT ls) := evT_std (scode_ok.1 h).1
theorem evaT_twice {ls : List (List Int)} (h : scode ls = 0) : scode (evaT ls) = 0 ∧ evaT (evaT ls) = ls := by
  have hs := (scode_ok.1 h).1
  refine ⟨(evaT_std h).code, ?_⟩
  unfold evaT
  have := evT_std hs
  rw [this.flat, evT_evT hs]
theorem proT_std {ls : List (List Int)} (h : scode ls = 0) : Std ls.flatten.length (proT ls) ∧ (0 < ls.flatten.length → Prom ls.flatten.length ls (proT ls)) := by
  have hs := (scode_ok.1 h).1
  unfold proT
  by_cases c : ls.flatten.length = 0
  · rw [if_pos c]
    have := std_nil hs c
    refine ⟨?_, fun q => by omega⟩
    rw [c, this] at hs; rw [c]; exact hs
  · rw [if_neg c]
    obtain ⟨h1, h2⟩ := pr_ok hs (by omega)
    exact ⟨h1, fun _ => h2⟩
theorem demT_std {ls : List (List Int)} (h : scode ls = 0) : Std ls.flatten.length (demT ls) ∧ (0 < ls.flatten.length → Prom ls.flatten.length (demT ls) ls) := by
  have hs := (scode_ok.1 h).1
  by_cases c : ls.flatten.length = 0
  · have e := std_nil hs c
    refine ⟨?_, fun q => by omega⟩
    have e2 : demT ls = [] := by unfold demT; rw [if_pos c]
    rw [e2, c]; rw [c, e] at hs; exact hs
  · obtain ⟨i, hi, hla⟩ := std_last hs (by omega)
    have hp : 0 < (row ls i).length := (T_row.1 hs.tab i hi).1
    have hj : (row ls i).length - 1 < (row ls i).length := by omega
    rw [demT_is hs (by omega) hj hla]
    obtain ⟨h1, h2⟩ := dm_ok hs hj hla
    exact ⟨h1, fun _ => h2⟩
theorem pro_dem {ls : List (List Int)} (h : scode ls = 0) : scode (demT ls) = 0 ∧ proT (demT ls) = ls := by
  have hs := (scode_ok.1 h).1
  obtain ⟨d1, d2⟩ := demT_std h
  refine ⟨d1.code, ?_⟩
  by_cases c : ls.flatten.length = 0
  · unfold proT
    rw [d1.flat, if_pos c, std_nil hs c]
  · have p := proT_std d1.code
    rw [d1.flat] at p
    exact (p.2 (by omega)).uniq (d2 (by omega)) p.1 hs
theorem dem_pro {ls : List (List Int)} (h : scode ls = 0) : scode (proT ls) = 0 ∧ demT (proT ls) = ls := by
  have hs := (scode_ok.1 h).1
  obtain ⟨p1, p2⟩ := proT_std h
  refine ⟨p1.code, ?_⟩
  by_cases c : ls.flatten.length = 0
  · unfold demT
    rw [p1.flat, if_pos c, std_nil hs c]
  · have d := demT_std p1.code
    rw [p1.flat] at d
    exact (d.2 (by omega)).inj (p2 (by omega)) d.1 hs p1
theorem std_bd {ls : List (List Int)} (h : scode ls = 0) : ∀ l ∈ ls, l.length ≤ 17592186044416 ∧ ∀ z ∈ l, -9223372036854775808 ≤ z ∧ z ≤ 9223372036854775807 := (few_std (scode_ok.1 h).1).bd

/-- A literal of a row of two and a row of one. -/
theorem table_lit21 (w : World) (x y z : Int) (hx : -1000 ≤ x ∧ x ≤ 1000) (hy : -1000 ≤ y ∧ y ≤ 1000) (hz : -1000 ≤ z ∧ z ≤ 1000) :
    Table (((w.alloc (.cells #[.int .i64 x, .int .i64 y] 3)).alloc (.cells #[.int .i64 z] 3)).alloc (.cells #[.slice (some ⟨w.heap.size, 0, none⟩) 2 2, .slice (some ⟨w.heap.size + 1, 0, none⟩) 1 1] 27)) (some ⟨w.heap.size + 2, 0, none⟩) [[x, y], [z]] := by
  have h1 := shows_lit w [x, y] #[.int .i64 x, .int .i64 y] rfl (by simp) (by simp; omega)
  have h2 := shows_lit (w.alloc (.cells #[.int .i64 x, .int .i64 y] 3)) [z] #[.int .i64 z] rfl (by simp) (by simp; omega)
  have h1' := (h1.below ((Below.refl _ _).alloc (Nat.le_refl _) (.cells #[.int .i64 z] 3))).below ((Below.refl _ _).alloc (Nat.le_refl _) (.cells #[.slice (some ⟨w.heap.size, 0, none⟩) 2 2, .slice (some ⟨w.heap.size + 1, 0, none⟩) 1 1] 27))
  have h2' := h2.below ((Below.refl _ _).alloc (Nat.le_refl _) (.cells #[.slice (some ⟨w.heap.size, 0, none⟩) 2 2, .slice (some ⟨w.heap.size + 1, 0, none⟩) 1 1] 27))
  intro i hi
  have hi' : i = 0 ∨ i = 1 := by simp at hi; omega
  rcases hi' with rfl | rfl
  · refine ⟨w.heap.size + 2, 0, some ⟨w.heap.size, 0, none⟩, 2, rfl, by simp, ?_, h1', fun h => by cases h⟩
    rw [World.cell?_alloc_at _ _ _ _ (by simp)]; rfl
  · refine ⟨w.heap.size + 2, 0, some ⟨w.heap.size + 1, 0, none⟩, 1, rfl, by simp, ?_, by simpa using h2', fun h => by cases h⟩
    rw [World.cell?_alloc_at _ _ _ _ (by simp)]; rfl
theorem below_lit21 (w : World) (c1 c2 c3 : Array Value) (t1 t2 t3 : TypeId) : Below w.heap.size w (((w.alloc (.cells c1 t1)).alloc (.cells c2 t2)).alloc (.cells c3 t3)) :=
  (((Below.refl _ _).alloc (Nat.le_refl _) _).alloc (by simp) _).alloc (by simp; omega) _

theorem rect_len {ls : List (List Int)} (h : T ls) (h0 : 0 < ls.length) (he : (row ls (ls.length - 1)).length = (row ls 0).length) : Rect ls (row ls 0).length ∧ ls.flatten.length = ls.length * (row ls 0).length := by
  have hr : Rect ls (row ls 0).length := fun a ha => by
    have h1 := h.shp.shorter' (a := 0) (b := a) (by omega)
    have h2 := h.shp.shorter' (a := a) (b := ls.length - 1) (by omega)
    omega
  refine ⟨hr, ?_⟩
  rw [flat_sum, S_congr (g := fun _ => (row ls 0).length) (fun a ha => hr a ha)]
  have : ∀ (n m : Nat), S n (fun _ => m) = n * m := by
    intro n m
    induction n with
    | zero => simp [S]
    | succ n ih => simp only [S]; rw [ih]; rw [Nat.succ_mul]
  exact this _ _


end Go.Proofs.Ytjciandmpfcfjaa
