/-
  What SignsLattice calls, each callee in the form that it wants.
-/
import Derived.Test.YtfpbccahmipliaaJFrm
namespace Go.Proofs.Ytfpbccahmipliaa
open Go.RowKit

theorem futL {w w' : World} {Q : World → Prop} (h : ∀ W, Below w.heap.size w W → Q W) (hb : Below w.heap.size w w') : ∀ W, Below w'.heap.size w' W → Q W := fun W hW => h W (hb.trans (hW.mono hb.size))
theorem Sg.lowL {n : Nat} {P : Nat → Nat → Int} (p : Sg n P) : ∀ i, i < n → ∀ j, j < n → -9223372036854775808 ≤ P i j ∧ P i j ≤ 9223372036854775807 := fun _ hi _ hj => p.wide hi hj

theorem lit_sq (w : World) (x y z u : Int) (hx : -9223372036854775808 ≤ x ∧ x ≤ 9223372036854775807) (hy : -9223372036854775808 ≤ y ∧ y ≤ 9223372036854775807) (hz : -9223372036854775808 ≤ z ∧ z ≤ 9223372036854775807) (hu : -9223372036854775808 ≤ u ∧ u ≤ 9223372036854775807) :
    Table (((w.alloc (.cells #[.int .i64 x, .int .i64 y] 3)).alloc (.cells #[.int .i64 z, .int .i64 u] 3)).alloc (.cells #[.slice (some ⟨w.heap.size, 0, none⟩) 2 2, .slice (some ⟨w.heap.size + 1, 0, none⟩) 2 2] 29)) (some ⟨w.heap.size + 2, 0, none⟩) [[x, y], [z, u]] := by
  have hS1 := shows_lit w [x, y] _ rfl (by simp) (by simp; omega)
  have hS2 := shows_lit (w.alloc (.cells #[.int .i64 x, .int .i64 y] 3)) [z, u] _ rfl (by simp) (by simp; omega)
  have hs : (w.alloc (.cells #[.int .i64 x, .int .i64 y] 3)).heap.size = w.heap.size + 1 := by simp
  rw [hs] at hS2
  intro i hi
  have hi2 : i = 0 ∨ i = 1 := by simp at hi; omega
  have b2 : Below ((w.alloc (.cells #[.int .i64 x, .int .i64 y] 3)).alloc (.cells #[.int .i64 z, .int .i64 u] 3)).heap.size ((w.alloc (.cells #[.int .i64 x, .int .i64 y] 3)).alloc (.cells #[.int .i64 z, .int .i64 u] 3)) (((w.alloc (.cells #[.int .i64 x, .int .i64 y] 3)).alloc (.cells #[.int .i64 z, .int .i64 u] 3)).alloc (.cells #[.slice (some ⟨w.heap.size, 0, none⟩) 2 2, .slice (some ⟨w.heap.size + 1, 0, none⟩) 2 2] 29)) := (Below.refl _ _).alloc (Nat.le_refl _) _
  have b1 : Below (w.alloc (.cells #[.int .i64 x, .int .i64 y] 3)).heap.size (w.alloc (.cells #[.int .i64 x, .int .i64 y] 3)) (((w.alloc (.cells #[.int .i64 x, .int .i64 y] 3)).alloc (.cells #[.int .i64 z, .int .i64 u] 3)).alloc (.cells #[.slice (some ⟨w.heap.size, 0, none⟩) 2 2, .slice (some ⟨w.heap.size + 1, 0, none⟩) 2 2] 29)) := ((Below.refl _ _).alloc (Nat.le_refl _) _).alloc (by simp) _
  rcases hi2 with rfl | rfl
  · refine ⟨w.heap.size + 2, 0, some ⟨w.heap.size, 0, none⟩, 2, rfl, by simp, ?_, hS1.below b1, fun h => by cases h⟩
    rw [World.cell?_alloc_at _ _ _ _ (by simp)]; rfl
  · refine ⟨w.heap.size + 2, 0, some ⟨w.heap.size + 1, 0, none⟩, 2, rfl, by simp, ?_, hS2.below b2, fun h => by cases h⟩
    rw [World.cell?_alloc_at _ _ _ _ (by simp)]; rfl
theorem lit_below (w : World) (A B C : Obj) : Below w.heap.size w (((w.alloc A).alloc B).alloc C) := (((Below.refl _ _).alloc (Nat.le_refl _) _).alloc (by simp) _).alloc (by simp; omega) _

def I2 (i j : Nat) : Int := if i = j then 1 else 0
def S2 (i j : Nat) : Int := if i + j = 1 then 1 else 0
theorem sg_I2 : Sg 2 I2 := ⟨by decide, by decide, by decide, by decide, by decide, by decide⟩
theorem sg_S2 : Sg 2 S2 := ⟨by decide, by decide, by decide, by decide, by decide, by decide⟩
theorem tz_I2 : tz 2 2 I2 = [[1, 0], [0, 1]] := by decide
theorem tz_S2 : tz 2 2 S2 = [[0, 1], [1, 0]] := by decide
theorem mee_IS : tz 2 2 (mee I2 S2) = tz 2 2 I2 := by decide

/-- the literals of the law's head, and what is told of them -/
theorem head_meet (w : World) : Calls Try.prog 6 #[.slice (some ⟨w.heap.size + 2, 0, none⟩) 2 2, .slice (some ⟨w.heap.size + 5, 0, none⟩) 2 2]
      ((((((w.alloc (.cells #[.int .i64 1, .int .i64 0] 3)).alloc (.cells #[.int .i64 0, .int .i64 1] 3)).alloc (.cells #[.slice (some ⟨w.heap.size, 0, none⟩) 2 2, .slice (some ⟨w.heap.size + 1, 0, none⟩) 2 2] 29)).alloc (.cells #[.int .i64 0, .int .i64 1] 3)).alloc (.cells #[.int .i64 1, .int .i64 0] 3)).alloc (.cells #[.slice (some ⟨w.heap.size + 3, 0, none⟩) 2 2, .slice (some ⟨w.heap.size + 4, 0, none⟩) 2 2] 29))
      fun e w' => ∃ g gs, e = .returned (.tuple #[.slice (some ⟨g, 0, none⟩) 2 2, .int .i64 0]) ∧ Hid (Rez w' g g 2 2 gs I2) ∧ Hid (Below w.heap.size w w') := by
  have h1 := lit_sq w 1 0 0 1 (by omega) (by omega) (by omega) (by omega)
  obtain ⟨w1, Hw1⟩ : ∃ w1, w1 = (((w.alloc (.cells #[.int .i64 1, .int .i64 0] 3)).alloc (.cells #[.int .i64 0, .int .i64 1] 3)).alloc (.cells #[.slice (some ⟨w.heap.size, 0, none⟩) 2 2, .slice (some ⟨w.heap.size + 1, 0, none⟩) 2 2] 29)) := ⟨_, rfl⟩
  have hb1 : Below w.heap.size w w1 := by rw [Hw1]; exact lit_below w _ _ _
  have hs1 : w1.heap.size = w.heap.size + 3 := by rw [Hw1]; simp
  rw [← Hw1] at h1 ⊢
  have h2 := lit_sq w1 0 1 1 0 (by omega) (by omega) (by omega) (by omega)
  rw [hs1] at h2
  have hb2 := lit_below w1 (.cells #[.int .i64 0, .int .i64 1] 3) (.cells #[.int .i64 1, .int .i64 0] 3) (.cells #[.slice (some ⟨w.heap.size + 3, 0, none⟩) 2 2, .slice (some ⟨w.heap.size + 3 + 1, 0, none⟩) 2 2] 29)
  rw [← tz_I2] at h1
  rw [← tz_S2] at h2
  refine (Meet_ok _ _ 2 2 2 2 2 I2 S2 _ (h1.below hb2) h2 rfl rfl sg_I2 sg_S2).mono ?_
  rintro e w' ⟨g, gs, rfl, _, HR, HB⟩
  refine ⟨g, gs, rfl, HR.out.congr (tz_inj mee_IS), ?_⟩
  have hb3 := hb1.trans (hb2.mono (by omega))
  exact hb3.trans (HB.out.mono hb3.size)

theorem head_rows (g : Nat) (gs : Nat → Nat) (w1 : World) (HR : Hid (Rez w1 g g 2 2 gs I2)) : Calls Try.prog 19 #[.slice (some ⟨g, 0, none⟩) 2 2, .slice (some ⟨w1.heap.size + 2, 0, none⟩) 2 2] (((w1.alloc (.cells #[.int .i64 1, .int .i64 0] 3)).alloc (.cells #[.int .i64 0, .int .i64 1] 3)).alloc (.cells #[.slice (some ⟨w1.heap.size, 0, none⟩) 2 2, .slice (some ⟨w1.heap.size + 1, 0, none⟩) 2 2] 29)) fun e w' => e = .returned (.bool true) ∧ Hid (Below w1.heap.size w1 w') := by
  have hb := lit_below w1 (.cells #[.int .i64 1, .int .i64 0] 3) (.cells #[.int .i64 0, .int .i64 1] 3) (.cells #[.slice (some ⟨w1.heap.size, 0, none⟩) 2 2, .slice (some ⟨w1.heap.size + 1, 0, none⟩) 2 2] 29)
  have h2 := lit_sq w1 1 0 0 1 (by omega) (by omega) (by omega) (by omega)
  rw [← tz_I2] at h2
  have h1 := (HR.out.below hb).table (by omega) sg_I2.lowL
  refine (RowsL_r _ _ _ _ _ _ (tz 2 2 I2) _ h1 h2 rfl rfl (by rw [tz_len]; omega)).mono ?_
  rintro e w' ⟨rfl, d, rfl⟩
  exact ⟨rfl, below_drewN hb d⟩

theorem FromCorner_ok (g n : Nat) (P : Nat → Nat → Int) (w : World) (hs : Table w (some ⟨g, 0, none⟩) (tz (n + 1) (n + 1) (cor P))) (p : Sg n P) :
    Calls Try.prog 17 #[.slice (some ⟨g, 0, none⟩) (n + 1) (n + 1)] w fun e w' => ∃ h gs, e = .returned (.tuple #[.slice (some ⟨h, 0, none⟩) n n, .int .i64 0]) ∧ Hid (Rez w' h h n n gs P) ∧ Hid (Below w.heap.size w w') := by
  have hok : FcOk (tz (n + 1) (n + 1) (cor P)) := ⟨n, P, p, rfl⟩
  refine (FromCorner_at _ (n + 1) _ _ w hs (by rw [tz_len]) (by rw [tz_len]; have := p.n7; omega)).mono ?_
  rintro e w' ⟨HB, h | h⟩
  · obtain ⟨_, m, h, gs, rfl, Hm, _, HR⟩ := h
    have hm : m = n := by have := Hm.out; omega
    subst hm
    exact ⟨h, gs, rfl, HR.out.congr (fun i hi j hj => by rw [wdif_congr (N := m + 1) (D := cor P) (fun a ha b hb => tz_box ha hb) (by omega) (by omega), wdif_cor p hi hj]), HB⟩
  · exact absurd hok h.1
theorem FromTriangle_ok (a : Option Addr) (n c : Nat) (P : Nat → Nat → Int) (w : World) (hs : Table w a (tri n P)) (p : Sg n P) :
    Calls Try.prog 20 #[.slice a n c] w fun e w' => ∃ h gs, e = .returned (.tuple #[.slice (some ⟨h, 0, none⟩) n n, .int .i64 0]) ∧ Hid (Rez w' h h n n gs P) ∧ Hid (Below w.heap.size w w') := by
  have hok : FtOk (tri n P) := ⟨P, by rw [tri_len]; exact p, by rw [tri_len]⟩
  refine (FromTriangle_at _ n _ _ w hs (by rw [tri_len]) (by rw [tri_len]; have := p.n7; omega)).mono ?_
  rintro e w' ⟨HB, h | h⟩
  · obtain ⟨_, h, gs, rfl, _, HR⟩ := h
    exact ⟨h, gs, rfl, HR.out.congr (fun i hi j hj => wtr_tri p hi hj), HB⟩
  · exact absurd hok h.1
theorem Rows_same (a b : Option Addr) (n ca cb : Nat) (P : Nat → Nat → Int) (w : World) (hs : Table w a (tz n n P)) (ht : Table w b (tz n n P)) (hn : n ≤ 1000) :
    Calls Try.prog 19 #[.slice a n ca, .slice b n cb] w fun e w' => e = .returned (.bool true) ∧ Hid (Below w.heap.size w w') := by
  refine (RowsL_r _ _ _ _ _ _ _ _ hs ht (by rw [tz_len]) (by rw [tz_len]) (by rw [tz_len]; omega)).mono ?_
  rintro e w' ⟨rfl, d, rfl⟩
  exact ⟨rfl, below_drewN (Below.refl _ _) d⟩
theorem Rows_bool (a b : Option Addr) (n ca cb : Nat) (P Q : Nat → Nat → Int) (w : World) (t : Bool) (hs : Table w a (tz n n P)) (ht : Table w b (tz n n Q)) (hn : n ≤ 1000) (Ht : Hid (t = true ↔ tz n n P = tz n n Q)) :
    Calls Try.prog 19 #[.slice a n ca, .slice b n cb] w fun e w' => e = .returned (.bool t) ∧ Hid (Below w.heap.size w w') := by
  refine (RowsL_b _ _ _ _ _ _ _ _ _ t hs ht (by rw [tz_len]) (by rw [tz_len]) (by rw [tz_len]; omega) Ht).mono ?_
  rintro e w' ⟨rfl, d, rfl⟩
  exact ⟨rfl, below_drewN (Below.refl _ _) d⟩
theorem Check_ok (a : Option Addr) (n c : Nat) (P : Nat → Nat → Int) (w : World) (hs : Table w a (tz n n P)) (p : Sg n P) :
    Calls Try.prog 22 #[.slice a n c] w fun e w' => e = .returned (.int .i64 0) ∧ Hid (Below w.heap.size w w') :=
  SgCheck_at a n c _ w 0 hs (by rw [tz_len]) (by rw [tz_len]; have := p.n7; omega) ⟨fun _ => rfl, fun h => absurd (sg_list.2 p) h⟩
theorem bel_ex (n : Nat) (A B : Nat → Nat → Int) : ∃ t : Bool, Hid (t = true ↔ Bel n A B) := by
  by_cases h : Bel n A B
  · exact ⟨true, (fun _ => h), (fun _ => rfl)⟩
  · exact ⟨false, (fun e => by cases e), (fun e => absurd e h)⟩
theorem Triangle_use (a : Option Addr) (n ca : Nat) (A : Nat → Nat → Int) (w : World) (hs : Table w a (tz n n A)) (p : Sg n A) :
    Calls Try.prog 15 #[.slice a n ca] w fun e w' => ∃ ay cy, e = .returned (.tuple #[.slice ay n cy, .int .i64 0]) ∧ Hid (Table w' ay (tri n A)) ∧ Hid (Below w.heap.size w w') := by
  refine (Triangle_ok a n n ca A w hs rfl p).mono ?_
  rintro e w' ⟨v, rfl, HT, HB⟩
  obtain ⟨ay, ny, cy, rfl, hTy, HNy⟩ := HT.out.table (tri_wf (by have := p.n7; omega))
  have hny : ny = n := by rw [HNy.out, tri_len]
  subst hny
  exact ⟨ay, cy, rfl, hTy, HB⟩

end Go.Proofs.Ytfpbccahmipliaa
