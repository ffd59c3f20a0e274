/-
  The contracts of cubes.level, isEdge, boxesOf, lay.
-/
import Derived.Test.YtniedfecmakhpaaDoorDVol
import Derived.Test.YtniedfecmakhpaaDoorDEdg
import Derived.Test.YtniedfecmakhpaaDoorDCnt
namespace Go.Proofs.YtniedfecmakhpaaDoor
open Go.RowKit

/-- a list of numbers in block X -/
def Row (w : World) (X n : Nat) (f : Nat → Nat) : Prop := Owns w X (.slice (some ⟨X, 0, none⟩) n n) (tab n fun i => (f i : Int))
theorem Row.cell {w : World} {X n : Nat} {f : Nat → Nat} (h : Row w X n f) {i : Nat} (hi : i < n) : w.cell? ⟨X, i, none⟩ = some (.int .i64 (f i : Int)) ∧ w.frozen? ⟨X, i, none⟩ = false ∧ X < w.heap.size := by
  obtain ⟨g8, cap8, e8, hg8, hgs8, hfr8, hce8⟩ := h.head (by rw [tab_length]; omega)
  simp only [Value.slice.injEq, Option.some.injEq, Addr.mk.injEq, and_true] at e8
  obtain ⟨rfl, -, -⟩ := e8
  have := hce8 i (by rw [tab_length]; exact hi)
  rw [tab_getD _ _ _ hi] at this
  exact ⟨this, hfr8 i, hgs8⟩
theorem Row.congr {w : World} {X n : Nat} {f g : Nat → Nat} (h : Row w X n f) (e : ∀ i, i < n → f i = g i) : Row w X n g := by
  unfold Row; rw [← tab_congr (f := fun i => (f i : Int)) (fun i hi => by rw [e i hi])]; exact h
theorem Row.below {w w' : World} {X n : Nat} {f : Nat → Nat} (h : Row w X n f) (hb : Below w.heap.size w w') : Row w' X n f := Owns.below h hb
theorem Row.set {w W : World} {X n : Nat} {f : Nat → Nat} (h : Row w X n f) (i x : Nat) (hW : W.heap = w.heap) : Row (W.setCell ⟨X, i, none⟩ (.int .i64 (x : Int))) X n fun k => if k = i then x else f k := by
  have h1 : Owns W X (.slice (some ⟨X, 0, none⟩) n n) (tab n fun i => (f i : Int)) := ownsRow_blocks h (fun k _ => by rw [hW])
  have h2 := h1.store (by rw [tab_length]) i (x : Int)
  rw [tab_set] at h2
  unfold Row
  rw [tab_congr (g := fun b => if b = i then (x : Int) else (f b : Int)) (fun b _ => by show ((if b = i then x else f b : Nat) : Int) = _; split <;> rfl)]
  exact h2
theorem row_made {w : World} {n : Nat} (hn : n ≤ 1000) : Row (w.alloc (.cells (madeCells #[Value.int .i64 0] n) 3)) w.heap.size n fun _ => 0 := by
  have hmade : (madeCells #[Value.int .i64 0] n) = (List.replicate n (Value.int .i64 0)).toArray := by
    apply Array.toList_inj.1
    rw [toList_madeCells_one]
  have e : tab n (fun _ => ((0 : Nat) : Int)) = List.replicate n 0 := by
    rw [List.eq_replicate_iff]
    exact ⟨tab_length _ _, fun x hx => by obtain ⟨_, _, rfl⟩ := tab_mem hx; rfl⟩
  unfold Row
  rw [e]
  refine owns_of_row (Nat.le_refl _) ?_ (by simp) (by simp; omega)
  rw [heap_alloc_new w, hmade]; simp

def lq (P : Nat → Nat → Nat) (k c i j a : Nat) : Nat := if a < i then lvl c P k a else if a = i then cn j (fun b => k + 1 ≤ P i b) else 0

set_option maxHeartbeats 2000000 in
theorem level_at (a : Option Addr) (n cap r c k : Nat) (P : Nat → Nat → Nat) (w : World) (hs : Table w a (tb r c P)) (hn : n = r) (r1 : 1 ≤ r) (r8 : r ≤ 8) (c8 : c ≤ 8) :
    Calls Tryd.prog 19 #[.slice a n cap, .int .i64 ((k : Int) + 1)] w fun e w' => e = .returned (.slice (some ⟨w.heap.size, 0, none⟩) r r) ∧ Hid (Row w' w.heap.size r (lvl c P k)) ∧ Hid (Below w.heap.size w w') := by
  subst hn
  have HS : Hid (Table w a (tb n c P)) := hs
  clear hs
  have n0' : (0 : Int) < (n : Int) := by omega
  obtain ⟨b, off, ai, ci, rfl, -, -⟩ := HS.out.rowP (i := 0) (by omega)
  have hmP : ∀ W, (Instr.makeSlice 33 (.int .i64 (n : Int)) (.int .i64 (n : Int))).run Tryd.prog W = .ok (.slice (some ⟨W.heap.size, 0, none⟩) n n) (W.alloc (.cells (madeCells #[Value.int .i64 0] n) 3)) := fun W =>
        run_make_row' (P := Tryd.prog) 33 3 (.int .i64 0) 8 Tryd.underlying33 (by kernel_rfl) rfl .i64 .i64 n (by omega) (by omega) W
  have HB0 : Hid (Below w.heap.size w (w.alloc (.cells (madeCells #[Value.int .i64 0] n) 3))) := (Below.refl _ _).alloc (Nat.le_refl _) _
  have HR0 : Hid (Row (w.alloc (.cells (madeCells #[Value.int .i64 0] n) 3)) w.heap.size n (lq P k c 0 0)) := (row_made (w := w) (n := n) (by omega)).congr (fun i _ => by
    unfold lq; rw [if_neg (by omega)]; split <;> rfl)
  go_enter Tryd.func19, Tryd.ntmps19
  go_wp2_with fail
  clear hmP
  obtain ⟨X, HX⟩ : ∃ X, Hid (X = w.heap.size) := ⟨_, rfl⟩
  rw [← HX.out] at HR0 ⊢
  go_loopw [15] (fun q wr => ∃ i : Nat, i ≤ n ∧ q = .int .i64 i ∧ Hid (Row wr X n (lq P k c i 0)) ∧ Hid (Below w.heap.size w wr)) (fun q _ => n - (intOf q).toNat)
  case atStart => exact ⟨0, Nat.zero_le _, rfl, HR0, HB0⟩
  case round =>
    clear HR0 HB0
    obtain ⟨i, hi, rfl, HR, HB⟩ := hrel
    by_cases hil : i < n
    · have hil' : (i : Int) < (n : Int) := by omega
      obtain ⟨b9, off9, ai, ci, e9, HCi, HSi⟩ := HS.out.rowB (i := i) hil
      simp only [Option.some.injEq, Addr.mk.injEq, and_true] at e9
      obtain ⟨rfl, rfl⟩ := e9
      have hc := HCi.out wr HB.out
      go_wp2
      clear hc
      go_loopw [22] (fun q wr => ∃ j : Nat, j ≤ c ∧ q = .int .i64 j ∧ Hid (Row wr X n (lq P k c i j)) ∧ Hid (Below w.heap.size w wr)) (fun q _ => c - (intOf q).toNat)
      case atStart => exact ⟨0, Nat.zero_le _, rfl, HR, HB⟩
      case round =>
        clear HR HB
        obtain ⟨j, hj, rfl, HR, HB⟩ := hrel
        by_cases hjl : j < c
        · have hjl' : (j : Int) < (c : Int) := by omega
          obtain ⟨b1, o1, ha, hcz⟩ := (HSi.out wr HB.out).boxP hjl
          subst ha
          obtain ⟨x, HXx⟩ : ∃ x, Hid (x = P i j) := ⟨_, rfl⟩
          rw [← HXx.out] at hcz
          by_cases hx : k + 1 ≤ x
          · have hx' : (x : Int) ≥ (k : Int) + 1 := by omega
            obtain ⟨cB, fB, hhi⟩ := HR.out.cell hil
            obtain ⟨y, HY⟩ : ∃ y, Hid (y = lq P k c i j i) := ⟨_, rfl⟩
            rw [← HY.out] at cB
            have HYe : Hid (y = cn j (fun b => k + 1 ≤ P i b)) := by show _ = _; rw [HY.out]; unfold lq; rw [if_neg (by omega), if_pos rfl]
            have hy : y ≤ 10 := by rw [HYe.out]; have := cn_le j (fun b => k + 1 ≤ P i b); omega
            have HR3 : Hid (∀ W : World, W.heap = wr.heap → Row (W.setCell ⟨X, i, none⟩ (.int .i64 ((y : Int) + 1))) X n (lq P k c i (j + 1))) := fun W hW => by
              have h2 := HR.out.set i (y + 1) hW
              rw [show ((y + 1 : Nat) : Int) = (y : Int) + 1 by omega] at h2
              refine h2.congr (fun a _ => ?_)
              by_cases e : a = i
              · subst e
                rw [if_pos rfl, HYe.out]
                unfold lq
                rw [if_neg (by omega), if_pos rfl, cn_succ, ind_pos (by rw [← HXx.out]; exact hx)]
              · rw [if_neg e]; unfold lq; rw [if_neg e, if_neg e]
            have HQw : Hid (w.heap.size ≤ X) := by show _ ≤ _; rw [HX.out]; exact Nat.le_refl _
            go_wp2
            go_roundw
            case rel => exact ⟨j + 1, by omega, by go_num, HR3.out _ rfl, HB.out.setCell (p := ⟨X, i, none⟩) HQw.out _⟩
            case measure => simp [intOf]; omega
          · have hx' : ¬ (x : Int) ≥ (k : Int) + 1 := by omega
            have h3 : cn (j + 1) (fun b => k + 1 ≤ P i b) = cn j (fun b => k + 1 ≤ P i b) := by rw [cn_succ, ind_neg (by rw [← HXx.out]; exact hx), Nat.add_zero]
            have HR3 : Hid (Row wr X n (lq P k c i (j + 1))) := HR.out.congr (fun a _ => by
              unfold lq
              rw [h3])
            clear h3
            go_wp2
            go_roundw
            case rel => exact ⟨j + 1, by omega, by go_num, HR3, HB⟩
            case measure => simp [intOf]; omega
        · obtain rfl : j = c := by omega
          have HR4 : Hid (Row wr X n (lq P k j (i + 1) 0)) := HR.out.congr (fun a _ => by
            unfold lq
            by_cases e : a < i
            · rw [if_pos e, if_pos (by omega)]
            · rw [if_neg e]
              by_cases e2 : a = i
              · subst e2; rw [if_pos rfl, if_pos (by omega)]; rfl
              · rw [if_neg e2, if_neg (by omega)]; split <;> rfl)
          go_wp2
          go_roundw
          case rel => exact ⟨i + 1, by omega, by go_num, HR4, HB⟩
          case measure => simp [intOf]; omega
    · obtain rfl : i = n := by omega
      have HT : Hid (Row wr X i (lvl c P k)) := HR.out.congr (fun a ha => by unfold lq; rw [if_pos ha])
      go_wp2
      go_ret
      refine ⟨?_, by rw [← HX.out]; exact HT, HB⟩
      rw [HX.out]
      rfl

end Go.Proofs.YtniedfecmakhpaaDoor
