/-
  Lists of texts; the contract of cubes.Paths.
-/
import Derived.Test.YtniedfecmakhpaaDoorDPth
import Derived.Deep.RegionWith
namespace Go.Proofs.YtniedfecmakhpaaDoor
open Go.RowKit

/-- a list of texts in block X -/
def SRow (w : World) (X n : Nat) (f : Nat → ByteArray) : Prop := w.ownsRow X 9 1 (.slice (some ⟨X, 0, none⟩) n n) n ((List.range n).map fun i => Value.string (f i))
theorem SRow.cell {w : World} {X n : Nat} {f : Nat → ByteArray} (h : SRow w X n f) {i : Nat} (hi : i < n) : w.cell? ⟨X, i, none⟩ = some (.string (f i)) ∧ w.frozen? ⟨X, i, none⟩ = false ∧ X < w.heap.size := by
  refine ⟨?_, World.ownsRow.frozenAt h i, (h.lt X rfl).2⟩
  rw [World.ownsRow.cellAt h i (by omega)]
  simp [hi]
theorem SRow.below {w w' : World} {X n : Nat} {f : Nat → ByteArray} (h : SRow w X n f) (hb : Below w.heap.size w w') : SRow w' X n f := ownsRow_blocks h (fun k e => hb.block k (h.lt k e).2)
theorem SRow.congr {w : World} {X n : Nat} {f g : Nat → ByteArray} (h : SRow w X n f) (e : ∀ i, i < n → f i = g i) : SRow w X n g := by
  unfold SRow; rw [← List.map_congr_left (f := fun i => Value.string (f i)) (fun i hi => by rw [e i (List.mem_range.1 hi)])]; exact h
theorem SRow.set {w W : World} {X n : Nat} {f : Nat → ByteArray} (h : SRow w X n f) (i : Nat) (x : ByteArray) (hW : W.heap = w.heap) : SRow (W.setCell ⟨X, i, none⟩ (.string x)) X n fun k => if k = i then x else f k := by
  have h1 : W.ownsRow X 9 1 (.slice (some ⟨X, 0, none⟩) n n) n ((List.range n).map fun i => Value.string (f i)) := ownsRow_blocks h (fun k _ => by rw [hW])
  have h2 := (World.ownsRow.stored h1 i (.string x)).1
  have e : ((List.range n).map fun i => Value.string (f i)).set i (.string x) = (List.range n).map fun k => Value.string (if k = i then x else f k) := by
    refine List.ext_getElem (by simp) (fun k h1 h2 => ?_)
    rw [List.getElem_set]
    simp only [List.getElem_map, List.getElem_range]
    by_cases e : i = k
    · rw [if_pos e, if_pos e.symm]
    · rw [if_neg e, if_neg (fun x => e x.symm)]
  rw [e] at h2
  exact h2
theorem srow_made {w : World} {n : Nat} (hn : n ≤ 1000) : SRow (w.alloc (.cells (madeCells #[Value.string ⟨#[]⟩] n) 9)) w.heap.size n fun _ => ⟨#[]⟩ := by
  refine ⟨by simp, Or.inr ⟨w.heap.size, n, madeCells #[Value.string ⟨#[]⟩] n, rfl, Nat.le_refl _, heap_alloc_new _ _, Nat.le_refl _, by unfold maxLen; omega, by rw [← Array.length_toList, toList_madeCells_one]; simp, ?_⟩⟩
  rw [Nat.mul_one, List.take_of_length_le (by rw [toList_madeCells_one]; simp), toList_madeCells_one]
  symm
  rw [List.eq_replicate_iff]
  refine ⟨by simp, fun x hx => ?_⟩
  obtain ⟨_, _, rfl⟩ := List.mem_map.1 hx
  rfl

/-- the text of level k -/
def ptx (r c : Nat) (P : Nat → Nat → Nat) (k : Nat) : ByteArray := ⟨(edg (lvl c P k) r c).toArray⟩
def pq (r c : Nat) (P : Nat → Nat → Nat) (k i : Nat) : ByteArray := if i < k then ptx r c P i else ⟨#[]⟩

set_option maxHeartbeats 4000000 in
theorem Paths_ok (a : Option Addr) (n cap r c h : Nat) (P : Nat → Nat → Nat) (w : World) (hs : Table w a (tb r c P)) (hn : n = r) (p : Pil r c h P) :
    Calls Tryd.prog 4 #[.slice a n cap, .int .i64 (h : Int)] w fun e w' => ∃ X, e = .returned (.tuple #[.slice (some ⟨X, 0, none⟩) h h, .int .i64 0]) ∧ Hid (SRow w' X h (ptx r c P)) ∧ Hid (Below w.heap.size w w') ∧ Hid (w.heap.size ≤ X) := by
  subst hn
  have HP : Hid (Pil n c h P) := p
  have HS : Hid (Table w a (tb n c P)) := hs
  have r1 := p.r1; have r8 := p.r8; have c1 := p.c1; have c8 := p.c8; have h1 := p.h1; have h8 := p.h8
  have HC : Hid (Calls Tryd.prog 17 #[.slice a n cap, .int .i64 (h : Int)] w fun e w' => e = .returned (.int .i64 0) ∧ Hid (Below w.heap.size w w')) := Check_yes a n cap n c h P w hs rfl p
  clear hs p
  have n0' : (0 : Int) < (n : Int) := by omega
  obtain ⟨b, off, ai, ci, rfl, HC0, -⟩ := HS.out.rowB (i := 0) (by omega)
  have hmP : ∀ W, (Instr.makeSlice 23 (.int .i64 (h : Int)) (.int .i64 (h : Int))).run Tryd.prog W = .ok (.slice (some ⟨W.heap.size, 0, none⟩) h h) (W.alloc (.cells (madeCells #[Value.string ⟨#[]⟩] h) 9)) := fun W =>
        run_make_row' (P := Tryd.prog) 23 9 (.string ⟨#[]⟩) 16 Tryd.underlying23 (by kernel_rfl) rfl .i64 .i64 h (by omega) (by omega) W
  go_enter Tryd.func4, Tryd.ntmps4
  go_wp2_with fail
  refine HC.out.mono ?_
  rintro e w1 ⟨rfl, HB1⟩
  clear HC
  have HB0 : Hid (Below w.heap.size w (w1.alloc (.cells (madeCells #[Value.string ⟨#[]⟩] h) 9))) := HB1.out.trans (((Below.refl _ _).alloc (Nat.le_refl _) _).mono HB1.out.size)
  have HR0 : Hid (SRow (w1.alloc (.cells (madeCells #[Value.string ⟨#[]⟩] h) 9)) w1.heap.size h (pq n c P 0)) := (srow_made (w := w1) (n := h) (by omega)).congr (fun i _ => by
    unfold pq; rw [if_neg (by omega)])
  have HXw : Hid (w.heap.size ≤ w1.heap.size) := HB1.out.size
  go_wp2_with fail
  clear hmP
  obtain ⟨X, HX⟩ : ∃ X, Hid (X = w1.heap.size) := ⟨_, rfl⟩
  rw [← HX.out] at HR0 HXw ⊢
  clear HB1 HX
  go_loopw [19] (fun q wr => ∃ k : Nat, k ≤ h ∧ q = .int .i64 k ∧ Hid (SRow wr X h (pq n c P k)) ∧ Hid (Below w.heap.size w wr)) (fun q _ => h - (intOf q).toNat)
  case atStart => exact ⟨0, Nat.zero_le _, rfl, HR0, HB0⟩
  case round =>
    clear HR0 HB0
    obtain ⟨k, hk, rfl, HR, HB⟩ := hrel
    by_cases hkl : k < h
    · have hkl' : (k : Int) < (h : Int) := by omega
      have hc0 : wr.drew.cell? ⟨b, off, none⟩ = some (.slice ai c ci) := HC0.out wr.drew (below_drewN HB.out 1)
      obtain ⟨t, HT⟩ : ∃ t, Hid (t = ptx n c P k) := ⟨_, rfl⟩
      have HWr : Hid (IntKind.i64.wrap ((k : Int) + 1) = (k : Int) + 1) := by show _ = _; rw [IntKind.wrap_i64]; omega
      have HL : Hid (∀ W q, q = (k : Int) + 1 → Below wr.heap.size wr W → Calls Tryd.prog 19 #[.slice (some ⟨b, off, none⟩) n cap, .int .i64 q] W fun e W1 => ∃ Y, e = .returned (.slice (some ⟨Y, 0, none⟩) n n) ∧ Hid (Row W1 Y n (lvl c P k)) ∧ Hid (Below wr.heap.size wr W1) ∧ W1.cell? ⟨b, off, none⟩ = some (.slice ai c ci)) := fun W q hq hW => by
        have hb : Below w.heap.size w W := HB.out.trans (hW.mono HB.out.size)
        subst hq
        refine (level_at _ n cap n c k P W (HS.out.below hb) rfl r1 r8 c8).mono ?_
        rintro e W1 ⟨rfl, H1, H2⟩
        exact ⟨_, rfl, H1, hW.trans (H2.out.mono hW.size), HC0.out _ (hb.trans (H2.out.mono hb.size))⟩
      have HE : Hid (∀ W Y, Row W Y n (lvl c P k) → Below wr.heap.size wr W → Calls Tryd.prog 18 #[.slice (some ⟨Y, 0, none⟩) n n, .int .i64 (c : Int)] W fun e W2 => e = .returned (.string t) ∧ Hid (SRow W2 X h (pq n c P k)) ∧ W2.cell? ⟨X, k, none⟩ = some (.string ⟨#[]⟩) ∧ W2.frozen? ⟨X, k, none⟩ = false ∧ X < W2.heap.size ∧ Hid (Below w.heap.size w W2)) := fun W Y hY hW => by
        refine (edge_at Y n c (lvl c P k) W hY (lvl_down HP.out k) (fun i _ => cn_le _ _) r1 r8 c8).mono ?_
        rintro e W2 ⟨rfl, H2⟩
        have hb : Below wr.heap.size wr W2 := hW.trans (H2.out.mono hW.size)
        have hS := HR.out.below hb
        obtain ⟨q1, q2, q3⟩ := hS.cell hkl
        refine ⟨by rw [HT.out]; rfl, hS, ?_, q2, q3, HB.out.trans (hb.mono HB.out.size)⟩
        rw [q1]; unfold pq; rw [if_neg (by omega)]
      have HB0 : Hid (Below wr.heap.size wr wr.drew) := below_drewN (Below.refl _ _) 1
      go_wp2_with fail
      go_region_with (first | (go_at_call 19; with_reducible (refine (HL.out _ _ (by first | rfl | exact HWr.out) HB0.out).mono ?_); rintro e W1 ⟨Y, rfl, H1, H2, hq1⟩) | (go_at_call 18; with_reducible (refine (HE.out _ Y H1.out H2.out).mono ?_); rintro e W2 ⟨rfl, H3, hq3, hq4, hq5, H6⟩))
      all_goals (
        have HR3 : Hid (SRow (W2.setCell ⟨X, k, none⟩ (.string t)) X h (pq n c P (k + 1))) := (H3.out.set k t rfl).congr (fun i _ => by
          unfold pq
          by_cases e : i = k
          · subst e; rw [if_pos rfl, if_pos (by omega), HT.out]
          · rw [if_neg e]
            by_cases e2 : i < k
            · rw [if_pos e2, if_pos (by omega)]
            · rw [if_neg e2, if_neg (by omega)])
        have HB3 : Hid (Below w.heap.size w (W2.setCell ⟨X, k, none⟩ (.string t))) := H6.out.setCell (p := ⟨X, k, none⟩) HXw.out _
        go_wp2
        go_roundw)
      all_goals first | exact ⟨k + 1, by omega, by go_num, HR3, HB3⟩ | (simp [intOf]; omega)
    · obtain rfl : k = h := by omega
      have HT : Hid (SRow wr X k (ptx n c P)) := HR.out.congr (fun a ha => by unfold pq; rw [if_pos ha])
      go_wp2
      go_ret2
      exact ⟨X, rfl, HT, HB, HXw⟩

end Go.Proofs.YtniedfecmakhpaaDoor
