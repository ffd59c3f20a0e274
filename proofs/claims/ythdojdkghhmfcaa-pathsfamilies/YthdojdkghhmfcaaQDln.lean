/-
  ferref.Looked, where there are no starts.
-/
import Derived.Test.YthdojdkghhmfcaaQDlo
namespace Go.Proofs.Ythdojdkghhmfcaa
open Go.RowKit

set_option maxHeartbeats 16000000 in
set_option maxRecDepth 100000 in
theorem Looked_none (gw gh : Int) (ba sa ea za : Option Addr) (n c sc en ec zn zc : Nat) (bs : List (Int × Int)) (w : World) (hn : n = bs.length) (hl : n ≤ 8796093021952) (hnn : ba = none → n = 0 ∧ c = 0) (hP : PtI w ba bs) :
    Calls Try.prog 8 #[.agg #[.int .i64 gw, .int .i64 gh, .slice ba n c], .slice sa 0 sc, .slice ea en ec, .slice za zn zc, .int .i64 1000000] w fun e w' => e = .returned (.tuple #[.int .i64 1, .slice none 0 0, .int .i64 0, .int .i64 0]) ∧ Hid (Below w.heap.size w w') := by
  have HP : Hid (PtI w ba bs) := hP
  have HN := hid_w (And.intro hn hn)
  have HNn := hid_w hnn
  obtain ⟨mc, HMc⟩ : ∃ mc : Int, Hid (mc = 1000000) := ⟨_, rfl⟩
  obtain ⟨b, HB⟩ : ∃ b, Hid (b = w.heap.size) := ⟨_, rfl⟩
  obtain ⟨W0, HW0⟩ : ∃ W0, Hid (W0 = ((((((((w.alloc (.cells #[.int .i64 gw, .int .i64 gh, .slice ba n c] 24)).alloc (.cells #[.slice sa 0 sc] 22)).alloc (.cells #[.slice ea en ec] 22)).alloc (.cells #[.slice za zn zc] 25)).alloc (.cells #[.int .i64 mc] 3)).alloc (.cells #[.int .i64 0] 3)).alloc (.cells #[.slice none 0 0] 29)).alloc (.cells #[.int .i64 0] 3)).alloc (.cells #[.int .i64 0] 3)) := ⟨_, rfl⟩
  have H9 := hid_w (nine_allocs w _ _ _ _ _ _ _ _ _ W0 HW0.out)
  rw [← HB.out] at H9
  have g2 : W0.cell? ⟨b, 2, none⟩ = some (.slice ba n c) := by rw [cell_of_row W0 b 2 _ _ _ H9.out.2.1]; rfl
  have HPb : Hid (PtI W0 ba bs) := hP.below (by have := H9.out.2.2.2.2.2.2.2.2.2.2; rw [HB.out] at this; exact this)
  have HLb : Hid (bs.length ≤ 8796093022208) := by show _ ≤ _; rw [← hn]; omega
  rw [← HMc.out]
  clear hP hn hnn
  go_enter Try.func8, Try.ntmps8
  go_upto_region 1 with fail
  obtain ⟨x8, HX8⟩ : ∃ x, Hid (x = w.heap.size + 1 + 1 + 1 + 1 + 1 + 1 + 1 + 1) := ⟨_, rfl⟩
  obtain ⟨x7, HX7⟩ : ∃ x, Hid (x = w.heap.size + 1 + 1 + 1 + 1 + 1 + 1 + 1) := ⟨_, rfl⟩
  obtain ⟨x6, HX6⟩ : ∃ x, Hid (x = w.heap.size + 1 + 1 + 1 + 1 + 1 + 1) := ⟨_, rfl⟩
  obtain ⟨x5, HX5⟩ : ∃ x, Hid (x = w.heap.size + 1 + 1 + 1 + 1 + 1) := ⟨_, rfl⟩
  obtain ⟨x4, HX4⟩ : ∃ x, Hid (x = w.heap.size + 1 + 1 + 1 + 1) := ⟨_, rfl⟩
  obtain ⟨x3, HX3⟩ : ∃ x, Hid (x = w.heap.size + 1 + 1 + 1) := ⟨_, rfl⟩
  obtain ⟨x2, HX2⟩ : ∃ x, Hid (x = w.heap.size + 1 + 1) := ⟨_, rfl⟩
  obtain ⟨x1, HX1⟩ : ∃ x, Hid (x = w.heap.size + 1) := ⟨_, rfl⟩
  rw [← HX8.out, ← HX7.out, ← HX6.out, ← HX5.out, ← HX4.out, ← HX3.out, ← HX2.out, ← HX1.out, ← HB.out, ← HW0.out]
  have HXs : Hid (x1 = b + 1 ∧ x2 = b + 2 ∧ x3 = b + 3 ∧ x4 = b + 4 ∧ x5 = b + 5 ∧ x6 = b + 6 ∧ x7 = b + 7 ∧ x8 = b + 8 ∧ W0.heap.size = b + 9) := by
    have h := H9.out.1
    rw [HX1.out, HX2.out, HX3.out, HX4.out, HX5.out, HX6.out, HX7.out, HX8.out, h, HB.out]
    exact ⟨rfl, rfl, rfl, rfl, rfl, rfl, rfl, rfl, rfl⟩
  go_wp2_with (at_builtin; refine append_copy rfl _ _ rfl rfl rfl HPb.out HN.out.1 HNn.out HLb.out ?_)
  intro v1 W1 hO1 hb1
  have HO1 := hid_w hO1
  have HB1 := hid_w hb1
  obtain ⟨a1, c1, hv1, -, -⟩ := hO1.open
  obtain ⟨n1, HN1⟩ : ∃ n1, Hid (n1 = bs.length) := ⟨_, rfl⟩
  rw [← HN1.out] at hv1
  obtain ⟨gv, HGv⟩ : ∃ gv, Hid (gv = v1) := ⟨_, rfl⟩
  rw [← HGv.out] at HO1
  subst hv1
  clear hO1 hb1 g2
  obtain ⟨xg, HXg⟩ : ∃ x, Hid (x = W1.heap.size) := ⟨_, rfl⟩
  obtain ⟨xn, HXn⟩ : ∃ x, Hid (x = W1.heap.size + 1) := ⟨_, rfl⟩
  obtain ⟨xf, HXf⟩ : ∃ x, Hid (x = W1.heap.size + 1 + 1) := ⟨_, rfl⟩
  obtain ⟨fn, HFn⟩ : ∃ fn, Hid (fn = Value.func (.func 20) #[] #[.pointer (some ⟨xg, 0, none⟩), .pointer (some ⟨x8, 0, none⟩), .pointer (some ⟨x4, 0, none⟩), .pointer (some ⟨x2, 0, none⟩), .pointer (some ⟨x3, 0, none⟩), .pointer (some ⟨xn, 0, none⟩), .pointer (some ⟨x1, 0, none⟩), .pointer (some ⟨xf, 0, none⟩), .pointer (some ⟨x5, 0, none⟩), .pointer (some ⟨x6, 0, none⟩), .pointer (some ⟨x7, 0, none⟩)]) := ⟨_, rfl⟩
  obtain ⟨W4, HW4⟩ : ∃ W4, Hid (W4 = ((W1.alloc (.cells #[gv] 22)).alloc (.cells #[.slice none 0 0] 29)).alloc (.cells #[fn] 54)) := ⟨_, rfl⟩
  have H3 : Hid (W4.heap.size = W1.heap.size + 3 ∧ W4.heap[xg]? = some (.cells #[gv] 22 (0, 0)) ∧ W4.heap[xn]? = some (.cells #[.slice none 0 0] 29 (0, 0)) ∧ W4.heap[xf]? = some (.cells #[fn] 54 (0, 0)) ∧ Below W1.heap.size W1 W4) := by
    have hh : W4.heap = ((W1.heap.push (.cells #[gv] 22)).push (.cells #[.slice none 0 0] 29)).push (.cells #[fn] 54) := by rw [HW4.out]; rfl
    refine ⟨by rw [hh]; simp, ?_, ?_, ?_, ?_⟩
    · rw [hh, HXg.out]; simp only [Array.getElem?_push, Array.size_push]; repeat (first | rw [if_pos trivial] | rw [if_pos (by omega)] | rw [if_neg (by omega)])
    · rw [hh, HXn.out]; simp only [Array.getElem?_push, Array.size_push]; repeat (first | rw [if_pos trivial] | rw [if_pos (by omega)] | rw [if_neg (by omega)])
    · rw [hh, HXf.out]; simp only [Array.getElem?_push, Array.size_push]; repeat (first | rw [if_pos trivial] | rw [if_pos (by omega)] | rw [if_neg (by omega)])
    · rw [HW4.out]
      refine ⟨rfl, rfl, rfl, ?_, fun k hk => ?_⟩
      · show W1.heap.size ≤ (((W1.heap.push _).push _).push _).size
        simp; omega
      · show (((W1.heap.push _).push _).push _)[k]? = _
        simp only [Array.getElem?_push, Array.size_push]
        rw [if_neg (by omega), if_neg (by omega), if_neg (by omega)]
  have HW1s : Hid (b + 9 ≤ W1.heap.size) := by show _ ≤ _; have h1 := HB1.out.size; have h2 := HXs.out.2.2.2.2.2.2.2.2; omega
  have HBl : Hid (∀ k, k < b + 9 → W4.heap[k]? = W0.heap[k]?) := fun k hk => by
    have h1 := HW1s.out
    have h2 := HXs.out.2.2.2.2.2.2.2.2
    rw [H3.out.2.2.2.2.block k (by omega), HB1.out.block k (by omega)]
  have HBw : Hid (Below w.heap.size w W4) := by
    have h0 : Below w.heap.size w W0 := by have := H9.out.2.2.2.2.2.2.2.2.2.2; rw [HB.out] at this; exact this
    exact (h0.trans (HB1.out.mono h0.size)).trans (H3.out.2.2.2.2.mono (Nat.le_trans h0.size HB1.out.size))
  have hx := HXs.out
  have H5 : Hid (W4.heap[x5]? = some (.cells #[.int .i64 0] 3 (0, 0)) ∧ W4.heap[x6]? = some (.cells #[.slice none 0 0] 29 (0, 0)) ∧ W4.heap[x7]? = some (.cells #[.int .i64 0] 3 (0, 0)) ∧ W4.heap[x8]? = some (.cells #[.int .i64 0] 3 (0, 0)) ∧ W4.heap[x1]? = some (.cells #[.slice sa 0 sc] 22 (0, 0))) := by
    obtain ⟨y1, y2, y3, y4, y5, y6, y7, y8, y9⟩ := hx
    refine ⟨?_, ?_, ?_, ?_, ?_⟩
    · rw [HBl.out x5 (by omega), y5, H9.out.2.2.2.2.2.2.1]
    · rw [HBl.out x6 (by omega), y6, H9.out.2.2.2.2.2.2.2.1]
    · rw [HBl.out x7 (by omega), y7, H9.out.2.2.2.2.2.2.2.2.1]
    · rw [HBl.out x8 (by omega), y8, H9.out.2.2.2.2.2.2.2.2.2.1]
    · rw [HBl.out x1 (by omega), y1, H9.out.2.2.1]
  have hne : x6 ≠ x5 ∧ x7 ≠ x5 ∧ x8 ≠ x5 := by omega
  have a1 : ∀ k, k ≠ x5 → (W4.setCell ⟨x5, 0, none⟩ (.int .i64 1)).heap[k]? = W4.heap[k]? := fun k hk => heap_setCell_other _ _ _ _ hk
  have h6 : (W4.setCell ⟨x5, 0, none⟩ (.int .i64 1)).heap[x6]? = some (.cells #[.slice none 0 0] 29 (0, 0)) := (a1 x6 hne.1).trans H5.out.2.1
  have a2 : ∀ k, ((W4.setCell ⟨x5, 0, none⟩ (.int .i64 1)).setCell ⟨x6, 0, none⟩ (.slice none 0 0)).heap[k]? = (W4.setCell ⟨x5, 0, none⟩ (.int .i64 1)).heap[k]? := same_store h6
  have h7 : ((W4.setCell ⟨x5, 0, none⟩ (.int .i64 1)).setCell ⟨x6, 0, none⟩ (.slice none 0 0)).heap[x7]? = some (.cells #[.int .i64 0] 3 (0, 0)) := ((a2 x7).trans (a1 x7 hne.2.1)).trans H5.out.2.2.1
  have a3 : ∀ k, (((W4.setCell ⟨x5, 0, none⟩ (.int .i64 1)).setCell ⟨x6, 0, none⟩ (.slice none 0 0)).setCell ⟨x7, 0, none⟩ (.int .i64 0)).heap[k]? = ((W4.setCell ⟨x5, 0, none⟩ (.int .i64 1)).setCell ⟨x6, 0, none⟩ (.slice none 0 0)).heap[k]? := same_store h7
  have h8 : (((W4.setCell ⟨x5, 0, none⟩ (.int .i64 1)).setCell ⟨x6, 0, none⟩ (.slice none 0 0)).setCell ⟨x7, 0, none⟩ (.int .i64 0)).heap[x8]? = some (.cells #[.int .i64 0] 3 (0, 0)) := ((a3 x8).trans ((a2 x8).trans (a1 x8 hne.2.2))).trans H5.out.2.2.2.1
  obtain ⟨A4, HA4⟩ : ∃ A4, Hid (A4 = (((W4.setCell ⟨x5, 0, none⟩ (.int .i64 1)).setCell ⟨x6, 0, none⟩ (.slice none 0 0)).setCell ⟨x7, 0, none⟩ (.int .i64 0)).setCell ⟨x8, 0, none⟩ (.int .i64 0)) := ⟨_, rfl⟩
  have a4 : ∀ k, A4.heap[k]? = (W4.setCell ⟨x5, 0, none⟩ (.int .i64 1)).heap[k]? := fun k => by rw [HA4.out, same_store h8 k, a3 k, a2 k]
  have h5 : (W4.setCell ⟨x5, 0, none⟩ (.int .i64 1)).heap[x5]? = some (.cells #[.int .i64 1] 3 (0, 0)) := by rw [heap_setCell_same W4 x5 0 _ 3 _ H5.out.1]; rfl
  have f1 : W4.cell? ⟨x1, 0, none⟩ = some (.slice sa 0 sc) := by rw [cell_of_row W4 x1 0 _ _ _ H5.out.2.2.2.2]; rfl
  have b1 : W4.cell? ⟨x5, 0, none⟩ = some (.int .i64 0) := by rw [cell_of_row W4 x5 0 _ _ _ H5.out.1]; rfl
  have b2 : W4.frozen? ⟨x5, 0, none⟩ = false := frozen_of_row W4 x5 0 _ _ H5.out.1
  have b3 : (W4.setCell ⟨x5, 0, none⟩ (.int .i64 1)).cell? ⟨x6, 0, none⟩ = some (.slice none 0 0) := by rw [cell_of_row (W4.setCell ⟨x5, 0, none⟩ (.int .i64 1)) x6 0 _ _ _ h6]; rfl
  have b4 : (W4.setCell ⟨x5, 0, none⟩ (.int .i64 1)).frozen? ⟨x6, 0, none⟩ = false := frozen_of_row (W4.setCell ⟨x5, 0, none⟩ (.int .i64 1)) x6 0 _ _ h6
  have b5 : ((W4.setCell ⟨x5, 0, none⟩ (.int .i64 1)).setCell ⟨x6, 0, none⟩ (.slice none 0 0)).cell? ⟨x7, 0, none⟩ = some (.int .i64 0) := by rw [cell_of_row ((W4.setCell ⟨x5, 0, none⟩ (.int .i64 1)).setCell ⟨x6, 0, none⟩ (.slice none 0 0)) x7 0 _ _ _ h7]; rfl
  have b6 : ((W4.setCell ⟨x5, 0, none⟩ (.int .i64 1)).setCell ⟨x6, 0, none⟩ (.slice none 0 0)).frozen? ⟨x7, 0, none⟩ = false := frozen_of_row ((W4.setCell ⟨x5, 0, none⟩ (.int .i64 1)).setCell ⟨x6, 0, none⟩ (.slice none 0 0)) x7 0 _ _ h7
  have b7 : (((W4.setCell ⟨x5, 0, none⟩ (.int .i64 1)).setCell ⟨x6, 0, none⟩ (.slice none 0 0)).setCell ⟨x7, 0, none⟩ (.int .i64 0)).cell? ⟨x8, 0, none⟩ = some (.int .i64 0) := by rw [cell_of_row (((W4.setCell ⟨x5, 0, none⟩ (.int .i64 1)).setCell ⟨x6, 0, none⟩ (.slice none 0 0)).setCell ⟨x7, 0, none⟩ (.int .i64 0)) x8 0 _ _ _ h8]; rfl
  have b8 : (((W4.setCell ⟨x5, 0, none⟩ (.int .i64 1)).setCell ⟨x6, 0, none⟩ (.slice none 0 0)).setCell ⟨x7, 0, none⟩ (.int .i64 0)).frozen? ⟨x8, 0, none⟩ = false := frozen_of_row (((W4.setCell ⟨x5, 0, none⟩ (.int .i64 1)).setCell ⟨x6, 0, none⟩ (.slice none 0 0)).setCell ⟨x7, 0, none⟩ (.int .i64 0)) x8 0 _ _ h8
  have c1 : A4.cell? ⟨x5, 0, none⟩ = some (.int .i64 1) := by rw [cell_of_row A4 x5 0 _ _ _ ((a4 x5).trans h5)]; rfl
  have c2 : A4.cell? ⟨x6, 0, none⟩ = some (.slice none 0 0) := by rw [cell_of_row A4 x6 0 _ _ _ ((a4 x6).trans h6)]; rfl
  have c3 : A4.cell? ⟨x7, 0, none⟩ = some (.int .i64 0) := by rw [cell_of_row A4 x7 0 _ _ _ ((a4 x7).trans ((a2 x7).symm.trans h7))]; rfl
  have c4 : A4.cell? ⟨x8, 0, none⟩ = some (.int .i64 0) := by rw [cell_of_row A4 x8 0 _ _ _ ((a4 x8).trans (((a3 x8).trans (a2 x8)).symm.trans h8))]; rfl
  have HBA : Hid (Below w.heap.size w A4) := by
    have hwb := HB.out
    refine ⟨?_, ?_, ?_, ?_, fun q hq => by rw [a4 q, a1 q (by omega)]; exact HBw.out.block q hq⟩
    · rw [HA4.out]; exact HBw.out.os
    · rw [HA4.out]; exact HBw.out.tape
    · rw [HA4.out]; exact HBw.out.output
    · rw [HA4.out]; have h := HBw.out.size; simpa using h
  clear a1 a2 a3 a4 h5 h6 h7 h8 hne hx
  go_upto_region 5 with fail
  rw [← HXf.out, ← HXn.out, ← HXg.out, ← HGv.out, ← HFn.out, ← HW4.out]
  go_wp2_with fail
  rw [← HA4.out]
  refine bodyPost_ret (v := .tuple #[.int .i64 1, .slice none 0 0, .int .i64 0, .int .i64 0]) ?_ rfl ⟨rfl, HBA⟩
  simp [results, Try.results8, go_sem, c1, c2, c3, c4]

end Go.Proofs.Ythdojdkghhmfcaa
