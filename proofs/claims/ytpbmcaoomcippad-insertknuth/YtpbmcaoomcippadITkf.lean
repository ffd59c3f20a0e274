/-
  The contract of insert.takenFromRows.
-/
import Derived.Test.YtpbmcaoomcippadITkn
import Derived.Test.YtpbmcaoomcippadIPut
namespace Go.Proofs.Ytpbmcaoomcippad
open Go.RowKit

theorem tk_up {ls : List (List Int)} {i a : Nat} (ha : a < i) : row (tk ls i) a = row ls a := by
  unfold tk
  split
  · rw [take_row, if_pos ha]
  · rw [row_set, if_neg (by omega)]
theorem tk_len_le {ls : List (List Int)} {i : Nat} (hi : i < ls.length) : i ≤ (tk ls i).length ∧ (tk ls i).length ≤ ls.length := by
  rw [tk_length hi]; split <;> omega
theorem tk_pos {ls : List (List Int)} {i : Nat} (hp : ∀ r ∈ ls, 0 < r.length ∧ r.length ≤ 1000) : ∀ r ∈ tk ls i, 0 < r.length ∧ r.length ≤ 1000 := fun r hr => by
  unfold tk at hr
  split at hr
  · exact hp r (List.mem_of_mem_take hr)
  · rename_i hn
    rcases List.mem_or_eq_of_mem_set hr with q | q
    · exact hp r q
    · subst q
      by_cases hi : i < ls.length
      · have := (hp _ (row_mem hi)).2; rw [List.length_dropLast]; omega
      · rw [row_out (by omega)] at hn; simp at hn

set_option maxHeartbeats 4000000 in
theorem takenFromRows_at {ls : List (List Int)} {lo : Nat} {S : Nat → Prop} (v : Value) (i : Nat) (w : World) (hT : TIn w lo S v ls) (hi : i < ls.length) (hl : ls.length ≤ 1000) (hp : ∀ r ∈ ls, 0 < r.length ∧ r.length ≤ 1000) (hTb : T ls) :
    Calls Try.prog 70 #[v, .int .i64 i] w fun e w' => ∃ v', e = .returned (.tuple #[.int .i64 (un i ls).1, v']) ∧ TIn w' lo S v' (un i ls).2 ∧ Off S w w' ∧ w'.heap.size = w.heap.size := by
  have HT0 : Hid (TIn w lo S v ls) := hT
  have HTb : Hid (T ls) := hTb
  have HP : Hid (∀ r ∈ ls, 0 < r.length ∧ r.length ≤ 1000) := hp
  have HI : Hid (i < ls.length) := hi
  obtain ⟨i1, Hi1⟩ : ∃ i1 : Int, Hid (i1 = (i : Int) - 1) := ⟨_, rfl⟩
  have hsub : IntKind.i64.wrap ((i : Int) - 1) = i1 := by rw [IntWalk.i64_left, IntWalk.wrap64_in _ (by omega)]; exact Hi1.out.symm
  have hi2 : i ≤ 1000 := by omega
  clear hT hTb hp hi
  go_enter Try.func70, Try.ntmps70
  go_wp2_with fail
  refine (taken_at v i w HT0.out HI.out hl HP.out).mono ?_
  rintro e w1 ⟨v1, rfl, ⟨vs, hV1⟩, hO1, hz1⟩
  obtain ⟨a1, c1, hsv⟩ := hV1.t.shape
  obtain ⟨N, HN⟩ : ∃ N, Hid (N = (tk ls i).length) := ⟨_, rfl⟩
  rw [← HN.out] at hsv
  subst hsv
  have HV1 : Hid (TblIn w1 lo S (.slice a1 N c1) vs (tk ls i)) := hV1
  have HO1 : Hid (Off S w w1 ∧ w1.heap.size = w.heap.size) := ⟨hO1, hz1⟩
  have HNl : Hid (i ≤ N ∧ N ≤ 1000) := by have := tk_len_le HI.out; rw [HN.out]; exact ⟨this.1, by omega⟩
  clear hV1 hO1 hz1
  obtain ⟨x0, HX0⟩ : ∃ x0, Hid (x0 = lastOf (row ls i)) := ⟨_, rfl⟩
  rw [← HX0.out]
  have hi1b : -1 ≤ i1 ∧ i1 < 1000 := by rw [Hi1.out]; omega
  obtain ⟨hi1a, hi1b⟩ := hi1b
  go_wp2
  go_loopw [6, 1] (fun xv q wr => ∃ (k : Nat) (y : Int) (ms : List (List Int)), k ≤ i ∧ q = .int .i64 ((k : Int) - 1) ∧ xv = .int .i64 y ∧ Hid (ms.length = N) ∧ Hid (TblIn wr lo S (.slice a1 N c1) vs ms) ∧ Hid (Off S w wr ∧ wr.heap.size = w.heap.size) ∧ Hid (∀ r ∈ ms, 0 < r.length ∧ r.length ≤ 1000) ∧
    Hid (∀ a, a < k → row ms a = row ls a) ∧ Hid (0 < k → ∃ c, c < (row ls (k - 1)).length ∧ (row ls (k - 1)).getD c 0 < y) ∧ Hid (unUp k y ms = un i ls)) (fun _ q _ => ((intOf q) + 1).toNat)
  case atStart =>
    refine ⟨i, x0, tk ls i, Nat.le_refl _, by rw [Hi1.out], rfl, HN.out.symm, HV1, HO1, tk_pos HP.out, fun a ha => tk_up ha, fun h0 => ?_, by rw [HX0.out]; rfl⟩
    have t1 := T_row.1 HTb.out (i - 1) (by have := HI.out; omega)
    rw [show i - 1 + 1 = i by omega] at t1
    have t2 := (HP.out _ (row_mem HI.out)).1
    refine ⟨(row ls i).length - 1, by have := t1.2.2.1; omega, ?_⟩
    rw [HX0.out]; exact t1.2.2.2 _ (by omega)
  case round =>
    obtain ⟨k, y, ms, hk, rfl, rfl, HLm, HV, HO, HR, HUp, HEx, HU⟩ := hrel
    rcases Nat.eq_zero_or_pos k with hk0 | hk0
    · subst hk0
      have HE : Hid (un i ls = (y, ms)) := HU.out.symm
      have hg : decide (((0 : Nat) : Int) - 1 ≥ 0) = false := by decide
      go_wp2
      go_ret2
      exact ⟨_, by rw [HE.out]; rfl, by rw [HE.out]; exact ⟨vs, HV.out⟩, HO.out.1, HO.out.2⟩
    · obtain ⟨k', hk'⟩ : ∃ k', k = k' + 1 := ⟨k - 1, by omega⟩
      subst hk'
      have hk1 : ((k' + 1 : Nat) : Int) - 1 = (k' : Int) := by omega
      rw [hk1]
      have hg : decide ((k' : Int) ≥ 0) = true := by simp
      have hkN : (k' : Int) < (N : Int) := by have := HNl.out; omega
      have HKm : Hid (k' < ms.length) := by rw [HLm.out]; have := HNl.out; show _ < _; omega
      obtain ⟨g, n0, c0, hsl, -, hg1, hg2, -, hcells⟩ := HV.out.t.head (by have := HKm.out; omega)
      simp only [Value.slice.injEq] at hsl
      obtain ⟨rfl, -, rfl⟩ := hsl
      have hci := hcells k' HKm.out
      have hrp := HR.out _ (row_mem HKm.out)
      obtain ⟨h, ch, hrv, hh1, hh2, hhf, hhc⟩ := (HV.out.t.rows k' HKm.out).head hrp.1
      obtain ⟨m, HMm⟩ : ∃ m, Hid (m = (row ms k').length) := ⟨_, rfl⟩
      have hm1 : m ≤ 1000 := by rw [HMm.out]; exact hrp.2
      have hrv' : rowv vs k' = .slice (some ⟨h, 0, none⟩) m ch := by rw [hrv, HMm.out]; rfl
      rw [hrv'] at hci
      have HRv : Hid (rowv vs k' = .slice (some ⟨h, 0, none⟩) m ch) := hrv'
      have HHc : Hid (∀ j, j < m → wr.cell? ⟨h, j, none⟩ = some (.int .i64 (box ms k' j))) := fun j hj => hhc j (by rw [HMm.out] at hj; exact hj)
      have HHf : Hid (∀ j, wr.frozen? ⟨h, j, none⟩ = false) := hhf
      have HSh : Hid (S h) := HV.out.rs k' HKm.out h (by rw [hrv']; rfl)
      have HRow : Hid (row ms k' = row ls k') := HUp.out k' (by omega)
      obtain ⟨c, hc1, hc2⟩ : ∃ c, c < (row ms k').length ∧ (row ms k').getD c 0 < y := by
        obtain ⟨c, q1, q2⟩ := HEx.out (by omega)
        rw [show k' + 1 - 1 = k' by omega, ← HRow.out] at q1 q2
        exact ⟨c, q1, q2⟩
      have HBk : Hid (IsBack y (row ms k') (back y (row ms k'))) := back_is ⟨c, hc1, hc2⟩
      have hm0 : 0 < m := by rw [HMm.out]; omega
      obtain ⟨m', HM'⟩ : ∃ m', Hid (m = m' + 1) := ⟨m - 1, by show _ = _; omega⟩
      have hm' := HM'.out
      subst hm'
      have hsub2 : IntKind.i64.wrap (((m' + 1 : Nat) : Int) - 1) = (m' : Int) := by rw [IntWalk.i64_left, IntWalk.wrap64_in _ (by omega)]; omega
      clear hrv hrv' hhc hhf hcells hrp hm0 HM' hc1 hc2
      go_wp2
      go_loop [8] (fun q => ∃ j : Nat, j ≤ m' ∧ q = .int .i64 j ∧ Hid (∀ b, j < b → b < m' + 1 → y ≤ box ms k' b)) (fun q => (intOf q).toNat)
      case atStart => exact ⟨m', Nat.le_refl _, rfl, fun b h1 h2 => by omega⟩
      case round =>
        obtain ⟨j, hj, rfl, HA⟩ := hrel
        have hjm' : (j : Int) < ((m' + 1 : Nat) : Int) := by omega
        have hcj := HHc.out j (by omega)
        obtain ⟨z, HZ⟩ : ∃ z, Hid (z = box ms k' j) := ⟨_, rfl⟩
        rw [← HZ.out] at hcj
        by_cases hzy : z ≥ y
        · have HZY : Hid (z ≥ y) := hzy
          have hj0 : 0 < j := by
            refine Nat.pos_of_ne_zero (fun h0 => ?_)
            subst h0
            have b1 := HBk.out.less
            have b2 := HBk.out.lt
            rw [← HMm.out] at b2
            by_cases e : back y (row ms k') = 0
            · rw [e] at b1
              have := HZ.out; unfold box at this; omega
            · have := HA.out _ (by omega) b2
              unfold box at this; omega
          obtain ⟨j', hj'⟩ : ∃ j', j = j' + 1 := ⟨j - 1, by omega⟩
          subst hj'
          have hsub3 : IntKind.i64.wrap (((j' + 1 : Nat) : Int) - 1) = (j' : Int) := by rw [IntWalk.i64_left, IntWalk.wrap64_in _ (by omega)]; omega
          go_wp2
          go_round
          case rel => exact ⟨j', by omega, rfl, fun b h1 h2 => by
                        by_cases e : b = j' + 1
                        · subst e; rw [← HZ.out]; exact HZY.out
                        · exact HA.out b (by omega) h2⟩
          case measure => simp [intOf]
        · have HZY : Hid (¬ z ≥ y) := hzy
          have HJ : Hid (back y (row ms k') = j) := HBk.out.uniq ⟨by rw [← HMm.out]; omega, by have := HZY.out; rw [HZ.out] at this; unfold box at this; omega, fun b h1 h2 => by rw [← HMm.out] at h2; have := HA.out b h1 h2; unfold box at this; exact this⟩
          have hfj := HHf.out j
          have HV2 : Hid (TblIn (wr.setCell ⟨h, j, none⟩ (.int .i64 y)) lo S (.slice (some ⟨g, 0, none⟩) N c1) vs (ms.set k' ((row ms k').set j y))) := HV.out.storeBox HKm.out HRv.out HMm.out j y
          have HO2 : Hid (Off S w (wr.setCell ⟨h, j, none⟩ (.int .i64 y)) ∧ (wr.setCell ⟨h, j, none⟩ (.int .i64 y)).heap.size = w.heap.size) := ⟨HO.out.1.setCell HSh.out _, by simp [HO.out.2]⟩
          have HR2 : Hid (∀ r ∈ ms.set k' ((row ms k').set j y), 0 < r.length ∧ r.length ≤ 1000) := set_rows_len HR.out
          have HUp2 : Hid (∀ a, a < k' → row (ms.set k' ((row ms k').set j y)) a = row ls a) := fun a ha => by rw [row_set, if_neg (by omega)]; exact HUp.out a (by omega)
          have HEx2 : Hid (0 < k' → ∃ c, c < (row ls (k' - 1)).length ∧ (row ls (k' - 1)).getD c 0 < z) := fun h0 => by
            have t1 := T_row.1 HTb.out (k' - 1) (by have := HI.out; omega)
            rw [show k' - 1 + 1 = k' by omega] at t1
            have hjl : j < (row ls k').length := by rw [← HRow.out, ← HMm.out]; omega
            refine ⟨j, by have := t1.2.2.1; omega, ?_⟩
            rw [HZ.out]; unfold box; rw [HRow.out]; exact t1.2.2.2 j hjl
          have HU2 : Hid (unUp k' z (ms.set k' ((row ms k').set j y)) = un i ls) := by
            show _ = _
            rw [← HU.out]
            simp only [unUp]
            rw [HJ.out, HZ.out]
          have hsub4 : IntKind.i64.wrap ((k' : Int) - 1) = (k' : Int) - 1 := by rw [IntWalk.i64_left, IntWalk.wrap64_in _ (by omega)]
          go_wp2
          go_roundw
          case rel => exact ⟨k', z, _, by omega, rfl, rfl, by show _ = _; rw [List.length_set]; exact HLm.out, HV2, HO2, HR2, HUp2, HEx2, HU2⟩
          case measure => simp [intOf]

end Go.Proofs.Ytpbmcaoomcippad
