/-
  Pieces of a text.
  ferref.Ahead.
-/
import Derived.Test.YthfbkangjpcpgaaDoorQBrm
import Derived.Test.YthfbkangjpcpgaaDoorQCat
import Derived.Test.YthfbkangjpcpgaaDoorQCnt
namespace Go.Proofs.YthfbkangjpcpgaaDoor

theorem ext_twice (s : ByteArray) (k : Nat) (hk : k ≤ s.size) : ((s ++ s).extract k (k + s.size)).data.toList = s.data.toList.drop k ++ s.data.toList.take k := by
  have h1 : s.data.toList.length = s.size := by simp
  rw [ByteArray.data_extract, Array.toList_extract, ByteArray.data_append, Array.toList_append, List.extract_eq_take_drop, show k + s.size - k = s.size by omega, ← h1]
  exact twice_at _ _ (by omega)
theorem ext_front (t : ByteArray) (k : Nat) : (t.extract 0 k).data.toList = t.data.toList.take k := by
  rw [ByteArray.data_extract, Array.toList_extract, List.extract_eq_take_drop, List.drop_zero, Nat.sub_zero]
end Go.Proofs.YthfbkangjpcpgaaDoor

namespace Go.Proofs.YthfbkangjpcpgaaDoor
open Go.RowKit

theorem cnt_succ {l : List UInt8} {i : Nat} (hi : i < l.length) (c : UInt8) : (l.take (i + 1)).count c = (l.take i).count c + if l[i] = c then 1 else 0 := by
  rw [List.take_succ_eq_append_getElem hi, List.count_append, List.count_singleton]
  congr 1
  by_cases h : l[i] = c
  · rw [if_pos h, if_pos (by simpa using h)]
  · rw [if_neg h, if_neg (by simpa using h)]

set_option maxHeartbeats 8000000 in
set_option maxRecDepth 100000 in
theorem Ahead_at (s : ByteArray) (hs : s.size ≤ 60) (hr : rt 0 s.data.toList = true) (w : World) :
    Calls Tryd.prog 8 #[.string s] w fun e w' => e = .returned (.int .i64 (rk 0 s.data.toList : Int)) ∧ Hid (Below w.heap.size w w') := by
  have hl : s.data.toList.length = s.size := by simp
  have hev := rt_even _ _ hr
  obtain ⟨h, hh⟩ : ∃ h : Nat, h = s.size / 2 := ⟨_, rfl⟩
  obtain ⟨A, HA⟩ : ∃ A, Hid (A = rk 0 s.data.toList) := ⟨_, rfl⟩
  have HAh : Hid (ahB h 0 0 s.data.toList = A) := by
    have e := ah_rk s.data.toList h 0 0 (by exact hr) (Nat.le_refl _) (by omega)
    show _ = _
    rw [e, HA.out]
  have hA60 : A ≤ 1152921504606846976 := by
    rw [HA.out]
    have h1 := rk_lt _ _ hr
    have h2 := Nat.le_trans (eW_le s.data.toList.length 0) (Nat.pow_le_pow_right (by omega) (by omega : s.data.toList.length ≤ 60))
    have e : (2 : Nat) ^ 60 = 1152921504606846976 := by decide
    omega
  rw [← HA.out]
  obtain ⟨P, HP⟩ : ∃ P, Hid (P = w.heap.size) := ⟨_, rfl⟩
  obtain ⟨W0, HW0⟩ : ∃ W0, Hid (W0 = w.alloc (.cells #[.bool false, .slice none 0 0] 44)) := ⟨_, rfl⟩
  have HB0 : Hid (Below w.heap.size w W0) := by rw [HW0.out]; exact (Below.refl _ _).alloc (Nat.le_refl _) _
  have HZ0 : Hid (Bz W0 w.heap.size P 0) := by rw [HP.out]; exact zero_bz HW0.out (Nat.le_refl _)
  have hh2 : (s.size : Int) / 2 = (h : Int) := by omega
  have hh3 : Int.tdiv (s.size : Int) 2 = (h : Int) := by rw [Int.tdiv_eq_ediv_of_nonneg (by omega)]; exact hh2
  have hh30 : h ≤ 30 := by omega
  clear hev hh hr
  go_enter Tryd.func8, Tryd.ntmps8
  go_upto_region 2 with fail
  rw [← HW0.out, ← HP.out]
  go_wp2_with fail
  go_loopw [4] (fun iv wr => ∃ i S : Nat, i ≤ s.size ∧ iv = .int .i64 (i : Int) ∧ Hid (S + ahB h ((s.data.toList.take i).count 40) ((s.data.toList.take i).count 41) (s.data.toList.drop i) = A) ∧ Hid (Bz wr w.heap.size P S) ∧ Hid (Below w.heap.size w wr)) (fun iv _ => s.size - (intOf iv).toNat)
  case atStart => exact ⟨0, 0, Nat.zero_le _, rfl, by show _ = _; rw [Nat.zero_add]; exact HAh.out, HZ0, HB0⟩
  case round =>
    clear HZ0 HB0
    obtain ⟨i, S, hi, rfl, HS, HZ, HB⟩ := hrel
    by_cases hlt : i < s.size
    · have hlt' : (i : Int) < (s.size : Int) := by omega
      have hil : i < s.data.toList.length := by omega
      have HD : Hid (s.data.toList.drop i = s[i] :: s.data.toList.drop (i + 1)) := drop_byteQ s i hlt
      have HGi : Hid (s.data.toList[i] = s[i]) := rfl
      obtain ⟨x, HX⟩ : ∃ x, Hid (x = (s.data.toList.take i).count 40) := ⟨_, rfl⟩
      obtain ⟨y, HY⟩ : ∃ y, Hid (y = (s.data.toList.take i).count 41) := ⟨_, rfl⟩
      have hx60 : x ≤ 60 := by rw [HX.out]; exact Nat.le_trans List.count_le_length (by rw [List.length_take]; omega)
      have hy60 : y ≤ 60 := by rw [HY.out]; exact Nat.le_trans List.count_le_length (by rw [List.length_take]; omega)
      have HXn := hid_w (cnt_succ hil 40)
      have HYn := hid_w (cnt_succ hil 41)
      rw [← HX.out] at HXn HS
      rw [← HY.out] at HYn HS
      obtain ⟨cb, hcb⟩ : ∃ cb, cb = s[i] := ⟨_, rfl⟩
      obtain ⟨cn, HCn⟩ : ∃ cn, Hid (cn = cb.toNat) := ⟨_, rfl⟩
      have hs0 : s[i].toNat = cn := by rw [HCn.out, hcb]
      have hcn : cn < 256 := by rw [HCn.out]; exact cb.toNat_lt
      rw [HD.out, ahB, ← hcb] at HS
      rw [HGi.out, ← hcb] at HXn HYn
      clear HD HGi
      by_cases h41 : cb = 41
      · have hc41 : cn = 41 := by rw [HCn.out, h41]; rfl
        rw [if_pos h41] at HS HYn
        rw [if_neg (by rw [h41]; decide)] at HXn
        have HK4 : Hid (∀ W, Calls Tryd.prog 20 #[.string (s.extract 0 i), .string ⟨#[40]⟩] W fun e w' => e = .returned (.int .i64 (x : Int)) ∧ w' = W) := fun W => by
          have hc := Count_at (s.extract 0 i) 40 W
          rw [ext_front, ← HX.out] at hc; exact hc
        have HK5 : Hid (∀ W, Calls Tryd.prog 20 #[.string (s.extract 0 i), .string ⟨#[41]⟩] W fun e w' => e = .returned (.int .i64 (y : Int)) ∧ w' = W) := fun W => by
          have hc := Count_at (s.extract 0 i) 41 W
          rw [ext_front, ← HY.out] at hc; exact hc
        obtain ⟨ga, hga⟩ : ∃ ga : Int, ga = (h : Int) - ((x : Int) + 1) := ⟨_, rfl⟩
        obtain ⟨gb, hgb⟩ : ∃ gb : Int, gb = (h : Int) - (y : Int) := ⟨_, rfl⟩
        have hga' : (h : Int) - ((x : Int) + 1) = ga := hga.symm
        have hgb' : (h : Int) - (y : Int) = gb := hgb.symm
        have hgab : -100 ≤ ga ∧ ga ≤ 50 ∧ -100 ≤ gb ∧ gb ≤ 50 := by omega
        rw [hga', hgb'] at HS
        obtain ⟨g, HG⟩ : ∃ g, Hid (g = gnB ga gb) := ⟨_, rfl⟩
        rw [← HG.out] at HS
        have hSA : S + g ≤ A := by have := HS.out; omega
        have HGo := hid_w (goOn_at ga gb wr hgab.1 hgab.2.2.2 hgab.2.2.1 hgab.2.1)
        rw [← HG.out] at HGo
        have HS2 : Hid (S + g + ahB h ((s.data.toList.take (i + 1)).count 40) ((s.data.toList.take (i + 1)).count 41) (s.data.toList.drop (i + 1)) = A) := by
          show _ = _
          rw [HXn.out, HYn.out, Nat.add_zero, ← HS.out]; omega
        have H200 : Hid (S < 10 ^ 200 ∧ g < 10 ^ 200) := by
          have e : (1152921504606846976 : Nat) < 10 ^ 200 := by decide +kernel
          exact ⟨Nat.lt_of_le_of_lt (by omega) e, Nat.lt_of_le_of_lt (by omega) e⟩
        subst hc41
        clear hga hgb hcb
        go_wp2_with (first
          | (go_at_call 20; first | (with_reducible (refine (HK4.out _).mono ?_); rintro e W1 ⟨rfl, hW1⟩; subst hW1) | (with_reducible (refine (HK5.out _).mono ?_); rintro e W1 ⟨rfl, hW1⟩; subst hW1))
          | (go_at_call 22; refine HGo.out.mono ?_; rintro e W2 ⟨q, rfl, HZq, HBq⟩; have HAd := hid_w (bzAdd (HZ.out.below HBq.out) (HZq.out.mono HB.out.size) H200.out.1 H200.out.2))
          | (go_at_call 21; refine HAd.out.mono ?_; rintro e W3 ⟨rfl, HZ3, HP3⟩))
        have HB3 : Hid (Below w.heap.size w W3) := (HB.out.trans (HBq.out.mono HB.out.size)).trans HP3.out.below
        go_roundw
        case rel => exact ⟨i + 1, S + g, by omega, by go_num, HS2, HZ3, HB3⟩
        case measure => simp [intOf]; omega
      · have hc41 : ¬ cn = 41 := fun e => h41 (UInt8.toNat_inj.1 (by rw [← HCn.out, e]; rfl))
        rw [if_neg h41] at HS HYn
        have HS2 : Hid (S + ahB h ((s.data.toList.take (i + 1)).count 40) ((s.data.toList.take (i + 1)).count 41) (s.data.toList.drop (i + 1)) = A) := by
          show _ = _
          rw [HXn.out, HYn.out, Nat.add_zero]
          have h1 := HS.out
          by_cases h40 : cb = 40
          · rw [if_pos h40] at h1 ⊢; exact h1
          · rw [if_neg h40] at h1 ⊢; exact h1
        go_wp2_with fail
        go_roundw
        case rel => exact ⟨i + 1, S, by omega, by go_num, HS2, HZ, HB⟩
        case measure => simp [intOf]; omega
    · obtain rfl : i = s.size := by omega
      have hlt' : ¬ ((s.size : Int) < (s.size : Int)) := by omega
      have hSA : S = A := by
        have h1 := HS.out
        rw [List.drop_of_length_le (by omega), ahB] at h1
        exact h1
      have HZA : Hid (Bz wr w.heap.size P A) := by rw [← hSA]; exact HZ.out
      clear hSA HS
      go_wp2_with (go_at_call 18; refine (bzI64 HZA.out (by omega)).mono ?_; rintro e W4 ⟨rfl, rfl⟩)
      go_ret
      exact ⟨rfl, HB⟩
end Go.Proofs.YthfbkangjpcpgaaDoor
