/-
  ferref.Diamond.
-/
import Derived.Test.YtcnmndbckjmliaaDoorNDi
namespace Go.Proofs.YtcnmndbckjmliaaDoor
open Go.RowKit

/-- The text as far as row i. -/
def dpr (d : Nat) (F : Nat → UInt8) (i : Nat) : List UInt8 := if i = 0 then [] else if i < d then tx i d F ++ [47] else tx d d F
theorem dpr_row (d : Nat) (F : Nat → UInt8) (i : Nat) (hi : i < d) : dpr d F i ++ rwo d F i = tx (i + 1) d F := by
  unfold dpr
  by_cases h0 : i = 0
  · subst h0; rw [if_pos rfl, tx_first]; rfl
  · rw [if_neg h0, if_pos hi]
    obtain ⟨k, rfl⟩ : ∃ k, i = k + 1 := ⟨i - 1, by omega⟩
    rw [tx_snoc, List.append_assoc]; rfl
theorem dpr_next (d : Nat) (F : Nat → UInt8) (i : Nat) (hi : i + 1 < d) : dpr d F (i + 1) = tx (i + 1) d F ++ [47] := by
  unfold dpr; rw [if_neg (by omega), if_pos hi]
theorem dpr_last (d : Nat) (F : Nat → UInt8) (i : Nat) (hi : i + 1 = d) : dpr d F (i + 1) = tx (i + 1) d F := by
  unfold dpr; rw [if_neg (by omega), if_neg (by omega), hi]
theorem ba_ext {a b : ByteArray} (h : a.data.toList = b.data.toList) : a = b := by
  cases a; cases b; simp at h; simp [h]
theorem ba_cat (a b : ByteArray) : (a ++ b).data.toList = a.data.toList ++ b.data.toList := by
  rw [ByteArray.data_append, Array.toList_append]

theorem ba_lenD (s : ByteArray) : s.size = s.data.toList.length := by simp
theorem dpr_len (d : Nat) (F : Nat → UInt8) (i : Nat) (hi : i ≤ 8) (hd : d ≤ 8) : (dpr d F i).length ≤ 72 := by
  unfold dpr
  by_cases h0 : i = 0
  · rw [if_pos h0]; simp
  · rw [if_neg h0]
    by_cases h1 : i < d
    · rw [if_pos h1, List.length_append]; have := tx_len8 i d F hi hd; simp; omega
    · rw [if_neg h1]; have := tx_len8 d d F hd hd; omega

set_option maxHeartbeats 4000000 in
set_option maxRecDepth 100000 in
theorem Diamond_at (n : Nat) (w : World) (h1 : 1 ≤ n) (h4 : n ≤ 4) :
    Calls Tryd.prog 19 #[.int .i64 (n : Int)] w fun e w' => e = .returned (.string ⟨(tx (2 * n) (2 * n) (dmF n)).toArray⟩) ∧ w' = w := by
  obtain ⟨d, HD⟩ : ∃ d, Hid (d = 2 * n) := ⟨_, rfl⟩
  have hd2 : (2 : Int) * (n : Int) = (d : Int) := by have := HD.out; omega
  have hd8 : d ≤ 8 := by have := HD.out; omega
  obtain ⟨F, HF⟩ : ∃ F, Hid (F = dmF n) := ⟨_, rfl⟩
  rw [← HD.out, ← HF.out]
  have HE0 : Hid ((⟨#[]⟩ : ByteArray).data.toList = dpr d F 0) := rfl
  have HHn : Hid (1 ≤ n ∧ n ≤ 4) := ⟨h1, h4⟩
  clear h1 h4
  go_enter Tryd.func19, Tryd.ntmps19
  go_wp2_with fail
  go_loopw [3, 4] (fun sv v wr => ∃ (i : Nat) (S : ByteArray), i ≤ d ∧ v = .int .i64 (i : Int) ∧ sv = .string S ∧ Hid (S.data.toList = dpr d F i) ∧ w = wr) (fun _ v _ => d - (intOf v).toNat)
  case atStart => exact ⟨0, _, Nat.zero_le _, rfl, rfl, HE0, rfl⟩
  case round =>
    clear HE0
    obtain ⟨i, S, hi, rfl, rfl, HS, rfl⟩ := hrel
    by_cases hlt : i < d
    · have hlt' : (i : Int) < (d : Int) := by omega
      have HS0 : Hid (S.data.toList = dpr d F i ++ rwo 0 F i) := by show _ = _ ++ []; rw [List.append_nil]; exact HS.out
      go_wp2_with fail
      go_loopw [3, 5] (fun sv v wr => ∃ (j : Nat) (S : ByteArray), j ≤ d ∧ v = .int .i64 (j : Int) ∧ sv = .string S ∧ Hid (S.data.toList = dpr d F i ++ rwo j F i) ∧ w = wr) (fun _ v _ => d - (intOf v).toNat)
      case atStart => exact ⟨0, _, Nat.zero_le _, rfl, rfl, HS0, rfl⟩
      case round =>
        clear HS0 HS
        obtain ⟨j, S, hj, rfl, rfl, HS, rfl⟩ := hrel
        by_cases hltj : j < d
        · have hltj' : (j : Int) < (d : Int) := by omega
          obtain ⟨a, ha⟩ : ∃ a : Int, a = 2 * (i : Int) + 1 - (d : Int) := ⟨_, rfl⟩
          obtain ⟨b, hb⟩ : ∃ b : Int, b = 2 * (j : Int) + 1 - (d : Int) := ⟨_, rfl⟩
          obtain ⟨ma, hma⟩ : ∃ m : Int, m = max a (-a) := ⟨_, rfl⟩
          obtain ⟨mb, hmb⟩ : ∃ m : Int, m = max b (-b) := ⟨_, rfl⟩
          have HFv : Hid (F (i * 8 + j) = dmB n i j) := by
            show _ = _
            rw [HF.out, dmF_at (by have := HD.out; omega) (by have := HD.out; omega) HHn.out.2]
          have HK : Hid (ma + mb ≤ (d : Int) ↔ F (i * 8 + j) = 35) := by
            show _ ↔ _
            rw [HFv.out, ← dm_far (n := n) (i := i) (j := j) (by have := HD.out; omega) (by have := HD.out; omega), hma, hmb, ha, hb, hd2]
          have HRw : Hid (∀ x : UInt8, F (i * 8 + j) = x → dpr d F i ++ rwo (j + 1) F i = (dpr d F i ++ rwo j F i) ++ [x]) := fun x hx => by
            rw [rwo_succ, hx, List.append_assoc]
          have hab : -9 ≤ a ∧ a ≤ 9 ∧ -9 ≤ b ∧ b ≤ 9 ∧ 0 ≤ ma ∧ ma ≤ 9 ∧ 0 ≤ mb ∧ mb ≤ 9 := by omega
          obtain ⟨g1, g2, g3, g4, g5, g6, g7, g8⟩ := hab
          have ha' := ha.symm
          have hb' := hb.symm
          have hma' := hma.symm
          have hmb' := hmb.symm
          clear ha hb hma hmb
          have hs1 : S.size ≤ 1000 := by
            rw [ba_lenD, HS.out, List.length_append, rwo_length]
            have := dpr_len d F i (by omega) hd8
            omega
          have h35 : (ByteArray.mk #[35]).size = 1 := rfl
          have h46 : (ByteArray.mk #[46]).size = 1 := rfl
          by_cases hle : ma + mb ≤ (d : Int)
          · have HS2 : Hid ((S ++ ⟨#[35]⟩).data.toList = dpr d F i ++ rwo (j + 1) F i) := by
              show _ = _
              rw [HRw.out 35 (HK.out.1 hle), ba_cat, HS.out]
            go_wp2_with fail
            go_roundw
            case rel => exact ⟨j + 1, _, by omega, by go_num, rfl, HS2, by first | rfl | trivial⟩
            case measure => simp [intOf]; omega
          · have HS2 : Hid ((S ++ ⟨#[46]⟩).data.toList = dpr d F i ++ rwo (j + 1) F i) := by
              have h46b : F (i * 8 + j) = 46 := by
                have h := mt HK.out.2 hle
                rw [HFv.out] at h ⊢
                unfold dmB at h ⊢
                split at h
                · exact absurd rfl h
                · rename_i q; rw [if_neg q]
              show _ = _
              rw [HRw.out 46 h46b, ba_cat, HS.out]
            go_wp2_with fail
            go_roundw
            case rel => exact ⟨j + 1, _, by omega, by go_num, rfl, HS2, by first | rfl | trivial⟩
            case measure => simp [intOf]; omega
        · obtain rfl : j = d := by omega
          have HS1 : Hid (S.data.toList = tx (i + 1) j F) := by show _ = _; rw [HS.out, dpr_row j F i (by omega)]
          have hs1 : S.size ≤ 1000 := by
            rw [ba_lenD, HS1.out]
            have := tx_len8 (i + 1) j F (by omega) hd8
            omega
          have h47 : (ByteArray.mk #[47]).size = 1 := rfl
          by_cases hl : (i : Int) + 1 < (j : Int)
          · have HS2 : Hid ((S ++ ⟨#[47]⟩).data.toList = dpr j F (i + 1)) := by
              show _ = _
              rw [dpr_next j F i (by omega), ba_cat, HS1.out]
            go_wp2_with fail
            go_roundw
            case rel => exact ⟨i + 1, _, by omega, by go_num, rfl, HS2, by first | rfl | trivial⟩
            case measure => simp [intOf]; omega
          · have HS2 : Hid (S.data.toList = dpr j F (i + 1)) := by
              show _ = _
              rw [dpr_last j F i (by omega), HS1.out]
            go_wp2_with fail
            go_roundw
            case rel => exact ⟨i + 1, _, by omega, by go_num, rfl, HS2, by first | rfl | trivial⟩
            case measure => simp [intOf]; omega
    · obtain rfl : i = d := by omega
      have HE : Hid (S = ⟨(tx i i F).toArray⟩) := ba_ext (by rw [HS.out]; unfold dpr; rw [if_neg (by have := HD.out; have := HHn.out; omega), if_neg (by omega)])
      go_wp2_with fail
      go_ret
      exact ⟨by rw [HE.out]; rfl, rfl⟩

end Go.Proofs.YtcnmndbckjmliaaDoor
