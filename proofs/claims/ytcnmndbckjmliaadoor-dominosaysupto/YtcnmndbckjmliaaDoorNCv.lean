/-
  ferref.Covered.
-/
import Derived.Test.YtcnmndbckjmliaaDoorNRDi
import Derived.Test.YtcnmndbckjmliaaDoorNRBl
import Derived.Test.YtcnmndbckjmliaaDoorNBka
import Derived.Test.YtcnmndbckjmliaaDoorNRCe
namespace Go.Proofs.YtcnmndbckjmliaaDoor
open Go.RowKit

/-- What Covered lays for a sign. -/
def cvB (b : UInt8) : UInt8 := if b = 46 ∨ b = 47 then b else 35
theorem cov_brd {s : List UInt8} {r c : Nat} (h : Til s r c) : s.map cvB = brdT s r c := by
  have r1 := h.1.2.1
  obtain ⟨q, rfl⟩ : ∃ q, r = q + 1 := ⟨r - 1, by omega⟩
  have e := tx_map q c (cef (pz s)) cvB (by decide)
  rw [tx_cef h.1] at e
  rw [e]
  unfold brdT
  refine tx_congr fun i hi j hj => ?_
  have hm := shz_at h.1 hi hj
  unfold cvB brdF
  unfold lrud at hm
  simp only [List.mem_cons, List.not_mem_nil, or_false] at hm
  rcases hm with e | e | e | e | e <;> rw [e] <;> decide
set_option maxHeartbeats 4000000 in
set_option maxRecDepth 100000 in
theorem Covered_at (s : ByteArray) (r c : Nat) (w : World) (hT : Til s.data.toList r c) :
    Calls Tryd.prog 13 #[.string s] w fun e w' => e = .returned (.string ⟨(brdT s.data.toList r c).toArray⟩) ∧ Hid (Below w.heap.size w w') := by
  have HE : Hid (s.data.toList.map cvB = brdT s.data.toList r c) := cov_brd hT
  have hs71 : s.size ≤ 71 := by have := shz_len hT.1; rw [ba_len] at this; exact this
  obtain ⟨l, HL⟩ : ∃ l, Hid (l = s.data.toList) := ⟨_, rfl⟩
  have HLl : Hid (l.length = s.size) := by show _ = _; rw [HL.out]; exact ba_len s
  have HE0 : Hid ((⟨#[]⟩ : ByteArray).data.toList = (l.take 0).map cvB) := rfl
  have HB0 : Hid (Below w.heap.size w w) := Below.refl _ _
  clear hT
  go_enter Tryd.func13, Tryd.ntmps13
  go_wp2_with fail
  go_loopw [3, 4] (fun sv v wr => ∃ (i : Nat) (S : ByteArray), i ≤ s.size ∧ v = .int .i64 (i : Int) ∧ sv = .string S ∧ Hid (S.data.toList = (l.take i).map cvB) ∧ Hid (Below w.heap.size w wr)) (fun _ v _ => s.size - (intOf v).toNat)
  case atStart => exact ⟨0, _, Nat.zero_le _, rfl, rfl, HE0, HB0⟩
  case round =>
    clear HE0 HB0
    obtain ⟨i, S, hi, rfl, rfl, HS, HB⟩ := hrel
    by_cases hlt : i < s.size
    · have hlt' : (i : Int) < (s.size : Int) := by omega
      obtain ⟨b, HBb⟩ : ∃ b : UInt8, Hid (b = s[i]'hlt) := ⟨_, rfl⟩
      obtain ⟨x, HX⟩ : ∃ x : Nat, Hid (x = b.toNat) := ⟨_, rfl⟩
      have hbx : (s[i]'hlt).toNat = x := by rw [HX.out, HBb.out]
      have HLi : Hid (l[i]? = some b) := by
        show _ = _
        rw [HL.out, HBb.out]
        simp [hlt]
        rfl
      have HTk : Hid ((l.take (i + 1)).map cvB = (l.take i).map cvB ++ [cvB b]) := by
        show _ = _
        have hll : i < l.length := by rw [HLl.out]; exact hlt
        rw [List.take_succ_eq_append_getElem hll, List.map_append]
        have := HLi.out
        rw [List.getElem?_eq_getElem hll] at this
        rw [Option.some.inj this]; rfl
      have hs1 : S.size ≤ 1000 := by
        rw [ba_lenD, HS.out, List.length_map, List.length_take]
        omega
      have h35 : (ByteArray.mk #[35]).size = 1 := rfl
      obtain ⟨a, HA⟩ : ∃ a, Hid (a = s.extract i (i + 1)) := ⟨_, rfl⟩
      have HAd : Hid (a.data.toList = [b]) := by show _ = _; rw [HA.out, ext_one s i hlt, HBb.out]
      have has : a.size = 1 := by rw [ba_lenD, HAd.out]; rfl
      have hsl : ∀ W : World, (Instr.slice 9 (.string s) (some (.int .i64 (i : Int))) (some (.int .i64 ((i : Int) + 1))) none).run Tryd.prog W = .ok (.string a) W := fun W => by
        rw [run_slice_string_if W 9 s .i64 .i64 _ _ Tryd.underlying9, if_pos (by omega), if_pos (by omega), Int.toNat_natCast, show ((i : Int) + 1).toNat = i + 1 by omega, HA.out]
      by_cases h46 : (x : Int) = 46
      · have HS2 : Hid ((S ++ a).data.toList = (l.take (i + 1)).map cvB) := by
          show _ = _
          have e : b = 46 := UInt8.toNat_inj.1 (by rw [← HX.out]; exact Int.ofNat.inj h46)
          rw [HTk.out, ba_cat, HS.out, HAd.out, e]; rfl
        go_wp2_with fail
        go_roundw
        case rel => exact ⟨i + 1, _, by omega, by go_num, rfl, HS2, HB⟩
        case measure => simp [intOf]; omega
      · by_cases h47 : (x : Int) = 47
        · have HS2 : Hid ((S ++ a).data.toList = (l.take (i + 1)).map cvB) := by
            show _ = _
            have e : b = 47 := UInt8.toNat_inj.1 (by rw [← HX.out]; exact Int.ofNat.inj h47)
            rw [HTk.out, ba_cat, HS.out, HAd.out, e]; rfl
          go_wp2_with fail
          go_roundw
          case rel => exact ⟨i + 1, _, by omega, by go_num, rfl, HS2, HB⟩
          case measure => simp [intOf]; omega
        · have hq1 : ((x : Int) == 46) = false := beq_false_of_ne h46
          have hq2 : ((x : Int) == 47) = false := beq_false_of_ne h47
          have HS2 : Hid ((S ++ ⟨#[35]⟩).data.toList = (l.take (i + 1)).map cvB) := by
            show _ = _
            have e : cvB b = 35 := by
              unfold cvB
              rw [if_neg]
              rintro (e | e)
              · apply h46; rw [HX.out, e]; rfl
              · apply h47; rw [HX.out, e]; rfl
            rw [HTk.out, ba_cat, HS.out, e]
          go_wp2_with fail
          go_roundw
          case rel => exact ⟨i + 1, _, by omega, by go_num, rfl, HS2, HB⟩
          case measure => simp [intOf]; omega
    · have HEq : Hid (S = ⟨(brdT s.data.toList r c).toArray⟩) := ba_ext (by
        rw [HS.out, ← HE.out, ← HL.out, List.take_of_length_le (by rw [HLl.out]; omega)])
      go_wp2_with fail
      go_ret
      exact ⟨by rw [HEq.out]; rfl, HB⟩

end Go.Proofs.YtcnmndbckjmliaaDoor
