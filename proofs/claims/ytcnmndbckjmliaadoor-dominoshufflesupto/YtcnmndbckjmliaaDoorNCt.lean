/-
  ferref.Covered.
  strings.Count of one byte; the blocks of a shuffled diamond, one after the other.
-/
import Derived.Test.YtcnmndbckjmliaaDoorNRDi
import Derived.Test.YtcnmndbckjmliaaDoorNRBl
import Derived.Test.YtcnmndbckjmliaaDoorNBka
import Derived.Test.YtcnmndbckjmliaaDoorNRCe
import Derived.Test.YtcnmndbckjmliaaDoorNOp
import Derived.Lib.Bytealg
import Derived.Lib.CountLaws
import Derived.Lib.Strings
import Derived.Lib.Slices
import Derived.BigCall
import Derived.BigGuard
import Derived.Laws.Strings3
namespace Go.Proofs.YtcnmndbckjmliaaDoor
open Go.RowKit

/-- What Covered lays for a sign. -/
def cvB (b : UInt8) : UInt8 := if b = 46 ∨ b = 47 then b else 35
theorem cov_brd {s : List UInt8} {r c : Nat} (h : Til s r c) : s.map cvB = brdT s r c := by
  have r1 := h.1.2.1
  obtain ⟨q, rfl⟩ : ∃ q, r = q + 1 := ⟨r - 1, by omega⟩
  have e := tx_map q c (cef (pz s)) cvB (by decide)
  rw [tx_cef h.1] at e
  rw [e]
  unfold brdT
  refine tx_congr fun i hi j hj => ?_
  have hm := shz_at h.1 hi hj
  unfold cvB brdF
  unfold lrud at hm
  simp only [List.mem_cons, List.not_mem_nil, or_false] at hm
  rcases hm with e | e | e | e | e <;> rw [e] <;> decide
set_option maxHeartbeats 4000000 in
set_option maxRecDepth 100000 in
theorem Covered_at (s : ByteArray) (r c : Nat) (w : World) (hT : Til s.data.toList r c) :
    Calls Tryd.prog 13 #[.string s] w fun e w' => e = .returned (.string ⟨(brdT s.data.toList r c).toArray⟩) ∧ Hid (Below w.heap.size w w') := by
  have HE : Hid (s.data.toList.map cvB = brdT s.data.toList r c) := cov_brd hT
  have hs71 : s.size ≤ 71 := by have := shz_len hT.1; rw [ba_len] at this; exact this
  obtain ⟨l, HL⟩ : ∃ l, Hid (l = s.data.toList) := ⟨_, rfl⟩
  have HLl : Hid (l.length = s.size) := by show _ = _; rw [HL.out]; exact ba_len s
  have HE0 : Hid ((⟨#[]⟩ : ByteArray).data.toList = (l.take 0).map cvB) := rfl
  have HB0 : Hid (Below w.heap.size w w) := Below.refl _ _
  clear hT
  go_enter Tryd.func13, Tryd.ntmps13
  go_wp2_with fail
  go_loopw [3, 4] (fun sv v wr => ∃ (i : Nat) (S : ByteArray), i ≤ s.size ∧ v = .int .i64 (i : Int) ∧ sv = .string S ∧ Hid (S.data.toList = (l.take i).map cvB) ∧ Hid (Below w.heap.size w wr)) (fun _ v _ => s.size - (intOf v).toNat)
  case atStart => exact ⟨0, _, Nat.zero_le _, rfl, rfl, HE0, HB0⟩
  case round =>
    clear HE0 HB0
    obtain ⟨i, S, hi, rfl, rfl, HS, HB⟩ := hrel
    by_cases hlt : i < s.size
    · have hlt' : (i : Int) < (s.size : Int) := by omega
      obtain ⟨b, HBb⟩ : ∃ b : UInt8, Hid (b = s[i]'hlt) := ⟨_, rfl⟩
      obtain ⟨x, HX⟩ : ∃ x : Nat, Hid (x = b.toNat) := ⟨_, rfl⟩
      have hbx : (s[i]'hlt).toNat = x := by rw [HX.out, HBb.out]
      have HLi : Hid (l[i]? = some b) := by
        show _ = _
        rw [HL.out, HBb.out]
        simp [hlt]
        rfl
      have HTk : Hid ((l.take (i + 1)).map cvB = (l.take i).map cvB ++ [cvB b]) := by
        show _ = _
        have hll : i < l.length := by rw [HLl.out]; exact hlt
        rw [List.take_succ_eq_append_getElem hll, List.map_append]
        have := HLi.out
        rw [List.getElem?_eq_getElem hll] at this
        rw [Option.some.inj this]; rfl
      have hs1 : S.size ≤ 1000 := by
        rw [ba_lenD, HS.out, List.length_map, List.length_take]
        omega
      have h35 : (ByteArray.mk #[35]).size = 1 := rfl
      obtain ⟨a, HA⟩ : ∃ a, Hid (a = s.extract i (i + 1)) := ⟨_, rfl⟩
      have HAd : Hid (a.data.toList = [b]) := by show _ = _; rw [HA.out, ext_one s i hlt, HBb.out]
      have has : a.size = 1 := by rw [ba_lenD, HAd.out]; rfl
      have hsl : ∀ W : World, (Instr.slice 9 (.string s) (some (.int .i64 (i : Int))) (some (.int .i64 ((i : Int) + 1))) none).run Tryd.prog W = .ok (.string a) W := fun W => by
        rw [run_slice_string_if W 9 s .i64 .i64 _ _ Tryd.underlying9, if_pos (by omega), if_pos (by omega), Int.toNat_natCast, show ((i : Int) + 1).toNat = i + 1 by omega, HA.out]
      by_cases h46 : (x : Int) = 46
      · have HS2 : Hid ((S ++ a).data.toList = (l.take (i + 1)).map cvB) := by
          show _ = _
          have e : b = 46 := UInt8.toNat_inj.1 (by rw [← HX.out]; exact Int.ofNat.inj h46)
          rw [HTk.out, ba_cat, HS.out, HAd.out, e]; rfl
        go_wp2_with fail
        go_roundw
        case rel => exact ⟨i + 1, _, by omega, by go_num, rfl, HS2, HB⟩
        case measure => simp [intOf]; omega
      · by_cases h47 : (x : Int) = 47
        · have HS2 : Hid ((S ++ a).data.toList = (l.take (i + 1)).map cvB) := by
            show _ = _
            have e : b = 47 := UInt8.toNat_inj.1 (by rw [← HX.out]; exact Int.ofNat.inj h47)
            rw [HTk.out, ba_cat, HS.out, HAd.out, e]; rfl
          go_wp2_with fail
          go_roundw
          case rel => exact ⟨i + 1, _, by omega, by go_num, rfl, HS2, HB⟩
          case measure => simp [intOf]; omega
        · have hq1 : ((x : Int) == 46) = false := beq_false_of_ne h46
          have hq2 : ((x : Int) == 47) = false := beq_false_of_ne h47
          have HS2 : Hid ((S ++ ⟨#[35]⟩).data.toList = (l.take (i + 1)).map cvB) := by
            show _ = _
            have e : cvB b = 35 := by
              unfold cvB
              rw [if_neg]
              rintro (e | e)
              · apply h46; rw [HX.out, e]; rfl
              · apply h47; rw [HX.out, e]; rfl
            rw [HTk.out, ba_cat, HS.out, e]
          go_wp2_with fail
          go_roundw
          case rel => exact ⟨i + 1, _, by omega, by go_num, rfl, HS2, HB⟩
          case measure => simp [intOf]; omega
    · have HEq : Hid (S = ⟨(brdT s.data.toList r c).toArray⟩) := ba_ext (by
        rw [HS.out, ← HE.out, ← HL.out, List.take_of_length_le (by rw [HLl.out]; omega)])
      go_wp2_with fail
      go_ret
      exact ⟨by rw [HEq.out]; rfl, HB⟩

end Go.Proofs.YtcnmndbckjmliaaDoor

namespace Go.Proofs.YtcnmndbckjmliaaDoor
open Go.RowKit

set_option maxHeartbeats 1000000 in
set_option maxRecDepth 100000 in
theorem SCount_at (s : ByteArray) (c : UInt8) (w : World) :
    Calls Tryd.prog 28 #[.string s, .string ⟨#[c]⟩] w fun e w' => e = .returned (.int .i64 (s.data.toList.count c : Nat)) ∧ w' = w := by
  go_enter Tryd.func28, Tryd.ntmps28
  go_wp2
  rw [run_callFunc_extern Tryd.func51 (by kernel_rfl) (by kernel_rfl) (by kernel_rfl) (e := Extern.BytealgCount.count) (by kernel_rfl), Lib.run_countString]
  simp only [Result.andThen]
  rw [Oper.upon_value]
  go_wp2
  go_ret
  exact ⟨rfl, rfl⟩

theorem sho_all {r : Nat} {N0 : Nat → UInt8} {ks : List Nat} (h : ShO (r + 1) N0 ks) (hr : r + 1 ≤ 8) (us : List Bool) : ∀ k, k ≤ ks.length → ShO (r + 1) (cvK (ks.map ptK) us N0 k) (ks.drop k)
  | 0, _ => h
  | k + 1, hk => by
    have ih := sho_all h hr us k (by omega)
    rw [List.drop_eq_getElem_cons (show k < ks.length by omega)] at ih
    have e : cvK (ks.map ptK) us N0 (k + 1) = cvF (cvK (ks.map ptK) us N0 k) (ks[k] / 8) (ks[k] % 8) (us.getD k false) := by
      show cvF _ _ _ _ = _
      rw [getD_ptK ks k (by omega), List.getD_eq_getElem?_getD, List.getElem?_eq_getElem (by omega), Option.getD_some]
      rfl
    rw [e]
    exact (ih.next hr (us.getD k false)).2.2.2
theorem sho_step {r : Nat} {N0 : Nat → UInt8} {ks : List Nat} (h : ShO (r + 1) N0 ks) (hr : r + 1 ≤ 8) (us : List Bool) (k : Nat) (hk : k < ks.length) : ∃ y x, y < r ∧ x < r ∧ Lib.indexByte (tx (r + 1) (r + 1) (cvK (ks.map ptK) us N0 k)) 35 = ((y * (r + 1 + 1) + x : Nat) : Int) ∧
    cvK (ks.map ptK) us N0 (k + 1) = cvF (cvK (ks.map ptK) us N0 k) y x (us.getD k false) ∧ ∀ i, i < r + 1 → ∀ j, j < r + 1 → cvK (ks.map ptK) us N0 k (i * 8 + j) ∈ shL := by
  have ih := sho_all h hr us k (by omega)
  have hl := ih.let'
  rw [List.drop_eq_getElem_cons hk] at ih
  obtain ⟨h1, h2, h3, _⟩ := ih.next hr (us.getD k false)
  refine ⟨ks[k] / 8, ks[k] % 8, h1, h2, h3, ?_, hl⟩
  show cvF _ _ _ _ = _
  rw [getD_ptK ks k hk, List.getD_eq_getElem?_getD, List.getElem?_eq_getElem hk, Option.getD_some]
  rfl
/-- Two texts of one board. -/
theorem shz_one {lt : List UInt8} {r c r' c' : Nat} {l : List (List UInt8)} (h : Shz lt r c l) (h' : Shz lt r' c' l) : r = r' ∧ c = c' := by
  have e : r = r' := by rw [← h.1, ← h'.1]
  have hm : l.getD 0 [] ∈ l := by rw [List.getD_eq_getElem?_getD, List.getElem?_eq_getElem (by rw [h.1]; have := h.2.1; omega), Option.getD_some]; exact List.getElem_mem _
  exact ⟨e, by rw [← (h.2.2.2.2.2 _ hm).1, ← (h'.2.2.2.2.2 _ hm).1]⟩
theorem brd_shz {s : List UInt8} {r c : Nat} (h : Til s r c) : Shz bdL r c (pz (brdT s r c)) := by
  have hl : ∀ i, i < r → ∀ j, j < c → brdF (cef (pz s)) (i * 8 + j) ∈ bdL := fun i _ j _ => by
    unfold brdF; split <;> decide
  unfold brdT
  rw [pz_tx (lt := bdL) h.1.2.1 hl (by decide)]
  exact shz_rwz h.1.2.1 h.1.2.2.1 h.1.2.2.2.1 h.1.2.2.2.2.1 hl
/-- The texts differ where the boards do. -/
theorem brd_other {s : List UInt8} {R C n : Nat} (hT : Til s R C) (h1 : 1 ≤ n) (h4 : n ≤ 4) (hne : ¬ (R = 2 * n ∧ C = 2 * n ∧ brdT s R C = tx (2 * n) (2 * n) (dmF n))) : ¬ brdT s R C = tx (2 * n) (2 * n) (dmF n) := fun e => by
  have hl : ∀ i, i < 2 * n → ∀ j, j < 2 * n → dmF n (i * 8 + j) ∈ bdL := fun i hi j hj => by
    rcases dm_inB (n := n) (k := i * 8 + j) ⟨by omega, by omega⟩ with e | e <;> rw [e] <;> decide
  have a := brd_shz hT
  have b : Shz bdL (2 * n) (2 * n) (pz (tx (2 * n) (2 * n) (dmF n))) := by
    rw [pz_tx (lt := bdL) (by omega) hl (by decide)]
    exact shz_rwz (by omega) (by omega) (by omega) (by omega) hl
  rw [e] at a
  obtain ⟨q1, q2⟩ := shz_one a b
  exact hne ⟨q1, q2, e⟩

section
variable (t : ByteArray) (m : Int) (w : World) (hs : t.size ≤ 4000000000) (hm : w.cell? ⟨0, 0, none⟩ = some (.int .i64 m))
include hs hm
theorem SLaid_no (hT : ∀ r c, ¬ Til t.data.toList r c) : Calls Tryd.prog 11 #[.string t] w fun e w' => e = .returned (.bool false) ∧ Hid (Below w.heap.size w w') := by
  refine (Laid_at t m w hs hm).mono ?_
  rintro e w' ⟨b, rfl, hL, hB⟩
  cases b with
  | false => exact ⟨rfl, hB⟩
  | true => obtain ⟨r, c, h⟩ := hL.out.1 rfl; exact absurd h (hT r c)
theorem SLaid_ok (r c : Nat) (hT : Til t.data.toList r c) : Calls Tryd.prog 11 #[.string t] w fun e w' => e = .returned (.bool true) ∧ Hid (Below w.heap.size w w') := by
  refine (Laid_at t m w hs hm).mono ?_
  rintro e w' ⟨b, rfl, hL, hB⟩
  have : b = true := hL.out.2 ⟨r, c, hT⟩
  subst this
  exact ⟨rfl, hB⟩
theorem SCells_ok (r c : Nat) (hT : Til t.data.toList r c) : Calls Tryd.prog 14 #[.string t, .string ⟨#[108, 114, 117, 100, 46]⟩] w fun e w' => ∃ a, e = .returned (.slice a r r) ∧ Hid (Below w.heap.size w w') := by
  refine (Cells_at t ⟨#[108, 114, 117, 100, 46]⟩ m w hs hm).mono ?_
  rintro e w' ⟨v, rfl, hC, hB⟩
  rcases hC.out with ⟨r', c', P, X, hz, _, rfl, _, _⟩ | ⟨_, hno⟩
  · obtain ⟨rfl, rfl⟩ := shz_one hT.1 hz
    exact ⟨_, rfl, hB⟩
  · exact absurd hT.1 (hno r c)
end

end Go.Proofs.YtcnmndbckjmliaaDoor
