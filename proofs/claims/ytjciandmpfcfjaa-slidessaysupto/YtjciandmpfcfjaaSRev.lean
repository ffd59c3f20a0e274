/-
  The contract of ferref.Evacuated.
-/
import Derived.Test.YtjciandmpfcfjaaSRlw
import Derived.Test.YtjciandmpfcfjaaIOfw
import Derived.Test.YtjciandmpfcfjaaVChk
namespace Go.Proofs.Ytjciandmpfcfjaa
open Go.RowKit

theorem star_cons (c x : Int) (l : List Int) : star c (x :: l) = star c l ++ [c - x] := by simp [star]
theorem P_numW (zs : List Int) : (mk (numW zs)).1 = insW [] zs := by
  have : (numW zs).map Prod.snd = zs := by
    refine ext_getD (by simp [numW]) (fun j hj => ?_)
    simp [numW] at hj
    simp [numW, List.getD, hj]
  rw [mk_fst, this]

set_option maxHeartbeats 8000000 in
theorem Evacuated_at (a : Option Addr) (n cap : Nat) (ls : List (List Int)) (w : World) (hs : Table w a ls) (hn : n = ls.length) (hc : scode ls = 0) :
    Calls Try.prog 33 #[.slice a n cap] w fun e w' => ∃ v, e = .returned v ∧ Tbl w' w.heap.size v (evaT ls) ∧ Below w.heap.size w w' := by
  subst hn
  obtain ⟨hS, h40⟩ := scode_ok.1 hc
  have HS : Hid (Table w a ls) := hs
  have HTb : Hid (IsTab ls) := hS.tabs
  obtain ⟨N, HN⟩ : ∃ N, Hid (N = ls.flatten.length) := ⟨_, rfl⟩
  have hN : N ≤ 40 := by rw [HN.out]; exact h40
  have HStN : Hid (Std N ls) := by rw [HN.out]; exact hS
  obtain ⟨W, HW⟩ : ∃ W, Hid (W = wrd ls) := ⟨_, rfl⟩
  have HWl : Hid (W.length = N) := by rw [HW.out]; exact HStN.out.len
  have HWb : Hid (∀ z ∈ W, 1 ≤ z ∧ z ≤ (N : Int)) := fun z hz => HStN.out.low z (by rw [← HW.out]; exact hz)
  have HE : Hid (evaT ls = insW [] (star ((N : Int) + 1) W)) := by show _ = _; unfold evaT evT; rw [← HN.out, ← HW.out]
  clear hs hS hc h40
  go_enter Try.func33, Try.ntmps33
  go_wp2_with fail
  refine (Upward_at a ls.length cap ls w HS.out rfl HTb.out).mono ?_
  rintro e w1 ⟨v1, rfl, hO1, hb1⟩
  have hO1' : Owns w1 w.heap.size v1 W := by rw [HW.out]; exact hO1
  have HB1 : Hid (Below w.heap.size w w1) := hb1
  obtain ⟨a1, n1, c1, rfl, hS1, hn1, -⟩ := hO1'.opened (by rw [HWl.out]; omega) (fun z hz => by have := HWb.out z hz; omega)
  have HS1 : Hid (Shows w1 a1 W) := hS1
  have hn1' : n1 = N := by rw [hn1]; exact HWl.out
  subst hn1'
  clear hO1 hO1' hb1 hS1 hn1
  have hsub : IntKind.i64.wrap ((n1 : Int) - 1) = (n1 : Int) - 1 := by rw [IntWalk.i64_left, IntWalk.wrap64_in _ (by omega)]
  go_wp2
  go_loopw [5, 6] (fun v iv wr => ∃ k : Nat, k ≤ n1 ∧ iv = .int .i64 ((n1 : Int) - 1 - (k : Int)) ∧ Hid (Owns wr w1.heap.size v (star ((n1 : Int) + 1) (W.drop (n1 - k)))) ∧ Hid (Below w1.heap.size w1 wr)) (fun _ iv _ => ((intOf iv) + 1).toNat)
  case atStart => exact ⟨0, Nat.zero_le _, by simp, by
    show Owns _ _ _ _
    rw [List.drop_eq_nil_of_le (by rw [HWl.out]; omega)]; exact World.ownsRow_nil _ _ _ _, Below.refl _ _⟩
  case round =>
    obtain ⟨k, hk, rfl, HO, HB⟩ := hrel
    by_cases hlt : k < n1
    · obtain ⟨m, HM⟩ : ∃ m, Hid (m = n1 - 1 - k) := ⟨_, rfl⟩
      have hm : (n1 : Int) - 1 - (k : Int) = (m : Int) := by rw [HM.out]; omega
      rw [hm]
      have hge : (m : Int) ≥ 0 := by omega
      have hml : (m : Int) < (n1 : Int) := by rw [HM.out]; omega
      have HMl : Hid (m < W.length) := by show _ < _; rw [HWl.out, HM.out]; omega
      obtain ⟨b, off, z, rfl, HZ, -, -, hcz⟩ := (HS1.out.below HB.out).elem HMl.out
      have hzb : 1 ≤ z ∧ z ≤ (n1 : Int) := by rw [HZ.out]; exact HWb.out _ (getD_mem HMl.out)
      have hadd : IntKind.i64.wrap ((n1 : Int) + 1) = (n1 : Int) + 1 := by rw [IntWalk.i64_left, IntWalk.wrap64_in _ (by omega)]
      have hdz : IntKind.i64.wrap ((n1 : Int) + 1 - z) = (n1 : Int) + 1 - z := by rw [IntWalk.i64_left, IntWalk.wrap64_in _ (by omega)]
      have hms : IntKind.i64.wrap ((m : Int) - 1) = (m : Int) - 1 := by rw [IntWalk.i64_left, IntWalk.wrap64_in _ (by omega)]
      have HNx : Hid (star ((n1 : Int) + 1) (W.drop (n1 - (k + 1))) = star ((n1 : Int) + 1) (W.drop (n1 - k)) ++ [(n1 : Int) + 1 - z]) := by
        show _ = _
        rw [show n1 - (k + 1) = m by rw [HM.out]; omega, drop_cons W m HMl.out, star_cons, ← HZ.out, show m + 1 = n1 - k by rw [HM.out]; omega]
      have HLn : Hid ((star ((n1 : Int) + 1) (W.drop (n1 - k))).length ≤ 40) := by show _ ≤ _; rw [star_len, List.length_drop, HWl.out]; omega
      have HMe : Hid ((m : Int) - 1 = (n1 : Int) - 1 - ((k + 1 : Nat) : Int)) := by show _ = _; rw [HM.out]; omega
      clear hm
      go_wp2_with (at_builtin; refine append_int (x := (n1 : Int) + 1 - z) rfl _ _ rfl rfl HO.out rfl ?c1 ?c2 ?_)
      case c1 => have := HLn.out; omega
      case c2 => exact HB.out.size
      intro v' w2 hO' hb'
      have HO2 : Hid (Owns w2 w1.heap.size v' (star ((n1 : Int) + 1) (W.drop (n1 - (k + 1))))) := by rw [HNx.out]; exact hO'
      have HB2 : Hid (Below w1.heap.size w1 w2) := HB.out.trans hb'
      clear hO' hb'
      go_wp2
      go_roundw
      case rel => exact ⟨k + 1, by omega, by rw [HMe.out], HO2, HB2⟩
      case measure => simp [intOf]
    · obtain rfl : k = n1 := by omega
      have hm : (k : Int) - 1 - (k : Int) = -1 := by omega
      rw [hm]
      have hge : ¬ (-1 : Int) ≥ 0 := by omega
      have hO := HO.out
      rw [Nat.sub_self, List.drop_zero] at hO
      have HVb : Hid (∀ z ∈ star ((k : Int) + 1) W, 0 ≤ z ∧ z ≤ 1000) := fun z hz => by
        simp [star] at hz
        obtain ⟨y, hy, rfl⟩ := hz
        have := HWb.out y hy; omega
      obtain ⟨a2, n2, c2, rfl, hS2, hn2, -⟩ := hO.opened (by rw [star_len, HWl.out]; omega) (small_wf HVb.out)
      have hn2' : n2 = k := by rw [hn2, star_len]; exact HWl.out
      subst hn2'
      have HS2 : Hid (Shows wr a2 (star ((n2 : Int) + 1) W)) := hS2
      have HBw : Hid (Below w.heap.size w wr) := HB1.out.trans (HB.out.mono HB1.out.size)
      clear hO hS2 hn2 hm HO
      go_wp2_with fail
      refine (First_at n2 wr (by omega)).mono ?_
      rintro e w3 ⟨v3, rfl, hO3, hb3⟩
      have HB3 : Hid (Below w.heap.size w w3) := HBw.out.trans (hb3.mono HBw.out.size)
      obtain ⟨a3, c3, rfl, hS3⟩ := hO3.shows (by unfold firstL; rw [tab_length]; omega) (fun z hz => by obtain ⟨jj, hj, rfl⟩ := tab_mem hz; omega)
      have HS3 : Hid (Shows w3 a3 (firstL n2)) := hS3
      have HS4 : Hid (Shows w3 a2 (star ((n2 : Int) + 1) W)) := HS2.out.below hb3
      have HF3 : Hid ((firstL n2).length = n2) := by unfold firstL; exact tab_length _ _
      have HL4 : Hid (n2 = (star ((n2 : Int) + 1) W).length) := by show _ = _; rw [star_len, HWl.out]
      clear hO3 hb3 hS3
      go_wp2_with fail
      refine (OfWord_at _ _ _ _ _ _ (star ((n2 : Int) + 1) W) (firstL n2) _ HS4.out HS3.out HL4.out rfl (by rw [← HL4.out]; omega) (by rw [← HL4.out, HF3.out]; exact Nat.le_refl _) HVb.out).mono ?_
      rintro e w4 ⟨v4, u4, rfl, hT4, hU4, hb4⟩
      have hz : zipP (star ((n2 : Int) + 1) W) (firstL n2) = numW (star ((n2 : Int) + 1) W) := by
        have := zipP_first (star ((n2 : Int) + 1) W)
        rw [← HL4.out] at this; exact this
      rw [hz, P_numW, ← HE.out] at hT4
      have HB4 : Hid (Below w.heap.size w w4) := HB3.out.trans (hb4.mono HB3.out.size)
      have HT4 : Hid (Tbl w4 w.heap.size v4 (evaT ls)) := hT4.mono HB3.out.size
      obtain ⟨x4, y4, hx4⟩ : ∃ x4 y4, v4 = .slice x4 (evaT ls).length y4 := by obtain ⟨vs, h⟩ := hT4; exact h.shape
      obtain ⟨x5, m5, y5, hx5⟩ : ∃ x5 m5 y5, u4 = .slice x5 m5 y5 := by obtain ⟨vs, h⟩ := hU4; obtain ⟨p, q, e⟩ := h.shape; exact ⟨_, _, _, e⟩
      subst hx4; subst hx5
      clear hT4 hU4 hb4 hz
      go_wp2
      go_ret
      exact ⟨_, rfl, HT4.out, HB4.out⟩

end Go.Proofs.Ytjciandmpfcfjaa
