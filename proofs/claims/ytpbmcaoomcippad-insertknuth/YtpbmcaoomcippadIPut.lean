/-
  The contract of insert.putInRows.
-/
import Derived.Test.YtpbmcaoomcippadILng
namespace Go.Proofs.Ytpbmcaoomcippad
open Go.RowKit

theorem set_rows_len {ms : List (List Int)} {i k : Nat} {x : Int} (h : ∀ r ∈ ms, 0 < r.length ∧ r.length ≤ 1000) : ∀ r ∈ ms.set i ((ms.getD i []).set k x), 0 < r.length ∧ r.length ≤ 1000 := fun r hr => by
  rcases List.mem_or_eq_of_mem_set hr with q | q
  · exact h r q
  · subst q
    by_cases hi : i < ms.length
    · rw [List.length_set]; exact h _ (row_mem hi)
    · rw [List.set_eq_of_length_le (by omega)] at hr; exact h _ hr

set_option maxHeartbeats 4000000 in
theorem putInRows_at {ls : List (List Int)} {lo : Nat} {S : Nat → Prop} (v : Value) (x : Int) (w : World) (hT : TIn w lo S v ls) (hS : InS S lo w) (hlo : lo ≤ w.heap.size) (hl : ls.length ≤ 1000) (hr : ∀ r ∈ ls, 0 < r.length ∧ r.length ≤ 1000) :
    Calls Try.prog 62 #[v, .int .i64 x] w fun e w' => ∃ v', e = .returned (.tuple #[v', .int .i64 (insAt false x ls : Nat)]) ∧ TIn w' lo (Gr S w w') v' (ins false x ls) ∧ Off S w w' := by
  obtain ⟨vs, hV⟩ := hT
  obtain ⟨a, cap, hsv⟩ := hV.t.shape
  subst hsv
  have HV0 : Hid (TblIn w lo S (.slice a ls.length cap) vs ls) := hV
  have HS : Hid (InS S lo w) := hS
  have HLo : Hid (lo ≤ w.heap.size) := hlo
  have HR0 : Hid (∀ r ∈ ls, 0 < r.length ∧ r.length ≤ 1000) := hr
  clear hV hS hlo hr
  go_enter Try.func62, Try.ntmps62
  go_wp2
  go_loopw [1, 11] (fun xv q wr => ∃ (i : Nat) (y : Int) (ms : List (List Int)), i ≤ ls.length ∧ q = .int .i64 i ∧ xv = .int .i64 y ∧ Hid (ms.length = ls.length) ∧ Hid (TblIn wr lo S (.slice a ls.length cap) vs ms) ∧ Hid (Off S w wr ∧ wr.heap.size = w.heap.size) ∧
    Hid (∀ r ∈ ms, 0 < r.length ∧ r.length ≤ 1000) ∧ Hid (ins false x ls = ms.take i ++ ins false y (ms.drop i) ∧ insAt false x ls = insAt false y (ms.drop i) + i)) (fun _ q _ => ls.length - (intOf q).toNat)
  case atStart => exact ⟨0, x, ls, Nat.zero_le _, rfl, rfl, rfl, HV0, ⟨Off.refl _ _, rfl⟩, HR0, by simp [Hid]⟩
  case round =>
    obtain ⟨i, y, ms, hi, rfl, rfl, HLm, HV, HO, HR, HM⟩ := hrel
    by_cases hil : i < ls.length
    · have hil' : (i : Int) < (ls.length : Int) := by omega
      have HIm : Hid (i < ms.length) := by rw [HLm.out]; exact hil
      obtain ⟨g, n0, c0, hsl, -, hg1, hg2, -, hcells⟩ := HV.out.t.head (by have := HIm.out; omega)
      simp only [Value.slice.injEq] at hsl
      obtain ⟨rfl, -, rfl⟩ := hsl
      have hci := hcells i HIm.out
      have hrp := HR.out _ (row_mem HIm.out)
      obtain ⟨h, ch, hrv, hh1, hh2, hhf, hhc⟩ := (HV.out.t.rows i HIm.out).head hrp.1
      obtain ⟨m, HMm⟩ : ∃ m, Hid (m = (row ms i).length) := ⟨_, rfl⟩
      have hm1 : m ≤ 1000 := by rw [HMm.out]; exact hrp.2
      have hrv' : rowv vs i = .slice (some ⟨h, 0, none⟩) m ch := by rw [hrv, HMm.out]; rfl
      rw [hrv'] at hci
      have HRv : Hid (rowv vs i = .slice (some ⟨h, 0, none⟩) m ch) := hrv'
      have HHc : Hid (∀ j, j < m → wr.cell? ⟨h, j, none⟩ = some (.int .i64 (box ms i j))) := fun j hj => hhc j (by rw [HMm.out] at hj; exact hj)
      have HHf : Hid (∀ j, wr.frozen? ⟨h, j, none⟩ = false) := hhf
      have HSh : Hid (S h) := HV.out.rs i HIm.out h (by rw [hrv']; rfl)
      clear hrv hrv' hhc hhf hcells hrp
      go_wp2
      go_loop [8] (fun q => ∃ j : Nat, j ≤ m ∧ q = .int .i64 j ∧ Hid (∀ k, k < j → box ms i k ≤ y)) (fun q => m - (intOf q).toNat)
      case atStart => exact ⟨0, Nat.zero_le _, rfl, fun k hk => by omega⟩
      case round =>
        obtain ⟨j, hj, rfl, HP⟩ := hrel
        by_cases hjm : j < m
        · have hjm' : (j : Int) < (m : Int) := by omega
          have hcj := HHc.out j hjm
          obtain ⟨z, HZ⟩ : ∃ z, Hid (z = box ms i j) := ⟨_, rfl⟩
          rw [← HZ.out] at hcj
          by_cases hzy : z ≤ y
          · have HZY : Hid (z ≤ y) := hzy
            go_wp2
            go_round
            case rel => exact ⟨j + 1, by omega, by go_num, fun k hk => by
                          by_cases e : k = j
                          · subst e; rw [← HZ.out]; exact HZY.out
                          · exact HP.out k (by omega)⟩
            case measure => simp [intOf]; omega
          · have HZY : Hid (¬ z ≤ y) := hzy
            have hne : ((j : Int) == (m : Int)) = false := by simp; omega
            have hfj := HHf.out j
            have HSp : Hid (spot false y (row ms i) = j) := spot_is (by rw [← HMm.out]; omega) (fun k hk => passes_le' (HP.out k hk)) (Or.inr (passes_no' (by have := HZY.out; rw [HZ.out] at this; exact Int.not_le.1 this)))
            have hon := ins_on HIm.out HSp.out (by rw [← HMm.out]; exact hjm)
            have HV2 : Hid (TblIn (wr.setCell ⟨h, j, none⟩ (.int .i64 y)) lo S (.slice (some ⟨g, 0, none⟩) ls.length cap) vs (ms.set i ((row ms i).set j y))) := HV.out.storeBox HIm.out HRv.out HMm.out j y
            have HO2 : Hid (Off S w (wr.setCell ⟨h, j, none⟩ (.int .i64 y)) ∧ (wr.setCell ⟨h, j, none⟩ (.int .i64 y)).heap.size = w.heap.size) := ⟨HO.out.1.setCell HSh.out _, by simp [HO.out.2]⟩
            have HR2 : Hid (∀ r ∈ ms.set i ((row ms i).set j y), 0 < r.length ∧ r.length ≤ 1000) := set_rows_len HR.out
            have HM2 : Hid (ins false x ls = (ms.set i ((row ms i).set j y)).take (i + 1) ++ ins false z ((ms.set i ((row ms i).set j y)).drop (i + 1)) ∧ insAt false x ls = insAt false z ((ms.set i ((row ms i).set j y)).drop (i + 1)) + (i + 1)) := by
              rw [HZ.out]
              exact ⟨HM.out.1.trans hon.1, by rw [HM.out.2, hon.2]; omega⟩
            clear hon
            go_wp2
            go_roundw
            case rel => exact ⟨i + 1, z, _, by omega, by go_num, rfl, by show _ = _; rw [List.length_set]; exact HLm.out, HV2, HO2, HR2, HM2⟩
            case measure => simp [intOf]; omega
        · obtain rfl : j = m := by omega
          have hne : ((j : Int) == (j : Int)) = true := by simp
          have hjm' : ¬ (j : Int) < (j : Int) := by omega
          have HSp : Hid (spot false y (row ms i) = (row ms i).length) := spot_is (Nat.le_refl _) (fun k hk => passes_le' (HP.out k (by rw [HMm.out]; exact hk))) (Or.inl rfl)
          have hend := ins_end HIm.out HSp.out
          have HF : Hid (lng ms i y = ins false x ls ∧ insAt false x ls = i) := by
            refine ⟨?_, by rw [HM.out.2, hend.2]; omega⟩
            unfold lng
            rw [if_neg (by have := HIm.out; omega), HM.out.1, hend.1]
          clear hend
          go_wp2_with (go_at_call 63; refine (lengthened_at _ i y wr ⟨vs, HV.out⟩ (fun k hk => by rw [HO.out.2]; exact HS.out k hk) (by rw [HO.out.2]; exact HLo.out) (Nat.le_of_lt HIm.out) (by rw [HLm.out]; omega) (fun r hr => (HR.out r hr).2)).mono ?_; rintro e w2 ⟨v', rfl, hT2, hO2⟩)
          have HT2 : Hid (TIn w2 lo (Gr S w w2) v' (ins false x ls)) := by
            have h1 := hT2
            rw [HF.out.1] at h1
            refine h1.grow (fun k hk => ?_)
            unfold Gr at hk ⊢
            rw [HO.out.2] at hk; exact hk
          have HO3 : Hid (Off S w w2) := by
            refine HO.out.1.trans ⟨hO2.low, fun k hk hs => hO2.block k hk (fun q => hs (Or.inl q))⟩
          clear hT2 hO2
          go_wp2
          go_ret2
          exact ⟨_, by rw [HF.out.2]; rfl, HT2.out, HO3.out⟩
    · obtain rfl : i = ls.length := by omega
      have HF : Hid (lng ms ls.length y = ins false x ls ∧ insAt false x ls = ls.length) := by
        have hov := ins_over (s := false) (x := y) (ls := ms)
        rw [HLm.out] at hov
        refine ⟨?_, by rw [HM.out.2, hov.2]; omega⟩
        unfold lng
        rw [if_pos HLm.out.symm, HM.out.1, hov.1]
      go_wp2_with (go_at_call 63; refine (lengthened_at _ ls.length y wr ⟨vs, HV.out⟩ (fun k hk => by rw [HO.out.2]; exact HS.out k hk) (by rw [HO.out.2]; exact HLo.out) (by rw [HLm.out]; exact Nat.le_refl _) (by rw [HLm.out]; omega) (fun r hr => (HR.out r hr).2)).mono ?_; rintro e w2 ⟨v', rfl, hT2, hO2⟩)
      have HT2 : Hid (TIn w2 lo (Gr S w w2) v' (ins false x ls)) := by
        have h1 := hT2
        rw [HF.out.1] at h1
        refine h1.grow (fun k hk => ?_)
        unfold Gr at hk ⊢
        rw [HO.out.2] at hk; exact hk
      have HO3 : Hid (Off S w w2) := by
        refine HO.out.1.trans ⟨hO2.low, fun k hk hs => hO2.block k hk (fun q => hs (Or.inl q))⟩
      clear hT2 hO2
      go_wp2
      go_ret2
      exact ⟨_, by rw [HF.out.2]; rfl, HT2.out, HO3.out⟩

end Go.Proofs.Ytpbmcaoomcippad
