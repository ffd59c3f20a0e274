/-
  The contract of ferref.Into.
-/
import Derived.Test.YtpbmcaoomcippadITwn
import Derived.Test.YtpbmcaoomcippadIPut
namespace Go.Proofs.Ytpbmcaoomcippad
open Go.RowKit


set_option maxHeartbeats 4000000 in
theorem Into_at {x : Int} (a : Option Addr) (n cap : Nat) (ls : List (List Int)) (w : World) (hs : Table w a ls) (hn : n = ls.length) (hl : ls.length ≤ 1000) (hr : ∀ r ∈ ls, 0 < r.length ∧ r.length ≤ 1000) :
    Calls Try.prog 38 #[.slice a n cap, .int .i64 x] w fun e w' => ∃ v, e = .returned (.tuple #[v, .int .i64 (insAt false x ls : Nat)]) ∧ Tbl w' w.heap.size v (ins false x ls) ∧ Below w.heap.size w w' := by
  subst hn
  have HS0 : Hid (Table w a ls) := hs
  obtain ⟨ks, HKs⟩ : ∃ ks, Hid (ks = ls) := ⟨_, rfl⟩
  have HR0 : Hid (∀ r ∈ ks, 0 < r.length ∧ r.length ≤ 1000) := by rw [HKs.out]; exact hr
  have hkl : ks.length ≤ 1000 := by rw [HKs.out]; exact hl
  clear hs hr
  go_enter Try.func38, Try.ntmps38
  go_wp2_with fail
  refine (Twin_i _ _ _ _ _ HS0.out rfl hl (fun r hr => by have := (HR0.out r (by rw [HKs.out]; exact hr)).2; omega)).mono ?_
  rintro e w1 ⟨v1, rfl, hT1, hb1⟩
  rw [← HKs.out] at hT1
  have HT1 : Hid (Tbl w1 w.heap.size v1 ks) := hT1
  have HB1 : Hid (Below w.heap.size w w1) := hb1
  obtain ⟨a2, c2, hsv⟩ : ∃ a2 c2, v1 = .slice a2 ks.length c2 := by obtain ⟨vs, h⟩ := hT1; exact h.shape
  subst hsv
  clear hT1 hb1
  have HV0 : Hid (TIn w1 w.heap.size (fun k => w.heap.size ≤ k ∧ k < w1.heap.size) (.slice a2 ks.length c2) ks) := TIn.of_tbl HT1.out
  obtain ⟨S, HSd⟩ : ∃ S : Nat → Prop, Hid (S = fun k => w.heap.size ≤ k ∧ k < w1.heap.size) := ⟨_, rfl⟩
  rw [← HSd.out] at HV0
  obtain ⟨vs, hV⟩ := HV0.out
  have HV1 : Hid (TblIn w1 w.heap.size S (.slice a2 ks.length c2) vs ks) := hV
  have HSl : Hid (∀ k, S k → w.heap.size ≤ k) := fun k hk => by rw [HSd.out] at hk; exact hk.1
  have HSl2 : Hid (InS S w.heap.size w1) := fun k hk => by rw [HSd.out] at hk; exact hk
  clear hV HV0 HSd
  go_wp2
  go_loopw [1, 7] (fun xv q wr => ∃ (i : Nat) (y : Int) (ms : List (List Int)), i ≤ ks.length ∧ q = .int .i64 i ∧ xv = .int .i64 y ∧ Hid (ms.length = ks.length) ∧ Hid (TblIn wr w.heap.size S (.slice a2 ks.length c2) vs ms) ∧ Hid (Off S w1 wr ∧ wr.heap.size = w1.heap.size) ∧
    Hid (∀ r ∈ ms, 0 < r.length ∧ r.length ≤ 1000) ∧ Hid (ins false x ks = ms.take i ++ ins false y (ms.drop i) ∧ insAt false x ks = insAt false y (ms.drop i) + i)) (fun _ q _ => ks.length - (intOf q).toNat)
  case atStart => exact ⟨0, x, ks, Nat.zero_le _, rfl, rfl, rfl, HV1, ⟨Off.refl _ _, rfl⟩, HR0, by simp [Hid]⟩
  case round =>
    obtain ⟨i, y, ms, hi, rfl, rfl, HLm, HV, HO, HR, HM⟩ := hrel
    by_cases hil : i < ks.length
    · have hil' : (i : Int) < (ks.length : Int) := by omega
      have HIm : Hid (i < ms.length) := by rw [HLm.out]; exact hil
      obtain ⟨g, n0, c0, hsl, -, hg1, hg2, hfg, hcells⟩ := HV.out.t.head (by have := HIm.out; omega)
      simp only [Value.slice.injEq] at hsl
      obtain ⟨rfl, -, rfl⟩ := hsl
      have hci := hcells i HIm.out
      have hfgi := hfg i
      have hrp := HR.out _ (row_mem HIm.out)
      obtain ⟨h, ch, hrv, hh1, hh2, hhf, hhc⟩ := (HV.out.t.rows i HIm.out).head hrp.1
      obtain ⟨m, HMm⟩ : ∃ m, Hid (m = (row ms i).length) := ⟨_, rfl⟩
      have hm1 : m ≤ 1000 := by rw [HMm.out]; exact hrp.2
      have hrv' : rowv vs i = .slice (some ⟨h, 0, none⟩) m ch := by rw [hrv, HMm.out]; rfl
      rw [hrv'] at hci
      have HRv : Hid (rowv vs i = .slice (some ⟨h, 0, none⟩) m ch) := hrv'
      have HHc : Hid (∀ j, j < m → wr.cell? ⟨h, j, none⟩ = some (.int .i64 (box ms i j))) := fun j hj => hhc j (by rw [HMm.out] at hj; exact hj)
      have HHf : Hid (∀ j, wr.frozen? ⟨h, j, none⟩ = false) := hhf
      have HSh : Hid (S h) := HV.out.rs i HIm.out h (by rw [hrv']; rfl)
      clear hrv hrv' hhc hhf hcells hrp hfg
      go_wp2
      go_loop [8] (fun q => ∃ j : Nat, j ≤ m ∧ q = .int .i64 j ∧ Hid (∀ k, k < j → box ms i k ≤ y)) (fun q => m - (intOf q).toNat)
      case atStart => exact ⟨0, Nat.zero_le _, rfl, fun k hk => by omega⟩
      case round =>
        obtain ⟨j, hj, rfl, HP⟩ := hrel
        by_cases hjm : j < m
        · have hjm' : (j : Int) < (m : Int) := by omega
          have hcj := HHc.out j hjm
          obtain ⟨z, HZ⟩ : ∃ z, Hid (z = box ms i j) := ⟨_, rfl⟩
          rw [← HZ.out] at hcj
          by_cases hzy : z ≤ y
          · have HZY : Hid (z ≤ y) := hzy
            go_wp2
            go_round
            case rel => exact ⟨j + 1, by omega, by go_num, fun k hk => by
                          by_cases e : k = j
                          · subst e; rw [← HZ.out]; exact HZY.out
                          · exact HP.out k (by omega)⟩
            case measure => simp [intOf]; omega
          · have HZY : Hid (¬ z ≤ y) := hzy
            have hne : ((j : Int) == (m : Int)) = false := by simp; omega
            have hfj := HHf.out j
            have HSp : Hid (spot false y (row ms i) = j) := spot_is (by rw [← HMm.out]; omega) (fun k hk => by have q := HP.out k hk; unfold box at q; simp [passes] at q ⊢; exact q) (Or.inr (by have := HZY.out; rw [HZ.out] at this; unfold box at this; simp [passes] at this ⊢; exact this))
            have hon := ins_on HIm.out HSp.out (by rw [← HMm.out]; exact hjm)
            have HV2 : Hid (TblIn (wr.setCell ⟨h, j, none⟩ (.int .i64 y)).drew w.heap.size S (.slice (some ⟨g, 0, none⟩) ks.length c2) vs (ms.set i ((row ms i).set j y))) := (HV.out.storeBox HIm.out HRv.out HMm.out j y).same (fun _ _ => rfl)
            have HO2 : Hid (Off S w1 (wr.setCell ⟨h, j, none⟩ (.int .i64 y)).drew ∧ (wr.setCell ⟨h, j, none⟩ (.int .i64 y)).drew.heap.size = w1.heap.size) := ⟨(HO.out.1.setCell HSh.out _).drewN 1, by have := HO.out.2; simpa [World.drew] using this⟩
            have HR2 : Hid (∀ r ∈ ms.set i ((row ms i).set j y), 0 < r.length ∧ r.length ≤ 1000) := set_rows_len HR.out
            have HM2 : Hid (ins false x ks = (ms.set i ((row ms i).set j y)).take (i + 1) ++ ins false z ((ms.set i ((row ms i).set j y)).drop (i + 1)) ∧ insAt false x ks = insAt false z ((ms.set i ((row ms i).set j y)).drop (i + 1)) + (i + 1)) := by
              rw [HZ.out]
              exact ⟨HM.out.1.trans hon.1, by rw [HM.out.2, hon.2]; omega⟩
            clear hon
            go_wp2_with fail
            go_region
            go_wp2
            go_roundw
            case rel => exact ⟨i + 1, z, _, by omega, by go_num, rfl, by show _ = _; rw [List.length_set]; exact HLm.out, HV2, HO2, HR2, HM2⟩
            case measure => simp [intOf]; omega
        · obtain rfl : j = m := by omega
          have hne : ((j : Int) == (j : Int)) = true := by simp
          have hjm' : ¬ (j : Int) < (j : Int) := by omega
          have HSp : Hid (spot false y (row ms i) = (row ms i).length) := spot_is (Nat.le_refl _) (fun k hk => by have q := HP.out k (by rw [HMm.out]; exact hk); unfold box at q; simp [passes] at q ⊢; exact q) (Or.inl rfl)
          have hend := ins_end HIm.out HSp.out
          have HF : Hid (ms.set i (row ms i ++ [y]) = ins false x ks ∧ insAt false x ks = i) := ⟨by rw [HM.out.1, hend.1], by rw [HM.out.2, hend.2]; omega⟩
          have HRow : Hid (wr.ownsRow w.heap.size 3 1 (.slice (some ⟨h, 0, none⟩) j ch) ((row ms i).map (Value.int .i64)).length ((row ms i).map (Value.int .i64))) := by
            have := vals_of_owns (HV.out.t.rows i HIm.out)
            rw [HRv.out] at this; exact this
          have HLn : Hid (((row ms i).map (Value.int .i64)).length ≤ 1000) := by show _ ≤ _; rw [List.length_map, ← HMm.out]; exact hm1
          have HLo : Hid (w.heap.size ≤ wr.heap.size) := by rw [HO.out.2]; exact HB1.out.size
          clear hend
          go_wp2_with (at_builtin; refine append_one elem_int (x := .int .i64 y) rfl _ _ rfl rfl rfl rfl HRow.out rfl ?c1 ?c2 ?c3 ?_)
          case c1 => have := HLn.out; rw [List.length_map] at this; unfold maxLen; omega
          case c2 => have := HLn.out; rw [List.length_map] at this; omega
          case c3 => exact HLo.out
          intro v' w2 hO' hb' hk'
          have hO2 : Owns w2 w.heap.size v' (row ms i ++ [y]) := by unfold Owns; simpa using hO'
          rw [← HRv.out] at hk'
          obtain ⟨p1, p2⟩ := HV.out.setRow HIm.out hO2 hk'
          have hne2 : (rowv vs i).ownBlock ≠ some g := fun e => HV.out.t.off i HIm.out _ rfl e
          have hfz2 : w2.frozen? ⟨g, i, none⟩ = false := by rw [World.frozen?_of_block (hk'.block g hg2 hne2)]; exact hfgi
          have hcj2 : w2.cell? ⟨g, i, none⟩ = some (.slice (some ⟨h, 0, none⟩) j ch) := by rw [World.cell?_of_block (hk'.block g hg2 hne2)]; exact hci
          rw [HF.out.1] at p1
          have HP1 : Hid (Tbl (w2.setCell ⟨g, i, none⟩ v') w.heap.size (.slice (some ⟨g, 0, none⟩) ks.length c2) (ins false x ks)) := ⟨_, p1.t⟩
          have HP2 : Hid (Below w.heap.size w (w2.setCell ⟨g, i, none⟩ v')) := by
            have hoff : Off S wr (w2.setCell ⟨g, i, none⟩ v') := ⟨(hb'.mono (Nat.zero_le _)).setCell (p := ⟨g, i, none⟩) (Nat.zero_le _) _, p2⟩
            exact HB1.out.trans ((HO.out.1.below HB1.out.size HSl.out).trans (hoff.below HLo.out HSl.out))
          obtain ⟨av', nv', hv'⟩ := hO2.shape
          rw [List.length_append, List.length_singleton] at hv'
          subst hv'
          clear hO' hO2 hb' hk' hci hfgi p1 p2
          go_wp2
          go_ret2
          exact ⟨_, by rw [← HKs.out, HF.out.2]; rfl, by rw [← HKs.out]; exact HP1.out, HP2.out⟩
    · obtain rfl : i = ks.length := by omega
      have hov := ins_over (s := false) (x := y) (ls := ms)
      rw [HLm.out] at hov
      have HF : Hid (ms ++ [[y]] = ins false x ks ∧ insAt false x ks = ks.length) := ⟨by rw [HM.out.1, hov.1], by rw [HM.out.2, hov.2]; omega⟩
      clear hov
      have HO1 : Hid (Owns (wr.alloc (.cells #[.int .i64 y] 3)) wr.heap.size (.slice (some ⟨wr.heap.size, 0, none⟩) 1 1) [y]) := owns_new y
      have HBa : Hid (Below wr.heap.size wr (wr.alloc (.cells #[.int .i64 y] 3))) := (Below.refl _ wr).alloc (Nat.le_refl _) _
      have HSw : Hid (InS S w.heap.size wr) := fun k hk => by rw [HO.out.2]; exact HSl2.out k hk
      have HLv : Hid (vs.length = ks.length) := by show _ = _; rw [HV.out.t.len]; exact HLm.out
      have HLo : Hid (w.heap.size ≤ wr.heap.size) := by rw [HO.out.2]; exact HB1.out.size
      go_wp2_with (at_builtin; refine append_one elem_row (x := .slice (some ⟨wr.heap.size, 0, none⟩) 1 1) rfl _ _ rfl rfl rfl ?c0 (HV.out.same (fun k hk => HBa.out.block k (HSw.out k hk).2)).t.own rfl ?c1 ?c2 ?c3 ?_)
      case c0 => simp
      case c1 => have := HLv.out; unfold maxLen; omega
      case c2 => have := HLv.out; omega
      case c3 => have := HLo.out; have := HBa.out.size; omega
      intro v' w2 hO' hb' hk'
      have hO2 : w2.ownsRow w.heap.size 22 1 v' (vs ++ [Value.slice (some ⟨wr.heap.size, 0, none⟩) 1 1]).length (vs ++ [Value.slice (some ⟨wr.heap.size, 0, none⟩) 1 1]) := by simpa using hO'
      obtain ⟨p1, p2⟩ := HV.out.push HSw.out HLo.out HBa.out HO1.out hO2 hk'
      rw [HF.out.1] at p1
      have HP1 : Hid (Tbl w2 w.heap.size v' (ins false x ks)) := ⟨_, p1.t⟩
      have HP2 : Hid (Below w.heap.size w w2) := by
        have hoff : Off S wr w2 := ⟨((HBa.out.mono (Nat.zero_le _)).trans (hb'.mono (Nat.zero_le _))), p2⟩
        exact HB1.out.trans ((HO.out.1.below HB1.out.size HSl.out).trans (hoff.below HLo.out HSl.out))
      clear p1 p2 hO' hO2 hb' hk'
      go_wp2
      go_ret2
      exact ⟨_, by rw [← HKs.out, HF.out.2]; rfl, by rw [← HKs.out]; exact HP1.out, HP2.out⟩

end Go.Proofs.Ytpbmcaoomcippad
