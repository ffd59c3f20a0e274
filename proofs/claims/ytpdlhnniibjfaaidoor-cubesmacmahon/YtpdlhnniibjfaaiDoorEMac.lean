/-
  The law ferkeep.CubesMacmahon.
-/
import Derived.Test.YtpdlhnniibjfaaiDoorEMam
import Derived.Test.YtpdlhnniibjfaaiDoorEIto
import Derived.Test.YtpdlhnniibjfaaiDoorECnt
import Derived.Test.YtpdlhnniibjfaaiDoorESer
import Derived.Test.YtpdlhnniibjfaaiDoorEPin
import Derived.Test.YtpdlhnniibjfaaiDoorDVol
import Derived.Deep.RegionWith
namespace Go.Proofs.YtpdlhnniibjfaaiDoor
open Go.RowKit

theorem numT20 : numT 20 = [50, 48] := by
  rw [numT_small (by omega), Lib.decDigits, dif_neg (by omega), Lib.decDigits, dif_pos (by omega)]; rfl
theorem serN_small (m : Nat) : serN m ≤ 24 := by unfold serN; split <;> omega
theorem totS_ser : ∀ m, m < 6 → (totS m).getD m 0 = serN m := by decide +kernel
theorem totS_bd : ∀ m, m < 6 → ∀ t, (totS m).getD t 0 < 9223372036854775808 := by
  have h : ∀ m, m < 6 → ∀ z ∈ totS m, z < 100 := by decide +kernel
  intro m hm t
  by_cases ht : t < (totS m).length
  · have := h m hm _ (show (totS m).getD t 0 ∈ totS m by simp [List.getD, List.getElem?_eq_getElem ht])
    omega
  · simp [List.getD, List.getElem?_eq_none (Nat.le_of_not_lt ht)]

set_option maxHeartbeats 20000000 in
set_option maxRecDepth 100000 in
theorem cmac_at (a b c n : Int) (w : World) (hb : ∀ z ∈ [a, b, c, n], -9223372036854775808 ≤ z ∧ z ≤ 9223372036854775807) (htab : Lib.TabIs Tryd.prog w "internal/strconv.uint64pow10" .u64 Lib.pow10Tab) :
    Calls Tryd.prog 4 #[.int .i64 a, .int .i64 b, .int .i64 c, .int .i64 n] w fun e w' => e = .returned (.bool true) ∧ Below w.heap.size w w' := by
  have HTab : Hid (∀ W, Below w.heap.size w W → Lib.TabIs Tryd.prog W "internal/strconv.uint64pow10" .u64 Lib.pow10Tab) := fun W hW => Lib.tabBelow_of_tabIs htab W hW
  have HBd : Hid (∀ z ∈ [a, b, c, n], -9223372036854775808 ≤ z ∧ z ≤ 9223372036854775807) := hb
  have HC0 : Hid (Calls Tryd.prog 18 #[.int .i64 2, .int .i64 2, .int .i64 2] w fun e w' => e = .returned (.tuple #[.string ⟨#[50, 48]⟩, .int .i64 0]) ∧ Hid (Below w.heap.size w w')) := by
    have h := CbCount_ok 2 2 2 w (by omega) (by omega) (by omega) htab
    rw [mN222, numT20] at h
    exact h
  clear hb htab
  by_cases hout : min (min a b) c < 0 ∨ 20 < max (max a b) c
  · have HO : Hid (min (min a b) c < 0 ∨ 20 < max (max a b) c) := hout
    clear hout
    go_enter Tryd.func4, Tryd.ntmps4
    go_wp2_with fail
    refine HC0.out.mono ?_
    rintro e w1 ⟨rfl, HB1⟩
    have HC1 := hid_w (CbCount_no a b c w1 HO.out)
    clear HC0 HO
    go_wp2_with fail
    refine HC1.out.mono ?_
    rintro e w2 ⟨rfl, hw2⟩
    obtain rfl : w1 = w2 := hw2.symm
    go_wp2
    go_ret
    exact ⟨rfl, HB1.out⟩
  · obtain ⟨A, rfl⟩ : ∃ A : Nat, a = (A : Int) := ⟨a.toNat, by omega⟩
    obtain ⟨B, rfl⟩ : ∃ B : Nat, b = (B : Int) := ⟨b.toNat, by omega⟩
    obtain ⟨C, rfl⟩ : ∃ C : Nat, c = (C : Int) := ⟨c.toNat, by omega⟩
    have hA : A ≤ 20 := by omega
    have hB : B ≤ 20 := by omega
    have hC : C ≤ 20 := by omega
    clear hout
    obtain ⟨s, HSs⟩ : ∃ s : ByteArray, Hid (s = ⟨(numT (mN A B C)).toArray⟩) := ⟨_, rfl⟩
    have HC1 : Hid (∀ W, Below w.heap.size w W → Calls Tryd.prog 18 #[.int .i64 (A : Int), .int .i64 (B : Int), .int .i64 (C : Int)] W fun e w' => e = .returned (.tuple #[.string s, .int .i64 0]) ∧ Hid (Below W.heap.size W w')) := fun W hW => by
      rw [HSs.out]; exact CbCount_ok A B C W hA hB hC (HTab.out W hW)
    have HC2 : Hid (∀ W, Below w.heap.size w W → Calls Tryd.prog 18 #[.int .i64 (C : Int), .int .i64 (A : Int), .int .i64 (B : Int)] W fun e w' => e = .returned (.tuple #[.string s, .int .i64 0]) ∧ Hid (Below W.heap.size W w')) := fun W hW => by
      rw [HSs.out, ← mN_turn]; exact CbCount_ok C A B W hC hA hB (HTab.out W hW)
    have HC3 : Hid (∀ W, Below w.heap.size w W → Calls Tryd.prog 18 #[.int .i64 (B : Int), .int .i64 (A : Int), .int .i64 (C : Int)] W fun e w' => e = .returned (.tuple #[.string s, .int .i64 0]) ∧ Hid (Below W.heap.size W w')) := fun W hW => by
      rw [HSs.out, ← mN_mir]; exact CbCount_ok B A C W hB hA hC (HTab.out W hW)
    go_enter Tryd.func4, Tryd.ntmps4
    go_wp2_with fail
    refine HC0.out.mono ?_
    rintro e w1 ⟨rfl, HB1⟩
    clear HC0
    have HCc := hid_w (HC1.out w1 HB1.out)
    go_wp2_with fail
    refine HCc.out.mono ?_
    rintro e w2 ⟨rfl, Hb2⟩
    have HB2 : Hid (Below w.heap.size w w2) := HB1.out.trans (Hb2.out.mono HB1.out.size)
    clear HCc HC1 Hb2 HB1
    have HCc := hid_w (HC2.out w2 HB2.out)
    go_wp2_with fail
    refine HCc.out.mono ?_
    rintro e w3 ⟨rfl, Hb3⟩
    have HB3 : Hid (Below w.heap.size w w3) := HB2.out.trans (Hb3.out.mono HB2.out.size)
    clear HCc HC2 Hb3 HB2
    have HCc := hid_w (HC3.out w3 HB3.out)
    go_wp2_with fail
    refine HCc.out.mono ?_
    rintro e w4 ⟨rfl, Hb4⟩
    have HB4 : Hid (Below w.heap.size w w4) := HB3.out.trans (Hb4.out.mono HB3.out.size)
    clear HCc HC3 Hb4 HB3
    have HPk : Hid (∀ W, Calls Tryd.prog 21 #[.int .i64 n, .int .i64 6] W fun e w' => ∃ m : Nat, e = .returned (.int .i64 m) ∧ m < 6 ∧ w' = W) := fun W => Pick_e n 6 W (HBd.out n (by simp)) (by omega) (by omega)
    by_cases hS : sides [(A : Int), (B : Int), (C : Int)]
    · have hS' : (1 ≤ A ∧ A ≤ 8) ∧ (1 ≤ B ∧ B ≤ 8) ∧ (1 ≤ C ∧ C ≤ 8) := by simp [sides] at hS; omega
      obtain ⟨⟨a1, a8⟩, ⟨b1, b8⟩, ⟨c1, c8⟩⟩ := hS'
      clear hS
      have HAl := hid_w (CbAll_ok A B C w4 a1 a8 b1 b8 c1 c8)
      go_wp2_with fail
      refine HAl.out.mono ?_
      rintro e w5 ⟨v, q, rfl, HR, Hb5⟩
      have HB5 : Hid (Below w.heap.size w w5) := HB4.out.trans (Hb5.out.mono HB4.out.size)
      clear HAl
      rcases HR.out with ⟨rfl, hN, al, cl, us, rfl, hPl⟩ | ⟨rfl, -, rfl⟩
      · obtain ⟨N, HN⟩ : ∃ N, Hid (N = (sr B C (A * B) []).length) := ⟨_, rfl⟩
        rw [← HN.out] at hN hPl
        have HPl : Hid (Pls w5 w4.heap.size A B (.slice al N cl) us (sr B C (A * B) [])) := hPl
        rw [show (sr B C (A * B) []).length = N from HN.out.symm]
        have HIt : Hid (Calls Tryd.prog 20 #[.int .i64 (N : Int)] w5 fun e w' => e = .returned (.string s) ∧ Hid (Below w5.heap.size w5 w')) := by
          have h := Itoa_e N (by omega) w5 (HTab.out w5 HB5.out)
          rw [HSs.out, mN_len b1, ← HN.out]; exact h
        clear hPl HR
        go_wp2_with fail
        refine HIt.out.mono ?_
        rintro e w6 ⟨rfl, Hb6⟩
        have HB6 : Hid (Below w.heap.size w w6) := HB5.out.trans (Hb6.out.mono HB5.out.size)
        clear HIt
        go_wp2_with fail
        refine (HPk.out w6).mono ?_
        rintro e w7 ⟨m, rfl, hm, hw7⟩
        obtain rfl : w6 = w7 := hw7.symm
        clear hw7 HPk
        have hmn := min3_run #[3, 3, 3] 3 (A : Int) (B : Int) (C : Int)
        obtain ⟨mn, HMn⟩ : ∃ mn, Hid (mn = min (min (A : Int) (B : Int)) (C : Int)) := ⟨_, rfl⟩
        rw [← HMn.out] at hmn
        by_cases hml : mn < (m : Int)
        · go_wp2
          go_ret
          exact ⟨rfl, HB6.out⟩
        · have HMin : Hid (m ≤ min A (min B C)) := by show _ ≤ _; have := HMn.out; omega
          have HEl : Hid (∀ W, Below w5.heap.size w5 W → ∀ i, i < N → ∃ gL ai ni ci, al = some ⟨gL, 0, none⟩ ∧ W.cell? ⟨gL, i, none⟩ = some (.slice ai ni ci) ∧ Table W ai (tb A B (fXm B ((sr B C (A * B) []).getD i []))) ∧ ni = A) := fun W hW i hi => by
            obtain ⟨q1, q2, q3⟩ := HPl.out
            have hiL : i < (sr B C (A * B) []).length := by rw [← HN.out]; exact hi
            have hun : us.length = N := by rw [q2, HN.out]
            obtain ⟨x, y, x1, x2, x3, x4⟩ := q3 i hiL
            have hmem : (sr B C (A * B) []).getD i [] ∈ sr B C (A * B) [] := by simp [List.getD, List.getElem?_eq_getElem hiL]
            have hp := (sr_pil a1 a8 b1 b8 c1 c8 hmem).2
            obtain ⟨ai, ni, ci, e1, hT, HNi⟩ := (x4 W (fun j j1 j2 => hW.block j (by omega))).table (tb_wf (by omega) (by omega : C ≤ 1000) hp.le)
            have q1' := q1
            rw [hun] at q1'
            rcases q1'.2 with ⟨hv, h0⟩ | ⟨gL, capL, cur, hv, hg, hh, _⟩
            · omega
            · simp only [Value.slice.injEq] at hv
              obtain ⟨rfl, -, -⟩ := hv
              refine ⟨gL, ai, ni, ci, rfl, ?_, hT, by rw [HNi.out, tb_len]⟩
              have hlt := (q1'.lt gL rfl).2
              rw [hW.cell (p := ⟨gL, i, none⟩) hlt, World.ownsRow.cellAt q1' i (by omega), rowv_get (by rw [hun]; exact hi), e1]
          have HVl : Hid (∀ W i ai ci, i < N → Table W ai (tb A B (fXm B ((sr B C (A * B) []).getD i []))) → Calls Tryd.prog 22 #[.slice ai A ci, .int .i64 (C : Int)] W fun e w' => e = .returned (.tuple #[.int .i64 (((sr B C (A * B) []).getD i []).sum : Nat), .int .i64 0]) ∧ Hid (Below W.heap.size W w')) := fun W i ai ci hi hT => by
            have hiL : i < (sr B C (A * B) []).length := by rw [← HN.out]; exact hi
            have hmem : (sr B C (A * B) []).getD i [] ∈ sr B C (A * B) [] := by simp [List.getD, List.getElem?_eq_getElem hiL]
            obtain ⟨hl, hp⟩ := sr_pil a1 a8 b1 b8 c1 c8 hmem
            have h := Volume_ok ai A ci A B C _ W hT rfl hp
            rw [vol_sum hl] at h
            exact h
          go_wp2_with fail
          go_loopw [19, 106] (fun kv qv wr => ∃ i k : Nat, i ≤ N ∧ k ≤ i ∧ qv = .int .i64 i ∧ kv = .int .i64 k ∧ Hid (k = (((sr B C (A * B) []).take i).filter fun Y => decide (Y.sum = m)).length) ∧ Hid (Below w5.heap.size w5 wr)) (fun _ qv _ => N - (intOf qv).toNat)
          case atStart => exact ⟨0, 0, Nat.zero_le _, Nat.le_refl _, rfl, rfl, rfl, Hb6⟩
          case round =>
            clear hmn
            obtain ⟨i, k, hi, hk, rfl, rfl, HK, Hbi⟩ := hrel
            by_cases hil : i < N
            · have hil' : (i : Int) < (N : Int) := by omega
              obtain ⟨gL, ai, ni, ci, hal, hcell, hT, hni⟩ := HEl.out wr Hbi.out i hil
              subst hal
              subst hni
              obtain ⟨u, HU⟩ : ∃ u, Hid (u = ((sr B C (ni * B) []).getD i []).sum) := ⟨_, rfl⟩
              have HVc := hid_w (HVl.out wr i ai ci hil hT)
              rw [← HU.out] at HVc
              have HTk : Hid (((sr B C (ni * B) []).take (i + 1)).filter (fun Y => decide (Y.sum = m)) = ((sr B C (ni * B) []).take i).filter (fun Y => decide (Y.sum = m)) ++ if u = m then [(sr B C (ni * B) []).getD i []] else []) := by
                show _ = _
                have hiL : i < (sr B C (ni * B) []).length := by rw [← HN.out]; exact hil
                have e0 : (sr B C (ni * B) []).getD i [] = (sr B C (ni * B) [])[i] := by simp [List.getD, List.getElem?_eq_getElem hiL]
                rw [List.take_succ_eq_append_getElem hiL, List.filter_append, ← e0]
                congr 1
                by_cases e : u = m
                · rw [if_pos e, List.filter_cons_of_pos (by rw [← HU.out]; simpa using e)]; rfl
                · rw [if_neg e, List.filter_cons_of_neg (by rw [← HU.out]; simpa using e)]; rfl
              clear hT
              go_wp2_with fail
              refine HVc.out.mono ?_
              rintro e w8 ⟨rfl, Hb8⟩
              have Hbn : Hid (Below w5.heap.size w5 w8) := Hbi.out.trans (Hb8.out.mono Hbi.out.size)
              clear HVc hcell
              by_cases hum : u = m
              · have hume : ((u : Int) == (m : Int)) = true := by simp; omega
                have HK3 : Hid (k + 1 = (((sr B C (ni * B) []).take (i + 1)).filter fun Y => decide (Y.sum = m)).length) := by
                  show _ = _; rw [HTk.out, if_pos hum, List.length_append, ← HK.out]; rfl
                clear hum
                go_wp2
                go_roundw
                case rel => exact ⟨i + 1, k + 1, by omega, by omega, by go_num, by go_num, HK3, Hbn⟩
                case measure => simp [intOf]; omega
              · have hume : ((u : Int) == (m : Int)) = false := by simp; omega
                have HK3 : Hid (k = (((sr B C (ni * B) []).take (i + 1)).filter fun Y => decide (Y.sum = m)).length) := by
                  show _ = _; rw [HTk.out, if_neg hum, List.append_nil, ← HK.out]
                clear hum
                go_wp2
                go_roundw
                case rel => exact ⟨i + 1, k, by omega, by omega, by go_num, rfl, HK3, Hbn⟩
                case measure => simp [intOf]; omega
            · obtain rfl : i = N := by omega
              have HKs : Hid (k = serN m) := by
                show _ = _
                rw [HK.out, HN.out, List.take_length]
                exact few_cubes a1 a8 b1 b8 c1 c8 hm (by rw [← HN.out]; exact hN) HMin.out
              have hk24 : k ≤ 24 := by rw [HKs.out]; exact serN_small m
              have HBi : Hid (Below w.heap.size w wr) := HB5.out.trans (Hbi.out.mono HB5.out.size)
              have HSe := hid_w (CbSeries_ok m wr (by omega) (totS_bd m hm) (HTab.out wr HBi.out))
              clear HEl HVl HPl
              go_wp2_with fail
              refine HSe.out.mono ?_
              rintro e w9 ⟨X, rfl, HSr, Hb9⟩
              have HB9 : Hid (Below w.heap.size w w9) := HBi.out.trans (Hb9.out.mono HBi.out.size)
              obtain ⟨t, HTt⟩ : ∃ t, Hid (t = srT m m) := ⟨_, rfl⟩
              have hcd : w9.cell? ⟨X, m, none⟩ = some (.string t) := by rw [HTt.out]; exact (HSr.out.cell (i := m) (by omega)).1
              have HI3 : Hid (∀ W, Calls Tryd.prog 20 #[.int .i64 (k : Int)] W fun e w' => e = .returned (.string t) ∧ w' = W) := fun W => by
                have h := Go.Proofs.Tryd.strconv_Itoa_small k (by omega) W
                rw [HTt.out]; unfold srT; rw [totS_ser m hm, ← HKs.out]; exact h
              have hm1 : (m : Int) < (m : Int) + 1 := by omega
              go_wp2_with fail
              go_quiet ((go_at_call 20; exact Calls.quiet_of_same (HI3.out _)))
              go_wp2
              go_ret
              exact ⟨rfl, below_drewN HB9.out _⟩
      · clear HR
        go_wp2_with fail
        refine (HPk.out w5).mono ?_
        rintro e w6 ⟨m, rfl, hm, hw6⟩
        obtain rfl : w5 = w6 := hw6.symm
        clear hw6
        go_wp2
        go_ret
        exact ⟨rfl, HB5.out⟩
    · have HAl := hid_w (CbAll_no (A : Int) (B : Int) (C : Int) w4 (fun z hz => HBd.out z (by simp at hz ⊢; rcases hz with h | h | h <;> simp [h])) hS)
      clear hS
      go_wp2_with fail
      refine HAl.out.mono ?_
      rintro e w5 ⟨rfl, Hb5⟩
      have HB5 : Hid (Below w.heap.size w w5) := HB4.out.trans (Hb5.out.mono HB4.out.size)
      clear HAl
      go_wp2_with fail
      refine (HPk.out w5).mono ?_
      rintro e w6 ⟨m, rfl, hm, hw6⟩
      obtain rfl : w5 = w6 := hw6.symm
      clear hw6
      go_wp2
      go_ret
      exact ⟨rfl, HB5.out⟩

end Go.Proofs.YtpdlhnniibjfaaiDoor
