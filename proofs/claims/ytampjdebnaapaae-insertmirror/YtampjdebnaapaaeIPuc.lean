/-
  The contract of insert.putInColumns.
-/
import Derived.Test.YtampjdebnaapaaeIPut
namespace Go.Proofs.Ytampjdebnaapaae
open Go.RowKit

set_option maxHeartbeats 4000000 in
theorem putInColumns_at {ls : List (List Int)} {lo : Nat} {S : Nat → Prop} (v : Value) (x : Int) (w : World) (hT : TIn w lo S v ls) (hS : InS S lo w) (hlo : lo ≤ w.heap.size) (hp : IsTab ls) :
    Calls Try.prog 22 #[v, .int .i64 x] w fun e w' => ∃ v' q, e = .returned (.tuple #[v', .int .i64 (insAt true x (cols ls) : Nat)]) ∧ TIn w' lo (Gr S w w') v' q ∧ Off S w w' ∧ Shp q ∧ cols q = ins true x (cols ls) := by
  obtain ⟨vs, hV⟩ := hT
  obtain ⟨a, cap, hsv⟩ := hV.t.shape
  subst hsv
  have HV0 : Hid (TblIn w lo S (.slice a ls.length cap) vs ls) := hV
  have HS : Hid (InS S lo w) := hS
  have HLo : Hid (lo ≤ w.heap.size) := hlo
  have HT : Hid (IsTab ls) := hp
  have h40 := hp.rows
  obtain ⟨wd, HWd⟩ : ∃ wd, Hid (wd = width ls) := ⟨_, rfl⟩
  have hwd : wd ≤ 40 := by rw [HWd.out]; exact width_le hp
  clear hV hS hlo hp
  go_enter Try.func22, Try.ntmps22
  go_wp2
  go_loopw [1, 6] (fun xv q wr => ∃ (j : Nat) (y : Int) (ms : List (List Int)), j ≤ wd ∧ q = .int .i64 j ∧ xv = .int .i64 y ∧ Hid (TblIn wr lo S (.slice a ls.length cap) vs ms) ∧ Hid (Off S w wr ∧ wr.heap.size = w.heap.size) ∧
    Hid (ColAt ls x ms y j)) (fun _ q _ => wd - (intOf q).toNat)
  case atStart => exact ⟨0, x, ls, Nat.zero_le _, rfl, rfl, HV0, ⟨Off.refl _ _, rfl⟩, ColAt.start HT.out x⟩
  case round =>
    obtain ⟨j, y, ms, hj, rfl, rfl, HV, HO, HC⟩ := hrel
    have HLm : Hid (ms.length = ls.length) := HC.out.len
    have HW : Hid (∀ i, (row ms i).length ≤ 40) := fun i => by
      rw [HC.out.lens]
      by_cases h : i < ls.length
      · exact HT.out.width h
      · rw [row_out (by omega)]; simp
    go_wp2
    go_loop [7] (fun q => ∃ i : Nat, i ≤ ls.length ∧ q = .int .i64 i ∧ Hid (∀ k, k < i → j < (row ms k).length ∧ box ms k j < y)) (fun q => ls.length - (intOf q).toNat)
    case atStart => exact ⟨0, Nat.zero_le _, rfl, fun k hk => by omega⟩
    case round =>
      obtain ⟨i, hi, rfl, HP⟩ := hrel
      by_cases hil : i < ls.length
      · have hil' : (i : Int) < (ls.length : Int) := by omega
        have hie : ((i : Int) == (ls.length : Int)) = false := by simp; omega
        have HIm : Hid (i < ms.length) := by rw [HLm.out]; exact hil
        obtain ⟨g, n0, c0, hsl, -, hg1, hg2, -, hcells⟩ := HV.out.t.head (by have := HIm.out; omega)
        simp only [Value.slice.injEq] at hsl
        obtain ⟨rfl, -, rfl⟩ := hsl
        have hci := hcells i HIm.out
        have hrp := HC.out.shp.one i HIm.out
        obtain ⟨h, ch, hrv, hh1, hh2, hhf, hhc⟩ := (HV.out.t.rows i HIm.out).head hrp
        obtain ⟨m, HMm⟩ : ∃ m, Hid (m = (row ms i).length) := ⟨_, rfl⟩
        have hm1 : m ≤ 40 := by rw [HMm.out]; exact HW.out i
        have hrv' : rowv vs i = .slice (some ⟨h, 0, none⟩) m ch := by rw [hrv, HMm.out]; rfl
        rw [hrv'] at hci
        have HRv : Hid (rowv vs i = .slice (some ⟨h, 0, none⟩) m ch) := hrv'
        have HHc : Hid (∀ j, j < m → wr.cell? ⟨h, j, none⟩ = some (.int .i64 (box ms i j))) := fun j hj => hhc j (by rw [HMm.out] at hj; exact hj)
        have hfj := hhf j
        have HSh : Hid (S h) := HV.out.rs i HIm.out h (by rw [hrv']; rfl)
        clear hrv hrv' hhc hhf hcells hrp
        by_cases hjm : j < m
        · have hjm' : (j : Int) < (m : Int) := by omega
          have hge : decide ((j : Int) ≥ (m : Int)) = false := by simp; omega
          have HJm : Hid (j < (row ms i).length) := by rw [← HMm.out]; exact hjm
          have hcj := HHc.out j hjm
          obtain ⟨z, HZ⟩ : ∃ z, Hid (z = box ms i j) := ⟨_, rfl⟩
          rw [← HZ.out] at hcj
          by_cases hzy : z < y
          · have HZY : Hid (z < y) := hzy
            go_wp2
            go_round
            case rel => exact ⟨i + 1, by omega, by go_num, fun k hk => by
                          by_cases e : k = i
                          · subst e; exact ⟨HJm.out, by rw [← HZ.out]; exact HZY.out⟩
                          · exact HP.out k (by omega)⟩
            case measure => simp [intOf]; omega
          · have HZY : Hid (¬ z < y) := hzy
            have HN := HC.out.next HT.out HJm.out (fun k hk => (HP.out k hk).2) (by rw [← HZ.out]; exact HZY.out)
            have HC2 : Hid (ColAt ls x (ms.set i ((row ms i).set j y)) z (j + 1)) := by rw [HZ.out]; exact HN
            have HV2 : Hid (TblIn (wr.setCell ⟨h, j, none⟩ (.int .i64 y)).drew lo S (.slice (some ⟨g, 0, none⟩) ls.length cap) vs (ms.set i ((row ms i).set j y))) := (HV.out.storeBox HIm.out HRv.out HMm.out j y).same (fun _ _ => rfl)
            have HO2 : Hid (Off S w (wr.setCell ⟨h, j, none⟩ (.int .i64 y)).drew ∧ (wr.setCell ⟨h, j, none⟩ (.int .i64 y)).drew.heap.size = w.heap.size) := ⟨(HO.out.1.setCell HSh.out _).drewN 1, by have := HO.out.2; simpa [World.drew] using this⟩
            have hj2 : j + 1 ≤ wd := by rw [HWd.out]; exact HC2.out.wide
            clear HN
            go_wp2_with fail
            go_region
            go_wp2
            go_roundw
            case rel => exact ⟨j + 1, z, _, hj2, by go_num, rfl, HV2, HO2, HC2⟩
            case measure => simp [intOf]; omega
        · have hjm' : ¬ (j : Int) < (m : Int) := by omega
          have hge : decide ((j : Int) ≥ (m : Int)) = true := by simp; omega
          have HF : Hid (Shp (lng ms i y) ∧ cols (lng ms i y) = ins true x (cols ls) ∧ insAt true x (cols ls) = j) := HC.out.stop (Nat.le_of_lt HIm.out) (by rw [← HMm.out]; exact hjm) HP.out
          go_wp2_with (go_at_call 23; refine (lengthened_at _ i y wr ⟨vs, HV.out⟩ (fun k hk => by rw [HO.out.2]; exact HS.out k hk) (by rw [HO.out.2]; exact HLo.out) (Nat.le_of_lt HIm.out) (by rw [HLm.out]; omega) (fun r hr => by obtain ⟨k, hk, rfl⟩ := mem_row hr; have := HW.out k; omega)).mono ?_; rintro e w2 ⟨v', rfl, hT2, hO2⟩)
          have HT2 : Hid (TIn w2 lo (Gr S w w2) v' (lng ms i y)) := by
            refine hT2.grow (fun k hk => ?_)
            unfold Gr at hk ⊢
            rw [HO.out.2] at hk; exact hk
          have HO3 : Hid (Off S w w2) := by
            refine HO.out.1.trans ⟨hO2.low, fun k hk hs => hO2.block k hk (fun q => hs (Or.inl q))⟩
          clear hT2 hO2
          go_wp2
          go_ret2
          exact ⟨_, _, by rw [HF.out.2.2]; rfl, HT2.out, HO3.out, HF.out.1, HF.out.2.1⟩
      · obtain rfl : i = ls.length := by omega
        have hie : ((ls.length : Int) == (ls.length : Int)) = true := by simp
        have HF : Hid (Shp (lng ms ls.length y) ∧ cols (lng ms ls.length y) = ins true x (cols ls) ∧ insAt true x (cols ls) = j) := HC.out.stop (by rw [HLm.out]; exact Nat.le_refl _) (by rw [row_out (by rw [HLm.out]; exact Nat.le_refl _)]; simp) HP.out
        go_wp2_with (go_at_call 23; refine (lengthened_at _ ls.length y wr ⟨vs, HV.out⟩ (fun k hk => by rw [HO.out.2]; exact HS.out k hk) (by rw [HO.out.2]; exact HLo.out) (by rw [HLm.out]; exact Nat.le_refl _) (by rw [HLm.out]; omega) (fun r hr => by obtain ⟨k, hk, rfl⟩ := mem_row hr; have := HW.out k; omega)).mono ?_; rintro e w2 ⟨v', rfl, hT2, hO2⟩)
        have HT2 : Hid (TIn w2 lo (Gr S w w2) v' (lng ms ls.length y)) := by
          refine hT2.grow (fun k hk => ?_)
          unfold Gr at hk ⊢
          rw [HO.out.2] at hk; exact hk
        have HO3 : Hid (Off S w w2) := by
          refine HO.out.1.trans ⟨hO2.low, fun k hk hs => hO2.block k hk (fun q => hs (Or.inl q))⟩
        clear hT2 hO2
        go_wp2
        go_ret2
        exact ⟨_, _, by rw [HF.out.2.2]; rfl, HT2.out, HO3.out, HF.out.1, HF.out.2.1⟩

end Go.Proofs.Ytampjdebnaapaae
