/-
  The contract of ferref.Cycles.
-/
import Derived.Test.YtnjbkiegeielhabFTab
namespace Go.Proofs.Ytnjbkiegeielhab
open Go.RowKit

set_option maxHeartbeats 4000000 in
theorem Cycles_ok (a : Option Addr) (cap : Nat) (zs : List Int) (w : World) (hs : Shows w a zs) (hp : IsPerm zs) (cs : List (List Int)) (hcs : Blocks zs cs) :
    Calls Try.prog 32 #[.slice a zs.length cap] w fun e w' => ∃ v, e = .returned v ∧ Tab w' w.heap.size v cs ∧ Below w.heap.size w w' := by
  have HCS : Hid (Blocks zs cs) := hcs
  clear hcs
  have HP : Hid (IsPerm zs) := hp
  have h40 := hp.len
  clear hp
  obtain ⟨g, hg⟩ : ∃ g, g = w.heap.size := ⟨_, rfl⟩
  go_enter Try.func32, Try.ntmps32
  go_wp2_with fail
  rw [← hg]
  have HA0 : Hid (ArrI (w.alloc (.cells (cellsI (fun _ => false)) 54)) g (fun _ => false)) := by
    rw [hg]
    show (w.heap.push _)[w.heap.size]? = _
    rw [Array.getElem?_push_size]
  have HG : Hid (w.heap.size ≤ g) := by rw [hg]; exact Nat.le_refl _
  clear hg
  go_loopw [3, 5] (fun v i wr => ∃ (k : Nat) (f : Nat → Bool) (bs : List (List Int)), k ≤ zs.length ∧ i = .int .i64 (k : Int) ∧ Hid (DownTo zs k bs) ∧ Hid (Marks zs f bs) ∧ Hid (Shut zs f) ∧ Hid (bs.length + k ≤ 40) ∧ Hid (ArrI wr g f) ∧ Hid (Tab wr (g + 1) v bs) ∧ Hid (Below w.heap.size w wr)) (fun _ i _ => (intOf i).toNat)
  case atStart => exact ⟨zs.length, fun _ => false, [], Nat.le_refl _, rfl, DownTo.top HP.out, Marks.none zs, fun _ _ _ => rfl, by show 0 + zs.length ≤ 40; omega, HA0, Tab.nil _ _, (Below.refl _ _).alloc (Nat.le_refl _) _⟩
  case round =>
    obtain ⟨k, f, bs, hk, rfl, HD, HMk, HSh, HL, HA, HT, HB⟩ := hrel
    by_cases hk0 : k = 0
    · subst hk0
      have HBl : Hid (bs = cs) := (HD.out.blocks HP.out).uniq HP.out HCS.out
      have HTc : Hid (Tab wr w.heap.size u3 cs) := by rw [← HBl.out]; exact HT.out.mono (by have := HG.out; omega)
      go_wp2
      go_ret
      exact ⟨_, rfl, HTc.out, HB.out⟩
    · obtain ⟨K, hK⟩ : ∃ K, K = k - 1 := ⟨_, rfl⟩
      have HK : Hid (k = K + 1) := by show _ = _; omega
      have hk1 : 1 ≤ k := by omega
      have hge : (1 : Int) ≤ (k : Int) := by omega
      have hge2 : decide ((k : Int) ≥ 1) = true := by simp; omega
      have hk41 : k < 41 := by omega
      have hk41' : (k : Int) < 41 := by omega
      have hwk : IntKind.i64.wrap ((k : Int) - 1) = (K : Int) := by rw [IntWalk.i64_left, IntWalk.wrap64_in _ (by omega)]; omega
      have HKl : Hid (K < zs.length ∧ K ≤ zs.length) := by refine ⟨?_, ?_⟩ <;> omega
      have HD2 : Hid (DownTo zs (K + 1) bs) := by rw [← HK.out]; exact HD.out
      have hkl : k ≤ zs.length := hk
      clear hk0 hK hk
      cases hfi : f k with
      | true =>
        have hcs : wr.cell? ⟨g, k, none⟩ = some (.int .i64 1) := by rw [HA.out.cell hk41, hfi]; rfl
        have HFi : Hid (f (K + 1) = true) := by show _ = _; rw [← HK.out]; exact hfi
        clear hfi
        go_wp2
        go_roundw
        case rel => exact ⟨K, f, bs, HKl.out.2, rfl, HD2.out.same (head_old HD2.out HMk.out HKl.out.1 HFi.out), HMk, HSh, by have := HL.out; have := HK.out; show _ ≤ _; omega, HA, HT, HB⟩
        case measure => have := HK.out; simp [intOf]; omega
      | false =>
        have hcs : wr.cell? ⟨g, k, none⟩ = some (.int .i64 0) := by rw [HA.out.cell hk41, hfi]; rfl
        have HFi : Hid (f k = false) := hfi
        have HKI : Hid ((k : Int) = (K : Int) + 1) := by have := HK.out; show _ = _; omega
        obtain ⟨m, hT⟩ := turns_ex HP.out (n := (k : Int)) (by omega) (by omega)
        have HTu : Hid (Turns zs (k : Int) m) := hT
        have hm40 : m ≤ zs.length := hT.2.1
        have HBk : Hid (Block zs (path zs (k : Int) m)) := by
          have h1 := HTu.out
          show Block _ _
          rw [HKI.out] at h1 ⊢
          exact head_new HP.out HD2.out HMk.out HKl.out.1 (by rw [← HK.out]; exact HFi.out) h1
        clear hfi hT
        obtain ⟨W0, hW0⟩ : ∃ W0 : World, W0 = wr := ⟨wr, rfl⟩
        subst hW0
        obtain ⟨H, HH⟩ : ∃ H, Hid (H = W0.heap.size) := ⟨_, rfl⟩
        have HgH : Hid (g < H) := by rw [HH.out]; exact (Array.getElem?_eq_some_iff.1 HA.out).1
        have HwH : Hid (w.heap.size ≤ H) := by rw [HH.out]; exact HB.out.size
        go_wp2_with fail
        go_loopw [6, 7] (fun l x wp => ∃ (j J : Nat), j ≤ m ∧ x = .int .i64 (J : Int) ∧ J < 41 ∧ 1 ≤ J ∧ J ≤ zs.length ∧ Hid (iter zs (k : Int) j = (J : Int)) ∧ Hid (ArrI wp g (seenTo zs f (k : Int) j)) ∧ Hid (Owns wp H l (path zs (k : Int) j)) ∧ Hid (lenOf l = j) ∧ Hid (Mid g H W0 wp) ∧ Hid (Below w.heap.size w wp)) (fun l _ _ => m - lenOf l)
        case atStart => exact ⟨0, k, Nat.zero_le _, rfl, hk41, hk1, hkl, rfl, HA.out.congr (fun j _ => seenTo_zero zs f _ j), World.ownsRow_nil _ _ _ _, rfl, Mid.refl _ _ _, HB⟩
        case round =>
          obtain ⟨j, J, hj, rfl, hJ, hJ1, hJ2, HIt, HAj, HOj, HLn, HMj, HBj⟩ := hrel
          have hJ' : (J : Int) < 41 := by omega
          have hfJ := HAj.out.frozen J
          have HSz : Hid (H ≤ wr.heap.size) := by have := HMj.out.1; rw [← HH.out] at this; exact this
          by_cases hjm : j < m
          · have HNew : Hid (seenTo zs f (k : Int) j J = false) := seenTo_new HP.out HSh.out (by omega) (by omega) HTu.out hjm (by simpa using HFi.out) HIt.out
            have hcJ : wr.cell? ⟨g, J, none⟩ = some (.int .i64 0) := by rw [HAj.out.cell hJ, HNew.out]; rfl
            have HAn : Hid (ArrI (wr.setCell ⟨g, J, none⟩ (.int .i64 1)) g (seenTo zs f (k : Int) (j + 1))) := (HAj.out.store J).congr (fun x _ => seenTo_step HIt.out x)
            have HBn : Hid (Below w.heap.size w (wr.setCell ⟨g, J, none⟩ (.int .i64 1))) := HBj.out.setCell HG.out _
            have HMn : Hid (Mid g H W0 (wr.setCell ⟨g, J, none⟩ (.int .i64 1))) := HMj.out.setCell J _
            have HOn : Hid (Owns (wr.setCell ⟨g, J, none⟩ (.int .i64 1)) H u6 (path zs (k : Int) j)) := ownsRow_same HOj.out (fun q hq _ => by
              have hne : q ≠ g := by have := HgH.out; omega
              exact heap_setCell_other _ _ _ _ hne)
            have HZn : Hid ((wr.setCell ⟨g, J, none⟩ (.int .i64 1)).heap.size = wr.heap.size) := by show _ = _; simp
            have HJM : Hid (j < m) := hjm
            clear hjm
            go_wp2_with (at_builtin; refine append_int_at (N := wr.heap.size) (x := (J : Int)) rfl _ _ rfl rfl rfl HZn.out.symm HOn.out ?c1 ?c2 ?_)
            case c1 => rw [path_length]; omega
            case c2 => rw [HZn.out]; exact HSz.out
            intro v' w4 hO4 hb4 _
            have HO4 : Hid (Owns w4 H v' (path zs (k : Int) (j + 1))) := by show Owns _ _ _ _; rw [path_succ, HIt.out]; exact hO4
            have HL4 : Hid (lenOf v' = j + 1) := by
              obtain ⟨a2, c2, h2⟩ := HO4.out.shape
              rw [path_length] at h2
              show _ = _; rw [h2]; rfl
            have HB4 : Hid (Below w.heap.size w w4) := HBn.out.trans (hb4.mono HwH.out)
            have HM4 : Hid (Mid g H W0 w4) := HMn.out.below hb4
            have HA4 : Hid (ArrI w4 g (seenTo zs f (k : Int) (j + 1))) := HAn.out.same (hb4.block g HgH.out)
            clear hO4 hb4
            obtain ⟨I, hI⟩ : ∃ I, I = J - 1 := ⟨_, rfl⟩
            have hIl : I < zs.length := by omega
            have hIl' : (I : Int) < (zs.length : Int) := by omega
            obtain ⟨b0, off0, z, hab, HZ, -, -, hcz⟩ := (hs.below HB4.out).elem hIl
            subst hab
            have hzb := HP.out.bounds hIl
            rw [← HZ.out] at hzb
            obtain ⟨J2, rfl⟩ : ∃ J2 : Nat, z = (J2 : Int) := ⟨z.toNat, by omega⟩
            have HIt2 : Hid (iter zs (k : Int) (j + 1) = (J2 : Int)) := by
              show app zs (iter zs (k : Int) j) = _
              rw [HIt.out]; unfold app; rw [HZ.out, show ((J : Int)).toNat - 1 = I by omega]
            have hw1 : IntKind.i64.wrap ((J : Int) - 1) = (I : Int) := by rw [IntWalk.i64_left, IntWalk.wrap64_in _ (by omega)]; omega
            clear hI
            go_wp2
            go_roundw
            case rel => exact ⟨j + 1, J2, HJM.out, rfl, by omega, by omega, by omega, HIt2, HA4, HO4, HL4, HM4, HB4⟩
            case measure => have h1 := HL4.out; have h2 := HLn.out; have h3 := HJM.out; simp only [lenOf] at *; omega
          · obtain rfl : j = m := by omega
            have HEnd : Hid (seenTo zs f (k : Int) j J = true) := seenTo_end HTu.out HIt.out
            have hcJ : wr.cell? ⟨g, J, none⟩ = some (.int .i64 1) := by rw [HAj.out.cell hJ, HEnd.out]; rfl
            have HT2 : Hid (Tab wr (g + 1) u3 bs) := HT.out.same (fun q h1 h2 => HMj.out.2 q (by rw [HH.out]; exact h2) (by omega))
            have HO2 : Hid (Owns wr (g + 1) u6 (path zs (k : Int) j)) := HOj.out.mono HgH.out
            have HgS : Hid (g + 1 ≤ wr.heap.size) := by have := HSz.out; have := HgH.out; show _ ≤ _; omega
            obtain ⟨au, cu, hu⟩ := HOj.out.shape
            rw [path_length] at hu
            subst hu
            go_wp2_with (at_builtin; refine append_front rfl _ _ rfl rfl rfl HT2.out HO2.out ?c3 ?c4 ?_)
            case c3 => have := HL.out; omega
            case c4 => exact HgS.out
            intro v5 w5 hT5 hb5
            have HT5 : Hid (Tab w5 (g + 1) v5 (path zs (k : Int) j :: bs)) := hT5
            have HB5 : Hid (Below w.heap.size w w5) := HBj.out.trans (hb5.mono HBj.out.size)
            have HA5 : Hid (ArrI w5 g (seenTo zs f (k : Int) j)) := HAj.out.same (hb5.block g (by have := HgS.out; omega))
            clear hT5 hb5
            go_wp2
            go_roundw
            case rel => exact ⟨K, seenTo zs f (k : Int) j, path zs (k : Int) j :: bs, HKl.out.2, rfl, HD2.out.more HBk.out (by rw [path_head HTu.out.1]; exact HKI.out), HMk.out.cons _ _, shut_seen HP.out HSh.out (by omega) (by omega) HTu.out, by have := HL.out; have := HK.out; show (bs.length + 1) + K ≤ 40; omega, HA5, HT5, HB5⟩
            case measure => have := HK.out; simp [intOf]; omega

end Go.Proofs.Ytnjbkiegeielhab
