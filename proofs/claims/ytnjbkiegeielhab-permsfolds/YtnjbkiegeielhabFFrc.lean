/-
  The contract of ferref.FromCycles.
-/
import Derived.Test.YtnjbkiegeielhabRUnr
namespace Go.Proofs.Ytnjbkiegeielhab
open Go.RowKit

theorem unrTo_step {zs : List Int} {m j : Nat} {x : Int} (hj : zs.getD m 0 = (j : Int) + 1) (hx : x = img zs m) : upd (unrTo zs m) j x = unrTo zs (m + 1) := by
  rw [unrTo, hj, hx, show ((j : Int) + 1).toNat - 1 = j by omega]

theorem Shows.elem_at {w : World} {b off : Nat} {zs : List Int} (h : Shows w (some ⟨b, off, none⟩) zs) {k : Nat} (hk : k < zs.length) : w.cell? ⟨b, off + k, none⟩ = some (.int .i64 (zs.getD k 0)) := by
  obtain ⟨b9, o9, z9, hbb, HZ9, -, -, hc9⟩ := h.elem hk
  simp only [Option.some.injEq, Addr.mk.injEq, and_true] at hbb
  obtain ⟨rfl, rfl⟩ := hbb
  rw [← HZ9.out]; exact hc9

set_option maxHeartbeats 4000000 in
theorem FromCycles_ok (a : Option Addr) (cap : Nat) (zs : List Int) (w : World) (hs : Shows w a zs) (hp : IsPerm zs) :
    Calls Try.prog 33 #[.slice a zs.length cap] w fun e w' => ∃ v, e = .returned v ∧ Owns w' w.heap.size v (unrL zs) ∧ Below w.heap.size w w' := by
  have HP : Hid (IsPerm zs) := hp
  have h40 := hp.len
  clear hp
  obtain ⟨i0, hi, hz0, hz1, hz2⟩ := info_parts Try.info3
  go_enter Try.func33, Try.ntmps33
  go_wp2_with (at_make; refine wpList_make_full _ rfl _ _ 22 rfl w.heap.size 3 i0 (.int .i64 0) 1 Try.underlying22 hi hz0 hz1 _ _ _ _ zs.length rfl rfl rfl rfl ?b1 ?b2 ?b3 ?_)
  case b1 => rw [hz2]; omega
  case b2 => unfold maxLen; omega
  case b3 => exact Nat.le_refl _
  intro w1 hown hgrow
  have HB1 : Hid (Below w.heap.size w w1) := (Below.refl _ _).grown hgrow (Nat.le_refl _) (fun k h => by cases h)
  obtain ⟨g, hg⟩ : ∃ g, g = w.heap.size := ⟨_, rfl⟩
  have HG : Hid (w.heap.size ≤ g) := by show _ ≤ _; omega
  have HO1 : Hid (Owns w1 w.heap.size (.slice (some ⟨g, 0, none⟩) zs.length zs.length) (tab zs.length (unrTo zs (0 - 1)))) := by rw [hg]; exact owns_made hown
  rw [← hg]
  clear hown hgrow hg
  go_wp2
  go_loopw [4, 5, 6] (fun f x i wr => ∃ (k F : Nat) (G : Int), k ≤ zs.length ∧ i = .int .i64 k ∧ f = .int .i64 F ∧ x = .int .i64 G ∧ Hid (G = gmax zs k) ∧ Hid (0 < k → F < zs.length ∧ zs.getD F 0 = G) ∧ Hid (Owns wr w.heap.size (.slice (some ⟨g, 0, none⟩) zs.length zs.length) (tab zs.length (unrTo zs (k - 1)))) ∧ Hid (Below w.heap.size w wr)) (fun _ _ i _ => zs.length - (intOf i).toNat)
  case atStart => exact ⟨0, 0, 0, Nat.zero_le _, rfl, rfl, rfl, rfl, fun h => absurd h (by omega), HO1, HB1⟩
  case round =>
    obtain ⟨k, F, G, hk, rfl, rfl, rfl, HGm, HF, HO, HB⟩ := hrel
    by_cases hlt : k < zs.length
    · have hlt' : (k : Int) < (zs.length : Int) := by omega
      have HLT : Hid (k < zs.length) := hlt
      obtain ⟨b, off, z, rfl, HZ, -, -, hc⟩ := (hs.below HB.out).elem hlt
      have hzb := HP.out.bounds hlt
      rw [← HZ.out] at hzb
      have hG0 := gmax_bound HP.out k hk
      rw [← HGm.out] at hG0
      by_cases hk0 : k = 0
      · subst hk0
        have HGz : Hid (G = 0) := HGm.out
        obtain rfl := HGz.out
        rw [Nat.add_zero] at hc
        have hzG : decide (z > 0) = true := by simp; omega
        have hzG2 : decide (0 < z) = true := by simp; omega
        have H1 : Hid (z = gmax zs 1) := by
          show _ = max (0 : Int) (zs.getD 0 0)
          rw [← HZ.out]; omega
        go_wp2_with fail
        go_quiet (fail)
        go_wp2
        go_roundw
        case rel => exact ⟨1, 0, z, HLT.out, by first | rfl | go_num, rfl, rfl, H1, fun _ => ⟨HLT.out, HZ.out.symm⟩, HO.out.below (below_drewN (Below.refl _ _) _), HB.out.trans (below_drewN (Below.refl _ _) _)⟩
        case measure => have := HLT.out; simp [intOf]; omega
      · obtain ⟨m, hm⟩ : ∃ m, m = k - 1 := ⟨k - 1, rfl⟩
        have hkm : k = m + 1 := by omega
        have hml : m < zs.length := by omega
        have hml' : (m : Int) < (zs.length : Int) := by omega
        obtain ⟨b2, off2, y, hbb, HY, -, -, hcy⟩ := (hs.below HB.out).elem hml
        simp only [Option.some.injEq, Addr.mk.injEq, and_true] at hbb
        obtain ⟨rfl, rfl⟩ := hbb
        have hyb := HP.out.bounds hml
        rw [← HY.out] at hyb
        obtain ⟨j, rfl⟩ : ∃ j : Nat, y = (j : Int) + 1 := ⟨(y - 1).toNat, by omega⟩
        have hj : j < zs.length := by omega
        have hj' : (j : Int) < (zs.length : Int) := by omega
        obtain ⟨hFl, hFe⟩ := HF.out (by omega)
        have hFl' : (F : Int) < (zs.length : Int) := by omega
        obtain ⟨b2, off2, y2, hbb, HY2, -, -, hcf⟩ := (hs.below HB.out).elem hFl
        simp only [Option.some.injEq, Addr.mk.injEq, and_true] at hbb
        obtain ⟨rfl, rfl⟩ := hbb
        have HGy : Hid (G = y2) := by show _ = _; rw [HY2.out, hFe]
        obtain rfl := HGy.out
        have HFl : Hid (F < zs.length ∧ zs.getD F 0 = G) := ⟨hFl, hFe⟩
        have HKM : Hid (k = m + 1) := hkm
        have hw1 : IntKind.i64.wrap ((k : Int) - 1) = (m : Int) := by rw [IntWalk.i64_left, IntWalk.wrap64_in _ (by omega)]; omega
        have hw2 : IntKind.i64.wrap ((j : Int) + 1 - 1) = (j : Int) := by rw [IntWalk.i64_left, IntWalk.wrap64_in _ (by omega)]; omega
        have hk1 : decide ((k : Int) > 0) = true := by simp; omega
        have hkp : 0 < k := by omega
        have hkp' : (0 : Int) < (k : Int) := by omega
        have hk2 : decide (0 < (k : Int)) = true := by simp; omega
        have HO' : Hid (Owns wr w.heap.size (.slice (some ⟨g, 0, none⟩) zs.length zs.length) (tab zs.length (unrTo zs m))) := by show Owns _ _ _ _; rw [hm]; exact HO.out
        obtain ⟨hfz, hcz⟩ := HO'.out.tabAt hj
        obtain ⟨u, HU⟩ : ∃ u, Hid (u = unrTo zs m j) := ⟨_, rfl⟩
        rw [← HU.out] at hcz
        have HST : Hid (∀ x, x = img zs m → ∀ n, Owns ((wr.setCell ⟨g, j, none⟩ (.int .i64 x)).drewN n) w.heap.size (.slice (some ⟨g, 0, none⟩) zs.length zs.length) (tab zs.length (unrTo zs (k + 1 - 1)))) := fun x hx n => by
          have := HO'.out.tabStore j x
          rw [unrTo_step HY.out.symm hx, ← HKM.out] at this
          exact this.below (below_drewN (Below.refl _ _) n)
        have HBS : Hid (∀ x n, Below w.heap.size w ((wr.setCell ⟨g, j, none⟩ (.int .i64 x)).drewN n)) := fun x n => (HB.out.setCell HG.out _).trans (below_drewN (Below.refl _ _) n)
        clear hm hkm hk0 hFl hFe HO hk
        by_cases hzG : G < z
        · have hzG1 : decide (z > G) = true := by simpa using hzG
          have hzG2 : decide (G < z) = true := by simpa using hzG
          have hI : Hid (G = img zs m) := by
            show _ = _; unfold img
            rw [← HKM.out, ← HGm.out, ← HZ.out, if_neg (fun h => by omega)]
          have H1 : Hid (z = gmax zs (k + 1)) := by
            show _ = max (gmax zs k) (zs.getD k 0)
            rw [← HGm.out, ← HZ.out]; omega
          have HCZ : Hid ((wr.setCell ⟨g, j, none⟩ (.int .i64 G)).cell? ⟨b, off + k, none⟩ = some (.int .i64 z)) := by
            show _ = _
            have hb9 : Below w.heap.size w (wr.setCell ⟨g, j, none⟩ (.int .i64 G)) := HB.out.setCell HG.out _
            rw [HZ.out]; exact (hs.below hb9).elem_at HLT.out
          clear hzG
          go_wp2_with fail
          go_region
          have hcz1 := HCZ.out
          go_wp2_with fail
          go_quiet (fail)
          go_wp2
          go_roundw
          case rel => exact ⟨k + 1, k, z, HLT.out, by first | rfl | go_num, rfl, rfl, H1, fun _ => ⟨HLT.out, HZ.out.symm⟩, HST.out G hI.out (1 + nq), HBS.out G (1 + nq)⟩
          case measure => have := HLT.out; simp [intOf]; omega
        · have hzG1 : decide (z > G) = false := by simpa using hzG
          have hzG2 : decide (G < z) = false := by simpa using hzG
          have hI : Hid (z = img zs m) := by
            show _ = _; unfold img
            rw [← HKM.out, ← HGm.out, ← HZ.out]
            split
            · rfl
            · have := HLT.out; omega
          have H1 : Hid (G = gmax zs (k + 1)) := by
            show _ = max (gmax zs k) (zs.getD k 0)
            rw [← HGm.out, ← HZ.out]; omega
          clear hzG
          go_wp2_with fail
          go_region
          go_wp2
          go_roundw
          case rel => exact ⟨k + 1, F, G, HLT.out, by first | rfl | go_num, rfl, rfl, H1, fun _ => HFl.out, by first | exact HST.out z hI.out 1 | exact HST.out z hI.out _, by first | exact HBS.out z 1 | exact HBS.out z _⟩
          case measure => have := HLT.out; simp [intOf]; omega
    · obtain rfl : k = zs.length := by omega
      by_cases h0 : zs.length = 0
      · obtain rfl : zs = [] := List.eq_nil_of_length_eq_zero h0
        have HO2 : Hid (Owns wr w.heap.size (.slice (some ⟨g, 0, none⟩) 0 0) (unrL [])) := HO.out
        clear h0 HO
        go_wp2
        go_ret
        exact ⟨_, rfl, HO2.out, HB.out⟩
      · obtain ⟨m, hm⟩ : ∃ m, m = zs.length - 1 := ⟨_, rfl⟩
        have hkm : zs.length = m + 1 := by omega
        have hml : m < zs.length := by omega
        have hml' : (m : Int) < (zs.length : Int) := by omega
        obtain ⟨b, off, y, rfl, HY, -, -, hcy⟩ := (hs.below HB.out).elem hml
        have hyb := HP.out.bounds hml
        rw [← HY.out] at hyb
        obtain ⟨j, rfl⟩ : ∃ j : Nat, y = (j : Int) + 1 := ⟨(y - 1).toNat, by omega⟩
        have hj : j < zs.length := by omega
        have hj' : (j : Int) < (zs.length : Int) := by omega
        obtain ⟨hFl, hFe⟩ := HF.out (by omega)
        have hFl' : (F : Int) < (zs.length : Int) := by omega
        obtain ⟨b2, off2, y2, hbb, HY2, -, -, hcf⟩ := (hs.below HB.out).elem hFl
        simp only [Option.some.injEq, Addr.mk.injEq, and_true] at hbb
        obtain ⟨rfl, rfl⟩ := hbb
        have HGy : Hid (G = y2) := by show _ = _; rw [HY2.out, hFe]
        obtain rfl := HGy.out
        have HKM : Hid (zs.length = m + 1) := hkm
        have hw1 : IntKind.i64.wrap ((zs.length : Int) - 1) = (m : Int) := by rw [IntWalk.i64_left, IntWalk.wrap64_in _ (by omega)]; omega
        have hw2 : IntKind.i64.wrap ((j : Int) + 1 - 1) = (j : Int) := by rw [IntWalk.i64_left, IntWalk.wrap64_in _ (by omega)]; omega
        have hd : decide ((zs.length : Int) > 0) = true := decide_eq_true (by omega)
        have hd2 : decide (0 < (zs.length : Int)) = true := decide_eq_true (by omega)
        have HO' : Hid (Owns wr w.heap.size (.slice (some ⟨g, 0, none⟩) zs.length zs.length) (tab zs.length (unrTo zs m))) := by show Owns _ _ _ _; rw [hm]; exact HO.out
        obtain ⟨hfz, hcz⟩ := HO'.out.tabAt hj
        obtain ⟨u, HU⟩ : ∃ u, Hid (u = unrTo zs m j) := ⟨_, rfl⟩
        rw [← HU.out] at hcz
        have hI : Hid (G = img zs m) := by
          show _ = _; unfold img
          rw [← HKM.out, ← HGm.out, if_neg (fun h => by omega)]
        have HST : Hid (∀ n, Owns ((wr.setCell ⟨g, j, none⟩ (.int .i64 G)).drewN n) w.heap.size (.slice (some ⟨g, 0, none⟩) zs.length zs.length) (unrL zs)) := fun n => by
          have := HO'.out.tabStore j G
          rw [unrTo_step HY.out.symm hI.out, ← HKM.out] at this
          exact this.below (below_drewN (Below.refl _ _) n)
        have HBS : Hid (∀ n, Below w.heap.size w ((wr.setCell ⟨g, j, none⟩ (.int .i64 G)).drewN n)) := fun n => (HB.out.setCell HG.out _).trans (below_drewN (Below.refl _ _) n)
        clear hm hkm h0 hFl hFe HO hk
        go_wp2_with fail
        go_region
        go_wp2
        go_ret
        exact ⟨_, rfl, by first | exact HST.out 1 | exact HST.out _, by first | exact HBS.out 1 | exact HBS.out _⟩

end Go.Proofs.Ytnjbkiegeielhab
