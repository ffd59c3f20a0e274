/-
  The contracts of perms.cycleFrom and slices.Max over []int.
-/
import Derived.Test.YtnjbkiegeielhabPChk
import Derived.Test.YtnjbkiegeielhabRMathB
namespace Go.Proofs.Ytnjbkiegeielhab
open Go.RowKit

theorem owns_lit {w : World} (x : Int) : Owns (w.alloc (.cells #[.int .i64 x] 3)) w.heap.size (.slice (some ⟨w.heap.size, 0, none⟩) 1 1) [x] := by
  refine ⟨by simp, Or.inr ⟨w.heap.size, 1, #[.int .i64 x], rfl, Nat.le_refl _, ?_, Nat.le_refl _, by unfold maxLen; omega, rfl, rfl⟩⟩
  show (w.heap.push (.cells #[.int .i64 x] 3 (0, 0)))[w.heap.size]? = _
  simp

set_option maxHeartbeats 2000000 in
theorem cycleFrom_ok (a : Option Addr) (cap : Nat) (zs : List Int) (n : Nat) (m : Nat) (w : World) (hs : Shows w a zs) (hp : IsPerm zs) (hn : n < zs.length) (ht : Turns zs ((n : Int) + 1) m) :
    Calls Try.prog 52 #[.slice a zs.length cap, .int .i64 ((n : Int) + 1)] w fun e w' => ∃ v, e = .returned v ∧ Owns w' w.heap.size v (path zs ((n : Int) + 1) m) ∧ Below w.heap.size w w' := by
  have h40 := hp.len
  have HP : Hid (IsPerm zs) := hp
  have HT : Hid (Turns zs ((n : Int) + 1) m) := ht
  have hm1 := ht.1
  have hm2 := ht.2.1
  have HBd : Hid (∀ j, 1 ≤ iter zs ((n : Int) + 1) j ∧ iter zs ((n : Int) + 1) j ≤ zs.length) := iter_bounds hp (by omega) (by omega)
  have hn' : (n : Int) < (zs.length : Int) := by omega
  clear hp ht
  have hs1 : Shows (w.alloc (.cells #[.int .i64 ((n : Int) + 1)] 3)) a zs := hs.below ((Below.refl _ _).alloc (Nat.le_refl _) _)
  obtain ⟨b, off, z, rfl, HZ, -, -, hc⟩ := hs1.elem hn
  have HI1 : Hid (z = iter zs ((n : Int) + 1) 1) := by
    show z = app zs ((n : Int) + 1)
    unfold app; rw [HZ.out, show ((n : Int) + 1).toNat - 1 = n by omega]
  have hzb := HBd.out 1
  rw [← HI1.out] at hzb
  have hw0 : IntKind.i64.wrap ((n : Int) + 1 - 1) = (n : Int) := by rw [IntWalk.i64_left, IntWalk.wrap64_in _ (by omega)]; omega
  go_enter Try.func52, Try.ntmps52
  go_wp2
  go_loopw [5, 6] (fun v x wr => ∃ (j : Nat) (y : Int), 1 ≤ j ∧ j ≤ m ∧ x = .int .i64 y ∧ Hid (lenOf v = j) ∧ Hid (y = iter zs ((n : Int) + 1) j) ∧ Hid (Owns wr w.heap.size v (path zs ((n : Int) + 1) j)) ∧ Hid (Below w.heap.size w wr)) (fun v _ _ => m - lenOf v)
  case atStart => exact ⟨1, z, Nat.le_refl _, hm1, rfl, rfl, HI1, owns_lit _, (Below.refl _ _).alloc (Nat.le_refl _) _⟩
  case round =>
    obtain ⟨j, y, hj1, hjm, rfl, HLn, HY, HO, HB⟩ := hrel
    have hyb := HBd.out j
    rw [← HY.out] at hyb
    by_cases hlt : j < m
    · have hne : (y != (n : Int) + 1) = true := by
        rw [bne_iff_ne, HY.out]; exact HT.out.2.2.2 j hj1 hlt
      have HLT : Hid (j < m) := hlt
      clear hlt
      go_wp2_with (at_builtin; refine append_int (x := y) rfl _ _ rfl rfl HO.out rfl ?c1 ?c2 ?_)
      case c1 => rw [path_length]; omega
      case c2 => exact HB.out.size
      intro v' w2 hO' hb'
      have HO3 : Hid (Owns w2 w.heap.size v' (path zs ((n : Int) + 1) (j + 1))) := by show Owns _ _ _ _; rw [path_succ, ← HY.out]; exact hO'
      have HB3 : Hid (Below w.heap.size w w2) := HB.out.trans hb'
      have HL3 : Hid (lenOf v' = j + 1) := by
        obtain ⟨a2, c2, h2⟩ := HO3.out.shape
        rw [path_length] at h2
        show _ = _; rw [h2]; rfl
      clear hO' hb'
      obtain ⟨J, rfl⟩ : ∃ J : Nat, y = (J : Int) + 1 := ⟨(y - 1).toNat, by omega⟩
      have hJ : J < zs.length := by omega
      have hJ' : (J : Int) < (zs.length : Int) := by omega
      obtain ⟨b2, off2, x, hbb, HX, -, -, hcx⟩ := (hs.below HB3.out).elem hJ
      simp only [Option.some.injEq, Addr.mk.injEq, and_true] at hbb
      obtain ⟨rfl, rfl⟩ := hbb
      have HX2 : Hid (x = iter zs ((n : Int) + 1) (j + 1)) := by
        show x = app zs (iter zs ((n : Int) + 1) j)
        rw [← HY.out]; unfold app; rw [HX.out, show ((J : Int) + 1).toNat - 1 = J by omega]
      have hw1 : IntKind.i64.wrap ((J : Int) + 1 - 1) = (J : Int) := by rw [IntWalk.i64_left, IntWalk.wrap64_in _ (by omega)]; omega
      go_wp2
      go_roundw
      case rel => exact ⟨j + 1, x, by omega, HLT.out, rfl, HL3, HX2, HO3, HB3⟩
      case measure => have h1 := HL3.out; have h2 := HLn.out; have h3 := HLT.out; simp only [lenOf] at *; omega
    · obtain rfl : j = m := by omega
      have he : y = (n : Int) + 1 := by rw [HY.out]; exact HT.out.2.2.1
      subst he
      have hne : ((n : Int) + 1 != (n : Int) + 1) = false := by simp
      go_wp2
      go_ret
      exact ⟨_, rfl, HO.out, HB.out⟩

set_option maxHeartbeats 2000000 in
theorem Max_ok (a : Option Addr) (cap : Nat) (zs : List Int) (M : Int) (w : World) (hs : Shows w a zs) (h0 : 0 < zs.length) (h40 : zs.length ≤ 1000) (hM : M ∈ zs) (hM2 : ∀ z ∈ zs, z ≤ M) :
    Calls Try.prog 53 #[.slice a zs.length cap] w fun e w' => e = .returned (.int .i64 M) ∧ w' = w := by
  have HM : Hid (M ∈ zs) := hM
  have HM2 : Hid (∀ z ∈ zs, z ≤ M) := hM2
  clear hM hM2
  have hb0 : decide ((zs.length : Int) < 1) = false := by simp; omega
  have h0' : (0 : Int) < (zs.length : Int) := by omega
  obtain ⟨b, off, z0, rfl, HZ0, -, -, hc0⟩ := hs.elem h0
  rw [Nat.add_zero] at hc0
  go_enter Try.func53, Try.ntmps53
  go_wp2
  go_loopw [3, 4] (fun x i wr => ∃ (k : Nat) (y : Int), 1 ≤ k ∧ k ≤ zs.length ∧ x = .int .i64 y ∧ i = .int .i64 k ∧ Hid (y ∈ zs) ∧ Hid (∀ i, i < k → zs.getD i 0 ≤ y) ∧ wr = w) (fun _ i _ => zs.length - (intOf i).toNat)
  case atStart => exact ⟨1, z0, Nat.le_refl _, h0, rfl, rfl, by show _ ∈ _; rw [HZ0.out]; exact getD_mem h0, fun i hi => by
                    obtain rfl : i = 0 := by omega
                    rw [HZ0.out]; exact Int.le_refl _, by trivial⟩
  case round =>
    obtain ⟨k, y, hk1, hk, rfl, rfl, HY, HR, rfl⟩ := hrel
    by_cases hlt : k < zs.length
    · have hlt' : (k : Int) < (zs.length : Int) := by omega
      obtain ⟨b2, off2, z, hbb, HZ, -, -, hcz⟩ := hs.elem hlt
      simp only [Option.some.injEq, Addr.mk.injEq, and_true] at hbb
      obtain ⟨rfl, rfl⟩ := hbb
      go_wp2
      go_roundw
      case rel => exact ⟨k + 1, _, by omega, by omega, rfl, by go_num, by
                    show _ ∈ _
                    split
                    · rw [HZ.out]; exact getD_mem hlt
                    · exact HY.out, fun i hi => by
                    by_cases hi' : i < k
                    · have := HR.out i hi'
                      split <;> omega
                    · obtain rfl : i = k := by omega
                      rw [← HZ.out]
                      split <;> omega, by trivial⟩
      case measure => simp [intOf]; omega
    · obtain rfl : k = zs.length := by omega
      have HE : Hid (y = M) := by
        have h1 := HM2.out y HY.out
        obtain ⟨i, hi, he⟩ := List.mem_iff_getElem.1 HM.out
        have h2 := HR.out i hi
        rw [List.getD_eq_getElem?_getD, List.getElem?_eq_getElem hi, Option.getD_some, he] at h2
        show _ = _; omega
      obtain rfl := HE.out
      go_wp2
      go_ret
      exact ⟨rfl, rfl⟩

end Go.Proofs.Ytnjbkiegeielhab
