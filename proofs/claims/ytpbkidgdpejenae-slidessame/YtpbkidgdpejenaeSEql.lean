/-
  The contract of slices.Equal of ints.
-/
import Derived.Test.YtpbkidgdpejenaeBApp
namespace Go.Proofs.Ytpbkidgdpejenae
open Go.RowKit

set_option maxHeartbeats 1000000 in
theorem SEqual_any (a b : Option Addr) (ca cb : Nat) (zs ys : List Int) (w : World) (hs : Shows w a zs) (ht : Shows w b ys) :
    Calls Try.prog 31 #[.slice a zs.length ca, .slice b ys.length cb] w fun e w' => e = .returned (.bool (decide (zs = ys))) ∧ ∃ n, w' = w.drewN n := by
  have hl := hs.len
  have hl2 := ht.len
  by_cases hlen : zs.length = ys.length
  · have HL : Hid (zs.length = ys.length) := hlen
    have hb : ((zs.length : Int) != (ys.length : Int)) = false := by rw [hlen]; simp
    clear hlen
    go_enter Try.func31, Try.ntmps31
    go_wp2
    go_loopw [13] (fun i wr => ∃ k : Nat, k ≤ zs.length ∧ i = .int .i64 k ∧ Hid (∀ i, i < k → zs.getD i 0 = ys.getD i 0) ∧ ∃ n, wr = w.drewN n) (fun i _ => zs.length - (intOf i).toNat)
    case atStart => exact ⟨0, Nat.zero_le _, rfl, fun j hj => by omega, 0, rfl⟩
    case round =>
      obtain ⟨k, hk, rfl, HR, n, rfl⟩ := hrel
      by_cases hlt : k < zs.length
      · have hlt' : (k : Int) < (zs.length : Int) := by omega
        have hltn : k < ys.length := by have := HL.out; omega
        have hlt2 : (k : Int) < (ys.length : Int) := by omega
        obtain ⟨b1, off, z, rfl, HZ, hz1, hz2, hc⟩ := hs.elem hlt
        obtain ⟨b2, off2, y, rfl, HY, hy1, hy2, hcy⟩ := ht.elem hltn
        by_cases he : z = y
        · subst he
          go_wp2_with fail
          go_quiet (fail)
          go_wp2
          go_roundw
          case rel => exact ⟨k + 1, by omega, by go_num, fun j hj => by
                        by_cases hj' : j < k
                        · exact HR.out j hj'
                        · obtain rfl : j = k := by omega
                          rw [← HZ.out, ← HY.out], _, by first | exact rfl | exact drewN_two _ _ _⟩
          case measure => simp [intOf]; omega
        · have HE : Hid (¬ z = y) := he
          have hbn : (z != y) = true := by simpa using he
          clear he
          go_wp2_with fail
          go_quiet (fail)
          go_wp2
          go_ret
          exact ⟨ret_bool (by rw [decide_eq_false (fun h => HE.out (by rw [HZ.out, HY.out, h]))]), _, by first | exact rfl | exact drewN_two _ _ _⟩
      · go_wp2
        go_ret
        refine ⟨ret_bool ?_, n, rfl⟩
        have : zs = ys := by
          refine List.ext_getElem HL.out (fun j h1 h2 => ?_)
          have := HR.out j (by omega)
          simpa [List.getD, List.getElem?_eq_getElem h1, List.getElem?_eq_getElem h2] using this
        rw [decide_eq_true this]
  · have hb : ((zs.length : Int) != (ys.length : Int)) = true := by rw [bne_iff_ne]; omega
    have HL : Hid (¬ zs.length = ys.length) := hlen
    clear hlen
    go_enter Try.func31, Try.ntmps31
    go_wp2
    go_ret
    exact ⟨ret_bool (by rw [decide_eq_false (fun h => HL.out (by rw [h]))]), 0, rfl⟩

end Go.Proofs.Ytpbkidgdpejenae
