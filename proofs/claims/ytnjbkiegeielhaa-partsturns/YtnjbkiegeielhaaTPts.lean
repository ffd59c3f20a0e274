/-
  The contract of ferref.Parts (of two).
-/
import Derived.Test.YtnjbkiegeielhaaRefB
import Derived.Test.YtnjbkiegeielhaaDom
import Derived.Test.YtnjbkiegeielhaaOMath
import Derived.Test.YtnjbkiegeielhaaSpd
namespace Go.Proofs.Ytnjbkiegeielhaa
open Go.RowKit

/-- What Parts of two answers. -/
def chk2 (xs ys : List Int) : Int := if chk xs = 0 then chk ys else chk xs

set_option maxHeartbeats 2000000 in
theorem Parts_two (a b : Option Addr) (ca cb g c : Nat) (xs ys : List Int) (w : World) (hs : Shows w a xs) (ht : Shows w b ys) (h0 : w.cell? ⟨g, 0, none⟩ = some (.slice a xs.length ca)) (h1 : w.cell? ⟨g, 1, none⟩ = some (.slice b ys.length cb)) (k : Int) (hk : chk2 xs ys = k) :
    Calls Try.prog 18 #[.slice (some ⟨g, 0, none⟩) 2 c] w fun e w' => e = .returned (.int .i64 k) ∧ ∃ n, w' = w.drewN n := by
  obtain ⟨c1, hc1⟩ : ∃ c1, c1 = chk xs := ⟨_, rfl⟩
  obtain ⟨c2, hc2⟩ : ∃ c2, c2 = chk ys := ⟨_, rfl⟩
  have E1 : Hid (chk xs = c1) := hc1.symm
  have E2 : Hid (chk ys = c2) := hc2.symm
  have HK : Hid (k = if c1 = 0 then c2 else c1) := by show _ = _; rw [← hk, hc1, hc2]; rfl
  clear hc1 hc2 hk
  go_enter Try.func18, Try.ntmps18
  go_wp2
  go_loopw [3] (fun i wr => ∃ j : Nat, j ≤ 2 ∧ i = .int .i64 j ∧ Hid ((1 ≤ j → c1 = 0) ∧ (2 ≤ j → c2 = 0)) ∧ ∃ n, wr = w.drewN n) (fun i _ => 2 - (intOf i).toNat)
  case atStart => exact ⟨0, by omega, rfl, ⟨fun h => by omega, fun h => by omega⟩, 0, rfl⟩
  case round =>
    obtain ⟨j, hj, rfl, HJ, n0, rfl⟩ := hrel
    have hj3 : j = 0 ∨ j = 1 ∨ j = 2 := by omega
    rcases hj3 with rfl | rfl | rfl
    · go_wp2_with fail
      refine (Part_is _ _ _ _ (hs.below (below_drewN (Below.refl _ _) n0)) E1).mono ?_
      rintro e w1 ⟨rfl, n1, rfl⟩
      by_cases hc : c1 = 0
      · subst hc
        go_wp2
        go_roundw
        case rel => exact ⟨1, by omega, by first | rfl | go_num, ⟨fun _ => by trivial, fun h => by omega⟩, _, by first | exact rfl | exact drewN_two _ _ _⟩
        case measure => simp [intOf]
      · have hb : (c1 != 0) = true := bne_iff_ne.2 hc
        have HE : Hid (c1 = k) := by show _ = _; rw [HK.out, if_neg hc]
        obtain rfl := HE.out
        clear hc
        go_wp2
        go_ret
        exact ⟨rfl, _, by first | exact rfl | exact drewN_two _ _ _⟩
    · obtain rfl : c1 = 0 := HJ.out.1 (by omega)
      go_wp2_with fail
      refine (Part_is _ _ _ _ (ht.below (below_drewN (Below.refl _ _) n0)) E2).mono ?_
      rintro e w1 ⟨rfl, n1, rfl⟩
      by_cases hc : c2 = 0
      · subst hc
        go_wp2
        go_roundw
        case rel => exact ⟨2, by omega, by first | rfl | go_num, ⟨fun _ => by trivial, fun _ => by trivial⟩, _, by first | exact rfl | exact drewN_two _ _ _⟩
        case measure => simp [intOf]
      · have hb : (c2 != 0) = true := bne_iff_ne.2 hc
        have HE : Hid (c2 = k) := by show _ = _; rw [HK.out]; simp
        obtain rfl := HE.out
        clear hc
        go_wp2
        go_ret
        exact ⟨rfl, _, by first | exact rfl | exact drewN_two _ _ _⟩
    · have HE : Hid (k = 0) := by show _ = _; rw [HK.out, if_pos (HJ.out.1 (by omega)), HJ.out.2 (by omega)]
      obtain rfl := HE.out
      go_wp2
      go_ret
      exact ⟨rfl, n0, rfl⟩

end Go.Proofs.Ytnjbkiegeielhaa
