/-
  The contract of parts.Franklin for every slice that can be read.
-/
import Derived.Test.YtnjbkiegeielhaaPlain
namespace Go.Proofs.Ytnjbkiegeielhaa
open Go.RowKit

set_option maxHeartbeats 1000000 in
theorem Franklin_err (a : Option Addr) (cap : Nat) (zs : List Int) (w : World) (hs : Shows w a zs) (c : Int) (E : Hid (chkD zs = c)) (hc : (c != 0) = true) :
    Calls Try.prog 23 #[.slice a zs.length cap] w fun e w' => e = .returned (.tuple #[.slice none 0 0, .bool false, .int .i64 c]) ∧ w' = w := by
  go_enter Try.func23, Try.ntmps23
  go_wp2_with (go_at_call 36; refine (checkDistinct_is _ _ _ _ hs E).mono ?_; rintro e w' ⟨rfl, rfl⟩)
  go_ret3
  exact ⟨rfl, rfl⟩

set_option maxHeartbeats 1000000 in
theorem Franklin_nil (a : Option Addr) (cap : Nat) (w : World) :
    Calls Try.prog 23 #[.slice a 0 cap] w fun e w' => e = .returned (.tuple #[.slice none 0 0, .bool false, .int .i64 0]) ∧ w' = w := by
  have hs : Shows w a [] := ⟨by simp, fun z h => (by cases h), fun h => absurd rfl h⟩
  have E : Hid (chkD [] = 0) := by unfold Hid; decide
  go_enter Try.func23, Try.ntmps23
  go_wp2_with (go_at_call 36; refine (checkDistinct_is _ _ _ _ hs E).mono ?_; rintro e w' ⟨rfl, rfl⟩)
  go_ret3
  exact ⟨rfl, rfl⟩

set_option maxHeartbeats 2000000 in
theorem Franklin_down (a : Option Addr) (cap : Nat) (zs : List Int) (w : World) (hs : Shows w a zs) (hcap : zs.length ≤ cap) (E : Hid (chkD zs = 0)) (hp : IsPart zs) (hne : 0 < zs.length) (hd : frankDown zs) :
    Calls Try.prog 23 #[.slice a zs.length cap] w fun e w' => ∃ v, e = .returned (.tuple #[v, .bool true, .int .i64 0]) ∧ Owns w' w.heap.size v (downOf zs) ∧ Below w.heap.size w w' := by
  have hl := hp.len
  have h40 : Hid (∀ z ∈ zs, 0 ≤ z ∧ z ≤ 1000) := fun z hz => by have := hp.range z hz; omega
  have hrn := hp.range _ (getD_mem (show zs.length - 1 < zs.length by omega))
  obtain ⟨b, off, z, rfl, HZ, hz1, hz2, hc⟩ := hs.elem (show zs.length - 1 < zs.length by omega)
  rw [← HZ.out] at hrn
  have hR := runN_le zs
  obtain ⟨hd1, hd2⟩ := hd
  unfold lastOf at hd1 hd2
  rw [← HZ.out] at hd1 hd2
  obtain ⟨R, HR⟩ : ∃ R, Hid (R = runN zs) := ⟨_, rfl⟩
  have hfr : Hid (∀ w, Shows w (some ⟨b, off, none⟩) zs → Calls Try.prog 37 #[.slice (some ⟨b, off, none⟩) zs.length cap] w fun e w' => e = .returned (.int .i64 R) ∧ ∃ n, w' = w.drewN n) := fun w h => by
    rw [HR.out]; exact firstRun_any _ _ _ _ h h40.out
  rw [← HR.out] at hR hd1 hd2
  have hpos : (0 : Int) < (zs.length : Int) := by omega
  have hnz : ((zs.length : Int) == 0) = false := beq_eq_false_iff_ne.2 (by omega)
  have hzl : z ≤ (zs.length : Int) - 1 := by omega
  have hzn : (z == (zs.length : Int)) = false := beq_eq_false_iff_ne.2 (by omega)
  have hsw : ∀ n, Shows (w.drewN n) (some ⟨b, off, none⟩) zs := fun n => hs.below (below_drewN (Below.refl _ _) n)
  have hlt1 : (zs.take (zs.length - 1)).length = zs.length - 1 := by simp
  have HLT : Hid _ := hlt1
  clear hlt1 hd2
  have key : ∀ t : Bool, ((R : Int) == (zs.length : Int)) = t → Calls Try.prog 23 #[.slice (some ⟨b, off, none⟩) zs.length cap] w fun e w' => ∃ v, e = .returned (.tuple #[v, .bool true, .int .i64 0]) ∧ Owns w' w.heap.size v (downOf zs) ∧ Below w.heap.size w w' := by
    intro t ht
    cases t
    all_goals
      go_enter Try.func23, Try.ntmps23
      go_wp2_with (go_at_call 36; refine (checkDistinct_is _ _ _ _ hs E).mono ?_; rintro e w' ⟨rfl, rfl⟩)
      go_quiet ((go_at_call 37; exact Calls.quiet_of (hfr.out _ (hsw _))))
      go_wp2_with fail
      refine (copied_at _ _ _ _ _ ((hsw nq).take (zs.length - 1)) HLT.out.symm).mono ?_
      rintro e w1 ⟨v, rfl, hown, hb1⟩
      obtain ⟨g, cp, rfl, -⟩ := hown.head (by rw [HLT.out]; omega)
      rw [HLT.out] at hown ⊢
      have hb1' : Below w'.heap.size w' w1 := (below_drewN (Below.refl _ _) nq).trans hb1
      have HB1 : Hid (Below w'.heap.size w' w1) := hb1'
      have HO : Hid (Owns w1 (w'.drewN nq).heap.size (.slice (some ⟨g, 0, none⟩) (zs.length - 1) cp) (zs.take (zs.length - 1))) := hown
      clear hown hb1 hb1'
      go_wp2_with fail
      go_loopw [50] (fun i wr => ∃ k : Nat, (k : Int) ≤ z ∧ i = .int .i64 k ∧ Hid (Owns wr w'.heap.size (.slice (some ⟨g, 0, none⟩) (zs.length - 1) cp) (bump k 1 (zs.take (zs.length - 1)))) ∧ Hid (Below w'.heap.size w' wr)) (fun i _ => (z - intOf i).toNat)
      case atStart => exact ⟨0, by omega, rfl, by rw [bump_zero]; exact HO.out, HB1⟩
      case round =>
        obtain ⟨k, hk, rfl, HK, HBk⟩ := hrel
        by_cases hlt : (k : Int) < z
        · have hkl : k < (zs.take (zs.length - 1)).length := by rw [HLT.out]; omega
          obtain ⟨hgB, hfz, hcl⟩ := HK.out.at (by rw [bump_length, HLT.out])
          have hck := hcl k (by rw [bump_length]; exact hkl)
          rw [bump_getD _ _ _ _ hkl, if_neg (Nat.lt_irrefl _), Int.add_zero] at hck
          obtain ⟨x, HX⟩ : ∃ x, Hid (x = (zs.take (zs.length - 1)).getD k 0) := ⟨_, rfl⟩
          rw [← HX.out] at hck
          have hx : 1 ≤ x ∧ x ≤ 40 := by rw [HX.out]; exact hp.range _ (List.mem_of_mem_take (getD_mem hkl))
          obtain ⟨hx1, hx2⟩ := hx
          have hfk := hfz k
          have hk1 : (k : Int) < (zs.length : Int) - 1 := by omega
          have hk2 : k < zs.length - 1 := by omega
          have HS := bump_step HK.out HLT.out.symm hkl HX.out
          have HS' : Hid _ := HS
          clear hcl hfz HS
          go_wp2
          go_roundw
          case rel => exact ⟨k + 1, by omega, by go_num, HS', HBk.out.setCell hgB _⟩
          case measure => simp [intOf]; omega
        · obtain rfl : z = k := by omega
          go_wp2
          go_ret3
          refine ⟨_, rfl, ?_, HBk.out⟩
          have := HK.out
          unfold downOf lastOf
          rw [← HZ.out]
          exact this
  exact key _ rfl

#print axioms Franklin_down
end Go.Proofs.Ytnjbkiegeielhaa
