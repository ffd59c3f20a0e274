/-
  The contract of parts.Franklin: the other two ways.
-/
import Derived.Test.YtnjbkiegeielhaaFrank
import Derived.Test.YtnjbkiegeielhaaApp
namespace Go.Proofs.Ytnjbkiegeielhaa
open Go.RowKit

set_option maxHeartbeats 2000000 in
theorem Franklin_up (a : Option Addr) (cap : Nat) (zs : List Int) (w : World) (hs : Shows w a zs) (_hcap : zs.length ≤ cap) (E : Hid (chkD zs = 0)) (hp : IsPart zs) (hne : 0 < zs.length) (hd : frankUp zs) :
    Calls Try.prog 23 #[.slice a zs.length cap] w fun e w' => ∃ v, e = .returned (.tuple #[v, .bool true, .int .i64 0]) ∧ Owns w' w.heap.size v (upOf zs) ∧ Below w.heap.size w w' := by
  have hl := hp.len
  have h40 : Hid (∀ z ∈ zs, 0 ≤ z ∧ z ≤ 1000) := fun z hz => by have := hp.range z hz; omega
  have hrn := hp.range _ (getD_mem (show zs.length - 1 < zs.length by omega))
  obtain ⟨b, off, z, rfl, HZ, hz1, hz2, hc⟩ := hs.elem (show zs.length - 1 < zs.length by omega)
  rw [← HZ.out] at hrn
  have hR := runN_le zs
  obtain ⟨hd1, hd2⟩ := hd
  unfold lastOf at hd1 hd2
  rw [← HZ.out] at hd1 hd2
  obtain ⟨R, HR⟩ : ∃ R, Hid (R = runN zs) := ⟨_, rfl⟩
  have hfr : Hid (∀ w, Shows w (some ⟨b, off, none⟩) zs → Calls Try.prog 37 #[.slice (some ⟨b, off, none⟩) zs.length cap] w fun e w' => e = .returned (.int .i64 R) ∧ ∃ n, w' = w.drewN n) := fun w h => by
    rw [HR.out]; exact firstRun_any _ _ _ _ h h40.out
  rw [← HR.out] at hR hd1 hd2
  have hpos : (0 : Int) < (zs.length : Int) := by omega
  have hnz : ((zs.length : Int) == 0) = false := beq_eq_false_iff_ne.2 (by omega)
  have hdz : decide (z ≤ (R : Int)) = false := by simp; omega
  have hsw : ∀ n, Shows (w.drewN n) (some ⟨b, off, none⟩) zs := fun n => hs.below (below_drewN (Below.refl _ _) n)
  have HD2 : Hid _ := hd2
  clear hd2
  have key : ∀ t : Bool, ((R : Int) == (zs.length : Int)) = t → (t = true → (z == (zs.length : Int) + 1) = false) → Calls Try.prog 23 #[.slice (some ⟨b, off, none⟩) zs.length cap] w fun e w' => ∃ v, e = .returned (.tuple #[v, .bool true, .int .i64 0]) ∧ Owns w' w.heap.size v (upOf zs) ∧ Below w.heap.size w w' := by
    intro t ht hzt
    cases t
    all_goals
      try have hzt' := hzt rfl
      clear hzt
      go_enter Try.func23, Try.ntmps23
      go_wp2_with (go_at_call 36; refine (checkDistinct_is _ _ _ _ hs E).mono ?_; rintro e w' ⟨rfl, rfl⟩)
      go_quiet ((go_at_call 37; exact Calls.quiet_of (hfr.out _ (hsw _))))
      go_wp2_with fail
      refine (copied_at _ _ _ _ _ (hsw nq) rfl).mono ?_
      rintro e w1 ⟨v, rfl, hown, hb1⟩
      obtain ⟨g, cp, rfl, -⟩ := hown.head hne
      have hb1' : Below w'.heap.size w' w1 := (below_drewN (Below.refl _ _) nq).trans hb1
      have HB1 : Hid (Below w'.heap.size w' w1) := hb1'
      have HO : Hid (Owns w1 (w'.drewN nq).heap.size (.slice (some ⟨g, 0, none⟩) zs.length cp) zs) := hown
      clear hown hb1 hb1'
      go_wp2_with fail
      go_loopw [80] (fun i wr => ∃ k : Nat, k ≤ R ∧ i = .int .i64 k ∧ Hid (Owns wr w'.heap.size (.slice (some ⟨g, 0, none⟩) zs.length cp) (bump k (-1) zs)) ∧ Hid (Below w'.heap.size w' wr)) (fun i _ => R - (intOf i).toNat)
      case atStart => exact ⟨0, by omega, rfl, by rw [bump_zero]; exact HO.out, HB1⟩
      case round =>
        obtain ⟨k, hk, rfl, HK, HBk⟩ := hrel
        obtain ⟨hgB, hfz, hcl⟩ := HK.out.at (by rw [bump_length])
        by_cases hlt : k < R
        · have hkl : k < zs.length := by omega
          have hck := hcl k (by rw [bump_length]; exact hkl)
          rw [bump_getD _ _ _ _ hkl, if_neg (Nat.lt_irrefl _), Int.add_zero] at hck
          obtain ⟨x, HX⟩ : ∃ x, Hid (x = zs.getD k 0) := ⟨_, rfl⟩
          rw [← HX.out] at hck
          have hx : 1 ≤ x ∧ x ≤ 40 := by rw [HX.out]; exact hp.range _ (getD_mem hkl)
          obtain ⟨hx1, hx2⟩ := hx
          have hfk := hfz k
          have HS := bump_step HK.out rfl hkl HX.out
          have HS' : Hid _ := HS
          clear hcl hfz HS
          go_wp2
          go_roundw
          case rel => exact ⟨k + 1, by omega, by go_num, HS', HBk.out.setCell hgB _⟩
          case measure => simp [intOf]; omega
        · obtain rfl : k = R := by omega
          clear hcl hfz
          have hsz := HBk.out.size
          go_wp2_with (at_builtin; refine append_int (x := (k : Int)) rfl _ _ rfl rfl HK.out rfl ?c1 ?c2 ?_)
          case c1 => rw [bump_length]; omega
          case c2 => omega
          intro v' w2 hown' hgrow'
          have hfin : Owns w2 w'.heap.size v' (upOf zs) := by
            unfold upOf; rw [← HR.out]; exact hown'
          have hbf : Below w'.heap.size w' w2 := HBk.out.trans hgrow'
          have HF : Hid _ := hfin
          have HBF : Hid _ := hbf
          clear hown' hgrow' hfin hbf
          go_wp2
          go_ret3
          exact ⟨_, rfl, HF.out, HBF.out⟩
  refine key _ rfl (fun h => ?_)
  have h' : (R : Int) = zs.length := by simpa using h
  exact beq_eq_false_iff_ne.2 (fun e => HD2.out ⟨by omega, e⟩)

set_option maxHeartbeats 2000000 in
theorem Franklin_stay (a : Option Addr) (cap : Nat) (zs : List Int) (w : World) (hs : Shows w a zs) (_hcap : zs.length ≤ cap) (E : Hid (chkD zs = 0)) (hp : IsPart zs) (hne : 0 < zs.length) (hd : ¬ frankDown zs) (hu : ¬ frankUp zs) :
    Calls Try.prog 23 #[.slice a zs.length cap] w fun e w' => ∃ v, e = .returned (.tuple #[v, .bool false, .int .i64 0]) ∧ Owns w' w.heap.size v zs ∧ Below w.heap.size w w' := by
  have hl := hp.len
  have h40 : Hid (∀ z ∈ zs, 0 ≤ z ∧ z ≤ 1000) := fun z hz => by have := hp.range z hz; omega
  have hrn := hp.range _ (getD_mem (show zs.length - 1 < zs.length by omega))
  obtain ⟨b, off, z, rfl, HZ, hz1, hz2, hc⟩ := hs.elem (show zs.length - 1 < zs.length by omega)
  rw [← HZ.out] at hrn
  have hR := runN_le zs
  unfold frankDown lastOf at hd
  unfold frankUp lastOf at hu
  rw [← HZ.out] at hd hu
  obtain ⟨R, HR⟩ : ∃ R, Hid (R = runN zs) := ⟨_, rfl⟩
  have hfr : Hid (∀ w, Shows w (some ⟨b, off, none⟩) zs → Calls Try.prog 37 #[.slice (some ⟨b, off, none⟩) zs.length cap] w fun e w' => e = .returned (.int .i64 R) ∧ ∃ n, w' = w.drewN n) := fun w h => by
    rw [HR.out]; exact firstRun_any _ _ _ _ h h40.out
  rw [← HR.out] at hR hd hu
  have hpos : (0 : Int) < (zs.length : Int) := by omega
  have hnz : ((zs.length : Int) == 0) = false := beq_eq_false_iff_ne.2 (by omega)
  have hsw : ∀ n, Shows (w.drewN n) (some ⟨b, off, none⟩) zs := fun n => hs.below (below_drewN (Below.refl _ _) n)
  have hRn : ((R : Int) == (zs.length : Int)) = true := beq_iff_eq.2 (by omega)
  have hcs : z = zs.length ∨ z = zs.length + 1 := by omega
  clear hd hu
  rcases hcs with hcs | hcs
  · have h1 : z ≤ R := by have := beq_iff_eq.1 hRn; omega
    have h2 : (z == (zs.length : Int)) = true := beq_iff_eq.2 hcs
    have h3 : decide ((R : Int) < z) = false := by simp; omega
    clear hcs
    go_enter Try.func23, Try.ntmps23
    go_wp2_with (go_at_call 36; refine (checkDistinct_is _ _ _ _ hs E).mono ?_; rintro e w' ⟨rfl, rfl⟩)
    go_quiet ((go_at_call 37; exact Calls.quiet_of (hfr.out _ (hsw _))))
    go_wp2_with fail
    refine (copied_at _ _ _ _ _ (hsw nq) rfl).mono ?_
    rintro e w1 ⟨v, rfl, hown, hb1⟩
    have HB1 : Hid (Below w'.heap.size w' w1) := (below_drewN (Below.refl _ _) nq).trans hb1
    have HO : Hid (Owns w1 (w'.drewN nq).heap.size v zs) := hown
    clear hown hb1
    go_wp2_with fail
    go_ret3
    exact ⟨_, rfl, HO.out, HB1.out⟩
  · have h1 : decide (z ≤ (R : Int)) = false := by have := beq_iff_eq.1 hRn; simp; omega
    have h2 : (z == (zs.length : Int) + 1) = true := beq_iff_eq.2 hcs
    have h3 : (R : Int) < z := by omega
    clear hcs
    go_enter Try.func23, Try.ntmps23
    go_wp2_with (go_at_call 36; refine (checkDistinct_is _ _ _ _ hs E).mono ?_; rintro e w' ⟨rfl, rfl⟩)
    go_quiet ((go_at_call 37; exact Calls.quiet_of (hfr.out _ (hsw _))))
    go_wp2_with fail
    refine (copied_at _ _ _ _ _ (hsw nq) rfl).mono ?_
    rintro e w1 ⟨v, rfl, hown, hb1⟩
    have HB1 : Hid (Below w'.heap.size w' w1) := (below_drewN (Below.refl _ _) nq).trans hb1
    have HO : Hid (Owns w1 (w'.drewN nq).heap.size v zs) := hown
    clear hown hb1
    go_wp2_with fail
    go_ret3
    exact ⟨_, rfl, HO.out, HB1.out⟩

#print axioms Franklin_up
#print axioms Franklin_stay
end Go.Proofs.Ytnjbkiegeielhaa
