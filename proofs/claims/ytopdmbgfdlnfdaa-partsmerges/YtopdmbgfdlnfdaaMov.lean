/-
  The contract of ferref.Moved.
-/
import Derived.Test.YtopdmbgfdlnfdaaSpd
namespace Go.Proofs.Ytopdmbgfdlnfdaa
open Go.RowKit

theorem Owns.takeN {w : World} {base g cap n m : Nat} {zs : List Int} (h : Owns w base (.slice (some ⟨g, 0, none⟩) n cap) zs) (hm : m ≤ zs.length) : Owns w base (.slice (some ⟨g, 0, none⟩) m cap) (zs.take m) := by
  rcases h.2 with ⟨h2, h3⟩ | ⟨g', cap', cur, hv, hg, hh, h4, h5, h6, h7⟩
  · cases h2
  · simp only [Value.slice.injEq, Option.some.injEq, Addr.mk.injEq, and_true] at hv
    obtain ⟨rfl, rfl, rfl⟩ := hv
    refine ⟨by simp, Or.inr ⟨g, cap, cur, by simp; omega, hg, hh, by simp; omega, h5, h6, ?_⟩⟩
    rw [List.map_take, ← h7, List.take_take]
    congr 1; simp

set_option maxHeartbeats 1000000 in
theorem Moved_err (a : Option Addr) (cap : Nat) (zs : List Int) (w : World) (hs : Shows w a zs) (k : Int) (hk : 0 < k) (E : Hid (twiceV zs = k)) :
    Calls Try.prog 26 #[.slice a zs.length cap] w fun e w' => e = .returned (.tuple #[.slice none 0 0, .bool false, .int .i64 3]) ∧ ∃ n, w' = w.drewN n := by
  go_enter Try.func26, Try.ntmps26
  go_wp2_with (go_at_call 39; refine (Twice_is _ _ _ _ _ hs rfl E).mono ?_; rintro e w1 ⟨rfl, hd⟩)
  go_ret3
  exact ⟨rfl, hd⟩
set_option maxHeartbeats 1000000 in
theorem Moved_nil (a : Option Addr) (cap : Nat) (w : World) :
    Calls Try.prog 26 #[.slice a 0 cap] w fun e w' => e = .returned (.tuple #[.slice none 0 0, .bool false, .int .i64 0]) ∧ ∃ n, w' = w.drewN n := by
  have hs : Shows w a [] := ⟨by simp, fun z h => (by cases h), fun h => absurd rfl h⟩
  go_enter Try.func26, Try.ntmps26
  go_wp2_with (go_at_call 39; refine (Twice_is _ _ _ [] _ hs rfl (c := -1) rfl).mono ?_; rintro e w1 ⟨rfl, hd⟩)
  go_ret3
  exact ⟨rfl, hd⟩

set_option maxHeartbeats 16000000 in
theorem Moved_ok (a : Option Addr) (cap : Nat) (zs q : List Int) (mv : Bool) (w0 : World) (hs0 : Shows w0 a zs) (hnone : Hid (a = none → zs = [] ∧ cap = 0)) (hp : IsPart zs) (hne : 0 < zs.length) (E : Hid (twiceV zs = -1))
    (hfr : Hid ((lastOf zs ≤ runN zs ∧ ¬ (runN zs = zs.length ∧ lastOf zs = zs.length) ∧ q = downOf zs ∧ mv = true) ∨ ((runN zs : Int) < lastOf zs ∧ ¬ (runN zs = zs.length ∧ lastOf zs = zs.length + 1) ∧ q = upOf zs ∧ mv = true) ∨ (runN zs = zs.length ∧ (lastOf zs = zs.length ∨ lastOf zs = zs.length + 1) ∧ q = zs ∧ mv = false))) :
    Calls Try.prog 26 #[.slice a zs.length cap] w0 fun e w' => ∃ v, e = .returned (.tuple #[v, .bool mv, .int .i64 0]) ∧ Owns w' w0.heap.size v q ∧ Below w0.heap.size w0 w' := by
  have hl := hp.len
  have HLT : Hid ((zs.take (zs.length - 1)).length = zs.length - 1) := by show _ = _; simp
  go_enter Try.func26, Try.ntmps26
  go_wp2_with fail
  refine (Twice_is _ _ _ _ _ hs0 rfl E).mono ?_
  rintro e w ⟨rfl, n0, rfl⟩
  obtain ⟨b, off, z, rfl, HZ, hz1, hz2, hc⟩ := hs0.elem (show zs.length - 1 < zs.length by omega)
  have hrn : 1 ≤ z ∧ z ≤ 40 := by rw [HZ.out]; exact hp.range _ (getD_mem (by omega))
  have hnz : ((zs.length : Int) == 0) = false := beq_eq_false_iff_ne.2 (by omega)
  have hpos : (0 : Int) < (zs.length : Int) := by omega
  have hsw : ∀ n, Shows (w0.drewN n) (some ⟨b, off, none⟩) zs := fun n => hs0.below (below_drewN (Below.refl _ _) n)
  go_wp2_with fail
  go_loopw [7, 8] (fun r i wr => ∃ (k i' : Nat), k ≤ zs.length ∧ r = .int .i64 k ∧ i = .int .i64 i' ∧ (i' = k ∨ i' = k + 1) ∧ Hid (i' = k + 1 → k < zs.length ∧ zs.getD k 0 ≠ zs.getD 0 0 - k) ∧ Hid (∀ j, j < k → zs.getD j 0 = zs.getD 0 0 - j) ∧ ∃ n, wr = w0.drewN n) (fun _ i _ => zs.length + 1 - (intOf i).toNat)
  case atStart => exact ⟨0, 0, Nat.zero_le _, rfl, rfl, Or.inl rfl, fun h => by omega, fun j hj => by omega, n0, rfl⟩
  case round =>
    obtain ⟨k, i', hk, rfl, rfl, hik, HM, HR, n, rfl⟩ := hrel
    by_cases hgo : i' = k ∧ k < zs.length
    · obtain ⟨rfl, hlt⟩ := hgo
      have hlt' : (i' : Int) < (zs.length : Int) := by omega
      obtain ⟨b', off', y, y0, hbo, HY, HY0, -, -, -, -, hcy, hcy0⟩ := hs0.elem2 hlt hne
      simp only [Option.some.injEq, Addr.mk.injEq, and_true] at hbo
      obtain ⟨rfl, rfl⟩ := hbo
      rw [Nat.add_zero] at hcy0
      have hyb : 1 ≤ y0 ∧ y0 ≤ 40 := by rw [HY0.out]; exact hp.range _ (getD_mem hne)
      obtain ⟨hyb1, hyb2⟩ := hyb
      have hik' : ((i' : Int) == (i' : Int)) = true := by simp
      clear hik
      by_cases he : y = y0 - i'
      · have HE : Hid (y = y0 - i') := he
        have hbb : (y == y0 - (i' : Int)) = true := beq_iff_eq.2 he
        clear he
        go_wp2_with fail
        go_quiet (fail)
        go_wp2
        go_roundw
        case rel => exact ⟨i' + 1, i' + 1, by omega, by go_num, by go_num, Or.inl rfl, fun h => by omega, fun j hj => by
                      by_cases hj' : j < i'
                      · exact HR.out j hj'
                      · obtain rfl : j = i' := by omega
                        rw [← HY.out, ← HY0.out]; exact HE.out, _, by first | exact rfl | exact drewN_two _ _ _⟩
        case measure => simp [intOf]; omega
      · have HE : Hid (¬ y = y0 - i') := he
        have hbb : (y == y0 - (i' : Int)) = false := beq_eq_false_iff_ne.2 he
        clear he
        go_wp2_with fail
        go_quiet (fail)
        go_wp2
        go_roundw
        case rel => exact ⟨i', i' + 1, by omega, rfl, by go_num, Or.inr rfl, fun _ => ⟨hlt, by rw [← HY.out, ← HY0.out]; exact HE.out⟩, HR, _, by first | exact rfl | exact drewN_two _ _ _⟩
        case measure => simp [intOf]; omega
    · have HEND : k < zs.length → zs.getD k 0 ≠ zs.getD 0 0 - k := fun h => by
        rcases hik with e | e
        · exact absurd ⟨e, h⟩ hgo
        · exact (HM.out e).2
      have HRN : Hid (runN zs = k) := runN_of zs k hk HR.out (fun h => HEND h)
      have hcase : Hid ((z ≤ (k : Int) ∧ ¬ (k = zs.length ∧ z = zs.length) ∧ q = downOf zs ∧ mv = true) ∨ ((k : Int) < z ∧ ¬ (k = zs.length ∧ z = zs.length + 1) ∧ q = upOf zs ∧ mv = true) ∨ (k = zs.length ∧ (z = zs.length ∨ z = zs.length + 1) ∧ q = zs ∧ mv = false)) := by
        have := hfr.out
        unfold lastOf at this
        rw [HRN.out, ← HZ.out] at this
        exact this
      have HSW := hsw n
      clear HEND hfr
      have hexit : (i' = k ∧ decide ((i' : Int) < (zs.length : Int)) = false) ∨ (i' = k + 1 ∧ decide ((i' : Int) < (zs.length : Int)) = false) ∨ (i' = k + 1 ∧ (i' : Int) < (zs.length : Int)) := by
        rcases hik with e | e
        · left; refine ⟨e, ?_⟩; simp; omega
        · by_cases h : k + 1 < zs.length
          · right; right; omega
          · right; left; refine ⟨e, ?_⟩; simp; omega
      clear hik hgo HM HR
      rcases hexit with ⟨rfl, hx⟩ | ⟨rfl, hx⟩ | ⟨rfl, hx⟩
      · have hge : i' = zs.length := by have h1 : zs.length ≤ i' := (by simpa using hx); omega
        have HGE : Hid (i' = zs.length) := hge
        have hge2 : (zs.length : Int) ≤ (i' : Int) := by omega
        clear hge
        go_wp2_with (at_builtin; refine append_src (zs := []) (ys := zs) rfl _ _ rfl rfl rfl (World.ownsRow_nil _ w0.heap.size _ _) HSW rfl hnone.out ?c1 ?c2 ?_)
        case c1 => simp; omega
        case c2 => exact Nat.le_refl _
        intro v w2 hown hb2 _
        obtain ⟨g, cp, rfl, -⟩ := hown.head hne
        have hcpn : zs.length ≤ cp := (hown.block rfl).2.choose_spec.2.2.1
        have HO : Hid (Owns w2 w0.heap.size (.slice (some ⟨g, 0, none⟩) zs.length cp) zs) := hown
        have HB2 : Hid (Below w0.heap.size w0 w2) := (below_drewN (Below.refl _ _) n).trans hb2
        clear hown hb2
        rcases hcase.out with ⟨hd1, hd2, rfl, rfl⟩ | ⟨hu1, hu2, rfl, rfl⟩ | ⟨hs1, hs2, hqz, rfl⟩
        · have hd3 : z ≤ (i' : Int) := by omega
          have hzl : z ≤ (zs.length : Int) - 1 := by omega
          have hzn : (z == (zs.length : Int)) = false := beq_eq_false_iff_ne.2 (by omega)
          have key : ∀ t : Bool, ((i' : Int) == (zs.length : Int)) = t → True := fun _ _ => trivial
          obtain ⟨t, ht⟩ : ∃ t : Bool, ((i' : Int) == (zs.length : Int)) = t := ⟨_, rfl⟩
          have HOT : Hid (Owns w2 w0.heap.size (.slice (some ⟨g, 0, none⟩) (zs.length - 1) cp) (zs.take (zs.length - 1))) := HO.out.takeN (by omega)
          clear hd1 hd2
          cases t
          all_goals
            go_wp2_with fail
            go_loopw [10] (fun i wr => ∃ j : Nat, (j : Int) ≤ z ∧ i = .int .i64 j ∧ Hid (Owns wr w0.heap.size (.slice (some ⟨g, 0, none⟩) (zs.length - 1) cp) (bump j 1 (zs.take (zs.length - 1)))) ∧ Hid (Below w0.heap.size w0 wr)) (fun i _ => (z - intOf i).toNat)
            case atStart => exact ⟨0, by omega, rfl, by rw [bump_zero]; exact HOT, HB2⟩
            case round =>
              obtain ⟨j, hj, rfl, HK, HBk⟩ := hrel
              by_cases hlt : (j : Int) < z
              · have hkl : j < (zs.take (zs.length - 1)).length := by rw [HLT.out]; omega
                obtain ⟨hgB, hfz, hcl⟩ := HK.out.at (by rw [bump_length, HLT.out])
                have hck := hcl j (by rw [bump_length]; exact hkl)
                rw [bump_getD _ _ _ _ hkl, if_neg (Nat.lt_irrefl _), Int.add_zero] at hck
                obtain ⟨x, HX⟩ : ∃ x, Hid (x = (zs.take (zs.length - 1)).getD j 0) := ⟨_, rfl⟩
                rw [← HX.out] at hck
                have hx : 1 ≤ x ∧ x ≤ 40 := by rw [HX.out]; exact hp.range _ (List.mem_of_mem_take (getD_mem hkl))
                obtain ⟨hx1, hx2⟩ := hx
                have hfk := hfz j
                have hk1 : (j : Int) < (zs.length : Int) - 1 := by omega
                have hk2 : j < zs.length - 1 := by omega
                have HS' : Hid _ := bump_step HK.out HLT.out.symm hkl HX.out
                clear hcl hfz
                go_wp2
                go_roundw
                case rel => exact ⟨j + 1, by omega, by go_num, HS', HBk.out.setCell hgB _⟩
                case measure => simp [intOf]; omega
              · obtain rfl : z = j := by omega
                go_wp2
                go_ret3
                refine ⟨_, rfl, ?_, HBk.out⟩
                have := HK.out
                unfold downOf lastOf
                rw [← HZ.out]
                exact this
        · have hd3 : decide (z ≤ (i' : Int)) = false := by simp; omega
          have hkb : i' ≤ zs.length := hk
          have hz40 := hrn
          obtain ⟨t, ht⟩ : ∃ t : Bool, ((i' : Int) == (zs.length : Int)) = t := ⟨_, rfl⟩
          have hzt : Hid (t = true → (z == (zs.length : Int) + 1) = false) := fun h => by
            have h' : (i' : Int) = zs.length := by rw [h] at ht; simpa using ht
            exact beq_eq_false_iff_ne.2 (fun e => hu2 ⟨by omega, e⟩)
          clear hu2
          cases t
          all_goals
            try have hzt' := hzt.out rfl
            clear hzt
            go_wp2_with fail
            go_loopw [11] (fun i wr => ∃ j : Nat, j ≤ i' ∧ i = .int .i64 j ∧ Hid (Owns wr w0.heap.size (.slice (some ⟨g, 0, none⟩) zs.length cp) (bump j (-1) zs)) ∧ Hid (Below w0.heap.size w0 wr)) (fun i _ => i' - (intOf i).toNat)
            case atStart => exact ⟨0, by omega, rfl, by rw [bump_zero]; exact HO, HB2⟩
            case round =>
              obtain ⟨j, hj, rfl, HK, HBk⟩ := hrel
              obtain ⟨hgB, hfz, hcl⟩ := HK.out.at (by rw [bump_length])
              by_cases hlt : j < i'
              · have hkl : j < zs.length := by omega
                have hck := hcl j (by rw [bump_length]; exact hkl)
                rw [bump_getD _ _ _ _ hkl, if_neg (Nat.lt_irrefl _), Int.add_zero] at hck
                obtain ⟨x, HX⟩ : ∃ x, Hid (x = zs.getD j 0) := ⟨_, rfl⟩
                rw [← HX.out] at hck
                have hx : 1 ≤ x ∧ x ≤ 40 := by rw [HX.out]; exact hp.range _ (getD_mem hkl)
                obtain ⟨hx1, hx2⟩ := hx
                have hfk := hfz j
                have HS' : Hid _ := bump_step HK.out rfl hkl HX.out
                clear hcl hfz
                go_wp2
                go_roundw
                case rel => exact ⟨j + 1, by omega, by go_num, HS', HBk.out.setCell hgB _⟩
                case measure => simp [intOf]; omega
              · obtain rfl : j = i' := by omega
                clear hcl hfz
                have hsz := HBk.out.size
                go_wp2_with (at_builtin; refine append_int (x := (j : Int)) rfl _ _ rfl rfl HK.out rfl ?e1 ?e2 ?_)
                case e1 => rw [bump_length]; omega
                case e2 => omega
                intro v' w3 hown' hgrow'
                have HF : Hid (Owns w3 w0.heap.size v' (upOf zs)) := by
                  show Owns _ _ _ _
                  unfold upOf; rw [HRN.out]; exact hown'
                have HBF : Hid (Below w0.heap.size w0 w3) := HBk.out.trans hgrow'
                clear hown' hgrow'
                go_wp2
                go_ret3
                exact ⟨_, rfl, HF.out, HBF.out⟩
        · obtain rfl := hqz.symm
          have hRn : ((i' : Int) == (zs.length : Int)) = true := beq_iff_eq.2 (by omega)
          rcases hs2 with hs2 | hs2
          · have h1 : z ≤ (i' : Int) := by omega
            have h2 : (z == (zs.length : Int)) = true := beq_iff_eq.2 hs2
            clear hs1 hs2
            go_wp2_with fail
            go_ret3
            exact ⟨_, rfl, HO.out, HB2.out⟩
          · have h1 : decide (z ≤ (i' : Int)) = false := by simp; omega
            have h2 : (z == (zs.length : Int) + 1) = true := beq_iff_eq.2 hs2
            clear hs1 hs2
            go_wp2_with fail
            go_ret3
            exact ⟨_, rfl, HO.out, HB2.out⟩
      · have hge1 : zs.length ≤ k + 1 := by have := of_decide_eq_false hx; omega
        have hge2 : (zs.length : Int) ≤ (k : Int) + 1 := by omega
        have hge3 : decide ((k : Int) + 1 < (zs.length : Int)) = false := by simp; omega
        clear hx
        go_wp2_with (at_builtin; refine append_src (zs := []) (ys := zs) rfl _ _ rfl rfl rfl (World.ownsRow_nil _ w0.heap.size _ _) HSW rfl hnone.out ?c1 ?c2 ?_)
        case c1 => simp; omega
        case c2 => exact Nat.le_refl _
        intro v w2 hown hb2 _
        obtain ⟨g, cp, rfl, -⟩ := hown.head hne
        have hcpn : zs.length ≤ cp := (hown.block rfl).2.choose_spec.2.2.1
        have HO : Hid (Owns w2 w0.heap.size (.slice (some ⟨g, 0, none⟩) zs.length cp) zs) := hown
        have HB2 : Hid (Below w0.heap.size w0 w2) := (below_drewN (Below.refl _ _) n).trans hb2
        clear hown hb2
        rcases hcase.out with ⟨hd1, hd2, rfl, rfl⟩ | ⟨hu1, hu2, rfl, rfl⟩ | ⟨hs1, hs2, hqz, rfl⟩
        · have hd3 : z ≤ (k : Int) := by omega
          have hzl : z ≤ (zs.length : Int) - 1 := by omega
          have hzn : (z == (zs.length : Int)) = false := beq_eq_false_iff_ne.2 (by omega)
          have key : ∀ t : Bool, ((k : Int) == (zs.length : Int)) = t → True := fun _ _ => trivial
          obtain ⟨t, ht⟩ : ∃ t : Bool, ((k : Int) == (zs.length : Int)) = t := ⟨_, rfl⟩
          have HOT : Hid (Owns w2 w0.heap.size (.slice (some ⟨g, 0, none⟩) (zs.length - 1) cp) (zs.take (zs.length - 1))) := HO.out.takeN (by omega)
          clear hd1 hd2
          cases t
          all_goals
            go_wp2_with fail
            go_loopw [10] (fun i wr => ∃ j : Nat, (j : Int) ≤ z ∧ i = .int .i64 j ∧ Hid (Owns wr w0.heap.size (.slice (some ⟨g, 0, none⟩) (zs.length - 1) cp) (bump j 1 (zs.take (zs.length - 1)))) ∧ Hid (Below w0.heap.size w0 wr)) (fun i _ => (z - intOf i).toNat)
            case atStart => exact ⟨0, by omega, rfl, by rw [bump_zero]; exact HOT, HB2⟩
            case round =>
              obtain ⟨j, hj, rfl, HK, HBk⟩ := hrel
              by_cases hlt : (j : Int) < z
              · have hkl : j < (zs.take (zs.length - 1)).length := by rw [HLT.out]; omega
                obtain ⟨hgB, hfz, hcl⟩ := HK.out.at (by rw [bump_length, HLT.out])
                have hck := hcl j (by rw [bump_length]; exact hkl)
                rw [bump_getD _ _ _ _ hkl, if_neg (Nat.lt_irrefl _), Int.add_zero] at hck
                obtain ⟨x, HX⟩ : ∃ x, Hid (x = (zs.take (zs.length - 1)).getD j 0) := ⟨_, rfl⟩
                rw [← HX.out] at hck
                have hx : 1 ≤ x ∧ x ≤ 40 := by rw [HX.out]; exact hp.range _ (List.mem_of_mem_take (getD_mem hkl))
                obtain ⟨hx1, hx2⟩ := hx
                have hfk := hfz j
                have hk1 : (j : Int) < (zs.length : Int) - 1 := by omega
                have hk2 : j < zs.length - 1 := by omega
                have HS' : Hid _ := bump_step HK.out HLT.out.symm hkl HX.out
                clear hcl hfz
                go_wp2
                go_roundw
                case rel => exact ⟨j + 1, by omega, by go_num, HS', HBk.out.setCell hgB _⟩
                case measure => simp [intOf]; omega
              · obtain rfl : z = j := by omega
                go_wp2
                go_ret3
                refine ⟨_, rfl, ?_, HBk.out⟩
                have := HK.out
                unfold downOf lastOf
                rw [← HZ.out]
                exact this
        · have hd3 : decide (z ≤ (k : Int)) = false := by simp; omega
          have hkb : k ≤ zs.length := hk
          have hz40 := hrn
          obtain ⟨t, ht⟩ : ∃ t : Bool, ((k : Int) == (zs.length : Int)) = t := ⟨_, rfl⟩
          have hzt : Hid (t = true → (z == (zs.length : Int) + 1) = false) := fun h => by
            have h' : (k : Int) = zs.length := by rw [h] at ht; simpa using ht
            exact beq_eq_false_iff_ne.2 (fun e => hu2 ⟨by omega, e⟩)
          clear hu2
          cases t
          all_goals
            try have hzt' := hzt.out rfl
            clear hzt
            go_wp2_with fail
            go_loopw [11] (fun i wr => ∃ j : Nat, j ≤ k ∧ i = .int .i64 j ∧ Hid (Owns wr w0.heap.size (.slice (some ⟨g, 0, none⟩) zs.length cp) (bump j (-1) zs)) ∧ Hid (Below w0.heap.size w0 wr)) (fun i _ => k - (intOf i).toNat)
            case atStart => exact ⟨0, by omega, rfl, by rw [bump_zero]; exact HO, HB2⟩
            case round =>
              obtain ⟨j, hj, rfl, HK, HBk⟩ := hrel
              obtain ⟨hgB, hfz, hcl⟩ := HK.out.at (by rw [bump_length])
              by_cases hlt : j < k
              · have hkl : j < zs.length := by omega
                have hck := hcl j (by rw [bump_length]; exact hkl)
                rw [bump_getD _ _ _ _ hkl, if_neg (Nat.lt_irrefl _), Int.add_zero] at hck
                obtain ⟨x, HX⟩ : ∃ x, Hid (x = zs.getD j 0) := ⟨_, rfl⟩
                rw [← HX.out] at hck
                have hx : 1 ≤ x ∧ x ≤ 40 := by rw [HX.out]; exact hp.range _ (getD_mem hkl)
                obtain ⟨hx1, hx2⟩ := hx
                have hfk := hfz j
                have HS' : Hid _ := bump_step HK.out rfl hkl HX.out
                clear hcl hfz
                go_wp2
                go_roundw
                case rel => exact ⟨j + 1, by omega, by go_num, HS', HBk.out.setCell hgB _⟩
                case measure => simp [intOf]; omega
              · obtain rfl : j = k := by omega
                clear hcl hfz
                have hsz := HBk.out.size
                go_wp2_with (at_builtin; refine append_int (x := (j : Int)) rfl _ _ rfl rfl HK.out rfl ?e1 ?e2 ?_)
                case e1 => rw [bump_length]; omega
                case e2 => omega
                intro v' w3 hown' hgrow'
                have HF : Hid (Owns w3 w0.heap.size v' (upOf zs)) := by
                  show Owns _ _ _ _
                  unfold upOf; rw [HRN.out]; exact hown'
                have HBF : Hid (Below w0.heap.size w0 w3) := HBk.out.trans hgrow'
                clear hown' hgrow'
                go_wp2
                go_ret3
                exact ⟨_, rfl, HF.out, HBF.out⟩
        · obtain rfl := hqz.symm
          have hRn : ((k : Int) == (zs.length : Int)) = true := beq_iff_eq.2 (by omega)
          rcases hs2 with hs2 | hs2
          · have h1 : z ≤ (k : Int) := by omega
            have h2 : (z == (zs.length : Int)) = true := beq_iff_eq.2 hs2
            clear hs1 hs2
            go_wp2_with fail
            go_ret3
            exact ⟨_, rfl, HO.out, HB2.out⟩
          · have h1 : decide (z ≤ (k : Int)) = false := by simp; omega
            have h2 : (z == (zs.length : Int) + 1) = true := beq_iff_eq.2 hs2
            clear hs1 hs2
            go_wp2_with fail
            go_ret3
            exact ⟨_, rfl, HO.out, HB2.out⟩
      · have hne3 : ((k : Int) + 1 == (k : Int)) = false := beq_eq_false_iff_ne.2 (by omega)
        have hx3 : (k : Int) + 1 < (zs.length : Int) := by omega
        clear hx
        go_wp2_with (at_builtin; refine append_src (zs := []) (ys := zs) rfl _ _ rfl rfl rfl (World.ownsRow_nil _ w0.heap.size _ _) HSW rfl hnone.out ?c1 ?c2 ?_)
        case c1 => simp; omega
        case c2 => exact Nat.le_refl _
        intro v w2 hown hb2 _
        obtain ⟨g, cp, rfl, -⟩ := hown.head hne
        have hcpn : zs.length ≤ cp := (hown.block rfl).2.choose_spec.2.2.1
        have HO : Hid (Owns w2 w0.heap.size (.slice (some ⟨g, 0, none⟩) zs.length cp) zs) := hown
        have HB2 : Hid (Below w0.heap.size w0 w2) := (below_drewN (Below.refl _ _) n).trans hb2
        clear hown hb2
        rcases hcase.out with ⟨hd1, hd2, rfl, rfl⟩ | ⟨hu1, hu2, rfl, rfl⟩ | ⟨hs1, hs2, hqz, rfl⟩
        · have hd3 : z ≤ (k : Int) := by omega
          have hzl : z ≤ (zs.length : Int) - 1 := by omega
          have hzn : (z == (zs.length : Int)) = false := beq_eq_false_iff_ne.2 (by omega)
          have key : ∀ t : Bool, ((k : Int) == (zs.length : Int)) = t → True := fun _ _ => trivial
          obtain ⟨t, ht⟩ : ∃ t : Bool, ((k : Int) == (zs.length : Int)) = t := ⟨_, rfl⟩
          have HOT : Hid (Owns w2 w0.heap.size (.slice (some ⟨g, 0, none⟩) (zs.length - 1) cp) (zs.take (zs.length - 1))) := HO.out.takeN (by omega)
          clear hd1 hd2
          cases t
          all_goals
            go_wp2_with fail
            go_loopw [10] (fun i wr => ∃ j : Nat, (j : Int) ≤ z ∧ i = .int .i64 j ∧ Hid (Owns wr w0.heap.size (.slice (some ⟨g, 0, none⟩) (zs.length - 1) cp) (bump j 1 (zs.take (zs.length - 1)))) ∧ Hid (Below w0.heap.size w0 wr)) (fun i _ => (z - intOf i).toNat)
            case atStart => exact ⟨0, by omega, rfl, by rw [bump_zero]; exact HOT, HB2⟩
            case round =>
              obtain ⟨j, hj, rfl, HK, HBk⟩ := hrel
              by_cases hlt : (j : Int) < z
              · have hkl : j < (zs.take (zs.length - 1)).length := by rw [HLT.out]; omega
                obtain ⟨hgB, hfz, hcl⟩ := HK.out.at (by rw [bump_length, HLT.out])
                have hck := hcl j (by rw [bump_length]; exact hkl)
                rw [bump_getD _ _ _ _ hkl, if_neg (Nat.lt_irrefl _), Int.add_zero] at hck
                obtain ⟨x, HX⟩ : ∃ x, Hid (x = (zs.take (zs.length - 1)).getD j 0) := ⟨_, rfl⟩
                rw [← HX.out] at hck
                have hx : 1 ≤ x ∧ x ≤ 40 := by rw [HX.out]; exact hp.range _ (List.mem_of_mem_take (getD_mem hkl))
                obtain ⟨hx1, hx2⟩ := hx
                have hfk := hfz j
                have hk1 : (j : Int) < (zs.length : Int) - 1 := by omega
                have hk2 : j < zs.length - 1 := by omega
                have HS' : Hid _ := bump_step HK.out HLT.out.symm hkl HX.out
                clear hcl hfz
                go_wp2
                go_roundw
                case rel => exact ⟨j + 1, by omega, by go_num, HS', HBk.out.setCell hgB _⟩
                case measure => simp [intOf]; omega
              · obtain rfl : z = j := by omega
                go_wp2
                go_ret3
                refine ⟨_, rfl, ?_, HBk.out⟩
                have := HK.out
                unfold downOf lastOf
                rw [← HZ.out]
                exact this
        · have hd3 : decide (z ≤ (k : Int)) = false := by simp; omega
          have hkb : k ≤ zs.length := hk
          have hz40 := hrn
          obtain ⟨t, ht⟩ : ∃ t : Bool, ((k : Int) == (zs.length : Int)) = t := ⟨_, rfl⟩
          have hzt : Hid (t = true → (z == (zs.length : Int) + 1) = false) := fun h => by
            have h' : (k : Int) = zs.length := by rw [h] at ht; simpa using ht
            exact beq_eq_false_iff_ne.2 (fun e => hu2 ⟨by omega, e⟩)
          clear hu2
          cases t
          all_goals
            try have hzt' := hzt.out rfl
            clear hzt
            go_wp2_with fail
            go_loopw [11] (fun i wr => ∃ j : Nat, j ≤ k ∧ i = .int .i64 j ∧ Hid (Owns wr w0.heap.size (.slice (some ⟨g, 0, none⟩) zs.length cp) (bump j (-1) zs)) ∧ Hid (Below w0.heap.size w0 wr)) (fun i _ => k - (intOf i).toNat)
            case atStart => exact ⟨0, by omega, rfl, by rw [bump_zero]; exact HO, HB2⟩
            case round =>
              obtain ⟨j, hj, rfl, HK, HBk⟩ := hrel
              obtain ⟨hgB, hfz, hcl⟩ := HK.out.at (by rw [bump_length])
              by_cases hlt : j < k
              · have hkl : j < zs.length := by omega
                have hck := hcl j (by rw [bump_length]; exact hkl)
                rw [bump_getD _ _ _ _ hkl, if_neg (Nat.lt_irrefl _), Int.add_zero] at hck
                obtain ⟨x, HX⟩ : ∃ x, Hid (x = zs.getD j 0) := ⟨_, rfl⟩
                rw [← HX.out] at hck
                have hx : 1 ≤ x ∧ x ≤ 40 := by rw [HX.out]; exact hp.range _ (getD_mem hkl)
                obtain ⟨hx1, hx2⟩ := hx
                have hfk := hfz j
                have HS' : Hid _ := bump_step HK.out rfl hkl HX.out
                clear hcl hfz
                go_wp2
                go_roundw
                case rel => exact ⟨j + 1, by omega, by go_num, HS', HBk.out.setCell hgB _⟩
                case measure => simp [intOf]; omega
              · obtain rfl : j = k := by omega
                clear hcl hfz
                have hsz := HBk.out.size
                go_wp2_with (at_builtin; refine append_int (x := (j : Int)) rfl _ _ rfl rfl HK.out rfl ?e1 ?e2 ?_)
                case e1 => rw [bump_length]; omega
                case e2 => omega
                intro v' w3 hown' hgrow'
                have HF : Hid (Owns w3 w0.heap.size v' (upOf zs)) := by
                  show Owns _ _ _ _
                  unfold upOf; rw [HRN.out]; exact hown'
                have HBF : Hid (Below w0.heap.size w0 w3) := HBk.out.trans hgrow'
                clear hown' hgrow'
                go_wp2
                go_ret3
                exact ⟨_, rfl, HF.out, HBF.out⟩
        · obtain rfl := hqz.symm
          have hRn : ((k : Int) == (zs.length : Int)) = true := beq_iff_eq.2 (by omega)
          rcases hs2 with hs2 | hs2
          · have h1 : z ≤ (k : Int) := by omega
            have h2 : (z == (zs.length : Int)) = true := beq_iff_eq.2 hs2
            clear hs1 hs2
            go_wp2_with fail
            go_ret3
            exact ⟨_, rfl, HO.out, HB2.out⟩
          · have h1 : decide (z ≤ (k : Int)) = false := by simp; omega
            have h2 : (z == (zs.length : Int) + 1) = true := beq_iff_eq.2 hs2
            clear hs1 hs2
            go_wp2_with fail
            go_ret3
            exact ⟨_, rfl, HO.out, HB2.out⟩

#print axioms Moved_ok
end Go.Proofs.Ytopdmbgfdlnfdaa
