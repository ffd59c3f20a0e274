/-
  The walk of the law PermsRounds: for every slice that can be read it returns true; nothing old has turned.
-/
import Derived.Test.YtnjbkiegeielhacRArr
namespace Go.Proofs.Ytnjbkiegeielhac
open Go.RowKit

theorem rnd213 : RndR [2, 1, 3] 0 [2, 1, 3] := by
  have hp : IsPerm [2, 1, 3] := pchk_ok.1 (by decide)
  have h : unrL [2, 1, 3] = [2, 1, 3] := by decide
  have := rnd_unr hp
  rw [h] at this
  exact ⟨by decide, fun _ => this, fun h => absurd rfl h⟩

theorem tops_le : ∀ (l : List Int) (g : Int), tops g l ≤ l.length := by
  intro l
  induction l with
  | nil => intro g; exact Nat.le_refl _
  | cons x l ih =>
    intro g
    rw [tops]
    split
    · have := ih x; simp; omega
    · have := ih g; simp; omega

set_option maxHeartbeats 2000000 in
set_option maxRecDepth 100000 in
theorem rnd_err (a : Option Addr) (cap : Nat) (zs : List Int) (w : World) (hs : Shows w a zs) (c : Int) (hc : (c != 0) = true) (hr : Hid (RndR zs c [])) (hu : Hid (UnrR zs c [])) :
    Calls Try.prog 3 #[.slice a zs.length cap] w fun e w' => e = .returned (.bool true) ∧ Below w.heap.size w w' := by
  go_enter Try.func3, Try.ntmps3
  go_wp2_with fail
  refine (Rounds_at _ _ _ _ (shows_lit w [2, 1, 3] _ rfl (by decide) (by decide)) rfl rnd213).mono ?_
  rintro e w1 ⟨v, rfl, hown, hb⟩
  have hbx : Below w.heap.size w w1 := ((Below.refl _ _).alloc (Nat.le_refl _) _).trans (hb.mono (by simp))
  have HB1 : Hid (Below w.heap.size w w1) := hbx
  replace hs := hs.below hbx
  obtain ⟨a1, n1, c1, rfl, S1, hn1, hc1⟩ := hown.opened (by decide) (by decide)
  have HN1 : Hid (n1 = [(2 : Int), 1, 3].length) := hn1
  have HC1 : Hid (n1 ≤ c1) := hc1
  clear hown hn1 hc1
  clear hb hbx
  go_wp2_with fail
  refine (Same_at _ _ _ _ _ _ [2, 1, 3] [2, 1, 3] _ (S1.below ((Below.refl _ _).alloc (Nat.le_refl _) _)) (shows_lit w1 [2, 1, 3] _ rfl (by decide) (by decide)) HN1.out rfl true (by decide)).mono ?_
  rintro e w2 ⟨rfl, hd⟩
  have hb : Below w1.heap.size w1 w2 := by
    obtain ⟨n, rfl⟩ := hd
    exact below_drewN ((Below.refl _ _).alloc (Nat.le_refl _) _) n
  have HB2 : Hid (Below w.heap.size w w2) := HB1.out.trans (hb.mono HB1.out.size)
  replace hs := hs.below hb
  replace S1 := S1.below hb
  clear hb hd
  clear S1
  go_wp2_with fail
  refine (Rounds_at _ _ _ _ hs rfl hr.out).mono ?_
  rintro e w3 ⟨v, rfl, hown, hb⟩
  have HB3 : Hid (Below w.heap.size w w3) := HB2.out.trans (hb.mono HB2.out.size)
  replace hs := hs.below hb
  obtain ⟨a3, n3, c3, rfl, S3, hn3, hc3⟩ := hown.opened (by decide) (by decide)
  have HN3 : Hid (n3 = [].length) := hn3
  have HC3 : Hid (n3 ≤ c3) := hc3
  clear hown hn3 hc3
  clear hb
  have hz3 := HN3.out
  simp only [List.length_nil] at hz3
  subst hz3
  go_wp2_with fail
  refine (Unrounds_at _ _ _ _ hs rfl hu.out).mono ?_
  rintro e w4 ⟨v, rfl, hown, hb⟩
  have HB4 : Hid (Below w.heap.size w w4) := HB3.out.trans (hb.mono HB3.out.size)
  replace hs := hs.below hb
  obtain ⟨a4, n4, c4, rfl, S4, hn4, hc4⟩ := hown.opened (by decide) (by decide)
  have HN4 : Hid (n4 = [].length) := hn4
  have HC4 : Hid (n4 ≤ c4) := hc4
  clear hown hn4 hc4
  clear hb
  have hz4 := HN4.out
  simp only [List.length_nil] at hz4
  subst hz4
  go_wp2
  go_ret
  exact ⟨rfl, HB4.out⟩

set_option maxHeartbeats 4000000 in
set_option maxRecDepth 100000 in
theorem rnd_ok (a : Option Addr) (cap : Nat) (zs qs rs : List Int) (bs : List (List Int)) (w : World) (hs : Shows w a zs) (hp : IsPerm zs) (hq40 : qs.length ≤ 40) (hr40 : rs.length ≤ 40) (hzw : Hid (∀ z ∈ zs, 0 ≤ z ∧ z ≤ 1000)) (hqw : Hid (∀ z ∈ qs, 0 ≤ z ∧ z ≤ 1000)) (hrw : Hid (∀ z ∈ rs, 0 ≤ z ∧ z ≤ 1000))
    (HBS : Hid (Blocks zs bs)) (HQ : Hid (qs = bs.flatten)) (hr : Hid (RndR zs 0 qs)) (hu : Hid (UnrR zs 0 rs)) (hr2 : Hid (UnrR qs 0 zs)) (hu2 : Hid (RndR rs 0 zs)) :
    Calls Try.prog 3 #[.slice a zs.length cap] w fun e w' => e = .returned (.bool true) ∧ Below w.heap.size w w' := by
  have h40 := hp.len
  have HP : Hid (IsPerm zs) := hp
  have HTop : Hid (tops 0 qs = bs.length) := by show _ = _; rw [HQ.out]; exact HBS.out.tops hp
  clear hp
  go_enter Try.func3, Try.ntmps3
  go_wp2_with fail
  refine (Rounds_at _ _ _ _ (shows_lit w [2, 1, 3] _ rfl (by decide) (by decide)) rfl rnd213).mono ?_
  rintro e w1 ⟨v, rfl, hown, hb⟩
  have hbx : Below w.heap.size w w1 := ((Below.refl _ _).alloc (Nat.le_refl _) _).trans (hb.mono (by simp))
  have HB1 : Hid (Below w.heap.size w w1) := hbx
  replace hs := hs.below hbx
  obtain ⟨a1, n1, c1, rfl, S1, hn1, hc1⟩ := hown.opened (by decide) (by decide)
  have HN1 : Hid (n1 = [(2 : Int), 1, 3].length) := hn1
  have HC1 : Hid (n1 ≤ c1) := hc1
  clear hown hn1 hc1
  clear hb hbx
  go_wp2_with fail
  refine (Same_at _ _ _ _ _ _ [2, 1, 3] [2, 1, 3] _ (S1.below ((Below.refl _ _).alloc (Nat.le_refl _) _)) (shows_lit w1 [2, 1, 3] _ rfl (by decide) (by decide)) HN1.out rfl true (by decide)).mono ?_
  rintro e w2 ⟨rfl, hd⟩
  have hb : Below w1.heap.size w1 w2 := by
    obtain ⟨n, rfl⟩ := hd
    exact below_drewN ((Below.refl _ _).alloc (Nat.le_refl _) _) n
  have HB2 : Hid (Below w.heap.size w w2) := HB1.out.trans (hb.mono HB1.out.size)
  replace hs := hs.below hb
  replace S1 := S1.below hb
  clear hb hd
  clear S1
  go_wp2_with fail
  refine (Rounds_at _ _ _ _ hs rfl hr.out).mono ?_
  rintro e w3 ⟨v, rfl, hown, hb⟩
  have HB3 : Hid (Below w.heap.size w w3) := HB2.out.trans (hb.mono HB2.out.size)
  replace hs := hs.below hb
  obtain ⟨a3, n3, c3, rfl, S3, hn3, hc3⟩ := hown.opened (by omega) (small_wf hqw.out)
  have HN3 : Hid (n3 = qs.length) := hn3
  have HC3 : Hid (n3 ≤ c3) := hc3
  clear hown hn3 hc3
  clear hb
  go_wp2_with fail
  refine (Unrounds_at _ _ _ _ hs rfl hu.out).mono ?_
  rintro e w4 ⟨v, rfl, hown, hb⟩
  have HB4 : Hid (Below w.heap.size w w4) := HB3.out.trans (hb.mono HB3.out.size)
  replace hs := hs.below hb
  replace S3 := S3.below hb
  obtain ⟨a4, n4, c4, rfl, S4, hn4, hc4⟩ := hown.opened (by omega) (small_wf hrw.out)
  have HN4 : Hid (n4 = rs.length) := hn4
  have HC4 : Hid (n4 ≤ c4) := hc4
  clear hown hn4 hc4
  clear hb
  go_wp2_with fail
  refine (Unrounds_at _ _ _ _ S3 HN3.out hr2.out).mono ?_
  rintro e w5 ⟨v, rfl, hown, hb⟩
  have HB5 : Hid (Below w.heap.size w w5) := HB4.out.trans (hb.mono HB4.out.size)
  replace hs := hs.below hb
  replace S3 := S3.below hb
  replace S4 := S4.below hb
  obtain ⟨a5, n5, c5, rfl, S5, hn5, hc5⟩ := hown.opened (by omega) (small_wf hzw.out)
  have HN5 : Hid (n5 = zs.length) := hn5
  have HC5 : Hid (n5 ≤ c5) := hc5
  clear hown hn5 hc5
  clear hb
  go_wp2_with fail
  refine (Rounds_at _ _ _ _ S4 HN4.out hu2.out).mono ?_
  rintro e w6 ⟨v, rfl, hown, hb⟩
  have HB6 : Hid (Below w.heap.size w w6) := HB5.out.trans (hb.mono HB5.out.size)
  replace hs := hs.below hb
  replace S3 := S3.below hb
  replace S4 := S4.below hb
  replace S5 := S5.below hb
  obtain ⟨a6, n6, c6, rfl, S6, hn6, hc6⟩ := hown.opened (by omega) (small_wf hzw.out)
  have HN6 : Hid (n6 = zs.length) := hn6
  have HC6 : Hid (n6 ≤ c6) := hc6
  clear hown hn6 hc6
  clear hb
  have hn3 := HN3.out
  subst hn3
  go_wp2_with fail
  go_loopw [13, 14, 72] (fun x t i wr => ∃ (k N : Nat) (T : Int), k ≤ qs.length ∧ i = .int .i64 k ∧ x = .int .i64 N ∧ t = .int .i64 T ∧ N ≤ k ∧ Hid (N + tops T (qs.drop k) = bs.length) ∧ wr = w6) (fun _ _ i _ => qs.length - (intOf i).toNat)
  case atStart => exact ⟨0, 0, 0, Nat.zero_le _, rfl, rfl, rfl, Nat.le_refl _, by show _ = _; simpa using HTop.out, by trivial⟩
  case round =>
    obtain ⟨k, N, T, hk, rfl, rfl, rfl, hNk, HT, hwr⟩ := hrel
    obtain rfl : w6 = wr := hwr.symm
    by_cases hlt : k < qs.length
    · have hlt' : (k : Int) < (qs.length : Int) := by omega
      obtain ⟨b3, off3, z, rfl, HZ, -, -, hcz⟩ := S3.elem hlt
      have HD : Hid (qs.drop k = z :: qs.drop (k + 1)) := by show _ = _; rw [HZ.out]; exact drop_cons qs k hlt
      by_cases hzT : T < z
      · have hb : decide (z > T) = true := by simpa using hzT
        have HN : Hid (N + 1 + tops z (qs.drop (k + 1)) = bs.length) := by
          have := HT.out; rw [HD.out, tops, if_pos hzT] at this; show _ = _; omega
        clear hzT
        go_wp2
        go_roundw
        case rel => exact ⟨k + 1, N + 1, z, by omega, by go_num, by go_num, rfl, by omega, HN, by trivial⟩
        case measure => simp [intOf]; omega
      · have hb : decide (z > T) = false := by simpa using hzT
        have HN : Hid (N + tops T (qs.drop (k + 1)) = bs.length) := by
          have := HT.out; rw [HD.out, tops, if_neg hzT] at this; exact this
        clear hzT
        go_wp2
        go_roundw
        case rel => exact ⟨k + 1, N, T, by omega, by go_num, rfl, rfl, by omega, HN, by trivial⟩
        case measure => simp [intOf]; omega
    · obtain rfl : k = qs.length := by omega
      have HNB : Hid (N = bs.length) := by have := HT.out; rw [List.drop_length] at this; exact this
      obtain ⟨g, hg⟩ : ∃ g, g = w6.heap.size := ⟨_, rfl⟩
      go_wp2_with fail
      rw [← hg]
      have HA0 : Hid (ArrB (w6.alloc (.cells (cellsB (fun _ => false)) 27)) g (fun _ => false)) := by
        rw [hg]
        show (w6.heap.push _)[w6.heap.size]? = _
        rw [Array.getElem?_push_size]
      have HGs : Hid (w6.heap.size ≤ g) := by rw [hg]; exact Nat.le_refl _
      clear hg
      go_loopw [13, 18] (fun x i wq => ∃ (k N : Nat) (f : Nat → Bool), k ≤ zs.length ∧ i = .int .i64 ((k : Int) + 1) ∧ x = .int .i64 N ∧ N ≤ 40 ∧ Hid (N = heads bs f) ∧ Hid (Shut zs f) ∧ Hid (∀ x : Nat, 1 ≤ x → x ≤ k → f x = true) ∧ Hid (ArrB wq g f) ∧ Hid (Below w6.heap.size w6 wq)) (fun _ i _ => (zs.length + 1 - (intOf i).toNat : Nat))
      case atStart => exact ⟨0, N, fun _ => false, Nat.zero_le _, rfl, rfl, by omega, by show _ = _; rw [heads_start]; exact HNB.out, fun _ _ _ => rfl, fun x h1 h2 => by omega, HA0, (Below.refl _ _).alloc (Nat.le_refl _) _⟩
      case round =>
        obtain ⟨k, M, f, hk2, rfl, rfl, hM, HM, HS, HF, HA, HBq⟩ := hrel
        by_cases hki : k < zs.length
        · have hle : decide ((k : Int) + 1 ≤ (zs.length : Int)) = true := by simp; omega
          have hki' : (k : Int) + 1 ≤ (zs.length : Int) := by omega
          have HKI : Hid (k < zs.length) := hki
          obtain ⟨i1, hi1⟩ : ∃ i1 : Nat, i1 = k + 1 := ⟨_, rfl⟩
          have hii : (k : Int) + 1 = (i1 : Int) := by omega
          have HI1 : Hid (i1 = k + 1) := hi1
          have hi41 : i1 < 41 := by omega
          have hi41' : (i1 : Int) < 41 := by omega
          obtain ⟨m, hT⟩ := turns_ex HP.out (n := (i1 : Int)) (by omega) (by omega)
          have HTu : Hid (Turns zs (i1 : Int) m) := hT
          have hcs := HA.out.cell hi41
          have hle1 : i1 ≤ zs.length := by omega
          rw [hii]
          clear hii hi1 hT hle hki'
          cases hfi : f i1 with
          | true =>
            rw [hfi] at hcs
            have HFi : Hid (f i1 = true) := hfi
            go_wp2_with fail
            go_loopw [19] (fun x wp => x = .int .i64 (i1 : Int) ∧ Hid (ArrB wp g f) ∧ Hid (Below w6.heap.size w6 wp)) (fun _ _ => 0)
            case atStart => exact ⟨rfl, HA, HBq⟩
            case round =>
              obtain ⟨rfl, HA2, HB2⟩ := hrel
              have hcs2 := HA2.out.cell hi41
              rw [HFi.out] at hcs2
              go_wp2
              go_roundw
              case rel => exact ⟨k + 1, M, f, HKI.out, by have := HI1.out; go_num, rfl, hM, HM, HS, fun x h1 h2 => by
                            by_cases e : x ≤ k
                            · exact HF.out x h1 e
                            · obtain rfl : x = i1 := by have := HI1.out; omega
                              exact HFi.out, HA2, HB2⟩
              case measure => have := HKI.out; have := HI1.out; simp [intOf]; omega
          | false =>
            rw [hfi] at hcs
            have HFi : Hid (f i1 = false) := hfi
            have HHL : Hid (heads bs (seenTo zs f (i1 : Int) m) + 1 = heads bs f) := heads_less HP.out HBS.out HS.out (by have := HI1.out; omega) (by have := HI1.out; have := HKI.out; omega) HTu.out (by simpa using hfi)
            have hM1 : 1 ≤ M := by have := HHL.out; have := HM.out; omega
            go_wp2_with fail
            go_loopw [19] (fun x wp => ∃ (j K : Nat), j ≤ m ∧ x = .int .i64 (K : Int) ∧ K < 41 ∧ 1 ≤ K ∧ K ≤ zs.length ∧ Hid (iter zs (i1 : Int) j = (K : Int)) ∧ Hid (ArrB wp g (seenTo zs f (i1 : Int) j)) ∧ Hid (Below w6.heap.size w6 wp)) (fun _ wp => unseen wp g)
            case atStart => exact ⟨0, i1, Nat.zero_le _, rfl, hi41, by have := HI1.out; omega, by have := HI1.out; have := HKI.out; omega, rfl, HA.out.congr (fun j _ => seenTo_zero zs f _ j), HBq⟩
            case round =>
              obtain ⟨j, K, hj, rfl, hK, hK1, hK2, HIt, HAj, HBj⟩ := hrel
              have hK' : (K : Int) < 41 := by omega
              have hcK := HAj.out.cell hK
              have hfK := HAj.out.frozen K
              by_cases hjm : j < m
              · have HNew : Hid (seenTo zs f (i1 : Int) j K = false) := seenTo_new HP.out HS.out (by have := HI1.out; omega) (by have := HI1.out; have := HKI.out; omega) HTu.out hjm (by simpa using HFi.out) HIt.out
                rw [HNew.out] at hcK
                obtain ⟨J, rfl⟩ : ∃ J : Nat, K = J + 1 := ⟨K - 1, by omega⟩
                have hJ : J < zs.length := by omega
                have hJ' : (J : Int) < (zs.length : Int) := by omega
                have HBn : Hid (Below w6.heap.size w6 (wr.setCell ⟨g, J + 1, none⟩ (.bool true))) := HBj.out.setCell HGs.out _
                have HAn : Hid (ArrB (wr.setCell ⟨g, J + 1, none⟩ (.bool true)) g (seenTo zs f (i1 : Int) (j + 1))) := (HAj.out.store (J + 1) true).congr (fun x _ => seenTo_step HIt.out x)
                obtain ⟨b0, off0, z, hab, HZ, -, -, hcz⟩ := (hs.below HBn.out).elem hJ
                subst hab
                have hzb := HP.out.bounds hJ
                rw [← HZ.out] at hzb
                obtain ⟨K2, rfl⟩ : ∃ K2 : Nat, z = (K2 : Int) := ⟨z.toNat, by omega⟩
                have HIt2 : Hid (iter zs (i1 : Int) (j + 1) = (K2 : Int)) := by
                  show app zs (iter zs (i1 : Int) j) = _
                  rw [HIt.out]; unfold app; rw [HZ.out, show (((J + 1 : Nat) : Int)).toNat - 1 = J by omega]
                have HLs : Hid (unseen (wr.setCell ⟨g, J + 1, none⟩ (.bool true)) g < unseen wr g) := unseen_less HAj.out (HAj.out.store (J + 1) true) hK HNew.out (by simp [updB]) (fun x hx => by simp [updB, hx])
                have hw1 : IntKind.i64.wrap (((J + 1 : Nat) : Int) - 1) = (J : Int) := by rw [IntWalk.i64_left, IntWalk.wrap64_in _ (by omega)]; omega
                have HJM : Hid (j < m) := hjm
                clear hjm
                go_wp2
                go_roundw
                case rel => exact ⟨j + 1, K2, HJM.out, rfl, by omega, by omega, by omega, HIt2, HAn, HBn⟩
                case measure => exact HLs.out
              · obtain rfl : j = m := by omega
                have HEnd : Hid (seenTo zs f (i1 : Int) j K = true) := seenTo_end HTu.out HIt.out
                rw [HEnd.out] at hcK
                go_wp2
                go_roundw
                case rel => exact ⟨k + 1, M - 1, seenTo zs f (i1 : Int) j, HKI.out, by have := HI1.out; go_num, by go_num, by omega, by
                              have := HHL.out; have := HM.out; show _ = _; omega, shut_seen HP.out HS.out (by have := HI1.out; omega) (by have := HI1.out; have := HKI.out; omega) HTu.out, fun x h1 h2 => by
                              by_cases e : x ≤ k
                              · unfold seenTo; rw [HF.out x h1 e]; rfl
                              · obtain rfl : x = i1 := by have := HI1.out; omega
                                exact seenTo_end HTu.out HTu.out.2.2.1, HAj, HBj⟩
                case measure => have := HKI.out; have := HI1.out; simp [intOf]; omega
        · obtain rfl : k = zs.length := by omega
          have hle : decide ((zs.length : Int) + 1 ≤ (zs.length : Int)) = false := by simp; omega
          have HM0 : Hid (M = 0) := by show _ = _; rw [HM.out]; exact heads_end HP.out HBS.out HF.out
          obtain rfl := HM0.out
          have hsx := hs.below HBq.out
          have S5x := S5.below HBq.out
          have S6x := S6.below HBq.out
          have HBx : Hid (Below w.heap.size w wr) := HB6.out.trans (HBq.out.mono HB6.out.size)
          clear hs S3 S4 S5 S6
          go_wp2_with fail
          refine (Same_at _ _ _ _ _ _ zs zs _ S5x hsx HN5.out rfl true (by simp)).mono ?_
          rintro e w8 ⟨rfl, hd⟩
          have hb : Below wr.heap.size wr w8 := by
            obtain ⟨n, rfl⟩ := hd
            exact below_drewN (Below.refl _ _) n
          have HB8 : Hid (Below w.heap.size w w8) := HBx.out.trans (hb.mono HBx.out.size)
          replace hsx := hsx.below hb
          replace S6x := S6x.below hb
          clear hb hd S5x
          go_wp2_with fail
          refine (Same_at _ _ _ _ _ _ zs zs _ S6x hsx HN6.out rfl true (by simp)).mono ?_
          rintro e w9 ⟨rfl, hd⟩
          have hb : Below w8.heap.size w8 w9 := by
            obtain ⟨n, rfl⟩ := hd
            exact below_drewN (Below.refl _ _) n
          have HB9 : Hid (Below w.heap.size w w9) := HB8.out.trans (hb.mono HB8.out.size)
          clear hb hd
          go_wp2_with fail
          go_ret
          exact ⟨rfl, HB9.out⟩

/-- Cycles and their numbers, of every slice that can be read. -/
theorem rounds_any (a : Option Addr) (cap : Nat) (zs : List Int) (w : World) (hs : Shows w a zs) :
    Calls Try.prog 3 #[.slice a zs.length cap] w fun e w' => e = .returned (.bool true) ∧ Below w.heap.size w w' := by
  by_cases hc : pchk zs = 0
  · have hp := pchk_ok.1 hc
    obtain ⟨bs, hbs⟩ := blocks_ex hp
    obtain ⟨hql, hq⟩ := hbs.perm hp
    have hr := unrL_perm hp
    have hsm : ∀ {l : List Int}, IsPerm l → ∀ z ∈ l, 0 ≤ z ∧ z ≤ 1000 := fun {l} h z hz => by have := h.low z hz; have := h.high z hz; have := h.len; omega
    exact rnd_ok a cap zs bs.flatten (unrL zs) bs w hs hp hq.len hr.len (hsm hp) (hsm hq) (hsm hr) hbs rfl ⟨hc, fun _ => ⟨bs, hbs, rfl⟩, fun h => absurd rfl h⟩ ⟨hc, rfl⟩
      ⟨pchk_ok.2 hq, by rw [if_pos rfl]; exact (unr_rnd hp hbs).symm⟩ ⟨pchk_ok.2 hr, fun _ => rnd_unr hp, fun h => absurd rfl h⟩
  · exact rnd_err a cap zs w hs _ (bne_iff_ne.2 hc) ⟨rfl, fun h => absurd h hc, fun _ => rfl⟩ ⟨rfl, by rw [if_neg hc]⟩

#print axioms rounds_any
end Go.Proofs.Ytnjbkiegeielhac
