/-
  The walk of the law PartsEuler: for every slice that can be read it returns true; nothing old has turned.
-/
import Derived.Test.YtnjbkiegeielhaaEMath
import Derived.Test.YtnjbkiegeielhaaFLaw
namespace Go.Proofs.Ytnjbkiegeielhaa
open Go.RowKit

/-- What Merge answers. -/
def MergeR (zs : List Int) (c : Int) (q : List Int) : Prop :=
  (chk zs = c ∧ c ≠ 0 ∧ q = []) ∨ (IsPart zs ∧ evenB zs = true ∧ c = 3 ∧ q = []) ∨ (IsPart zs ∧ evenB zs = false ∧ c = 0 ∧ q = listed (mergeTo (cnt zs) 40))
/-- What Split answers. -/
def SplitR (zs : List Int) (c : Int) (q : List Int) : Prop := (chkD zs = c ∧ c ≠ 0 ∧ q = []) ∨ (Dist zs ∧ c = 0 ∧ q = listed (splitTo (cnt zs) 40))

theorem Merge_at {zs q : List Int} {c : Int} (a : Option Addr) (n cap : Nat) (w : World) (hs : Shows w a zs) (hn : n = zs.length) (hr : MergeR zs c q) :
    Calls Try.prog 21 #[.slice a n cap] w fun e w' => ∃ v, e = .returned (.tuple #[v, .int .i64 c]) ∧ Owns w' w.heap.size v q ∧ Below w.heap.size w w' := by
  subst hn
  rcases hr with ⟨h, hc, hq⟩ | ⟨h, he, hc, hq⟩ | ⟨h, he, hc, hq⟩
  · rw [hq]; exact (Merge_err a cap zs w hs c h (bne_iff_ne.2 hc)).mono fun e w' ⟨he, hw⟩ => ⟨_, he, World.ownsRow_nil _ _ _ _, hw ▸ Below.refl _ _⟩
  · rw [hc, hq]; exact (Merge_even a cap zs w hs (chk_ok.2 h) h he).mono fun e w' ⟨he, hw⟩ => ⟨_, he, World.ownsRow_nil _ _ _ _, hw ▸ Below.refl _ _⟩
  · rw [hc, hq]; exact Merge_ok a cap zs w hs (chk_ok.2 h) h he
theorem Split_at {zs q : List Int} {c : Int} (a : Option Addr) (n cap : Nat) (w : World) (hs : Shows w a zs) (hn : n = zs.length) (hr : SplitR zs c q) :
    Calls Try.prog 22 #[.slice a n cap] w fun e w' => ∃ v, e = .returned (.tuple #[v, .int .i64 c]) ∧ Owns w' w.heap.size v q ∧ Below w.heap.size w w' := by
  subst hn
  rcases hr with ⟨h, hc, hq⟩ | ⟨h, hc, hq⟩
  · rw [hq]; exact (Split_err a cap zs w hs c h (bne_iff_ne.2 hc)).mono fun e w' ⟨he, hw⟩ => ⟨_, he, World.ownsRow_nil _ _ _ _, hw ▸ Below.refl _ _⟩
  · rw [hc, hq]; exact Split_ok a cap zs w hs (chkD_ok.2 h) h.1

theorem mergeTo_stop {f g : Nat → Int} {k : Nat} (h : mergeTo f k = g) (hg : ∀ j, g j ≤ 1) : ∀ i, mergeTo f (k + i) = g := by
  intro i
  induction i with
  | zero => exact h
  | succ i ih => rw [← Nat.add_assoc, mergeTo, ih, mergeStep_stay (hg _)]

theorem merge331 : MergeR [3, 3, 1] 0 [6, 1] := by
  refine Or.inr (Or.inr ⟨chk_ok.1 (by decide), by decide, rfl, ?_⟩)
  have e1 : mergeTo (cnt [3, 3, 1]) 1 = cnt [3, 3, 1] := by rw [mergeTo, mergeTo, mergeStep_stay (by decide)]
  have e2 : mergeTo (cnt [3, 3, 1]) 2 = cnt [3, 3, 1] := by rw [mergeTo, e1, mergeStep_stay (by decide)]
  have e3 : mergeTo (cnt [3, 3, 1]) 3 = cnt [6, 1] := by
    rw [mergeTo, e2]
    unfold mergeStep
    rw [if_pos (by decide)]
    funext j
    have h1 := cnt_cons [(3 : Int), 1] 3 j
    have h2 := cnt_cons [(1 : Int)] 3 j
    have h3 := cnt_cons [] (1 : Int) j
    have h4 := cnt_cons [(1 : Int)] 6 j
    have h5 := cnt_nil j
    have c3 : cnt [3, 3, 1] 3 = 2 := by decide
    have c6 : cnt [3, 3, 1] 6 = 0 := by decide
    show upd (upd (cnt [3, 3, 1]) (2 * 3) (cnt [3, 3, 1] (2 * 3) + cnt [3, 3, 1] 3 / 2)) 3 (cnt [3, 3, 1] 3 % 2) j = _
    rw [show 2 * 3 = 6 from rfl, c3, c6]
    by_cases j3 : j = 3
    · subst j3; rw [upd_same]; decide
    · rw [upd_ne _ _ j3]
      by_cases j6 : j = 6
      · subst j6; rw [upd_same]; decide
      · rw [upd_ne _ _ j6, h1, h2, h4, if_neg (by omega), if_neg (by omega)]; omega
  have e4 := mergeTo_stop e3 (fun j => cnt_of_strict (goesB_iff.1 (by decide)) j) 37
  rw [e4]
  exact (listed_cnt (chk_ok.1 (by decide))).symm

theorem part_wf {zs : List Int} (h : IsPart zs) : ∀ z ∈ zs, -9223372036854775808 ≤ z ∧ z ≤ 9223372036854775807 := fun z hz => by have := h.range z hz; omega

set_option maxHeartbeats 4000000 in
theorem euler_ok_ok (a : Option Addr) (cap : Nat) (zs : List Int) (w : World) (hs : Shows w a zs) (hp : IsPart zs) (ho : Hid (evenB zs = false)) (hm : Hid (MergeR zs 0 (listed (mergeTo (cnt zs) 40)))) (hmb : Hid (SplitR (listed (mergeTo (cnt zs) 40)) 0 zs)) (hd : Dist zs) (hsp : Hid (SplitR zs 0 (listed (splitTo (cnt zs) 40)))) (hsb : Hid (MergeR (listed (splitTo (cnt zs) 40)) 0 zs)) :
    Calls Try.prog 5 #[.slice a zs.length cap] w fun e w' => e = .returned (.bool true) ∧ Below w.heap.size w w' := by
  go_enter Try.func5, Try.ntmps5
  go_wp2_with fail
  refine (Merge_at _ _ _ _ (shows_lit w [3, 3, 1] _ rfl (by decide) (by decide)) rfl merge331).mono ?_
  rintro e w1 ⟨v, rfl, hown, hb⟩
  obtain ⟨a1, n1, c1, rfl, hs1, hn1, -⟩ := hown.opened (by decide) (by decide)
  have HB1 : Hid (Below w.heap.size w w1) := ((Below.refl _ _).alloc (Nat.le_refl _) _).trans (hb.mono (by simp))
  have HN : Hid (n1 = [(6 : Int), 1].length) := hn1
  clear hown hb hn1
  go_wp2_with fail
  refine (Same_at _ _ _ _ _ _ [6, 1] [6, 1] _ (hs1.below ((Below.refl _ _).alloc (Nat.le_refl _) _)) (shows_lit w1 [6, 1] _ rfl (by decide) (by decide)) HN.out rfl true (by decide)).mono ?_
  rintro e w2 ⟨rfl, hd⟩
  have HB2 : Hid (Below w.heap.size w w2) := by
    obtain ⟨n, rfl⟩ := hd
    exact below_drewN (HB1.out.alloc HB1.out.size _) n
  clear hd hs1
  have hs2 := hs.below HB2.out
  go_wp2_with fail
  refine (Merge_at _ _ _ _ hs2 rfl hm.out).mono ?_
  rintro e w3 ⟨v, rfl, hown, hb⟩
  have HB3 : Hid (Below w.heap.size w w3) := HB2.out.trans (hb.mono HB2.out.size)
  clear hb hs2
  have HQ := (euler_there hp ho.out).1.1
  obtain ⟨a2, n2, k2, rfl, hs3, hn2, -⟩ := hown.opened (by have := HQ.len; omega) (part_wf HQ)
  have HN2 : Hid (n2 = _) := hn2
  clear hown hn2 HQ
  go_wp2_with fail
  refine (Split_at _ _ _ _ hs3 HN2.out hmb.out).mono ?_
  rintro e w4 ⟨v, rfl, hown, hb⟩
  have HB4 : Hid (Below w.heap.size w w4) := HB3.out.trans (hb.mono HB3.out.size)
  have hs4 := hs.below HB4.out
  obtain ⟨a3, n3, c3, rfl, hs5, hn3, -⟩ := hown.opened (by have := hp.len; omega) (part_wf hp)
  have HN3 : Hid (n3 = zs.length) := hn3
  clear hb hown hn3 hs3
  go_wp2_with fail
  refine (Same_at _ _ _ _ _ _ zs zs _ hs5 hs4 HN3.out rfl true (by simp)).mono ?_
  rintro e w5 ⟨rfl, hd⟩
  have HB5 : Hid (Below w.heap.size w w5) := by
    obtain ⟨n, rfl⟩ := hd
    exact below_drewN HB4.out n
  clear hd hs4 hs5
  have hs6 := hs.below HB5.out
  go_wp2_with fail
  refine (Split_at _ _ _ _ hs6 rfl hsp.out).mono ?_
  rintro e w6 ⟨v, rfl, hown, hb⟩
  have HB6 : Hid (Below w.heap.size w w6) := HB5.out.trans (hb.mono HB5.out.size)
  clear hb hs6
  have HQ' := (euler_back hd).1
  obtain ⟨a4, n4, c4, rfl, hs7, hn4, -⟩ := hown.opened (by have := HQ'.len; omega) (part_wf HQ')
  have HN4 : Hid (n4 = _) := hn4
  clear hown hn4 HQ'
  go_wp2_with fail
  refine (Merge_at _ _ _ _ hs7 HN4.out hsb.out).mono ?_
  rintro e w7 ⟨v, rfl, hown, hb⟩
  have HB7 : Hid (Below w.heap.size w w7) := HB6.out.trans (hb.mono HB6.out.size)
  have hs8 := hs.below HB7.out
  obtain ⟨a5, n5, c5, rfl, hs9, hn5, -⟩ := hown.opened (by have := hd.1.len; omega) (part_wf hd.1)
  have HN5 : Hid (n5 = zs.length) := hn5
  clear hb hown hn5 hs7
  go_wp2_with fail
  refine (Same_at _ _ _ _ _ _ zs zs _ hs9 hs8 HN5.out rfl true (by simp)).mono ?_
  rintro e w8 ⟨rfl, hdd⟩
  have HB8 : Hid (Below w.heap.size w w8) := by
    obtain ⟨n, rfl⟩ := hdd
    exact below_drewN HB7.out n
  clear hdd hs8 hs9
  go_wp2_with fail
  go_ret
  exact ⟨rfl, HB8.out⟩

set_option maxHeartbeats 4000000 in
theorem euler_ok_err (a : Option Addr) (cap : Nat) (zs : List Int) (w : World) (hs : Shows w a zs) (hp : IsPart zs) (ho : Hid (evenB zs = false)) (hm : Hid (MergeR zs 0 (listed (mergeTo (cnt zs) 40)))) (hmb : Hid (SplitR (listed (mergeTo (cnt zs) 40)) 0 zs)) (c2 : Int) (hc2 : (c2 != 0) = true) (hsp : Hid (SplitR zs c2 [])) :
    Calls Try.prog 5 #[.slice a zs.length cap] w fun e w' => e = .returned (.bool true) ∧ Below w.heap.size w w' := by
  go_enter Try.func5, Try.ntmps5
  go_wp2_with fail
  refine (Merge_at _ _ _ _ (shows_lit w [3, 3, 1] _ rfl (by decide) (by decide)) rfl merge331).mono ?_
  rintro e w1 ⟨v, rfl, hown, hb⟩
  obtain ⟨a1, n1, c1, rfl, hs1, hn1, -⟩ := hown.opened (by decide) (by decide)
  have HB1 : Hid (Below w.heap.size w w1) := ((Below.refl _ _).alloc (Nat.le_refl _) _).trans (hb.mono (by simp))
  have HN : Hid (n1 = [(6 : Int), 1].length) := hn1
  clear hown hb hn1
  go_wp2_with fail
  refine (Same_at _ _ _ _ _ _ [6, 1] [6, 1] _ (hs1.below ((Below.refl _ _).alloc (Nat.le_refl _) _)) (shows_lit w1 [6, 1] _ rfl (by decide) (by decide)) HN.out rfl true (by decide)).mono ?_
  rintro e w2 ⟨rfl, hd⟩
  have HB2 : Hid (Below w.heap.size w w2) := by
    obtain ⟨n, rfl⟩ := hd
    exact below_drewN (HB1.out.alloc HB1.out.size _) n
  clear hd hs1
  have hs2 := hs.below HB2.out
  go_wp2_with fail
  refine (Merge_at _ _ _ _ hs2 rfl hm.out).mono ?_
  rintro e w3 ⟨v, rfl, hown, hb⟩
  have HB3 : Hid (Below w.heap.size w w3) := HB2.out.trans (hb.mono HB2.out.size)
  clear hb hs2
  have HQ := (euler_there hp ho.out).1.1
  obtain ⟨a2, n2, k2, rfl, hs3, hn2, -⟩ := hown.opened (by have := HQ.len; omega) (part_wf HQ)
  have HN2 : Hid (n2 = _) := hn2
  clear hown hn2 HQ
  go_wp2_with fail
  refine (Split_at _ _ _ _ hs3 HN2.out hmb.out).mono ?_
  rintro e w4 ⟨v, rfl, hown, hb⟩
  have HB4 : Hid (Below w.heap.size w w4) := HB3.out.trans (hb.mono HB3.out.size)
  have hs4 := hs.below HB4.out
  obtain ⟨a3, n3, c3, rfl, hs5, hn3, -⟩ := hown.opened (by have := hp.len; omega) (part_wf hp)
  have HN3 : Hid (n3 = zs.length) := hn3
  clear hb hown hn3 hs3
  go_wp2_with fail
  refine (Same_at _ _ _ _ _ _ zs zs _ hs5 hs4 HN3.out rfl true (by simp)).mono ?_
  rintro e w5 ⟨rfl, hd⟩
  have HB5 : Hid (Below w.heap.size w w5) := by
    obtain ⟨n, rfl⟩ := hd
    exact below_drewN HB4.out n
  clear hd hs4 hs5
  have hs6 := hs.below HB5.out
  go_wp2_with fail
  refine (Split_at _ _ _ _ hs6 rfl hsp.out).mono ?_
  rintro e w6 ⟨v, rfl, hown, hb⟩
  have HB6 : Hid (Below w.heap.size w w6) := HB5.out.trans (hb.mono HB5.out.size)
  clear hb hs6
  obtain ⟨a4, n4, c4, rfl, -, hn4, -⟩ := hown.opened (by decide) (by decide)
  simp only [List.length_nil] at hn4
  subst hn4
  clear hown
  go_wp2
  go_ret
  exact ⟨rfl, HB6.out⟩

set_option maxHeartbeats 4000000 in
theorem euler_err_ok (a : Option Addr) (cap : Nat) (zs : List Int) (w : World) (hs : Shows w a zs) (c : Int) (hc : (c == 0) = false) (hm : Hid (MergeR zs c [])) (hd : Dist zs) (hsp : Hid (SplitR zs 0 (listed (splitTo (cnt zs) 40)))) (hsb : Hid (MergeR (listed (splitTo (cnt zs) 40)) 0 zs)) :
    Calls Try.prog 5 #[.slice a zs.length cap] w fun e w' => e = .returned (.bool true) ∧ Below w.heap.size w w' := by
  go_enter Try.func5, Try.ntmps5
  go_wp2_with fail
  refine (Merge_at _ _ _ _ (shows_lit w [3, 3, 1] _ rfl (by decide) (by decide)) rfl merge331).mono ?_
  rintro e w1 ⟨v, rfl, hown, hb⟩
  obtain ⟨a1, n1, c1, rfl, hs1, hn1, -⟩ := hown.opened (by decide) (by decide)
  have HB1 : Hid (Below w.heap.size w w1) := ((Below.refl _ _).alloc (Nat.le_refl _) _).trans (hb.mono (by simp))
  have HN : Hid (n1 = [(6 : Int), 1].length) := hn1
  clear hown hb hn1
  go_wp2_with fail
  refine (Same_at _ _ _ _ _ _ [6, 1] [6, 1] _ (hs1.below ((Below.refl _ _).alloc (Nat.le_refl _) _)) (shows_lit w1 [6, 1] _ rfl (by decide) (by decide)) HN.out rfl true (by decide)).mono ?_
  rintro e w2 ⟨rfl, hd⟩
  have HB2 : Hid (Below w.heap.size w w2) := by
    obtain ⟨n, rfl⟩ := hd
    exact below_drewN (HB1.out.alloc HB1.out.size _) n
  clear hd hs1
  have hs2 := hs.below HB2.out
  go_wp2_with fail
  refine (Merge_at _ _ _ _ hs2 rfl hm.out).mono ?_
  rintro e w3 ⟨v, rfl, hown, hb⟩
  have HB3 : Hid (Below w.heap.size w w3) := HB2.out.trans (hb.mono HB2.out.size)
  clear hb hs2
  obtain ⟨a2, n2, k2, rfl, -, -, -⟩ := hown.opened (by decide) (by decide)
  have HB5 : Hid (Below w.heap.size w w3) := HB3.out
  clear hown
  have hs6 := hs.below HB5.out
  go_wp2_with fail
  refine (Split_at _ _ _ _ hs6 rfl hsp.out).mono ?_
  rintro e w6 ⟨v, rfl, hown, hb⟩
  have HB6 : Hid (Below w.heap.size w w6) := HB5.out.trans (hb.mono HB5.out.size)
  clear hb hs6
  have HQ' := (euler_back hd).1
  obtain ⟨a4, n4, c4, rfl, hs7, hn4, -⟩ := hown.opened (by have := HQ'.len; omega) (part_wf HQ')
  have HN4 : Hid (n4 = _) := hn4
  clear hown hn4 HQ'
  go_wp2_with fail
  refine (Merge_at _ _ _ _ hs7 HN4.out hsb.out).mono ?_
  rintro e w7 ⟨v, rfl, hown, hb⟩
  have HB7 : Hid (Below w.heap.size w w7) := HB6.out.trans (hb.mono HB6.out.size)
  have hs8 := hs.below HB7.out
  obtain ⟨a5, n5, c5, rfl, hs9, hn5, -⟩ := hown.opened (by have := hd.1.len; omega) (part_wf hd.1)
  have HN5 : Hid (n5 = zs.length) := hn5
  clear hb hown hn5 hs7
  go_wp2_with fail
  refine (Same_at _ _ _ _ _ _ zs zs _ hs9 hs8 HN5.out rfl true (by simp)).mono ?_
  rintro e w8 ⟨rfl, hdd⟩
  have HB8 : Hid (Below w.heap.size w w8) := by
    obtain ⟨n, rfl⟩ := hdd
    exact below_drewN HB7.out n
  clear hdd hs8 hs9
  go_wp2_with fail
  go_ret
  exact ⟨rfl, HB8.out⟩

set_option maxHeartbeats 4000000 in
theorem euler_err_err (a : Option Addr) (cap : Nat) (zs : List Int) (w : World) (hs : Shows w a zs) (c : Int) (hc : (c == 0) = false) (hm : Hid (MergeR zs c [])) (c2 : Int) (hc2 : (c2 != 0) = true) (hsp : Hid (SplitR zs c2 [])) :
    Calls Try.prog 5 #[.slice a zs.length cap] w fun e w' => e = .returned (.bool true) ∧ Below w.heap.size w w' := by
  go_enter Try.func5, Try.ntmps5
  go_wp2_with fail
  refine (Merge_at _ _ _ _ (shows_lit w [3, 3, 1] _ rfl (by decide) (by decide)) rfl merge331).mono ?_
  rintro e w1 ⟨v, rfl, hown, hb⟩
  obtain ⟨a1, n1, c1, rfl, hs1, hn1, -⟩ := hown.opened (by decide) (by decide)
  have HB1 : Hid (Below w.heap.size w w1) := ((Below.refl _ _).alloc (Nat.le_refl _) _).trans (hb.mono (by simp))
  have HN : Hid (n1 = [(6 : Int), 1].length) := hn1
  clear hown hb hn1
  go_wp2_with fail
  refine (Same_at _ _ _ _ _ _ [6, 1] [6, 1] _ (hs1.below ((Below.refl _ _).alloc (Nat.le_refl _) _)) (shows_lit w1 [6, 1] _ rfl (by decide) (by decide)) HN.out rfl true (by decide)).mono ?_
  rintro e w2 ⟨rfl, hd⟩
  have HB2 : Hid (Below w.heap.size w w2) := by
    obtain ⟨n, rfl⟩ := hd
    exact below_drewN (HB1.out.alloc HB1.out.size _) n
  clear hd hs1
  have hs2 := hs.below HB2.out
  go_wp2_with fail
  refine (Merge_at _ _ _ _ hs2 rfl hm.out).mono ?_
  rintro e w3 ⟨v, rfl, hown, hb⟩
  have HB3 : Hid (Below w.heap.size w w3) := HB2.out.trans (hb.mono HB2.out.size)
  clear hb hs2
  obtain ⟨a2, n2, k2, rfl, -, -, -⟩ := hown.opened (by decide) (by decide)
  have HB5 : Hid (Below w.heap.size w w3) := HB3.out
  clear hown
  have hs6 := hs.below HB5.out
  go_wp2_with fail
  refine (Split_at _ _ _ _ hs6 rfl hsp.out).mono ?_
  rintro e w6 ⟨v, rfl, hown, hb⟩
  have HB6 : Hid (Below w.heap.size w w6) := HB5.out.trans (hb.mono HB5.out.size)
  clear hb hs6
  obtain ⟨a4, n4, c4, rfl, -, hn4, -⟩ := hown.opened (by decide) (by decide)
  simp only [List.length_nil] at hn4
  subst hn4
  clear hown
  go_wp2
  go_ret
  exact ⟨rfl, HB6.out⟩

/-- EULER'S, of every slice that can be read. -/
theorem euler_any (a : Option Addr) (cap : Nat) (zs : List Int) (w : World) (hs : Shows w a zs) :
    Calls Try.prog 5 #[.slice a zs.length cap] w fun e w' => e = .returned (.bool true) ∧ Below w.heap.size w w' := by
  have hM : (∃ c, c ≠ 0 ∧ MergeR zs c []) ∨ (IsPart zs ∧ evenB zs = false) := by
    by_cases h : chk zs = 0
    · have hp := chk_ok.1 h
      cases he : evenB zs with
      | true => exact Or.inl ⟨3, by decide, Or.inr (Or.inl ⟨hp, he, rfl, rfl⟩)⟩
      | false => exact Or.inr ⟨hp, rfl⟩
    · exact Or.inl ⟨chk zs, h, Or.inl ⟨rfl, h, rfl⟩⟩
  have hS : (∃ c, c ≠ 0 ∧ SplitR zs c []) ∨ Dist zs := by
    by_cases h : chkD zs = 0
    · exact Or.inr (chkD_ok.1 h)
    · exact Or.inl ⟨chkD zs, h, Or.inl ⟨rfl, h, rfl⟩⟩
  have sok : Dist zs → SplitR zs 0 (listed (splitTo (cnt zs) 40)) ∧ MergeR (listed (splitTo (cnt zs) 40)) 0 zs := fun hd => by
    obtain ⟨b1, b2, b3⟩ := euler_back hd
    exact ⟨Or.inr ⟨hd, rfl, rfl⟩, Or.inr (Or.inr ⟨b1, b2, rfl, b3.symm⟩)⟩
  have mok : IsPart zs → evenB zs = false → MergeR zs 0 (listed (mergeTo (cnt zs) 40)) ∧ SplitR (listed (mergeTo (cnt zs) 40)) 0 zs := fun hp ho => by
    obtain ⟨b1, b2⟩ := euler_there hp ho
    exact ⟨Or.inr (Or.inr ⟨hp, ho, rfl, rfl⟩), Or.inr ⟨b1, rfl, b2.symm⟩⟩
  rcases hM with ⟨c, hc, hm⟩ | ⟨hp, ho⟩
  · rcases hS with ⟨c2, hc2, hsp⟩ | hd
    · exact euler_err_err a cap zs w hs c (beq_eq_false_iff_ne.2 hc) hm c2 (bne_iff_ne.2 hc2) hsp
    · exact euler_err_ok a cap zs w hs c (beq_eq_false_iff_ne.2 hc) hm hd (sok hd).1 (sok hd).2
  · rcases hS with ⟨c2, hc2, hsp⟩ | hd
    · exact euler_ok_err a cap zs w hs hp ho (mok hp ho).1 (mok hp ho).2 c2 (bne_iff_ne.2 hc2) hsp
    · exact euler_ok_ok a cap zs w hs hp ho (mok hp ho).1 (mok hp ho).2 hd (sok hd).1 (sok hd).2

#print axioms euler_any
end Go.Proofs.Ytnjbkiegeielhaa
