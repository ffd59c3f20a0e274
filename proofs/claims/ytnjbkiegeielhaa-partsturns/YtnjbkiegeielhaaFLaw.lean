/-
  The walk of the law PartsFranklin: for every slice that can be read it returns true; nothing old has turned.
-/
import Derived.Test.YtnjbkiegeielhaaFrankB
import Derived.Test.YtnjbkiegeielhaaFMath
namespace Go.Proofs.Ytnjbkiegeielhaa
open Go.RowKit

/-- What Franklin answers. -/
def FrankR (zs : List Int) (c : Int) (q : List Int) (m : Bool) : Prop :=
  (chkD zs = c ∧ c ≠ 0 ∧ q = [] ∧ m = false) ∨ (zs = [] ∧ c = 0 ∧ q = [] ∧ m = false) ∨ (Dist zs ∧ 0 < zs.length ∧ frankDown zs ∧ c = 0 ∧ q = downOf zs ∧ m = true) ∨
  (Dist zs ∧ 0 < zs.length ∧ frankUp zs ∧ c = 0 ∧ q = upOf zs ∧ m = true) ∨ (Dist zs ∧ 0 < zs.length ∧ ¬ frankDown zs ∧ ¬ frankUp zs ∧ c = 0 ∧ q = zs ∧ m = false)
theorem FrankR.err {zs : List Int} {c : Int} (h : chkD zs = c) (h0 : c ≠ 0) : FrankR zs c [] false := Or.inl ⟨h, h0, rfl, rfl⟩
theorem FrankR.nil : FrankR [] 0 [] false := Or.inr (Or.inl ⟨rfl, rfl, rfl, rfl⟩)
theorem FrankR.down {zs : List Int} (h : Dist zs) (h0 : 0 < zs.length) (h1 : frankDown zs) : FrankR zs 0 (downOf zs) true := Or.inr (Or.inr (Or.inl ⟨h, h0, h1, rfl, rfl, rfl⟩))
theorem FrankR.up {zs : List Int} (h : Dist zs) (h0 : 0 < zs.length) (h1 : frankUp zs) : FrankR zs 0 (upOf zs) true := Or.inr (Or.inr (Or.inr (Or.inl ⟨h, h0, h1, rfl, rfl, rfl⟩)))
theorem FrankR.stay {zs : List Int} (h : Dist zs) (h0 : 0 < zs.length) (h1 : ¬ frankDown zs) (h2 : ¬ frankUp zs) : FrankR zs 0 zs false := Or.inr (Or.inr (Or.inr (Or.inr ⟨h, h0, h1, h2, rfl, rfl, rfl⟩)))

theorem Franklin_rel {zs q : List Int} {c : Int} {m : Bool} (a : Option Addr) (cap : Nat) (w : World) (hs : Shows w a zs) (hcap : zs.length ≤ cap) (hr : FrankR zs c q m) :
    Calls Try.prog 23 #[.slice a zs.length cap] w fun e w' => ∃ v, e = .returned (.tuple #[v, .bool m, .int .i64 c]) ∧ Owns w' w.heap.size v q ∧ Below w.heap.size w w' := by
  rcases hr with ⟨h, hc, rfl, rfl⟩ | ⟨rfl, rfl, rfl, rfl⟩ | ⟨h, hn, hd, rfl, rfl, rfl⟩ | ⟨h, hn, hd, rfl, rfl, rfl⟩ | ⟨h, hn, hd, hu, rfl, rfl, rfl⟩
  · exact (Franklin_err a cap zs w hs c h (bne_iff_ne.2 hc)).mono fun e w' ⟨he, hw⟩ => ⟨_, he, World.ownsRow_nil _ _ _ _, hw ▸ Below.refl _ _⟩
  · exact (Franklin_nil a cap w).mono fun e w' ⟨he, hw⟩ => ⟨_, he, World.ownsRow_nil _ _ _ _, hw ▸ Below.refl _ _⟩
  · exact Franklin_down a cap zs w hs hcap (chkD_ok.2 h) h.1 hn hd
  · exact Franklin_up a cap zs w hs hcap (chkD_ok.2 h) h.1 hn hd
  · exact Franklin_stay a cap _ w hs hcap (chkD_ok.2 h) h.1 hn hd hu

theorem Franklin_at {zs q : List Int} {c : Int} {m : Bool} (a : Option Addr) (n cap : Nat) (w : World) (hs : Shows w a zs) (hn : n = zs.length) (hcap : n ≤ cap) (hr : FrankR zs c q m) :
    Calls Try.prog 23 #[.slice a n cap] w fun e w' => ∃ v, e = .returned (.tuple #[v, .bool m, .int .i64 c]) ∧ Owns w' w.heap.size v q ∧ Below w.heap.size w w' := by
  subst hn; exact Franklin_rel a cap w hs hcap hr

theorem Same_at (a b : Option Addr) (n m ca cb : Nat) (zs ys : List Int) (w : World) (hs : Shows w a zs) (ht : Shows w b ys) (hn : n = zs.length) (hm : m = ys.length) (t : Bool) (h : decide (zs = ys) = t) :
    Calls Try.prog 27 #[.slice a n ca, .slice b m cb] w fun e w' => e = .returned (.bool t) ∧ ∃ n, w' = w.drewN n := by
  subst hn; subst hm; rw [← h]; exact Same_any a b ca cb zs ys w hs ht

theorem Size_at (a : Option Addr) (n cap : Nat) (zs : List Int) (w : World) (hs : Shows w a zs) (h40 : ∀ z ∈ zs, 0 ≤ z ∧ z ≤ 1000) (hn : n = zs.length) (s : Int) (h : sum zs = s) :
    Calls Try.prog 19 #[.slice a n cap] w fun e w' => e = .returned (.int .i64 s) ∧ w' = w := by
  subst hn; rw [← h]; exact Size_any a cap zs w hs h40

/-- A literal slice in a new block. -/
theorem shows_lit (w : World) (zs : List Int) (cs : Array Value) (hcs : cs = (zs.map (Value.int .i64)).toArray) (hl : zs.length ≤ 17592186044416) (hwf : ∀ z ∈ zs, -9223372036854775808 ≤ z ∧ z ≤ 9223372036854775807) :
    Shows (w.alloc (.cells cs 3)) (some ⟨w.heap.size, 0, none⟩) zs := by
  subst hcs
  refine ⟨hl, hwf, fun _ => ⟨w.heap.size, 0, rfl, by simp, fun j hj => ?_⟩⟩
  rw [World.cell?_alloc_at _ _ _ _ rfl]
  simp [List.getD, List.getElem?_eq_getElem hj]

theorem frank32 : FrankR [3, 2] 0 [3, 2] false := by
  refine FrankR.stay ?_ (by decide) ?_ ?_
  · exact chkD_ok.1 (by decide)
  · unfold frankDown; decide
  · unfold frankUp; decide

theorem Owns.opened {w : World} {base : Nat} {v : Value} {zs : List Int} (h : Owns w base v zs) (hl : zs.length ≤ 17592186044416) (hwf : ∀ z ∈ zs, -9223372036854775808 ≤ z ∧ z ≤ 9223372036854775807) :
    ∃ a n cap, v = .slice a n cap ∧ Shows w a zs ∧ n = zs.length ∧ n ≤ cap := by
  obtain ⟨a, cap, hv, hs⟩ := h.shows hl hwf
  refine ⟨a, _, cap, hv, hs, rfl, ?_⟩
  rcases h.2 with ⟨h2, h3⟩ | ⟨g, cap', cur, hv', _, _, hc, _⟩
  · omega
  · rw [hv] at hv'; cases hv'; exact hc

theorem small_wf {zs : List Int} (h : ∀ z ∈ zs, 0 ≤ z ∧ z ≤ 1000) : ∀ z ∈ zs, -9223372036854775808 ≤ z ∧ z ≤ 9223372036854775807 := fun z hz => by have := h z hz; omega

set_option maxHeartbeats 2000000 in
theorem law_err (a : Option Addr) (cap : Nat) (zs : List Int) (w : World) (hs : Shows w a zs) (hcap : zs.length ≤ cap) (c : Int) (hc : (c != 0) = true) (hr : Hid (FrankR zs c [] false)) :
    Calls Try.prog 6 #[.slice a zs.length cap] w fun e w' => e = .returned (.bool true) ∧ Below w.heap.size w w' := by
  go_enter Try.func6, Try.ntmps6
  go_wp2_with fail
  refine (Franklin_at _ _ _ _ (shows_lit w [3, 2] _ rfl (by decide) (by decide)) rfl (by decide) frank32).mono ?_
  rintro e w1 ⟨v, rfl, hown, hb⟩
  obtain ⟨a1, n1, c1, rfl, hs1, hn1, -⟩ := hown.opened (by decide) (by decide)
  have HB1 : Hid (Below w.heap.size w w1) := ((Below.refl _ _).alloc (Nat.le_refl _) _).trans (hb.mono (by simp))
  have HN : Hid (n1 = [(3 : Int), 2].length) := hn1
  clear hown hb hn1
  go_wp2_with fail
  refine (Same_at _ _ _ _ _ _ [3, 2] [3, 2] _ (hs1.below ((Below.refl _ _).alloc (Nat.le_refl _) _)) (shows_lit w1 [3, 2] _ rfl (by decide) (by decide)) HN.out rfl true (by decide)).mono ?_
  rintro e w2 ⟨rfl, hd⟩
  have HB2 : Hid (Below w.heap.size w w2) := by
    obtain ⟨n, rfl⟩ := hd
    exact below_drewN (HB1.out.alloc HB1.out.size _) n
  clear hd hs1
  have hs2 := hs.below HB2.out
  go_wp2_with fail
  refine (Franklin_at _ _ _ _ hs2 rfl hcap hr.out).mono ?_
  rintro e w3 ⟨v, rfl, hown, hb⟩
  have HB3 : Hid (Below w.heap.size w w3) := HB2.out.trans (hb.mono HB2.out.size)
  have hs3 := hs.below HB3.out
  clear hb hs2
  obtain ⟨a2, n2, c2, rfl, hs4, hn2, -⟩ := hown.opened (by decide) (by decide)
  simp only [List.length_nil] at hn2
  subst hn2
  clear hown
  go_wp2
  go_ret
  exact ⟨rfl, HB3.out⟩

theorem pent_wrap (n : Nat) (hn : n ≤ 40) (d : Int) (hd : -1 ≤ d ∧ d ≤ 1) : wrap64 ((n : Int) * (3 * n + d)) = (n : Int) * (3 * n + d) := by
  have h1 : (n : Int) * (3 * n + d) ≤ 40 * 121 := Int.le_trans (Int.mul_le_mul_of_nonneg_left (show 3 * (n : Int) + d ≤ 121 by omega) (by omega)) (Int.mul_le_mul_of_nonneg_right (by omega) (by omega))
  have h2 : -40 ≤ (n : Int) * (3 * n + d) := by
    have h3 : (n : Int) * (-1) ≤ (n : Int) * (3 * n + d) := Int.mul_le_mul_of_nonneg_left (by omega) (by omega)
    omega
  exact IntWalk.wrap64_in _ (by omega)

set_option maxHeartbeats 2000000 in
theorem law_stay (a : Option Addr) (cap : Nat) (zs : List Int) (w : World) (hs : Shows w a zs) (hcap : zs.length ≤ cap) (hr : Hid (FrankR zs 0 zs false)) (hp : IsPart zs) (S n : Int) (HS : Hid (sum zs = S)) (HN : Hid (n = zs.length)) (_hn0 : 0 ≤ n) (_hn40 : n ≤ 40) (hS0 : 0 ≤ S) (hS1 : S ≤ 40) (hpent : Hid (2 * S = n * (3 * n - 1) ∨ 2 * S = n * (3 * n + 1))) :
    Calls Try.prog 6 #[.slice a zs.length cap] w fun e w' => e = .returned (.bool true) ∧ Below w.heap.size w w' := by
  have hl := hp.len
  have h40 : Hid (∀ z ∈ zs, 0 ≤ z ∧ z ≤ 1000) := fun z hz => by have := hp.range z hz; omega
  go_enter Try.func6, Try.ntmps6
  go_wp2_with fail
  refine (Franklin_at _ _ _ _ (shows_lit w [3, 2] _ rfl (by decide) (by decide)) rfl (by decide) frank32).mono ?_
  rintro e w1 ⟨v, rfl, hown, hb⟩
  obtain ⟨a1, n1, c1, rfl, hs1, hn1, -⟩ := hown.opened (by decide) (by decide)
  have HB1 : Hid (Below w.heap.size w w1) := ((Below.refl _ _).alloc (Nat.le_refl _) _).trans (hb.mono (by simp))
  have HN1 : Hid (n1 = [(3 : Int), 2].length) := hn1
  clear hown hb hn1
  go_wp2_with fail
  refine (Same_at _ _ _ _ _ _ [3, 2] [3, 2] _ (hs1.below ((Below.refl _ _).alloc (Nat.le_refl _) _)) (shows_lit w1 [3, 2] _ rfl (by decide) (by decide)) HN1.out rfl true (by decide)).mono ?_
  rintro e w2 ⟨rfl, hd⟩
  have HB2 : Hid (Below w.heap.size w w2) := by
    obtain ⟨n, rfl⟩ := hd
    exact below_drewN (HB1.out.alloc HB1.out.size _) n
  clear hd hs1
  have hs2 := hs.below HB2.out
  go_wp2_with fail
  refine (Franklin_at _ _ _ _ hs2 rfl hcap hr.out).mono ?_
  rintro e w3 ⟨v, rfl, hown, hb⟩
  have HB3 : Hid (Below w.heap.size w w3) := HB2.out.trans (hb.mono HB2.out.size)
  have hs3 := hs.below HB3.out
  clear hb hs2
  obtain ⟨a2, n2, c2, rfl, hs4, hn2, -⟩ := hown.opened (by omega) (small_wf h40.out)
  have HN2 : Hid (n2 = zs.length) := hn2
  clear hown hn2
  go_wp2_with fail
  refine (Size_at _ _ _ zs _ hs3 h40.out rfl S HS.out).mono ?_
  rintro e w4 ⟨rfl, rfl⟩
  go_wp2_with fail
  refine (Same_at _ _ _ _ _ _ zs zs _ hs3 hs4 rfl HN2.out true (by simp)).mono ?_
  rintro e w5 ⟨rfl, hd⟩
  have HB5 : Hid (Below w.heap.size w w5) := by
    obtain ⟨n, rfl⟩ := hd
    exact below_drewN HB3.out n
  clear hd
  go_wp2_with fail
  · go_ret
    exact ⟨rfl, HB5.out⟩
  · have hnot : ¬ 2 * S = wrap64 (↑zs.length * (3 * ↑zs.length - 1)) := by assumption
    go_ret
    refine ⟨ret_bool ?_, HB5.out⟩
    have hw1 := pent_wrap zs.length hl (-1) (by omega)
    have hw2 := pent_wrap zs.length hl 1 (by omega)
    have e1 : (3 * (zs.length : Int) + -1) = 3 * (zs.length : Int) - 1 := by omega
    rw [e1] at hw1
    rw [hw1] at hnot ⊢
    rw [hw2]
    rcases hpent.out with h | h
    · exact absurd (by rw [h, HN.out]) hnot
    · rw [Bool.or_eq_true]; right; rw [beq_iff_eq, h, HN.out]

set_option maxHeartbeats 4000000 in
theorem law_moved (a : Option Addr) (cap : Nat) (zs q : List Int) (w : World) (hs : Shows w a zs) (hcap : zs.length ≤ cap) (hr : Hid (FrankR zs 0 q true)) (hrb : Hid (FrankR q 0 zs true)) (hp : IsPart zs) (hpq : IsPart q) (S : Int) (HS : Hid (sum zs = S)) (HSq : Hid (sum q = S))
    (t : Bool) (ht : ((q.length : Int) - (zs.length : Int) == 1) = t) (ht' : Hid (t = false → ((zs.length : Int) - (q.length : Int) == 1) = true)) :
    Calls Try.prog 6 #[.slice a zs.length cap] w fun e w' => e = .returned (.bool true) ∧ Below w.heap.size w w' := by
  have hl := hp.len
  have hlq := hpq.len
  have h40 : Hid (∀ z ∈ zs, 0 ≤ z ∧ z ≤ 1000) := fun z hz => by have := hp.range z hz; omega
  have h40q : Hid (∀ z ∈ q, 0 ≤ z ∧ z ≤ 1000) := fun z hz => by have := hpq.range z hz; omega
  go_enter Try.func6, Try.ntmps6
  go_wp2_with fail
  refine (Franklin_at _ _ _ _ (shows_lit w [3, 2] _ rfl (by decide) (by decide)) rfl (by decide) frank32).mono ?_
  rintro e w1 ⟨v, rfl, hown, hb⟩
  obtain ⟨a1, n1, c1, rfl, hs1, hn1, -⟩ := hown.opened (by decide) (by decide)
  have HB1 : Hid (Below w.heap.size w w1) := ((Below.refl _ _).alloc (Nat.le_refl _) _).trans (hb.mono (by simp))
  have HN : Hid (n1 = [(3 : Int), 2].length) := hn1
  clear hown hb hn1
  go_wp2_with fail
  refine (Same_at _ _ _ _ _ _ [3, 2] [3, 2] _ (hs1.below ((Below.refl _ _).alloc (Nat.le_refl _) _)) (shows_lit w1 [3, 2] _ rfl (by decide) (by decide)) HN.out rfl true (by decide)).mono ?_
  rintro e w2 ⟨rfl, hd⟩
  have HB2 : Hid (Below w.heap.size w w2) := by
    obtain ⟨n, rfl⟩ := hd
    exact below_drewN (HB1.out.alloc HB1.out.size _) n
  clear hd hs1
  have hs2 := hs.below HB2.out
  go_wp2_with fail
  refine (Franklin_at _ _ _ _ hs2 rfl hcap hr.out).mono ?_
  rintro e w3 ⟨v, rfl, hown, hb⟩
  have HB3 : Hid (Below w.heap.size w w3) := HB2.out.trans (hb.mono HB2.out.size)
  have hs3 := hs.below HB3.out
  clear hb hs2
  obtain ⟨a2, n2, c2, rfl, hs4, hn2, hc2⟩ := hown.opened (by omega) (small_wf h40q.out)
  clear hown
  subst hn2
  go_wp2_with fail
  refine (Franklin_at _ _ _ _ hs4 rfl hc2 hrb.out).mono ?_
  rintro e w4 ⟨v, rfl, hown, hb⟩
  have HB4 : Hid (Below w.heap.size w w4) := HB3.out.trans (hb.mono HB3.out.size)
  have hs5 := hs.below HB4.out
  have hs6 := hs4.below hb
  obtain ⟨a3, n3, c3, rfl, hs7, hn3, -⟩ := hown.opened (by omega) (small_wf h40.out)
  have HN3 : Hid (n3 = zs.length) := hn3
  clear hb hown hn3 hs3 hs4
  go_wp2_with fail
  refine (Same_at _ _ _ _ _ _ zs zs _ hs7 hs5 HN3.out rfl true (by simp)).mono ?_
  rintro e w5 ⟨rfl, hd⟩
  have HB5 : Hid (Below w4.heap.size w4 w5) := by
    obtain ⟨n, rfl⟩ := hd
    exact below_drewN (Below.refl _ _) n
  have HB5' : Hid (Below w.heap.size w w5) := HB4.out.trans (HB5.out.mono HB4.out.size)
  have hs8 := hs5.below HB5.out
  have hs9 := hs6.below HB5.out
  clear hd hs5 hs6 hs7
  go_wp2_with fail
  refine (Size_at _ _ _ q _ hs9 h40q.out rfl S HSq.out).mono ?_
  rintro e w6 ⟨rfl, rfl⟩
  go_wp2_with fail
  refine (Size_at _ _ _ zs _ hs8 h40.out rfl S HS.out).mono ?_
  rintro e w7 ⟨rfl, rfl⟩
  cases t
  · have h2 := ht'.out rfl
    go_wp2_with fail
    go_ret
    exact ⟨rfl, HB5'.out⟩
  · go_wp2_with fail
    go_ret
    exact ⟨rfl, HB5'.out⟩

/-- FRANKLIN'S, of every slice that can be read. -/
theorem law_any (a : Option Addr) (cap : Nat) (zs : List Int) (w : World) (hs : Shows w a zs) (hcap : zs.length ≤ cap) :
    Calls Try.prog 6 #[.slice a zs.length cap] w fun e w' => e = .returned (.bool true) ∧ Below w.heap.size w w' := by
  by_cases hc : chkD zs = 0
  · have hd := chkD_ok.1 hc
    have hl := hd.1.len
    have h0 : 0 ≤ sum zs := by have := sum_ge (zs := zs) (m := 0) (fun z hz => by have := hd.1.range z hz; omega); omega
    by_cases hne : 0 < zs.length
    · by_cases h1 : frankDown zs
      · obtain ⟨d1, d2, d3, d4, d5, d6⟩ := down_up hd hne h1
        have hb := FrankR.up d1 d2 d3
        rw [d4] at hb
        exact law_moved a cap zs _ w hs hcap (.down hd hne h1) hb hd.1 d1.1 (sum zs) rfl d5 false (beq_eq_false_iff_ne.2 (by omega)) (fun _ => beq_iff_eq.2 (by omega))
      · by_cases h2 : frankUp zs
        · obtain ⟨d1, d2, d3, d4, d5, d6⟩ := up_down hd hne h2
          have hb := FrankR.down d1 d2 d3
          rw [d4] at hb
          exact law_moved a cap zs _ w hs hcap (.up hd hne h2) hb hd.1 d1.1 (sum zs) rfl d5 true (beq_iff_eq.2 (by omega)) (fun h => by cases h)
        · exact law_stay a cap zs w hs hcap (.stay hd hne h1 h2) hd.1 (sum zs) zs.length rfl rfl (by omega) (by omega) h0 hd.1.2 (stay_pent hd hne h1 h2)
    · obtain rfl : zs = [] := List.eq_nil_of_length_eq_zero (by omega)
      exact law_stay a cap [] w hs hcap .nil hd.1 0 0 rfl rfl (by omega) (by omega) (by omega) (by omega) (Or.inl rfl)
  · exact law_err a cap zs w hs hcap _ (bne_iff_ne.2 hc) (.err rfl hc)

#print axioms law_any
end Go.Proofs.Ytnjbkiegeielhaa
