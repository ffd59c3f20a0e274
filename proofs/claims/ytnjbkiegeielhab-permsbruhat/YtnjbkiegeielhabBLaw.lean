/-
  The walk of the law PermsBruhat: for every three slices that can be read it returns true; nothing old has turned.
-/
import Derived.Test.YtnjbkiegeielhabPBel
namespace Go.Proofs.Ytnjbkiegeielhab
open Go.RowKit

theorem under12 : Under [1, 2] [2, 1] := by
  rw [under_iff (a := [1, 2]) (b := [2, 1]) (pchk_ok.1 (by decide)) (pchk_ok.1 (by decide)) rfl]
  intro i k hi hk
  have h1 : i = 0 ∨ i = 1 ∨ i = 2 := by simp at hi; omega
  have h2 : k = 0 ∨ k = 1 ∨ k = 2 := by simp at hk; omega
  rcases h1 with rfl | rfl | rfl <;> rcases h2 with rfl | rfl | rfl <;> decide
theorem bel12 : BelR [1, 2] [2, 1] 0 true := ⟨by decide, fun _ => ⟨fun _ => under12, fun _ => rfl⟩, fun h => absurd rfl h⟩

/-- What the law needs to know. -/
structure BruR (xs ys : List Int) (A B C D : Bool) (g h : Int) (N M : Nat) : Prop where
  same : A = true → B = true → xs = ys ∧ N = M
  less : A = true → B = false → N < M
  chain : g = 0 → h = 0 ∧ (A = true → C = true → D = true)

set_option maxHeartbeats 4000000 in
set_option maxRecDepth 100000 in
theorem bru_err (a b d : Option Addr) (ca cb cd : Nat) (xs ys zs : List Int) (w : World) (hp : Shows w a xs) (hq : Shows w b ys) (hr : Shows w d zs) (c f : Int) (B : Bool) (hc : (c != 0) = true) (r1 : Hid (BelR xs ys c false)) (r2 : Hid (BelR ys xs f B)) :
    Calls Try.prog 8 #[.slice a xs.length ca, .slice b ys.length cb, .slice d zs.length cd] w fun e w' => e = .returned (.bool true) ∧ Below w.heap.size w w' := by
  go_enter Try.func8, Try.ntmps8
  go_wp2_with fail
  refine (Below_at _ _ _ _ _ _ _ ((shows_lit w [1, 2] _ rfl (by decide) (by decide)).below ((Below.refl _ _).alloc (Nat.le_refl _) _)) (by simpa using (shows_lit (w.alloc (.cells #[.int .i64 1, .int .i64 2] 3)) [2, 1] _ rfl (by decide) (by decide))) rfl rfl bel12).mono ?_
  rintro e w1 ⟨rfl, hb⟩
  have hbx : Below w.heap.size w w1 := (((Below.refl _ _).alloc (Nat.le_refl _) _).alloc (by simp) _).trans (hb.mono (by simp; omega))
  have HB1 : Hid (Below w.heap.size w w1) := hbx
  replace hp := hp.below hbx
  replace hq := hq.below hbx
  replace hr := hr.below hbx
  clear hb hbx
  go_wp2_with fail
  refine (Below_at _ _ _ _ _ _ _ hp hq rfl rfl r1.out).mono ?_
  rintro e w2 ⟨rfl, hb⟩
  have HB2 : Hid (Below w.heap.size w w2) := HB1.out.trans (hb.mono HB1.out.size)
  replace hp := hp.below hb
  replace hq := hq.below hb
  replace hr := hr.below hb
  clear hb
  go_wp2_with fail
  refine (Below_at _ _ _ _ _ _ _ hq hp rfl rfl r2.out).mono ?_
  rintro e w3 ⟨rfl, hb⟩
  have HB3 : Hid (Below w.heap.size w w3) := HB2.out.trans (hb.mono HB2.out.size)
  replace hp := hp.below hb
  replace hq := hq.below hb
  replace hr := hr.below hb
  clear hb
  go_wp2_with fail
  go_ret
  exact ⟨rfl, HB3.out⟩

set_option maxHeartbeats 4000000 in
set_option maxRecDepth 100000 in
theorem bru_ok (a b d : Option Addr) (ca cb cd : Nat) (xs ys zs : List Int) (w : World) (hp : Shows w a xs) (hq : Shows w b ys) (hr : Shows w d zs) (hca : xs.length ≤ ca) (hcb : ys.length ≤ cb) (A B C D : Bool) (g h : Int) (N M m1 m2 : Nat) (us vs ds1 ds2 : List Int)
    (hu40 : us.length ≤ 40) (hv40 : vs.length ≤ 40) (huw : Hid (∀ z ∈ us, 0 ≤ z ∧ z ≤ 1000)) (hvw : Hid (∀ z ∈ vs, 0 ≤ z ∧ z ≤ 1000))
    (r1 : Hid (BelR xs ys 0 A)) (r2 : Hid (BelR ys xs 0 B)) (r3 : Hid (BelR ys zs g C)) (r4 : Hid (BelR xs zs h D)) (r5 : Hid (BelR xs xs 0 true)) (r6 : Hid (PermR invL xs 0 us)) (r7 : Hid (PermR invL ys 0 vs)) (r8 : Hid (BelR us vs 0 A)) (r9 : Hid (MeasR xs 0 N m1 ds1)) (r10 : Hid (MeasR ys 0 M m2 ds2))
    (hR : Hid (BruR xs ys A B C D g h N M)) :
    Calls Try.prog 8 #[.slice a xs.length ca, .slice b ys.length cb, .slice d zs.length cd] w fun e w' => e = .returned (.bool true) ∧ Below w.heap.size w w' := by
  go_enter Try.func8, Try.ntmps8
  go_wp2_with fail
  refine (Below_at _ _ _ _ _ _ _ ((shows_lit w [1, 2] _ rfl (by decide) (by decide)).below ((Below.refl _ _).alloc (Nat.le_refl _) _)) (by simpa using (shows_lit (w.alloc (.cells #[.int .i64 1, .int .i64 2] 3)) [2, 1] _ rfl (by decide) (by decide))) rfl rfl bel12).mono ?_
  rintro e w1 ⟨rfl, hb⟩
  have hbx : Below w.heap.size w w1 := (((Below.refl _ _).alloc (Nat.le_refl _) _).alloc (by simp) _).trans (hb.mono (by simp; omega))
  have HB1 : Hid (Below w.heap.size w w1) := hbx
  replace hp := hp.below hbx
  replace hq := hq.below hbx
  replace hr := hr.below hbx
  clear hb hbx
  go_wp2_with fail
  refine (Below_at _ _ _ _ _ _ _ hp hq rfl rfl r1.out).mono ?_
  rintro e w2 ⟨rfl, hb⟩
  have HB2 : Hid (Below w.heap.size w w2) := HB1.out.trans (hb.mono HB1.out.size)
  replace hp := hp.below hb
  replace hq := hq.below hb
  replace hr := hr.below hb
  clear hb
  go_wp2_with fail
  refine (Below_at _ _ _ _ _ _ _ hq hp rfl rfl r2.out).mono ?_
  rintro e w3 ⟨rfl, hb⟩
  have HB3 : Hid (Below w.heap.size w w3) := HB2.out.trans (hb.mono HB2.out.size)
  replace hp := hp.below hb
  replace hq := hq.below hb
  replace hr := hr.below hb
  clear hb
  go_wp2_with fail
  refine (Below_at _ _ _ _ _ _ _ hq hr rfl rfl r3.out).mono ?_
  rintro e w4 ⟨rfl, hb⟩
  have HB4 : Hid (Below w.heap.size w w4) := HB3.out.trans (hb.mono HB3.out.size)
  replace hp := hp.below hb
  replace hq := hq.below hb
  replace hr := hr.below hb
  clear hb
  go_wp2_with fail
  refine (Below_at _ _ _ _ _ _ _ hp hr rfl rfl r4.out).mono ?_
  rintro e w5 ⟨rfl, hb⟩
  have HB5 : Hid (Below w.heap.size w w5) := HB4.out.trans (hb.mono HB4.out.size)
  replace hp := hp.below hb
  replace hq := hq.below hb
  replace hr := hr.below hb
  clear hb
  go_wp2_with fail
  refine (Below_at _ _ _ _ _ _ _ hp hp rfl rfl r5.out).mono ?_
  rintro e w6 ⟨rfl, hb⟩
  have HB6 : Hid (Below w.heap.size w w6) := HB5.out.trans (hb.mono HB5.out.size)
  replace hp := hp.below hb
  replace hq := hq.below hb
  replace hr := hr.below hb
  clear hb
  go_wp2_with fail
  refine (Inverse_at _ _ _ _ hp rfl r6.out).mono ?_
  rintro e w7 ⟨v, rfl, hown, hb⟩
  have HB7 : Hid (Below w.heap.size w w7) := HB6.out.trans (hb.mono HB6.out.size)
  replace hp := hp.below hb
  replace hq := hq.below hb
  replace hr := hr.below hb
  obtain ⟨a7, n7, c7, rfl, S7, hn7, hc7⟩ := hown.opened (by omega) (small_wf huw.out)
  have HN7 : Hid (n7 = us.length) := hn7
  have HC7 : Hid (n7 ≤ c7) := hc7
  clear hown hn7 hc7
  clear hb
  go_wp2_with fail
  refine (Inverse_at _ _ _ _ hq rfl r7.out).mono ?_
  rintro e w8 ⟨v, rfl, hown, hb⟩
  have HB8 : Hid (Below w.heap.size w w8) := HB7.out.trans (hb.mono HB7.out.size)
  replace hp := hp.below hb
  replace hq := hq.below hb
  replace hr := hr.below hb
  replace S7 := S7.below hb
  obtain ⟨a8, n8, c8, rfl, S8, hn8, hc8⟩ := hown.opened (by omega) (small_wf hvw.out)
  have HN8 : Hid (n8 = vs.length) := hn8
  have HC8 : Hid (n8 ≤ c8) := hc8
  clear hown hn8 hc8
  clear hb
  go_wp2_with fail
  refine (Below_at _ _ _ _ _ _ _ S7 S8 HN7.out HN8.out r8.out).mono ?_
  rintro e w9 ⟨rfl, hb⟩
  have HB9 : Hid (Below w.heap.size w w9) := HB8.out.trans (hb.mono HB8.out.size)
  replace hp := hp.below hb
  replace hq := hq.below hb
  replace hr := hr.below hb
  replace S7 := S7.below hb
  replace S8 := S8.below hb
  clear hb
  go_wp2_with fail
  refine (Measure_at _ _ _ _ hp rfl hca r9.out).mono ?_
  rintro e w10 ⟨v1, rfl, -, hb⟩
  have HB10 : Hid (Below w.heap.size w w10) := HB9.out.trans (hb.mono HB9.out.size)
  replace hp := hp.below hb
  replace hq := hq.below hb
  clear hb
  go_wp2_with fail
  refine (Measure_at _ _ _ _ hq rfl hcb r10.out).mono ?_
  rintro e w11 ⟨v2, rfl, -, hb⟩
  have HB11 : Hid (Below w.heap.size w w11) := HB10.out.trans (hb.mono HB10.out.size)
  replace hp := hp.below hb
  replace hq := hq.below hb
  clear hb
  cases A with
  | false =>
    by_cases hg : g = 0
    · have hh := (hR.out.chain hg).1
      subst hg; subst hh
      go_wp2_with fail
      go_ret
      exact ⟨rfl, HB11.out⟩
    · have hgb : (g != 0) = true := bne_iff_ne.2 hg
      have HG : Hid (g ≠ 0) := hg
      clear hg
      go_wp2_with fail
      go_ret
      exact ⟨rfl, HB11.out⟩
  | true =>
    have HCh : Hid (g = 0 → h = 0 ∧ (C = true → D = true)) := fun hg => ⟨(hR.out.chain hg).1, (hR.out.chain hg).2 rfl⟩
    cases B with
    | false =>
      have hlt := hR.out.less rfl rfl
      have hb1 : decide ((N : Int) > (M : Int)) = false := by simp; omega
      have hb2 : ((N : Int) == (M : Int)) = false := beq_eq_false_iff_ne.2 (by omega)
      by_cases hg : g = 0
      · have hh := (HCh.out hg).1
        have hcd := (HCh.out hg).2
        subst hg; subst hh
        cases C with
        | false =>
          go_wp2_with fail
          go_ret
          exact ⟨rfl, HB11.out⟩
        | true =>
          have hD := hcd rfl
          subst hD
          go_wp2_with fail
          go_ret
          exact ⟨rfl, HB11.out⟩
      · have hgb : (g != 0) = true := bne_iff_ne.2 hg
        have HG : Hid (g ≠ 0) := hg
        clear hg
        go_wp2_with fail
        go_ret
        exact ⟨rfl, HB11.out⟩
    | true =>
      obtain ⟨hxy, hNM⟩ := hR.out.same rfl rfl
      clear hR r1 r2 r3 r4 r5 r6 r7 r8 r9 r10
      subst hxy; subst hNM
      have hb1 : decide ((N : Int) > (N : Int)) = false := by simp
      go_wp2_with fail
      refine (Same_at _ _ _ _ _ _ xs xs _ hp hq rfl rfl true (by simp)).mono ?_
      rintro e wa ⟨rfl, hd⟩
      have hb : Below w11.heap.size w11 wa := by
        obtain ⟨n, rfl⟩ := hd
        exact below_drewN (Below.refl _ _) n
      have HBa : Hid (Below w.heap.size w wa) := HB11.out.trans (hb.mono HB11.out.size)
      replace hp := hp.below hb
      replace hq := hq.below hb
      clear hb hd
      go_wp2_with fail
      refine (Same_at _ _ _ _ _ _ xs xs _ hp hq rfl rfl true (by simp)).mono ?_
      rintro e wb ⟨rfl, hd⟩
      have hb : Below wa.heap.size wa wb := by
        obtain ⟨n, rfl⟩ := hd
        exact below_drewN (Below.refl _ _) n
      have HBb : Hid (Below w.heap.size w wb) := HBa.out.trans (hb.mono HBa.out.size)
      clear hb hd
      by_cases hg : g = 0
      · have hh := (HCh.out hg).1
        have hcd := (HCh.out hg).2
        subst hg; subst hh
        cases C with
        | false =>
          go_wp2_with fail
          go_ret
          exact ⟨rfl, HBb.out⟩
        | true =>
          have hD := hcd rfl
          subst hD
          go_wp2_with fail
          go_ret
          exact ⟨rfl, HBb.out⟩
      · have hgb : (g != 0) = true := bne_iff_ne.2 hg
        have HG : Hid (g ≠ 0) := hg
        clear hg
        go_wp2_with fail
        go_ret
        exact ⟨rfl, HBb.out⟩

/-- BRUHAT'S, of every three slices that can be read. -/
theorem bru_any (a b d : Option Addr) (ca cb cd : Nat) (xs ys zs : List Int) (w : World) (hp : Shows w a xs) (hq : Shows w b ys) (hr : Shows w d zs) (hca : xs.length ≤ ca) (hcb : ys.length ≤ cb) :
    Calls Try.prog 8 #[.slice a xs.length ca, .slice b ys.length cb, .slice d zs.length cd] w fun e w' => e = .returned (.bool true) ∧ Below w.heap.size w w' := by
  obtain ⟨f, B, r2⟩ := belR_ex ys xs
  by_cases hc : two xs ys = 0
  · obtain ⟨hx, hy, hl⟩ := two_ok.1 hc
    obtain ⟨c, A, r1⟩ := belR_ex xs ys
    obtain ⟨g, C, r3⟩ := belR_ex ys zs
    obtain ⟨h, D, r4⟩ := belR_ex xs zs
    obtain rfl : c = 0 := by rw [← r1.1]; exact hc
    obtain rfl : f = 0 := by rw [← r2.1]; exact two_ok.2 ⟨hy, hx, hl.symm⟩
    have i1 := invL_inv hx
    have i2 := invL_inv hy
    have p1 := i1.perm hx
    have p2 := i2.perm hy
    have hA := r1.2.1 rfl
    have hB := r2.2.1 rfl
    have hsm : ∀ {l : List Int}, IsPerm l → ∀ z ∈ l, 0 ≤ z ∧ z ≤ 1000 := fun {l} h z hz => by have := h.low z hz; have := h.high z hz; have := h.len; omega
    refine bru_ok a b d ca cb cd xs ys zs w hp hq hr hca hcb A B C D g h (wrongs xs) (wrongs ys) (major xs.length xs) (major ys.length ys) (invL xs) (invL ys) (desc xs.length xs) (desc ys.length ys) p1.len p2.len (hsm p1) (hsm p2) r1 r2 r3 r4
      ⟨two_ok.2 ⟨hx, hx, rfl⟩, fun _ => ⟨fun _ => Under.refl _, fun _ => rfl⟩, fun h => absurd rfl h⟩ (PermR.ok hx) (PermR.ok hy)
      ⟨two_ok.2 ⟨p1, p2, by rw [i1.1, i2.1, hl]⟩, fun _ => by rw [hA, under_inv hx hy hl i1 i2 p1 p2], fun h => absurd rfl h⟩
      ⟨pchk_ok.2 hx, fun _ => ⟨rfl, rfl, rfl⟩, fun h => absurd rfl h⟩ ⟨pchk_ok.2 hy, fun _ => ⟨rfl, rfl, rfl⟩, fun h => absurd rfl h⟩ ⟨?_, ?_, ?_⟩
    · intro h1 h2
      rcases under_less hx hy hl (hA.1 h1) with e | e
      · exact ⟨e, by rw [e]⟩
      · rcases under_less hy hx hl.symm (hB.1 h2) with e2 | e2
        · exact ⟨e2.symm, by rw [e2]⟩
        · omega
    · intro h1 h2
      rcases under_less hx hy hl (hA.1 h1) with e | e
      · have : B = true := hB.2 (by rw [e]; exact Under.refl _)
        rw [this] at h2; cases h2
      · exact e
    · intro hg
      subst hg
      obtain ⟨_, hz, hl2⟩ := two_ok.1 r3.1
      have hh : two xs zs = 0 := two_ok.2 ⟨hx, hz, by rw [hl, hl2]⟩
      obtain rfl : h = 0 := by rw [← r4.1]; exact hh
      exact ⟨rfl, fun h1 h2 => (r4.2.1 rfl).2 ((hA.1 h1).trans ((r3.2.1 rfl).1 h2))⟩
  · exact bru_err a b d ca cb cd xs ys zs w hp hq hr _ f B (bne_iff_ne.2 hc) ⟨rfl, fun h => absurd h hc, fun _ => rfl⟩ r2

#print axioms bru_any
end Go.Proofs.Ytnjbkiegeielhab
