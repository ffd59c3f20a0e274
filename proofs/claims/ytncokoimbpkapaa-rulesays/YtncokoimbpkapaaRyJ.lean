/-
  ferref.Rights, its whole contract.
-/
import Derived.Test.YtncokoimbpkapaaRyH
import Derived.Test.YtncokoimbpkapaaRyG
namespace Go.Proofs.Ytncokoimbpkapaa
open Go.RowKit Go.Shelf Go.Sort

theorem sumN_mono (f : Nat → Nat) {x y : Nat} (h : x ≤ y) : sumN f x ≤ sumN f y := by
  obtain ⟨d, rfl⟩ : ∃ d, y = x + d := ⟨y - x, by omega⟩
  clear h
  induction d with
  | zero => exact Nat.le_refl _
  | succ d ih => rw [show x + (d + 1) = x + d + 1 by omega, sumN_succ]; omega
theorem mem_getD {α : Type} {l : List α} {z d : α} (h : z ∈ l) : ∃ j, j < l.length ∧ z = l.getD j d := by
  obtain ⟨j, hj, rfl⟩ := List.mem_iff_getElem.1 h
  exact ⟨j, hj, by simp [List.getD, hj]⟩
theorem six_le {k : Nat} (h : k ≤ 16) : 6 ^ k ≤ 2821109907456 := Nat.le_trans (Nat.pow_le_pow_right (by omega) h) (by decide)

/-- All tables of the reference are small. -/
theorem ref_bd {al bl cl : List Nat} (T : Tri al bl cl) (hb : Pn bl) (hc : Pn cl) {x : Nat} {t : List (List Nat)} (hx : x ≤ bl.length) (h : t ∈ refL al (bOf bl) (fun r => cl.getD r 0) cl.length x) : t.length ≤ 1000 ∧ ∀ r ∈ t, r.length ≤ 1000 ∧ ∀ z ∈ r, z ≤ 1000 := by
  have hp := (mem_refL T.out T.ad T.ap T.ac x t).1 h
  have h1 := hc.len
  have h2 := hb.len
  have h3 := hc.s
  have h4 := hp.rows
  refine ⟨by omega, fun r hr => ?_⟩
  obtain ⟨i, hi, rfl⟩ := mem_getD (d := []) hr
  have h5 : (t.getD i []).length ≤ cl.getD i 0 := hp.hi i
  have h6 := getD_le_sum cl i
  refine ⟨by omega, fun z hz => ?_⟩
  obtain ⟨j, hj, rfl⟩ := mem_getD (d := 0) hz
  by_cases e : j < al.getD i 0
  · have : (t.getD i []).getD j 0 = 0 := hp.hole i j e
    omega
  · have : (t.getD i []).getD j 0 ≤ x := (hp.pos i j (Nat.le_of_not_lt e) hj).2
    omega
theorem ref_sum {al bl cl : List Nat} (T : Tri al bl cl) (hc : Pn cl) {x : Nat} (hx : x ≤ bl.length) : sumN (fun r => al.getD r 0) cl.length + sumN (fun y => bOf bl (y + 1)) x ≤ 16 := by
  have h1 := sumN_mono (fun y => bOf bl (y + 1)) hx
  rw [b_sum] at h1
  have h2 := sum_getD al cl.length T.lm
  have h3 := T.sum
  have h4 := hc.s
  omega
theorem ref_len16 {al bl cl : List Nat} (T : Tri al bl cl) (hc : Pn cl) {x : Nat} (hx : x ≤ bl.length) : (refL al (bOf bl) (fun r => cl.getD r 0) cl.length x).length ≤ 2821109907456 := by
  have h1 := ref_sum T hc hx
  exact Nat.le_trans (ref_len T.out T.ad T.ap T.ac x h1) (six_le (by omega))
/-- All strips are small. -/
theorem ref_st {al bl cl : List Nat} (T : Tri al bl cl) (hc : Pn cl) {x : Nat} {t : List (List Nat)} (hx : x < bl.length) (h : t ∈ refL al (bOf bl) (fun r => cl.getD r 0) cl.length x) :
    (gwn (len2 t) (fun r => cl.getD r 0) cl.length (bOf bl (x + 1))).length ≤ 5000000000000 ∧ ∀ q ∈ gwn (len2 t) (fun r => cl.getD r 0) cl.length (bOf bl (x + 1)), q.length ≤ 1000 ∧ t.length ≤ q.length ∧ ∀ z ∈ q, z ≤ 1000 := by
  have hp := (mem_refL T.out T.ad T.ap T.ac x t).1 h
  have h1 := hc.len
  have h3 := hc.s
  have hs := ref_sum T hc (x := x + 1) hx
  rw [sumN_succ] at hs
  have ht := hp.total
  refine ⟨Nat.le_trans (strip_len hp (by omega)) (Nat.le_trans (six_le (by omega)) (by omega)), fun q hq => ?_⟩
  have hst := (mem_gwn (p := len2 t) (fun r hr => by
    have := hp.rows
    unfold len2 nrow
    simp [List.getD, List.getElem?_eq_none (show t.length ≤ r by omega)]) q).1 hq
  have h2 := hst.len
  refine ⟨by omega, strip_rows hp hst, fun z hz => ?_⟩
  obtain ⟨r, hr, rfl⟩ := mem_getD (d := 0) hz
  have h4 := hst.hi r (by omega)
  have h5 := getD_le_sum cl r
  have h6 := getD_le_sum cl 0
  unfold hiG at h4
  dsimp only at h4
  split at h4 <;> omega
theorem flat_bd {t : List (List Nat)} (h : t.length ≤ 1000 ∧ ∀ r ∈ t, r.length ≤ 1000 ∧ ∀ z ∈ r, z ≤ 1000) : (castT t).length ≤ 1000 ∧ (castT t).flatten.length ≤ 1000000 ∧ ∀ z ∈ (castT t).flatten, -9223372036854775808 ≤ z ∧ z ≤ 9223372036854775807 := by
  refine ⟨by rw [castT_len]; exact h.1, ?_, fun z hz => ?_⟩
  · rw [castT_flat, castL_len]
    have := flat_le (fun l : List Nat => l) 1000 t (fun r hr => (h.2 r hr).1)
    have e : t.flatMap (fun l => l) = t.flatten := by simp [List.flatMap]
    rw [e] at this
    have := Nat.mul_le_mul_right 1000 h.1
    omega
  · rw [castT_flat] at hz
    have := castL_lt (b := 1000) (l := t.flatten) (fun y hy => by
      obtain ⟨r, hr, hy⟩ := List.mem_flatten.1 hy
      exact (h.2 r hr).2 y hy) z hz
    omega

set_option maxHeartbeats 4000000 in
set_option maxRecDepth 100000 in
/-- The sizes do not fit. -/
theorem Rights_n (aa ab ac : Option Addr) (na nb nc ca cb cc : Nat) (sa sb sc : Int) (w : World)
    (H1 : Hid (Calls Try.prog 17 #[.slice aa na ca] w fun e w' => e = .returned (.int .i64 sa) ∧ w' = w))
    (H2 : Hid (Calls Try.prog 17 #[.slice ab nb cb] w fun e w' => e = .returned (.int .i64 sb) ∧ w' = w))
    (H3 : Hid (Calls Try.prog 17 #[.slice ac nc cc] w fun e w' => e = .returned (.int .i64 sc) ∧ w' = w))
    (hne : (IntKind.i64.wrap (sa + sb) != sc) = true) :
    Calls Try.prog 7 #[.slice aa na ca, .slice ab nb cb, .slice ac nc cc] w fun e w' => e = .returned (.slice none 0 0) ∧ w' = w := by
  rw [IntWalk.i64_left] at hne
  go_enter Try.func7, Try.ntmps7
  go_wp2_with fail
  refine H1.out.mono ?_
  rintro e w' ⟨rfl, hw⟩
  obtain rfl := hw
  go_wp2_with fail
  refine H2.out.mono ?_
  rintro e w' ⟨rfl, hw⟩
  obtain rfl := hw
  go_wp2_with fail
  refine H3.out.mono ?_
  rintro e w' ⟨rfl, hw⟩
  obtain rfl := hw
  go_wp2
  go_ret
  exact ⟨rfl, rfl⟩

set_option maxHeartbeats 4000000 in
set_option maxRecDepth 100000 in
/-- It does not lie inside. -/
theorem Rights_o (aa ab ac : Option Addr) (na nb nc ca cb cc : Nat) (sa sb sc : Int) (w : World)
    (H1 : Hid (Calls Try.prog 17 #[.slice aa na ca] w fun e w' => e = .returned (.int .i64 sa) ∧ w' = w))
    (H2 : Hid (Calls Try.prog 17 #[.slice ab nb cb] w fun e w' => e = .returned (.int .i64 sb) ∧ w' = w))
    (H3 : Hid (Calls Try.prog 17 #[.slice ac nc cc] w fun e w' => e = .returned (.int .i64 sc) ∧ w' = w))
    (H4 : Hid (Calls Try.prog 18 #[.slice aa na ca, .slice ac nc cc] w fun e w' => e = .returned (.bool false) ∧ ∃ q, w' = w.drewN q))
    (hsum : IntKind.i64.wrap (sa + sb) = sc) :
    Calls Try.prog 7 #[.slice aa na ca, .slice ab nb cb, .slice ac nc cc] w fun e w' => e = .returned (.slice none 0 0) ∧ ∃ q, w' = w.drewN q := by
  go_enter Try.func7, Try.ntmps7
  go_wp2_with fail
  refine H1.out.mono ?_
  rintro e w' ⟨rfl, hw⟩
  obtain rfl := hw
  go_wp2_with fail
  refine H2.out.mono ?_
  rintro e w' ⟨rfl, hw⟩
  obtain rfl := hw
  go_wp2_with fail
  refine H3.out.mono ?_
  rintro e w' ⟨rfl, hw⟩
  obtain rfl := hw
  go_wp2_with fail
  refine H4.out.mono ?_
  rintro e w0 ⟨rfl, HW⟩
  go_wp2
  go_ret
  exact ⟨rfl, HW⟩

theorem Rights_at {ρ : Go.Shelf.Ren} (L : SlLaysF.n6 Try.prog ρ) (hρ : ρ.f 6 = 14) (aa ab ac : Option Addr) (na nb nc ca cb cc : Nat) (al bl cl : List Nat) (w : World) (ha : Shows w aa (castL al)) (hb : Shows w ab (castL bl)) (hc : Shows w ac (castL cl)) (pa : Pn al) (pb : Pn bl) (pc : Pn cl) (hna : na = al.length) (hnb : nb = bl.length) (hnc : nc = cl.length) :
    Calls Try.prog 7 #[.slice aa na ca, .slice ab nb cb, .slice ac nc cc] w fun e w' => ∃ v, e = .returned v ∧ ∃ us ts, ts.Perm ((rightsF al bl cl).map castT) ∧ Sorted ts ∧ Cub noB w' w.heap.size v us ts ∧ Below w.heap.size w w' := by
  have s1 := pa.s
  have s2 := pb.s
  have s3 := pc.s
  have l1 := pa.len
  have l2 := pb.len
  have l3 := pc.len
  have H1 := hid_h (RSize_at aa na ca al w ha hna (by omega))
  have H2 := hid_h (RSize_at ab nb cb bl w hb hnb (by omega))
  have H3 := hid_h (RSize_at ac nc cc cl w hc hnc (by omega))
  have H4 := hid_h (RInside_at aa ac na nc ca cc al cl w ha hc hna hnc pa.p)
  have hw : IntKind.i64.wrap ((al.sum : Int) + (bl.sum : Int)) = ((al.sum + bl.sum : Nat) : Int) := by rw [IntWalk.i64_left, IntWalk.wrap64_in _ (by omega)]; omega
  have hnil : ∀ w', Below w.heap.size w w' → ¬ (al.sum + bl.sum = cl.sum ∧ inB al cl = true) → ∃ v, Ending.returned (.slice none 0 0) = .returned v ∧ ∃ us ts, ts.Perm ((rightsF al bl cl).map castT) ∧ Sorted ts ∧ Cub noB w' w.heap.size v us ts ∧ Below w.heap.size w w' := fun w' hB h => by
    refine ⟨_, rfl, [], [], ?_, List.Pairwise.nil, Cub.nil _ _, hB⟩
    unfold rightsF; rw [if_neg h]; exact List.Perm.refl _
  by_cases hs : al.sum + bl.sum = cl.sum
  · have hw2 : IntKind.i64.wrap ((al.sum : Int) + (bl.sum : Int)) = (cl.sum : Int) := by rw [hw, hs]
    cases hi : inB al cl with
    | true =>
      rw [hi] at H4
      have T := tri_of pa pb pc ⟨hs, hi⟩
      refine (Rights_c aa ab ac na nb nc ca cb cc al bl cl w (fun v w2 => ∃ us ts, ts.Perm ((refL al (bOf bl) (fun r => cl.getD r 0) cl.length nb).map castT) ∧ Sorted ts ∧ Cub noB w2 w.heap.size v us ts ∧ Below w.heap.size w w2) ha hna (by omega) (by omega) (fun z hz => by obtain ⟨j, hj, rfl⟩ := mem_getD (d := 0) hz; have := getD_le_sum al j; omega) H1 H2 H3 H4 (fun v us W hC hB => ?_) (fun x hx => Nat.le_trans (ref_len16 T pc (by omega)) (by omega)) hb hnb hc hnc ⟨by omega, fun z hz => by obtain ⟨j, hj, rfl⟩ := mem_getD (d := 0) hz; have := getD_le_sum cl j; omega⟩ (fun z hz => by obtain ⟨j, hj, rfl⟩ := mem_getD (d := 0) hz; have := getD_le_sum bl j; omega) (fun x hx t ht => ref_bd T pb pc (by omega) ht) (fun x hx t ht => ref_st T pc (by omega) ht) hw2).mono ?_
      · refine (SortCube_at L hρ 23 (enters_of Try.func23 (by kernel_rfl) rfl) v us _ W hC (by rw [List.length_map]; have := ref_len16 T pc (x := nb) (by omega); omega) hB.size (fun W2 a1 b1 ca1 cb1 s t hs ht hTs hTt => ?_)).mono ?_
        · obtain ⟨s0, hs0, rfl⟩ := List.mem_map.1 hs
          obtain ⟨t0, ht0, rfl⟩ := List.mem_map.1 ht
          have g1 := flat_bd (ref_bd T pb pc (by omega) hs0)
          have g2 := flat_bd (ref_bd T pb pc (by omega) ht0)
          exact RLess_d a1 b1 ca1 cb1 _ _ W2 hTs hTt g1.1 g2.1 g1.2.1 g2.2.1 g1.2.2 g2.2.2
        · rintro e w2 ⟨rfl, us', ts', hp, hs, hc, hb, -⟩
          exact ⟨rfl, us', ts', hp, hs, hc, hB.trans hb⟩
      · rintro e w2 ⟨v, rfl, us, ts, hp, h⟩
        refine ⟨v, rfl, us, ts, ?_, h⟩
        unfold rightsF; rw [if_pos ⟨hs, hi⟩, ← hnb]; exact hp
    | false =>
      rw [hi] at H4
      refine (Rights_o aa ab ac na nb nc ca cb cc _ _ _ w H1 H2 H3 H4 hw2).mono ?_
      rintro e w2 ⟨rfl, q, rfl⟩
      exact hnil _ (below_drewN (Below.refl _ _) q) (fun h => by rw [hi] at h; exact absurd h.2 (by decide))
  · refine (Rights_n aa ab ac na nb nc ca cb cc _ _ _ w H1 H2 H3 (by rw [hw]; simp; omega)).mono ?_
    rintro e w2 ⟨rfl, rfl⟩
    exact hnil _ (Below.refl _ _) (fun h => hs h.1)

end Go.Proofs.Ytncokoimbpkapaa
