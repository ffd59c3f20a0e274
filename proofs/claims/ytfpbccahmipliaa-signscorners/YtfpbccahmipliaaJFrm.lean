/-
  The contracts of signs.Triangle, FromTriangle, FromCorner.
-/
import Derived.Test.YtfpbccahmipliaaJTwo
import Derived.Test.YtfpbccahmipliaaJWtr
import Derived.Test.YtfpbccahmipliaaJRow
namespace Go.Proofs.Ytfpbccahmipliaa
open Go.RowKit

theorem tri_wf {n : Nat} {P : Nat → Nat → Int} (hn : n ≤ 1000) : ∀ l ∈ tri n P, l.length ≤ 17592186044416 ∧ ∀ z ∈ l, -9223372036854775808 ≤ z ∧ z ≤ 9223372036854775807 := by
  intro l hl
  obtain ⟨i, _, rfl⟩ := List.mem_map.1 hl
  refine ⟨by have := trP_le (trF P i) n; omega, fun z hz => ?_⟩
  have := trP_bd hz
  omega

set_option maxHeartbeats 2000000 in
theorem Triangle_ok (a : Option Addr) (n m ca : Nat) (A : Nat → Nat → Int) (w : World) (hs : Table w a (tz n n A)) (hm : m = n) (p : Sg n A) :
    Calls Try.prog 15 #[.slice a m ca] w fun e w' => ∃ v, e = .returned (.tuple #[v, .int .i64 0]) ∧ Hid (Tbl w' w.heap.size v (tri n A)) ∧ Hid (Below w.heap.size w w') := by
  have n7 := p.n7
  have HC1 : Hid (Calls Try.prog 22 #[.slice a m ca] w fun e w' => e = .returned (.int .i64 0) ∧ Hid (Below w.heap.size w w')) := SgCheck_at a m ca _ w 0 hs (by rw [tz_len]; exact hm) (by rw [tz_len]; omega) ⟨fun _ => rfl, fun h => absurd (sg_list.2 p) h⟩
  have HC2 : Hid (∀ W, Below w.heap.size w W → Calls Try.prog 31 #[.slice a m ca] W fun e w' => ∃ v, e = .returned v ∧ Hid (Tbl w' W.heap.size v (tri n A)) ∧ Hid (Below W.heap.size W w')) := fun W hW => triangle_at a n m ca A W (hs.below hW) hm p
  clear hs p hm n7
  go_enter Try.func15, Try.ntmps15
  go_wp2_with fail
  refine HC1.out.mono ?_
  rintro e w1 ⟨rfl, HB1⟩
  go_wp2_with fail
  refine (HC2.out w1 HB1.out).mono ?_
  rintro e w2 ⟨v, rfl, HT2, HB2⟩
  go_wp2
  go_ret2
  exact ⟨_, rfl, HT2.out.mono HB1.out.size, HB1.out.trans (HB2.out.mono HB1.out.size)⟩
set_option maxHeartbeats 2000000 in
theorem Triangle_no (a : Option Addr) (n ca : Nat) (ls : List (List Int)) (w : World) (hs : Table w a ls) (hn : n = ls.length) (hl : ls.length ≤ 17592186044416) (h : ¬ SgL ls) :
    Calls Try.prog 15 #[.slice a n ca] w fun e w' => e = .returned (.tuple #[.slice none 0 0, .int .i64 1]) ∧ Hid (Below w.heap.size w w') := by
  have HC1 : Hid (Calls Try.prog 22 #[.slice a n ca] w fun e w' => e = .returned (.int .i64 1) ∧ Hid (Below w.heap.size w w')) := SgCheck_at a n ca _ w 1 hs hn hl ⟨fun q => absurd q h, fun _ => rfl⟩
  clear hs hn hl h
  go_enter Try.func15, Try.ntmps15
  go_wp2_with fail
  refine HC1.out.mono ?_
  rintro e w1 ⟨rfl, HB1⟩
  go_wp2
  go_ret2
  exact ⟨rfl, HB1⟩

/-- the place of a square in the memory -/
theorem wtr_low {ls : List (List Int)} (h : TrB ls) : ∀ i, i < ls.length → ∀ j, j < ls.length → -9223372036854775808 ≤ wtr ls i j ∧ wtr ls i j ≤ 9223372036854775807 := fun i hi j _ => by
  have := wst_bd h ls.length 0 i j
  rw [wst_end j hi] at this
  omega

set_option maxHeartbeats 4000000 in
theorem FromTriangle_at (a : Option Addr) (n ca : Nat) (ls : List (List Int)) (w : World) (hs : Table w a ls) (hn : n = ls.length) (hl : ls.length ≤ 17592186044416) :
    Calls Try.prog 20 #[.slice a n ca] w fun e w' => Hid (Below w.heap.size w w') ∧ ((FtOk ls ∧ ∃ g gs, e = .returned (.tuple #[.slice (some ⟨g, 0, none⟩) n n, .int .i64 0]) ∧ w.heap.size ≤ g ∧ Hid (Rez w' g g n n gs (wtr ls))) ∨ (¬ FtOk ls ∧ e = .returned (.tuple #[.slice none 0 0, .int .i64 1]))) := by
  by_cases t : TrB ls
  · have HC1 : Hid (Calls Try.prog 36 #[.slice a n ca] w fun e w' => e = .returned (.bool true) ∧ w' = w) := isTriangular_at a n ca ls w true hs hn hl ⟨fun _ => t, fun _ => rfl⟩
    have HC2 : Hid (Calls Try.prog 37 #[.slice a n ca] w fun e w' => ∃ gs, e = .returned (.slice (some ⟨w.heap.size, 0, none⟩) n n) ∧ Hid (Rez w' w.heap.size w.heap.size n n gs (wtr ls)) ∧ Hid (Below w.heap.size w w')) := withTriangle_at a n ca ls w hs hn t
    have n1 := t.n1
    have n7 := t.n7
    have HTr : Hid (TrB ls) := t
    have HS : Hid (Table w a ls) := hs
    have HN : Hid (n = ls.length) := hn
    have hnb : n ≤ 7 := by omega
    clear hs t
    obtain ⟨R, HRr⟩ : ∃ R, Hid (R = w.heap.size) := ⟨_, rfl⟩
    by_cases hok : Sg n (wtr ls)
    · have HSg : Hid (Sg n (wtr ls)) := hok
      obtain ⟨s, Hs⟩ := same_ex (tri n (wtr ls)) ls
      cases s with
      | true =>
        have HF : Hid (FtOk ls) := (ft_iff ls).2 ⟨HTr.out, by rw [← hn]; exact hok, by rw [← hn]; exact (Hs.out.1 rfl).symm⟩
        clear hn hok
        go_enter Try.func20, Try.ntmps20
        go_wp2_with fail
        refine HC1.out.mono ?_
        rintro e w ⟨rfl, rfl⟩
        go_wp2_with fail
        refine HC2.out.mono ?_
        rintro e w1 ⟨gs, rfl, HR1, HB1⟩
        have HT1 : Hid (∀ W, Below w1.heap.size w1 W → Table W (some ⟨w.heap.size, 0, none⟩) (tz n n (wtr ls))) := fun W hW => (HR1.out.below hW).table (by omega) (fun i hi j hj => by rw [HN.out] at hi hj; exact wtr_low HTr.out i hi j hj)
        have HC3 : Hid (Calls Try.prog 22 #[.slice (some ⟨w.heap.size, 0, none⟩) n n] w1 fun e w' => e = .returned (.int .i64 0) ∧ Hid (Below w1.heap.size w1 w')) := SgCheck_at _ n n _ w1 0 (HT1.out w1 (Below.refl _ _)) (by rw [tz_len]) (by rw [tz_len]; omega) ⟨fun _ => rfl, fun h => absurd (sg_list.2 HSg.out) h⟩
        clear HC1 HC2
        go_wp2_with fail
        refine HC3.out.mono ?_
        rintro e w2 ⟨rfl, HB2⟩
        have HC4 : Hid (Calls Try.prog 31 #[.slice (some ⟨w.heap.size, 0, none⟩) n n] w2 fun e w' => ∃ v, e = .returned v ∧ Hid (Tbl w' w2.heap.size v (tri n (wtr ls))) ∧ Hid (Below w2.heap.size w2 w')) := triangle_at _ n n n (wtr ls) w2 (HT1.out w2 HB2.out) rfl HSg.out
        go_wp2_with fail
        refine HC4.out.mono ?_
        rintro e w3 ⟨v3, rfl, HT3, HB3⟩
        obtain ⟨a3, n3, c3, rfl, hT3, HN3⟩ := HT3.out.table (tri_wf (by omega))
        have hn3 : n3 = n := by rw [HN3.out, tri_len]
        subst hn3
        have HBw2 : Hid (Below w.heap.size w w2) := HB1.out.trans (HB2.out.mono HB1.out.size)
        have HBw3 : Hid (Below w.heap.size w w3) := HBw2.out.trans (HB3.out.mono HBw2.out.size)
        have HR3 : Hid (Rez w3 w.heap.size w.heap.size n3 n3 gs (wtr ls)) := (HR1.out.below HB2.out).below HB3.out
        have HC5 : Hid (Calls Try.prog 34 #[.slice a3 n3 c3, .slice a n3 ca] w3 fun e w' => e = .returned (.bool true) ∧ w' = w3) := sameRows_at _ _ _ _ _ _ (tri n3 (wtr ls)) ls w3 true hT3 (HS.out.below HBw3.out) (by rw [tri_len]) HN.out (by rw [tri_len]; omega) ⟨(fun _ => Hs.out.1 (by first | trivial | rfl)), (fun _ => rfl)⟩
        clear hT3 HT3 HN3 HC3 HC4 HB1 HB2 HB3 HT1
        go_wp2_with fail
        refine HC5.out.mono ?_
        rintro e w3 ⟨rfl, rfl⟩
        go_wp2
        go_ret2
        exact ⟨HBw3, Or.inl ⟨HF.out, _, gs, rfl, Nat.le_refl _, HR3⟩⟩
      | false =>
        have HF : Hid (¬ FtOk ls) := fun h => by
          have := ((ft_iff ls).1 h).2.2
          rw [← hn] at this
          exact Bool.noConfusion (Hs.out.2 this.symm)
        clear hn hok
        go_enter Try.func20, Try.ntmps20
        go_wp2_with fail
        refine HC1.out.mono ?_
        rintro e w ⟨rfl, rfl⟩
        go_wp2_with fail
        refine HC2.out.mono ?_
        rintro e w1 ⟨gs, rfl, HR1, HB1⟩
        have HT1 : Hid (∀ W, Below w1.heap.size w1 W → Table W (some ⟨w.heap.size, 0, none⟩) (tz n n (wtr ls))) := fun W hW => (HR1.out.below hW).table (by omega) (fun i hi j hj => by rw [HN.out] at hi hj; exact wtr_low HTr.out i hi j hj)
        have HC3 : Hid (Calls Try.prog 22 #[.slice (some ⟨w.heap.size, 0, none⟩) n n] w1 fun e w' => e = .returned (.int .i64 0) ∧ Hid (Below w1.heap.size w1 w')) := SgCheck_at _ n n _ w1 0 (HT1.out w1 (Below.refl _ _)) (by rw [tz_len]) (by rw [tz_len]; omega) ⟨fun _ => rfl, fun h => absurd (sg_list.2 HSg.out) h⟩
        clear HC1 HC2
        go_wp2_with fail
        refine HC3.out.mono ?_
        rintro e w2 ⟨rfl, HB2⟩
        have HC4 : Hid (Calls Try.prog 31 #[.slice (some ⟨w.heap.size, 0, none⟩) n n] w2 fun e w' => ∃ v, e = .returned v ∧ Hid (Tbl w' w2.heap.size v (tri n (wtr ls))) ∧ Hid (Below w2.heap.size w2 w')) := triangle_at _ n n n (wtr ls) w2 (HT1.out w2 HB2.out) rfl HSg.out
        go_wp2_with fail
        refine HC4.out.mono ?_
        rintro e w3 ⟨v3, rfl, HT3, HB3⟩
        obtain ⟨a3, n3, c3, rfl, hT3, HN3⟩ := HT3.out.table (tri_wf (by omega))
        have hn3 : n3 = n := by rw [HN3.out, tri_len]
        subst hn3
        have HBw2 : Hid (Below w.heap.size w w2) := HB1.out.trans (HB2.out.mono HB1.out.size)
        have HBw3 : Hid (Below w.heap.size w w3) := HBw2.out.trans (HB3.out.mono HBw2.out.size)
        have HC5 : Hid (Calls Try.prog 34 #[.slice a3 n3 c3, .slice a n3 ca] w3 fun e w' => e = .returned (.bool false) ∧ w' = w3) := sameRows_at _ _ _ _ _ _ (tri n3 (wtr ls)) ls w3 false hT3 (HS.out.below HBw3.out) (by rw [tri_len]) HN.out (by rw [tri_len]; omega) Hs
        clear hT3 HT3 HN3 HC3 HC4 HB1 HB2 HB3 HT1
        go_wp2_with fail
        refine HC5.out.mono ?_
        rintro e w3 ⟨rfl, rfl⟩
        go_wp2
        go_ret2
        exact ⟨HBw3, Or.inr ⟨HF.out, rfl⟩⟩
    · have HF : Hid (¬ FtOk ls) := fun h => hok (by rw [hn]; exact ((ft_iff ls).1 h).2.1)
      have HNo : Hid (¬ Sg n (wtr ls)) := hok
      clear hn hok
      go_enter Try.func20, Try.ntmps20
      go_wp2_with fail
      refine HC1.out.mono ?_
      rintro e w ⟨rfl, rfl⟩
      go_wp2_with fail
      refine HC2.out.mono ?_
      rintro e w1 ⟨gs, rfl, HR1, HB1⟩
      have HT1 : Hid (∀ W, Below w1.heap.size w1 W → Table W (some ⟨w.heap.size, 0, none⟩) (tz n n (wtr ls))) := fun W hW => (HR1.out.below hW).table (by omega) (fun i hi j hj => by rw [HN.out] at hi hj; exact wtr_low HTr.out i hi j hj)
      have HC3 : Hid (Calls Try.prog 22 #[.slice (some ⟨w.heap.size, 0, none⟩) n n] w1 fun e w' => e = .returned (.int .i64 1) ∧ Hid (Below w1.heap.size w1 w')) := SgCheck_at _ n n _ w1 1 (HT1.out w1 (Below.refl _ _)) (by rw [tz_len]) (by rw [tz_len]; omega) ⟨fun h => absurd (sg_list.1 h) HNo.out, fun _ => rfl⟩
      clear HC1 HC2
      go_wp2_with fail
      refine HC3.out.mono ?_
      rintro e w2 ⟨rfl, HB2⟩
      have HBw2 : Hid (Below w.heap.size w w2) := HB1.out.trans (HB2.out.mono HB1.out.size)
      go_wp2
      go_ret2
      exact ⟨HBw2, Or.inr ⟨HF.out, rfl⟩⟩
  · have HC1 : Hid (Calls Try.prog 36 #[.slice a n ca] w fun e w' => e = .returned (.bool false) ∧ w' = w) := isTriangular_at a n ca ls w false hs hn hl ⟨(fun h => by cases h), (fun h => absurd h t)⟩
    have HF : Hid (¬ FtOk ls) := fun h => t ((ft_iff ls).1 h).1
    clear hs hn hl t
    go_enter Try.func20, Try.ntmps20
    go_wp2_with fail
    refine HC1.out.mono ?_
    rintro e w ⟨rfl, rfl⟩
    go_wp2
    go_ret2
    exact ⟨Below.refl _ _, Or.inr ⟨HF.out, rfl⟩⟩

theorem wdif_cor {n : Nat} {P : Nat → Nat → Int} (p : Sg n P) {i j : Nat} (hi : i < n) (hj : j < n) : wdif (cor P) i j = P i j := by
  rw [wdif_small (fun i hi j hj => p.kc.bound7 hi hj) hi hj, dif_cor]
theorem wdif_congr {N : Nat} {C D : Nat → Nat → Int} (h : ∀ i, i < N → ∀ j, j < N → C i j = D i j) {i j : Nat} (hi : i + 1 < N) (hj : j + 1 < N) : wdif C i j = wdif D i j := by
  unfold wdif
  rw [h _ hi _ hj, h i (by omega) _ hj, h _ hi j (by omega), h i (by omega) j (by omega)]
/-- what these corners tell of the matrix -/
theorem fc_fn {ls : List (List Int)} {n : Nat} (hn : ls.length = n + 1) (h : FcOk ls) : Sg n (wdif (box ls)) ∧ tz (n + 1) (n + 1) (cor (wdif (box ls))) = ls := by
  obtain ⟨m, P, p, e⟩ := h
  have hm : m = n := by rw [e, tz_len] at hn; omega
  subst hm
  have h1 : ∀ i, i < m + 1 → ∀ j, j < m + 1 → box ls i j = cor P i j := fun i hi j hj => by rw [e, tz_box hi hj]
  have h2 : ∀ i, i < m → ∀ j, j < m → P i j = wdif (box ls) i j := fun i hi j hj => by rw [wdif_congr h1 (by omega) (by omega), wdif_cor p hi hj]
  refine ⟨p.congr h2, ?_⟩
  rw [tz_congr (fun i hi j hj => (cor_congr h2 (show i ≤ m by omega) (show j ≤ m by omega)).symm)]
  exact e.symm

set_option maxHeartbeats 4000000 in
theorem FromCorner_at (a : Option Addr) (N ca : Nat) (ls : List (List Int)) (w : World) (hs : Table w a ls) (hn : N = ls.length) (hl : ls.length ≤ 17592186044416) :
    Calls Try.prog 17 #[.slice a N ca] w fun e w' => Hid (Below w.heap.size w w') ∧ ((FcOk ls ∧ ∃ n g gs, e = .returned (.tuple #[.slice (some ⟨g, 0, none⟩) n n, .int .i64 0]) ∧ Hid (N = n + 1) ∧ w.heap.size ≤ g ∧ Hid (Rez w' g g n n gs (wdif (box ls)))) ∨ (¬ FcOk ls ∧ e = .returned (.tuple #[.slice none 0 0, .int .i64 1]))) := by
  have hlen : ∀ n P, Sg n P → ls = tz (n + 1) (n + 1) (cor P) → ls.length = n + 1 ∧ 1 ≤ n ∧ n ≤ 7 ∧ ∀ i, i < ls.length → (row ls i).length = ls.length := fun n P p e => by
    have e1 : ls.length = n + 1 := by rw [e, tz_len]
    refine ⟨e1, p.n1, p.n7, fun i hi => ?_⟩
    rw [e1] at hi ⊢
    rw [e, tz_row hi, tab_length]
  have HS : Hid (Table w a ls) := hs
  have HN : Hid (N = ls.length) := hn
  have hNb : N ≤ 17592186044416 := by omega
  by_cases h2 : N < 2
  · have h2' : (N : Int) < 2 := by omega
    have HF : Hid (¬ FcOk ls) := fun ⟨n, P, p, e⟩ => by have := hlen n P p e; omega
    clear hs hn hl hlen
    go_enter Try.func17, Try.ntmps17
    go_wp2
    go_ret2
    exact ⟨Below.refl _ _, Or.inr ⟨HF.out, rfl⟩⟩
  have h2' : ¬ (N : Int) < 2 := by omega
  by_cases h8 : 8 < N
  · have h8' : (8 : Int) < (N : Int) := by omega
    have HF : Hid (¬ FcOk ls) := fun ⟨n, P, p, e⟩ => by have := hlen n P p e; omega
    clear hs hn hl hlen
    go_enter Try.func17, Try.ntmps17
    go_wp2
    go_ret2
    exact ⟨Below.refl _ _, Or.inr ⟨HF.out, rfl⟩⟩
  have h8' : ¬ (8 : Int) < (N : Int) := by omega
  by_cases hsq : ∀ i, i < ls.length → (row ls i).length = N
  · have HC1 : Hid (Calls Try.prog 32 #[.slice a N ca, .int .i64 (N : Int)] w fun e w' => e = .returned (.bool true) ∧ w' = w) := areOfLength_at a N ca N ls w true hs hn hl hNb ⟨fun _ => hsq, fun _ => rfl⟩
    obtain ⟨n, Hn⟩ : ∃ n, Hid (N = n + 1) := ⟨N - 1, by show _ = _; omega⟩
    have n1 : 1 ≤ n := by have := Hn.out; omega
    have n7 : n ≤ 7 := by have := Hn.out; omega
    have HTz : Hid (ls = tz N N (box ls)) := by rw [hn] at hsq ⊢; exact tz_of hsq
    have HTt : Hid (Table w a (tz N N (box ls))) := (fun ms e => e ▸ HS.out : ∀ ms, ls = ms → Table w a ms) _ HTz.out
    have HC2 : Hid (Calls Try.prog 33 #[.slice a N ca] w fun e w' => ∃ gs, e = .returned (.slice (some ⟨w.heap.size, 0, none⟩) n n) ∧ Hid (Rez w' w.heap.size w.heap.size n n gs (wdif (box ls))) ∧ Hid (Below w.heap.size w w')) := withCorner_at a n N N ca (box ls) w HTt.out rfl Hn.out n1 n7
    have HFc : Hid (FcOk ls → Sg n (wdif (box ls)) ∧ tz N N (cor (wdif (box ls))) = ls) := fun h => by
      have := fc_fn (n := n) (by rw [← hn]; exact Hn.out) h
      rw [← Hn.out] at this
      exact this
    clear hs hsq hlen
    by_cases hok : Sg n (wdif (box ls))
    · have HSg : Hid (Sg n (wdif (box ls))) := hok
      obtain ⟨s, Hs⟩ := same_ex (tz N N (cor (wdif (box ls)))) ls
      have HFs : Hid (s = true ↔ FcOk ls) := ⟨fun e => ⟨n, _, hok, by rw [← Hn.out]; exact (Hs.out.1 e).symm⟩, fun h => Hs.out.2 (HFc.out h).2⟩
      clear hn hok hl
      go_enter Try.func17, Try.ntmps17
      go_wp2_with fail
      refine HC1.out.mono ?_
      rintro e w ⟨rfl, rfl⟩
      go_wp2_with fail
      refine HC2.out.mono ?_
      rintro e w1 ⟨gs, rfl, HR1, HB1⟩
      have HT1 : Hid (∀ W, Below w1.heap.size w1 W → Table W (some ⟨w.heap.size, 0, none⟩) (tz n n (wdif (box ls)))) := fun W hW => (HR1.out.below hW).table (by omega) (fun i _ j _ => wdif_wf _ i j)
      have HC3 : Hid (Calls Try.prog 22 #[.slice (some ⟨w.heap.size, 0, none⟩) n n] w1 fun e w' => e = .returned (.int .i64 0) ∧ Hid (Below w1.heap.size w1 w')) := SgCheck_at _ n n _ w1 0 (HT1.out w1 (Below.refl _ _)) (by rw [tz_len]) (by rw [tz_len]; omega) ⟨fun _ => rfl, fun h => absurd (sg_list.2 HSg.out) h⟩
      clear HC1 HC2
      go_wp2_with fail
      refine HC3.out.mono ?_
      rintro e w2 ⟨rfl, HB2⟩
      have HC4 : Hid (Calls Try.prog 27 #[.slice (some ⟨w.heap.size, 0, none⟩) n n] w2 fun e w' => ∃ gs, e = .returned (.slice (some ⟨w2.heap.size, 0, none⟩) N N) ∧ Hid (Rez w' w2.heap.size w2.heap.size N N gs (cor (wdif (box ls)))) ∧ Hid (Below w2.heap.size w2 w')) := by rw [Hn.out]; exact corner_at _ n n n (wdif (box ls)) w2 (HT1.out w2 HB2.out) rfl HSg.out
      go_wp2_with fail
      refine HC4.out.mono ?_
      rintro e w3 ⟨gs3, rfl, HR3, HB3⟩
      have HT3 : Hid (Table w3 (some ⟨w2.heap.size, 0, none⟩) (tz N N (cor (wdif (box ls))))) := HR3.out.table (by omega) (fun i hi j hj => by
        rw [Hn.out] at hi hj
        have := HSg.out.kc.bound7 (i := i) (j := j) (by omega) (by omega)
        omega)
      have HBw2 : Hid (Below w.heap.size w w2) := HB1.out.trans (HB2.out.mono HB1.out.size)
      have HBw3 : Hid (Below w.heap.size w w3) := HBw2.out.trans (HB3.out.mono HBw2.out.size)
      have HRe : Hid (Rez w3 w.heap.size w.heap.size n n gs (wdif (box ls))) := (HR1.out.below HB2.out).below HB3.out
      have HC5 : Hid (Calls Try.prog 34 #[.slice (some ⟨w2.heap.size, 0, none⟩) N N, .slice a N ca] w3 fun e w' => e = .returned (.bool s) ∧ w' = w3) := sameRows_at _ _ _ _ _ _ (tz N N (cor (wdif (box ls)))) ls w3 s HT3.out (HS.out.below HBw3.out) (by rw [tz_len]) HN.out (by rw [tz_len]; omega) Hs
      clear HT3 HC3 HC4 HB1 HB2 HB3 HT1 HR3 HTz HTt
      go_wp2_with fail
      refine HC5.out.mono ?_
      rintro e w3 ⟨rfl, rfl⟩
      cases s with
      | true =>
        have HF : Hid (FcOk ls) := HFs.out.1 rfl
        clear HFs Hs
        go_wp2
        go_ret2
        exact ⟨HBw3, Or.inl ⟨HF.out, n, _, gs, rfl, Hn, Nat.le_refl _, HRe⟩⟩
      | false =>
        have HF : Hid (¬ FcOk ls) := fun h => Bool.noConfusion (HFs.out.2 h)
        clear HFs Hs
        go_wp2
        go_ret2
        exact ⟨HBw3, Or.inr ⟨HF.out, rfl⟩⟩
    · have HF : Hid (¬ FcOk ls) := fun h => hok (HFc.out h).1
      have HNo : Hid (¬ Sg n (wdif (box ls))) := hok
      clear hn hok hl
      go_enter Try.func17, Try.ntmps17
      go_wp2_with fail
      refine HC1.out.mono ?_
      rintro e w ⟨rfl, rfl⟩
      go_wp2_with fail
      refine HC2.out.mono ?_
      rintro e w1 ⟨gs, rfl, HR1, HB1⟩
      have HT1 : Hid (∀ W, Below w1.heap.size w1 W → Table W (some ⟨w.heap.size, 0, none⟩) (tz n n (wdif (box ls)))) := fun W hW => (HR1.out.below hW).table (by omega) (fun i _ j _ => wdif_wf _ i j)
      have HC3 : Hid (Calls Try.prog 22 #[.slice (some ⟨w.heap.size, 0, none⟩) n n] w1 fun e w' => e = .returned (.int .i64 1) ∧ Hid (Below w1.heap.size w1 w')) := SgCheck_at _ n n _ w1 1 (HT1.out w1 (Below.refl _ _)) (by rw [tz_len]) (by rw [tz_len]; omega) ⟨fun h => absurd (sg_list.1 h) HNo.out, fun _ => rfl⟩
      clear HC1 HC2
      go_wp2_with fail
      refine HC3.out.mono ?_
      rintro e w2 ⟨rfl, HB2⟩
      have HBw2 : Hid (Below w.heap.size w w2) := HB1.out.trans (HB2.out.mono HB1.out.size)
      go_wp2
      go_ret2
      exact ⟨HBw2, Or.inr ⟨HF.out, rfl⟩⟩
  · have HC1 : Hid (Calls Try.prog 32 #[.slice a N ca, .int .i64 (N : Int)] w fun e w' => e = .returned (.bool false) ∧ w' = w) := areOfLength_at a N ca N ls w false hs hn hl hNb ⟨(fun h => by cases h), (fun h => absurd h hsq)⟩
    have HF : Hid (¬ FcOk ls) := fun ⟨n, P, p, e⟩ => hsq (by rw [hn]; exact (hlen n P p e).2.2.2)
    clear hs hn hl hlen hsq
    go_enter Try.func17, Try.ntmps17
    go_wp2_with fail
    refine HC1.out.mono ?_
    rintro e w ⟨rfl, rfl⟩
    go_wp2
    go_ret2
    exact ⟨Below.refl _ _, Or.inr ⟨HF.out, rfl⟩⟩

end Go.Proofs.Ytfpbccahmipliaa
