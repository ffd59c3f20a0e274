/-
  The closure in signs.All, place by place.
-/
import Derived.Test.YtfdhbnbmobmlpaaDoorJAlp
namespace Go.Proofs.YtfdhbnbmobmlpaaDoor
open Go.RowKit

theorem mayCome_q (s : Int) (l B : Bool) (w : World) (hs : -9223372036854775808 ≤ s ∧ s ≤ 9223372036854775807) (HB : Hid (mayB s l = B)) :
    Calls Tryd.prog 14 #[.int .i64 s, .bool l] w fun e w' => e = .returned (.bool B) ∧ ∃ n, w' = w.drewN n := by
  refine (mayCome_sg s l B w hs HB).mono ?_
  rintro e w' ⟨rfl, rfl⟩
  exact ⟨rfl, 0, rfl⟩

def fS (n d : Nat) (X : List Int) (z : Int) : List (List Int) := if okS n X z = true then srS n d (X ++ [z]) else []
/-- how many with the first t signs at the next place -/
def cS (n d : Nat) (X : List Int) : Nat → Nat
  | 0 => 0
  | t + 1 => cS n d X t + (fS n d X ((t : Int) - 1)).length
theorem cS_all (n d : Nat) (X : List Int) : cS n d X 3 = (srS n (d + 1) X).length := by
  simp only [cS, srS, fS, List.flatMap_cons, List.flatMap_nil, List.length_append, List.append_nil, Nat.zero_add, Nat.add_assoc]
  rfl
theorem cS_le (n d : Nat) (X : List Int) {t : Nat} (ht : t ≤ 3) : cS n d X t ≤ cS n d X 3 := by
  have h1 : cS n d X 1 = cS n d X 0 + _ := rfl
  have h2 : cS n d X 2 = cS n d X 1 + _ := rfl
  have h3 : cS n d X 3 = cS n d X 2 + _ := rfl
  rcases (show t = 0 ∨ t = 1 ∨ t = 2 ∨ t = 3 by omega) with rfl | rfl | rfl | rfl <;> omega

/-- what columns come to -/
def clT (n : Nat) (X : List Int) (j : Nat) : Int := if j < n then clS n X n j else 0

/-- what a call of the closure leaves -/
def PEs (w0 : World) (H l0 lo g n bR bC : Nat) (gs : Nat → Nat) (c : Nat) (X : List Int) (w' : World) : Prop :=
  ∃ Q vl us, SX w0 w' H l0 lo g n bR bC gs Q (rwT n X) (clT n X) vl us c ∧ ∀ i, i < n → ∀ j, j < n → -1 ≤ Q i j ∧ Q i j ≤ 1

section
variable {w0 : World} {H l0 lo g n bN bS bR bC bF : Nat} {gs : Nat → Nat}

set_option maxHeartbeats 16000000 in
set_option maxRecDepth 100000 in
theorem PutS_at (E : SE w0 l0 lo g n bN bS bR bC bF gs) : ∀ (d : Nat) (X : List Int) (w : World) (c : Nat), X.length + d = n * n → (∀ z ∈ X, -1 ≤ z ∧ z ≤ 1) → PEs w0 H l0 lo g n bR bC gs c X w → c + (srS n d X).length ≤ 1000000 →
    Calls Tryd.prog 12 #[.int .i64 (X.length : Int), bxS bN, bxS l0, bxS bS, bxS bR, bxS bC, bxS bF] w fun e w' => e = .returned (.tuple #[]) ∧ PEs w0 H l0 lo g n bR bC gs (c + (srS n d X).length) X w' := by
  intro d
  induction d with
  | zero =>
    intro X w c hd hX1 ⟨Q, vl, us, hX, hQ⟩ hc
    refine (PutS_leaf E hX (by omega) (by omega) hQ).mono ?_
    rintro e w' ⟨rfl, vl', us', hX'⟩
    exact ⟨rfl, Q, vl', us', hX', hQ⟩
  | succ d ih =>
    intro X w c hd hX1 ⟨Q, vl, us, hX, hQ⟩ hc
    have n1 := E.n1; have n5 := E.n5
    obtain ⟨p, HPl⟩ : ∃ p, Hid (p = X.length) := ⟨_, rfl⟩
    obtain ⟨pp, HPp⟩ : ∃ pp, Hid (pp = n * n) := ⟨_, rfl⟩
    have hpp : pp ≤ 25 := by rw [HPp.out]; exact Nat.mul_le_mul n5 n5
    have e1 : (n : Int) * (n : Int) = (pp : Int) := by rw [HPp.out, Int.natCast_mul]
    have hplt : p < pp := by rw [HPl.out, HPp.out]; omega
    have hne : ((p : Int) == (pp : Int)) = false := by simp; omega
    obtain ⟨i, HI⟩ : ∃ i, Hid (i = p / n) := ⟨_, rfl⟩
    obtain ⟨j, HJ⟩ : ∃ j, Hid (j = p % n) := ⟨_, rfl⟩
    have hi : i < n := by rw [HI.out]; exact Nat.div_lt_of_lt_mul (by rw [← HPp.out]; exact hplt)
    have hj : j < n := by rw [HJ.out]; exact Nat.mod_lt _ n1
    have hdv : Int.tdiv (p : Int) (n : Int) = (i : Int) := by rw [HI.out]; rfl
    have hmd : Int.tmod (p : Int) (n : Int) = (j : Int) := by rw [HJ.out]; rfl
    have hc0b : ((n : Int) == 0) = false := by simp; omega
    have hc0n : ¬ (n : Int) = 0 := by omega
    have HPE : Hid (PEs w0 H l0 lo g n bR bC gs (c + cS n d X 0) X w) := ⟨Q, vl, us, hX, hQ⟩
    obtain ⟨s1, s2, s3⟩ := E.cs w hX.st
    have HEe : Hid (SE w0 l0 lo g n bN bS bR bC bF gs) := E
    have HIH := hid_w ih
    have HDd : Hid (X.length + (d + 1) = n * n) := hd
    have HX1 : Hid (∀ z ∈ X, -1 ≤ z ∧ z ≤ 1) := hX1
    have HCc : Hid (c + cS n d X 3 ≤ 1000000) := by show _ ≤ _; rw [cS_all]; exact hc
    have hn1w : IntKind.i64.wrap ((n : Int) - 1) = (n : Int) - 1 := by rw [IntKind.wrap_i64]; omega
    obtain ⟨lc, hlc⟩ : ∃ l : Bool, ((j : Int) == (n : Int) - 1) = l := ⟨_, rfl⟩
    obtain ⟨lr, hlr⟩ : ∃ l : Bool, ((i : Int) == (n : Int) - 1) = l := ⟨_, rfl⟩
    have HLc : Hid (decide (X.length % n = n - 1) = lc) := by
      show _ = _
      rw [← hlc, ← HPl.out, ← HJ.out]
      by_cases h : j = n - 1
      · rw [decide_eq_true h]; symm; simp; omega
      · rw [decide_eq_false h]; symm; simp; omega
    have HLr : Hid (decide (X.length / n = n - 1) = lr) := by
      show _ = _
      rw [← hlr, ← HPl.out, ← HI.out]
      by_cases h : i = n - 1
      · rw [decide_eq_true h]; symm; simp; omega
      · rw [decide_eq_false h]; symm; simp; omega
    obtain ⟨x, HXx⟩ : ∃ x, Hid (x = rwT n X i) := ⟨_, rfl⟩
    obtain ⟨y, HYy⟩ : ∃ y, Hid (y = clT n X j) := ⟨_, rfl⟩
    have bx : -5 ≤ x ∧ x ≤ 5 := by rw [HXx.out]; have := rwT_bd (n := n) hX1 i; omega
    have by1 : -5 ≤ y ∧ y ≤ 5 := by rw [HYy.out]; unfold clT; rw [if_pos hj]; have := clS_bd (n := n) hX1 j n; omega
    have HOk : Hid (∀ z, okS n X z = (mayB (x + z) lc && mayB (y + z) lr)) := fun z => by
      unfold okS
      have hy : y = clS n X n j := by rw [HYy.out]; exact if_pos hj
      rw [HLc.out, HLr.out, ← rwT_cur n1, HXx.out, hy, HI.out, HJ.out, HPl.out]
      have e := clS_cur (X := X) n1 (n - X.length / n)
      have : X.length / n ≤ n := by rw [← HPl.out, ← HI.out]; omega
      rw [show X.length / n + (n - X.length / n) = n by omega] at e
      rw [e]
    rw [← HPl.out, ← cS_all]
    clear hX hQ E ih hd hX1 hc
    go_enter Tryd.func12, Tryd.ntmps12
    go_wp2_with fail
    go_quiet (fail)
    go_wp2_with fail
    have HP1 : Hid (PEs w0 H l0 lo g n bR bC gs (c + cS n d X 0) X (w.drewN nq)) := by
      obtain ⟨Q1, v1, u1, q1, q3⟩ := HPE.out
      exact ⟨Q1, v1, u1, q1.below (below_drewN (Below.refl _ _) nq), q3⟩
    clear HPE s1 s2 s3
    go_loopw [10] (fun q wr => ∃ (t : Nat) (s : Int), t ≤ 3 ∧ Hid (s = (t : Int) - 1) ∧ q = .int .i64 s ∧ Hid (PEs w0 H l0 lo g n bR bC gs (c + cS n d X t) X wr)) (fun q _ => 3 - (intOf q + 1).toNat)
    case atStart => exact ⟨0, -1, by omega, by show (-1 : Int) = _; omega, rfl, HP1⟩
    case round =>
      clear HP1
      obtain ⟨t, s, ht, Hs, rfl, HP⟩ := hrel
      by_cases htl : t < 3
      · have hsl : s ≤ 1 := by have := Hs.out; omega
        have hsg : -1 ≤ s := by have := Hs.out; omega
        obtain ⟨Q1, v1, u1, q1, q3⟩ := HP.out
        obtain ⟨s1, s2, s3⟩ := HEe.out.cs wr q1.st
        have hi' : (i : Int) < (n : Int) := by omega
        have hj' : (j : Int) < (n : Int) := by omega
        have hi5 : (i : Int) < 5 := by omega
        have hj5 : (j : Int) < 5 := by omega
        have cRr : wr.cell? ⟨bR, i, none⟩ = some (.int .i64 x) := by rw [cell_of_row wr bR i _ _ _ q1.ra, ar5_get _ (by omega), HXx.out]
        have cCc : wr.cell? ⟨bC, j, none⟩ = some (.int .i64 y) := by rw [cell_of_row wr bC j _ _ _ q1.ca, ar5_get _ (by omega), HYy.out]
        have ewx : IntKind.i64.wrap (x + s) = x + s := by rw [IntKind.wrap_i64]; omega
        have ewy : IntKind.i64.wrap (y + s) = y + s := by rw [IntKind.wrap_i64]; omega
        obtain ⟨A, HA⟩ : ∃ A, Hid (mayB (x + s) lc = A) := ⟨_, rfl⟩
        obtain ⟨B, HB⟩ : ∃ B, Hid (mayB (y + s) lr = B) := ⟨_, rfl⟩
        have HMa : Hid (∀ W, Calls Tryd.prog 14 #[.int .i64 (x + s), .bool lc] W fun e w' => e = .returned (.bool A) ∧ ∃ n, w' = W.drewN n) := fun W => mayCome_q _ _ _ W (by omega) HA
        have HMb : Hid (∀ W, Calls Tryd.prog 14 #[.int .i64 (y + s), .bool lr] W fun e w' => e = .returned (.bool B) ∧ ∃ n, w' = W.drewN n) := fun W => mayCome_q _ _ _ W (by omega) HB
        have HNo : Hid ((A && B) = false → cS n d X (t + 1) = cS n d X t) := fun h => by
          have : (fS n d X ((t : Int) - 1)) = [] := by
            unfold fS
            rw [HOk.out, ← Hs.out, HA.out, HB.out, h]; rfl
          show cS n d X t + _ = _
          rw [this]; rfl
        cases A with
        | false =>
          have HPn : Hid (∀ k, PEs w0 H l0 lo g n bR bC gs (c + cS n d X (t + 1)) X (wr.drewN k)) := fun k => by
            rw [HNo.out rfl]
            exact ⟨Q1, v1, u1, q1.below (below_drewN (Below.refl _ _) k), q3⟩
          go_wp2_with fail
          go_quiet ((go_at_call 14; exact Calls.quiet_of (HMa.out _)))
          go_wp2
          go_roundw
          case rel => exact ⟨t + 1, s + 1, by omega, by show _ = _; have := Hs.out; omega, by go_num, HPn.out _⟩
          case measure => have := Hs.out; simp [intOf]; omega
        | true =>
          cases B with
          | false =>
            have HPn : Hid (∀ k, PEs w0 H l0 lo g n bR bC gs (c + cS n d X (t + 1)) X (wr.drewN k)) := fun k => by
              rw [HNo.out rfl]
              exact ⟨Q1, v1, u1, q1.below (below_drewN (Below.refl _ _) k), q3⟩
            go_wp2_with fail
            go_quiet ((go_at_call 14; first | (with_reducible exact Calls.quiet_of (HMa.out _)) | (with_reducible exact Calls.quiet_of (HMb.out _))))
            go_wp2
            go_roundw
            case rel => exact ⟨t + 1, s + 1, by omega, by show _ = _; have := Hs.out; omega, by go_num, HPn.out _⟩
            case measure => have := Hs.out; simp [intOf]; omega
          | true =>
            go_wp2_with fail
            go_quiet ((go_at_call 14; first | (with_reducible exact Calls.quiet_of (HMa.out _)) | (with_reducible exact Calls.quiet_of (HMb.out _))))
            have HB5 := hid_w q1.ne
            have HN5 := hid_w (q1.na i hi)
            have cS2 := s2
            have cG := q1.rz.head hi
            obtain ⟨cB, fB, hlo, hhi⟩ := q1.rz.box hi hj
            have fR : wr.frozen? ⟨bR, i, none⟩ = false := frozen_of_row wr bR i _ _ q1.ra
            have fC : wr.frozen? ⟨bC, j, none⟩ = false := frozen_of_row wr bC j _ _ q1.ca
            have q1d := q1.below (below_drewN (Below.refl _ _) nq)
            have sA := q1d.setQ hi hj s (W := wr.drewN nq) rfl (Below.refl _ _)
            have sB := sA.setR (i := i) (by omega) (x + s) (W := (wr.drewN nq).setCell ⟨gs i, j, none⟩ (.int .i64 s)) rfl (Below.refl _ _)
            have sC := sB.setC (i := j) (by omega) (y + s) (W := ((wr.drewN nq).setCell ⟨gs i, j, none⟩ (.int .i64 s)).setCell ⟨bR, i, none⟩ (.int .i64 (x + s))) rfl (Below.refl _ _)
            have hXs : ∀ z ∈ X ++ [s], -1 ≤ z ∧ z ≤ 1 := fun z hz => by
              rcases List.mem_append.1 hz with h | h
              · exact HX1.out z h
              · rw [List.mem_singleton] at h; omega
            have hRx : ∀ k, rwT n (X ++ [s]) k = if k = i then x + s else rwT n X k := fun k => by
              rw [rwT_snoc n1, ← HPl.out, ← HI.out]
              by_cases e : k = i
              · rw [if_pos e, if_pos e, HXx.out, e]
              · rw [if_neg e, if_neg e, Int.add_zero]
            have hCx : ∀ k, clT n (X ++ [s]) k = if k = j then y + s else clT n X k := fun k => by
              unfold clT
              by_cases hk : k < n
              · rw [if_pos hk, if_pos hk, clS_snoc n1 s hk, ← HPl.out, ← HI.out, ← HJ.out]
                by_cases e : k = j
                · rw [if_pos ⟨hi, e⟩, if_pos e, HYy.out, e]
                  unfold clT
                  rw [if_pos hj]
                · rw [if_neg (fun q => e q.2), if_neg e, Int.add_zero]
              · rw [if_neg hk, if_neg hk, if_neg (by omega)]
            have sC2 := sC.congr (fR' := rwT n (X ++ [s])) (fC' := clT n (X ++ [s])) (fun k _ => (hRx k).symm) (fun k _ => (hCx k).symm)
            have hQ2 : ∀ a, a < n → ∀ b, b < n → -1 ≤ updz Q1 i j s a b ∧ updz Q1 i j s a b ≤ 1 := fun a ha b hb => by
              unfold updz
              split
              · omega
              · exact q3 a ha b hb
            have hlen : (X ++ [s]).length = p + 1 := by rw [List.length_append, HPl.out]; rfl
            obtain ⟨-, -, s5⟩ := HEe.out.cs _ sC.st
            obtain ⟨K, HK⟩ : ∃ K, Hid (K = (srS n d (X ++ [s])).length) := ⟨_, rfl⟩
            have HcK : Hid (cS n d X (t + 1) = cS n d X t + K) := by
              show cS n d X t + _ = _
              unfold fS
              rw [HOk.out, ← Hs.out, HA.out, HB.out, HK.out]
              rfl
            have HIc : Hid (Calls Tryd.prog 12 #[.int .i64 ((p : Int) + 1), bxS bN, bxS l0, bxS bS, bxS bR, bxS bC, bxS bF] (((((wr.drewN nq).setCell ⟨gs i, j, none⟩ (.int .i64 s)).setCell ⟨bR, i, none⟩ (.int .i64 (x + s))).setCell ⟨bC, j, none⟩ (.int .i64 (y + s)))) fun e w' => e = .returned (.tuple #[]) ∧ PEs w0 H l0 lo g n bR bC gs (c + cS n d X t + K) (X ++ [s]) w') := by
              have hb := HIH.out (X ++ [s]) (((((wr.drewN nq).setCell ⟨gs i, j, none⟩ (.int .i64 s)).setCell ⟨bR, i, none⟩ (.int .i64 (x + s))).setCell ⟨bC, j, none⟩ (.int .i64 (y + s)))) (c + cS n d X t) (by have := HDd.out; rw [hlen, HPl.out]; omega) hXs ⟨_, _, _, sC2, hQ2⟩ (by
                have h1 := HCc.out
                have h2 := cS_le n d X (t := t + 1) (by omega)
                have h3 := HcK.out
                rw [HK.out] at h3
                omega)
              rw [hlen, show ((p + 1 : Nat) : Int) = (p : Int) + 1 by omega, ← HK.out] at hb
              exact hb
            have HRx := hid_w hRx
            have HCx := hid_w hCx
            obtain ⟨G, HG⟩ : ∃ G, Hid (G = gs i) := ⟨_, rfl⟩
            have g1 : G ≠ bR := by rw [HG.out]; exact HN5.out.2.1
            have g2 : G ≠ bC := by rw [HG.out]; exact HN5.out.2.2
            have g3 : bR ≠ bC := HB5.out.2.2.2.2.2
            rw [← HG.out] at cG cB fB HIc s5
            clear sA sB sC sC2 q1d q1 q3 hQ2 hXs hRx hCx HP hlo hhi hlen
            go_wp2_with fail
            refine HIc.out.mono ?_
            rintro e w7 ⟨rfl, HP7⟩
            obtain ⟨Q2, v2, u2, q2, q4⟩ := HP7
            have cR7 : w7.cell? ⟨bR, i, none⟩ = some (.int .i64 (x + s)) := by rw [cell_of_row w7 bR i _ _ _ q2.ra, ar5_get _ (by omega), HRx.out, if_pos rfl]
            have cC7 : w7.cell? ⟨bC, j, none⟩ = some (.int .i64 (y + s)) := by rw [cell_of_row w7 bC j _ _ _ q2.ca, ar5_get _ (by omega), HCx.out, if_pos rfl]
            have fR7 : w7.frozen? ⟨bR, i, none⟩ = false := frozen_of_row w7 bR i _ _ q2.ra
            have fC7 : w7.frozen? ⟨bC, j, none⟩ = false := frozen_of_row w7 bC j _ _ q2.ca
            have ex : IntKind.i64.wrap (x + s - s) = x := by rw [IntKind.wrap_i64]; omega
            have ey : IntKind.i64.wrap (y + s - s) = y := by rw [IntKind.wrap_i64]; omega
            have ex2 : x + s - s = x := by omega
            have ey2 : y + s - s = y := by omega
            have sD := q2.setR (i := i) (by omega) x (W := w7) rfl (Below.refl _ _)
            have sE := sD.setC (i := j) (by omega) y (W := w7.setCell ⟨bR, i, none⟩ (.int .i64 x)) rfl (Below.refl _ _)
            have sF := sE.congr (fR' := rwT n X) (fC' := clT n X) (fun k _ => by
              rw [HRx.out]
              by_cases e : k = i
              · rw [if_pos e, HXx.out, e]
              · rw [if_neg e, if_neg e]) (fun k _ => by
              rw [HCx.out]
              by_cases e : k = j
              · rw [if_pos e, HYy.out, e]
              · rw [if_neg e, if_neg e])
            have HPn : Hid (PEs w0 H l0 lo g n bR bC gs (c + cS n d X (t + 1)) X ((w7.setCell ⟨bR, i, none⟩ (.int .i64 x)).setCell ⟨bC, j, none⟩ (.int .i64 y))) := by
              rw [HcK.out, ← Nat.add_assoc]
              exact ⟨Q2, v2, u2, sF, q4⟩
            clear sD sE sF q2 q4 HIc s5
            go_wp2_with fail
            go_roundw
            case rel => exact ⟨t + 1, s + 1, by omega, by show _ = _; have := Hs.out; omega, by go_num, HPn⟩
            case measure => have := Hs.out; simp [intOf]; omega
      · obtain rfl : t = 3 := by omega
        have hsl : ¬ s ≤ 1 := by have := Hs.out; omega
        go_wp2
        first | go_end0 | (refine bodyPost_ret (results_none rfl _ _ _) rfl ?_)
        exact ⟨rfl, HP.out⟩
end

end Go.Proofs.YtfdhbnbmobmlpaaDoor
