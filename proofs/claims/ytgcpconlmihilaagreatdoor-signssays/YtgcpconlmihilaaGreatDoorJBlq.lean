/-
  The closure in signs.All, place by place.
  The closure in signs.All, place by place: the matrices themselves.
-/
import Derived.Test.YtgcpconlmihilaaGreatDoorJAlp
namespace Go.Proofs.YtgcpconlmihilaaGreatDoor
open Go.RowKit

theorem mayCome_q (s : Int) (l B : Bool) (w : World) (hs : -9223372036854775808 ≤ s ∧ s ≤ 9223372036854775807) (HB : Hid (mayB s l = B)) :
    Calls Tryz.prog 26 #[.int .i64 s, .bool l] w fun e w' => e = .returned (.bool B) ∧ ∃ n, w' = w.drewN n := by
  refine (mayCome_sg s l B w hs HB).mono ?_
  rintro e w' ⟨rfl, rfl⟩
  exact ⟨rfl, 0, rfl⟩

def fS (n d : Nat) (X : List Int) (z : Int) : List (List Int) := if okS n X z = true then srS n d (X ++ [z]) else []
/-- how many with the first t signs at the next place -/
def cS (n d : Nat) (X : List Int) : Nat → Nat
  | 0 => 0
  | t + 1 => cS n d X t + (fS n d X ((t : Int) - 1)).length
theorem cS_all (n d : Nat) (X : List Int) : cS n d X 3 = (srS n (d + 1) X).length := by
  simp only [cS, srS, fS, List.flatMap_cons, List.flatMap_nil, List.length_append, List.append_nil, Nat.zero_add, Nat.add_assoc]
  rfl
theorem cS_le (n d : Nat) (X : List Int) {t : Nat} (ht : t ≤ 3) : cS n d X t ≤ cS n d X 3 := by
  have h1 : cS n d X 1 = cS n d X 0 + _ := rfl
  have h2 : cS n d X 2 = cS n d X 1 + _ := rfl
  have h3 : cS n d X 3 = cS n d X 2 + _ := rfl
  rcases (show t = 0 ∨ t = 1 ∨ t = 2 ∨ t = 3 by omega) with rfl | rfl | rfl | rfl <;> omega

/-- what columns come to -/
def clT (n : Nat) (X : List Int) (j : Nat) : Int := if j < n then clS n X n j else 0

/-- what a call of the closure leaves -/
def PEs (w0 : World) (H l0 lo g n bR bC : Nat) (gs : Nat → Nat) (c : Nat) (X : List Int) (w' : World) : Prop :=
  ∃ Q vl us, SX w0 w' H l0 lo g n bR bC gs Q (rwT n X) (clT n X) vl us c ∧ ∀ i, i < n → ∀ j, j < n → -1 ≤ Q i j ∧ Q i j ≤ 1

section
variable {w0 : World} {H l0 lo g n bN bS bR bC bF : Nat} {gs : Nat → Nat}

set_option maxHeartbeats 16000000 in
set_option maxRecDepth 100000 in
theorem PutS_at (E : SE w0 l0 lo g n bN bS bR bC bF gs) : ∀ (d : Nat) (X : List Int) (w : World) (c : Nat), X.length + d = n * n → (∀ z ∈ X, -1 ≤ z ∧ z ≤ 1) → PEs w0 H l0 lo g n bR bC gs c X w → c + (srS n d X).length ≤ 1000000 →
    Calls Tryz.prog 24 #[.int .i64 (X.length : Int), bxS bN, bxS l0, bxS bS, bxS bR, bxS bC, bxS bF] w fun e w' => e = .returned (.tuple #[]) ∧ PEs w0 H l0 lo g n bR bC gs (c + (srS n d X).length) X w' := by
  intro d
  induction d with
  | zero =>
    intro X w c hd hX1 ⟨Q, vl, us, hX, hQ⟩ hc
    refine (PutS_leaf E hX (by omega) (by omega) hQ).mono ?_
    rintro e w' ⟨rfl, vl', us', hX'⟩
    exact ⟨rfl, Q, vl', us', hX', hQ⟩
  | succ d ih =>
    intro X w c hd hX1 ⟨Q, vl, us, hX, hQ⟩ hc
    have n1 := E.n1; have n5 := E.n5
    obtain ⟨p, HPl⟩ : ∃ p, Hid (p = X.length) := ⟨_, rfl⟩
    obtain ⟨pp, HPp⟩ : ∃ pp, Hid (pp = n * n) := ⟨_, rfl⟩
    have hpp : pp ≤ 25 := by rw [HPp.out]; exact Nat.mul_le_mul n5 n5
    have e1 : (n : Int) * (n : Int) = (pp : Int) := by rw [HPp.out, Int.natCast_mul]
    have hplt : p < pp := by rw [HPl.out, HPp.out]; omega
    have hne : ((p : Int) == (pp : Int)) = false := by simp; omega
    obtain ⟨i, HI⟩ : ∃ i, Hid (i = p / n) := ⟨_, rfl⟩
    obtain ⟨j, HJ⟩ : ∃ j, Hid (j = p % n) := ⟨_, rfl⟩
    have hi : i < n := by rw [HI.out]; exact Nat.div_lt_of_lt_mul (by rw [← HPp.out]; exact hplt)
    have hj : j < n := by rw [HJ.out]; exact Nat.mod_lt _ n1
    have hdv : Int.tdiv (p : Int) (n : Int) = (i : Int) := by rw [HI.out]; rfl
    have hmd : Int.tmod (p : Int) (n : Int) = (j : Int) := by rw [HJ.out]; rfl
    have hc0b : ((n : Int) == 0) = false := by simp; omega
    have hc0n : ¬ (n : Int) = 0 := by omega
    have HPE : Hid (PEs w0 H l0 lo g n bR bC gs (c + cS n d X 0) X w) := ⟨Q, vl, us, hX, hQ⟩
    obtain ⟨s1, s2, s3⟩ := E.cs w hX.st
    have HEe : Hid (SE w0 l0 lo g n bN bS bR bC bF gs) := E
    have HIH := hid_w ih
    have HDd : Hid (X.length + (d + 1) = n * n) := hd
    have HX1 : Hid (∀ z ∈ X, -1 ≤ z ∧ z ≤ 1) := hX1
    have HCc : Hid (c + cS n d X 3 ≤ 1000000) := by show _ ≤ _; rw [cS_all]; exact hc
    have hn1w : IntKind.i64.wrap ((n : Int) - 1) = (n : Int) - 1 := by rw [IntKind.wrap_i64]; omega
    obtain ⟨lc, hlc⟩ : ∃ l : Bool, ((j : Int) == (n : Int) - 1) = l := ⟨_, rfl⟩
    obtain ⟨lr, hlr⟩ : ∃ l : Bool, ((i : Int) == (n : Int) - 1) = l := ⟨_, rfl⟩
    have HLc : Hid (decide (X.length % n = n - 1) = lc) := by
      show _ = _
      rw [← hlc, ← HPl.out, ← HJ.out]
      by_cases h : j = n - 1
      · rw [decide_eq_true h]; symm; simp; omega
      · rw [decide_eq_false h]; symm; simp; omega
    have HLr : Hid (decide (X.length / n = n - 1) = lr) := by
      show _ = _
      rw [← hlr, ← HPl.out, ← HI.out]
      by_cases h : i = n - 1
      · rw [decide_eq_true h]; symm; simp; omega
      · rw [decide_eq_false h]; symm; simp; omega
    obtain ⟨x, HXx⟩ : ∃ x, Hid (x = rwT n X i) := ⟨_, rfl⟩
    obtain ⟨y, HYy⟩ : ∃ y, Hid (y = clT n X j) := ⟨_, rfl⟩
    have bx : -5 ≤ x ∧ x ≤ 5 := by rw [HXx.out]; have := rwT_bd (n := n) hX1 i; omega
    have by1 : -5 ≤ y ∧ y ≤ 5 := by rw [HYy.out]; unfold clT; rw [if_pos hj]; have := clS_bd (n := n) hX1 j n; omega
    have HOk : Hid (∀ z, okS n X z = (mayB (x + z) lc && mayB (y + z) lr)) := fun z => by
      unfold okS
      have hy : y = clS n X n j := by rw [HYy.out]; exact if_pos hj
      rw [HLc.out, HLr.out, ← rwT_cur n1, HXx.out, hy, HI.out, HJ.out, HPl.out]
      have e := clS_cur (X := X) n1 (n - X.length / n)
      have : X.length / n ≤ n := by rw [← HPl.out, ← HI.out]; omega
      rw [show X.length / n + (n - X.length / n) = n by omega] at e
      rw [e]
    rw [← HPl.out, ← cS_all]
    clear hX hQ E ih hd hX1 hc
    go_enter Tryz.func24, Tryz.ntmps24
    go_wp2_with fail
    go_quiet (fail)
    go_wp2_with fail
    have HP1 : Hid (PEs w0 H l0 lo g n bR bC gs (c + cS n d X 0) X (w.drewN nq)) := by
      obtain ⟨Q1, v1, u1, q1, q3⟩ := HPE.out
      exact ⟨Q1, v1, u1, q1.below (below_drewN (Below.refl _ _) nq), q3⟩
    clear HPE s1 s2 s3
    go_loopw [10] (fun q wr => ∃ (t : Nat) (s : Int), t ≤ 3 ∧ Hid (s = (t : Int) - 1) ∧ q = .int .i64 s ∧ Hid (PEs w0 H l0 lo g n bR bC gs (c + cS n d X t) X wr)) (fun q _ => 3 - (intOf q + 1).toNat)
    case atStart => exact ⟨0, -1, by omega, by show (-1 : Int) = _; omega, rfl, HP1⟩
    case round =>
      clear HP1
      obtain ⟨t, s, ht, Hs, rfl, HP⟩ := hrel
      by_cases htl : t < 3
      · have hsl : s ≤ 1 := by have := Hs.out; omega
        have hsg : -1 ≤ s := by have := Hs.out; omega
        obtain ⟨Q1, v1, u1, q1, q3⟩ := HP.out
        obtain ⟨s1, s2, s3⟩ := HEe.out.cs wr q1.st
        have hi' : (i : Int) < (n : Int) := by omega
        have hj' : (j : Int) < (n : Int) := by omega
        have hi5 : (i : Int) < 5 := by omega
        have hj5 : (j : Int) < 5 := by omega
        have cRr : wr.cell? ⟨bR, i, none⟩ = some (.int .i64 x) := by rw [cell_of_row wr bR i _ _ _ q1.ra, ar5_get _ (by omega), HXx.out]
        have cCc : wr.cell? ⟨bC, j, none⟩ = some (.int .i64 y) := by rw [cell_of_row wr bC j _ _ _ q1.ca, ar5_get _ (by omega), HYy.out]
        have ewx : IntKind.i64.wrap (x + s) = x + s := by rw [IntKind.wrap_i64]; omega
        have ewy : IntKind.i64.wrap (y + s) = y + s := by rw [IntKind.wrap_i64]; omega
        obtain ⟨A, HA⟩ : ∃ A, Hid (mayB (x + s) lc = A) := ⟨_, rfl⟩
        obtain ⟨B, HB⟩ : ∃ B, Hid (mayB (y + s) lr = B) := ⟨_, rfl⟩
        have HMa : Hid (∀ W, Calls Tryz.prog 26 #[.int .i64 (x + s), .bool lc] W fun e w' => e = .returned (.bool A) ∧ ∃ n, w' = W.drewN n) := fun W => mayCome_q _ _ _ W (by omega) HA
        have HMb : Hid (∀ W, Calls Tryz.prog 26 #[.int .i64 (y + s), .bool lr] W fun e w' => e = .returned (.bool B) ∧ ∃ n, w' = W.drewN n) := fun W => mayCome_q _ _ _ W (by omega) HB
        have HNo : Hid ((A && B) = false → cS n d X (t + 1) = cS n d X t) := fun h => by
          have : (fS n d X ((t : Int) - 1)) = [] := by
            unfold fS
            rw [HOk.out, ← Hs.out, HA.out, HB.out, h]; rfl
          show cS n d X t + _ = _
          rw [this]; rfl
        cases A with
        | false =>
          have HPn : Hid (∀ k, PEs w0 H l0 lo g n bR bC gs (c + cS n d X (t + 1)) X (wr.drewN k)) := fun k => by
            rw [HNo.out rfl]
            exact ⟨Q1, v1, u1, q1.below (below_drewN (Below.refl _ _) k), q3⟩
          go_wp2_with fail
          go_quiet ((go_at_call 26; exact Calls.quiet_of (HMa.out _)))
          go_wp2
          go_roundw
          case rel => exact ⟨t + 1, s + 1, by omega, by show _ = _; have := Hs.out; omega, by go_num, HPn.out _⟩
          case measure => have := Hs.out; simp [intOf]; omega
        | true =>
          cases B with
          | false =>
            have HPn : Hid (∀ k, PEs w0 H l0 lo g n bR bC gs (c + cS n d X (t + 1)) X (wr.drewN k)) := fun k => by
              rw [HNo.out rfl]
              exact ⟨Q1, v1, u1, q1.below (below_drewN (Below.refl _ _) k), q3⟩
            go_wp2_with fail
            go_quiet ((go_at_call 26; first | (with_reducible exact Calls.quiet_of (HMa.out _)) | (with_reducible exact Calls.quiet_of (HMb.out _))))
            go_wp2
            go_roundw
            case rel => exact ⟨t + 1, s + 1, by omega, by show _ = _; have := Hs.out; omega, by go_num, HPn.out _⟩
            case measure => have := Hs.out; simp [intOf]; omega
          | true =>
            go_wp2_with fail
            go_quiet ((go_at_call 26; first | (with_reducible exact Calls.quiet_of (HMa.out _)) | (with_reducible exact Calls.quiet_of (HMb.out _))))
            have HB5 := hid_w q1.ne
            have HN5 := hid_w (q1.na i hi)
            have cS2 := s2
            have cG := q1.rz.head hi
            obtain ⟨cB, fB, hlo, hhi⟩ := q1.rz.box hi hj
            have fR : wr.frozen? ⟨bR, i, none⟩ = false := frozen_of_row wr bR i _ _ q1.ra
            have fC : wr.frozen? ⟨bC, j, none⟩ = false := frozen_of_row wr bC j _ _ q1.ca
            have q1d := q1.below (below_drewN (Below.refl _ _) nq)
            have sA := q1d.setQ hi hj s (W := wr.drewN nq) rfl (Below.refl _ _)
            have sB := sA.setR (i := i) (by omega) (x + s) (W := (wr.drewN nq).setCell ⟨gs i, j, none⟩ (.int .i64 s)) rfl (Below.refl _ _)
            have sC := sB.setC (i := j) (by omega) (y + s) (W := ((wr.drewN nq).setCell ⟨gs i, j, none⟩ (.int .i64 s)).setCell ⟨bR, i, none⟩ (.int .i64 (x + s))) rfl (Below.refl _ _)
            have hXs : ∀ z ∈ X ++ [s], -1 ≤ z ∧ z ≤ 1 := fun z hz => by
              rcases List.mem_append.1 hz with h | h
              · exact HX1.out z h
              · rw [List.mem_singleton] at h; omega
            have hRx : ∀ k, rwT n (X ++ [s]) k = if k = i then x + s else rwT n X k := fun k => by
              rw [rwT_snoc n1, ← HPl.out, ← HI.out]
              by_cases e : k = i
              · rw [if_pos e, if_pos e, HXx.out, e]
              · rw [if_neg e, if_neg e, Int.add_zero]
            have hCx : ∀ k, clT n (X ++ [s]) k = if k = j then y + s else clT n X k := fun k => by
              unfold clT
              by_cases hk : k < n
              · rw [if_pos hk, if_pos hk, clS_snoc n1 s hk, ← HPl.out, ← HI.out, ← HJ.out]
                by_cases e : k = j
                · rw [if_pos ⟨hi, e⟩, if_pos e, HYy.out, e]
                  unfold clT
                  rw [if_pos hj]
                · rw [if_neg (fun q => e q.2), if_neg e, Int.add_zero]
              · rw [if_neg hk, if_neg hk, if_neg (by omega)]
            have sC2 := sC.congr (fR' := rwT n (X ++ [s])) (fC' := clT n (X ++ [s])) (fun k _ => (hRx k).symm) (fun k _ => (hCx k).symm)
            have hQ2 : ∀ a, a < n → ∀ b, b < n → -1 ≤ updz Q1 i j s a b ∧ updz Q1 i j s a b ≤ 1 := fun a ha b hb => by
              unfold updz
              split
              · omega
              · exact q3 a ha b hb
            have hlen : (X ++ [s]).length = p + 1 := by rw [List.length_append, HPl.out]; rfl
            obtain ⟨-, -, s5⟩ := HEe.out.cs _ sC.st
            obtain ⟨K, HK⟩ : ∃ K, Hid (K = (srS n d (X ++ [s])).length) := ⟨_, rfl⟩
            have HcK : Hid (cS n d X (t + 1) = cS n d X t + K) := by
              show cS n d X t + _ = _
              unfold fS
              rw [HOk.out, ← Hs.out, HA.out, HB.out, HK.out]
              rfl
            have HIc : Hid (Calls Tryz.prog 24 #[.int .i64 ((p : Int) + 1), bxS bN, bxS l0, bxS bS, bxS bR, bxS bC, bxS bF] (((((wr.drewN nq).setCell ⟨gs i, j, none⟩ (.int .i64 s)).setCell ⟨bR, i, none⟩ (.int .i64 (x + s))).setCell ⟨bC, j, none⟩ (.int .i64 (y + s)))) fun e w' => e = .returned (.tuple #[]) ∧ PEs w0 H l0 lo g n bR bC gs (c + cS n d X t + K) (X ++ [s]) w') := by
              have hb := HIH.out (X ++ [s]) (((((wr.drewN nq).setCell ⟨gs i, j, none⟩ (.int .i64 s)).setCell ⟨bR, i, none⟩ (.int .i64 (x + s))).setCell ⟨bC, j, none⟩ (.int .i64 (y + s)))) (c + cS n d X t) (by have := HDd.out; rw [hlen, HPl.out]; omega) hXs ⟨_, _, _, sC2, hQ2⟩ (by
                have h1 := HCc.out
                have h2 := cS_le n d X (t := t + 1) (by omega)
                have h3 := HcK.out
                rw [HK.out] at h3
                omega)
              rw [hlen, show ((p + 1 : Nat) : Int) = (p : Int) + 1 by omega, ← HK.out] at hb
              exact hb
            have HRx := hid_w hRx
            have HCx := hid_w hCx
            obtain ⟨G, HG⟩ : ∃ G, Hid (G = gs i) := ⟨_, rfl⟩
            have g1 : G ≠ bR := by rw [HG.out]; exact HN5.out.2.1
            have g2 : G ≠ bC := by rw [HG.out]; exact HN5.out.2.2
            have g3 : bR ≠ bC := HB5.out.2.2.2.2.2
            rw [← HG.out] at cG cB fB HIc s5
            clear sA sB sC sC2 q1d q1 q3 hQ2 hXs hRx hCx HP hlo hhi hlen
            go_wp2_with fail
            refine HIc.out.mono ?_
            rintro e w7 ⟨rfl, HP7⟩
            obtain ⟨Q2, v2, u2, q2, q4⟩ := HP7
            have cR7 : w7.cell? ⟨bR, i, none⟩ = some (.int .i64 (x + s)) := by rw [cell_of_row w7 bR i _ _ _ q2.ra, ar5_get _ (by omega), HRx.out, if_pos rfl]
            have cC7 : w7.cell? ⟨bC, j, none⟩ = some (.int .i64 (y + s)) := by rw [cell_of_row w7 bC j _ _ _ q2.ca, ar5_get _ (by omega), HCx.out, if_pos rfl]
            have fR7 : w7.frozen? ⟨bR, i, none⟩ = false := frozen_of_row w7 bR i _ _ q2.ra
            have fC7 : w7.frozen? ⟨bC, j, none⟩ = false := frozen_of_row w7 bC j _ _ q2.ca
            have ex : IntKind.i64.wrap (x + s - s) = x := by rw [IntKind.wrap_i64]; omega
            have ey : IntKind.i64.wrap (y + s - s) = y := by rw [IntKind.wrap_i64]; omega
            have ex2 : x + s - s = x := by omega
            have ey2 : y + s - s = y := by omega
            have sD := q2.setR (i := i) (by omega) x (W := w7) rfl (Below.refl _ _)
            have sE := sD.setC (i := j) (by omega) y (W := w7.setCell ⟨bR, i, none⟩ (.int .i64 x)) rfl (Below.refl _ _)
            have sF := sE.congr (fR' := rwT n X) (fC' := clT n X) (fun k _ => by
              rw [HRx.out]
              by_cases e : k = i
              · rw [if_pos e, HXx.out, e]
              · rw [if_neg e, if_neg e]) (fun k _ => by
              rw [HCx.out]
              by_cases e : k = j
              · rw [if_pos e, HYy.out, e]
              · rw [if_neg e, if_neg e])
            have HPn : Hid (PEs w0 H l0 lo g n bR bC gs (c + cS n d X (t + 1)) X ((w7.setCell ⟨bR, i, none⟩ (.int .i64 x)).setCell ⟨bC, j, none⟩ (.int .i64 y))) := by
              rw [HcK.out, ← Nat.add_assoc]
              exact ⟨Q2, v2, u2, sF, q4⟩
            clear sD sE sF q2 q4 HIc s5
            go_wp2_with fail
            go_roundw
            case rel => exact ⟨t + 1, s + 1, by omega, by show _ = _; have := Hs.out; omega, by go_num, HPn⟩
            case measure => have := Hs.out; simp [intOf]; omega
      · obtain rfl : t = 3 := by omega
        have hsl : ¬ s ≤ 1 := by have := Hs.out; omega
        go_wp2
        first | go_end0 | (refine bodyPost_ret (results_none rfl _ _ _) rfl ?_)
        exact ⟨rfl, HP.out⟩
end

end Go.Proofs.YtgcpconlmihilaaGreatDoor

namespace Go.Proofs.YtgcpconlmihilaaGreatDoor
open Go.RowKit

def fXs (n : Nat) (Y : List Int) (i j : Nat) : Int := Y.getD (i * n + j) 0
/-- the table begins as X -/
def AgS (n : Nat) (Q : Nat → Nat → Int) (X : List Int) : Prop := ∀ t, t < X.length → Q (t / n) (t % n) = X.getD t 0
theorem ags_full {n : Nat} {Q : Nat → Nat → Int} {X : List Int} (hn : 1 ≤ n) (hA : AgS n Q X) (hl : X.length = n * n) : ∀ i, i < n → ∀ j, j < n → Q i j = fXs n X i j := fun i hi j hj => by
  have hq : i * n + j < n * n := by
    have : (i + 1) * n ≤ n * n := Nat.mul_le_mul_right _ hi
    rw [Nat.succ_mul] at this; omega
  have := hA (i * n + j) (by omega)
  have e1 : (i * n + j) / n = i := by rw [Nat.mul_comm, Nat.mul_add_div (by omega), Nat.div_eq_of_lt hj, Nat.add_zero]
  have e2 : (i * n + j) % n = j := by rw [Nat.mul_comm, Nat.mul_add_mod, Nat.mod_eq_of_lt hj]
  rw [e1, e2] at this
  exact this
theorem getD_appS {X : List Int} {q : Nat} {z : Int} (h : q < X.length) : (X ++ [z]).getD q 0 = X.getD q 0 := by simp [List.getD, List.getElem?_append_left h]
theorem ags_less {n : Nat} {Q : Nat → Nat → Int} {X : List Int} {z : Int} (h : AgS n Q (X ++ [z])) : AgS n Q X := fun t ht => by
  rw [h t (by simp; omega), getD_appS ht]
theorem ags_more {n : Nat} {Q : Nat → Nat → Int} {X : List Int} (h : AgS n Q X) (z : Int) : AgS n (updz Q (X.length / n) (X.length % n) z) (X ++ [z]) := fun t ht => by
  rw [List.length_append, List.length_singleton] at ht
  unfold updz
  by_cases e : t = X.length
  · subst e
    rw [if_pos ⟨rfl, rfl⟩]; simp [List.getD]
  · rw [if_neg (fun e2 => e (by rw [← Nat.div_add_mod t n, e2.1, e2.2, Nat.div_add_mod])), getD_appS (by omega)]
    exact h t (by omega)
/-- u is the matrix Y, in blocks that nothing writes any more -/
def TEs (w : World) (lo n : Nat) (vl u : Value) (Y : List Int) : Prop :=
  ∃ x y, lo ≤ x ∧ y ≤ w.heap.size ∧ (∀ g, vl.ownBlock = some g → x ≤ g → y ≤ g) ∧ ∀ W : World, (∀ j, x ≤ j → j < y → W.heap[j]? = w.heap[j]?) → Tbl W x u (tz n n (fXs n Y))
def TsS (w : World) (lo n : Nat) (vl : Value) (us : List Value) (L : List (List Int)) : Prop := ∀ k, k < L.length → TEs w lo n vl (rowv us k) (L.getD k [])
theorem TsS.low {w w' : World} {lo n : Nat} {vl : Value} {us : List Value} {L : List (List Int)} (h : TsS w lo n vl us L) (hs : w.heap.size ≤ w'.heap.size) (hk : ∀ k, lo ≤ k → k < w.heap.size → w'.heap[k]? = w.heap[k]?) : TsS w' lo n vl us L := fun k hkk => by
  obtain ⟨x, y, a1, a2, a3, a4⟩ := h k hkk
  exact ⟨x, y, a1, by omega, a3, fun W hW => a4 W (fun j j1 j2 => by rw [hW j j1 j2, hk j (by omega) (by omega)])⟩
theorem TsS.below {w w' : World} {lo n : Nat} {vl : Value} {us : List Value} {L : List (List Int)} (h : TsS w lo n vl us L) (hb : Below w.heap.size w w') : TsS w' lo n vl us L := h.low hb.size (fun k _ hk => hb.block k hk)
theorem TsS.set {w W : World} {lo n g o : Nat} {v : Value} {vl : Value} {us : List Value} {L : List (List Int)} (h : TsS w lo n vl us L) (hW : W.heap = w.heap) (hg : g < lo) : TsS (W.setCell ⟨g, o, none⟩ v) lo n vl us L :=
  h.low (by simp [hW]) (fun k h1 _ => by rw [heap_setCell_other _ _ _ _ (by show k ≠ g; omega), hW])
theorem TsS.push {w w1 w2 : World} {lo n l0 : Nat} {vl v2 u : Value} {us : List Value} {L : List (List Int)} {Y : List Int} (h : TsS w lo n vl us L) (hli : w.ownsRow lo 22 1 vl us.length us) (hln : us.length = L.length) (hsz : lo ≤ w.heap.size) (hb : Below w.heap.size w w1) (ht : Tbl w1 w.heap.size u (tz n n (fXs n Y))) (hk : KeepB vl v2 w1 w2) (hl0 : l0 < lo) :
    TsS (w2.setCell ⟨l0, 0, none⟩ v2) lo n v2 (us ++ [u]) (L ++ [Y]) := fun k hk' => by
  have hs : (w2.setCell ⟨l0, 0, none⟩ v2).heap.size = w2.heap.size := by simp
  have hks := hk.size
  have hws := hb.size
  have key : ∀ j, lo ≤ j → j < w1.heap.size → vl.ownBlock ≠ some j → (w2.setCell ⟨l0, 0, none⟩ v2).heap[j]? = w1.heap[j]? := fun j a0 a1 a2 => by
    rw [heap_setCell_other _ _ _ _ (by show j ≠ l0; omega), hk.block j a1 a2]
  by_cases e : k < L.length
  · obtain ⟨x, y, a1, a2, a3, a4⟩ := h k e
    have e1 : rowv (us ++ [u]) k = rowv us k := by rw [rowv_push, if_pos (by rw [hln]; exact e)]
    have e2 : (L ++ [Y]).getD k [] = L.getD k [] := by simp [List.getD, List.getElem?_append_left e]
    rw [e1, e2]
    refine ⟨x, y, a1, by omega, fun gg hg hx => ?_, fun W hW => a4 W (fun j j1 j2 => ?_)⟩
    · rcases hk.lies gg hg with z | z
      · exact a3 gg z hx
      · omega
    · rw [hW j j1 j2, key j (by omega) (by omega) (fun e3 => by have := a3 j e3 j1; omega), hb.block j (by omega)]
  · have hk2 : k = L.length := by rw [List.length_append, List.length_singleton] at hk'; omega
    subst hk2
    have e1 : rowv (us ++ [u]) L.length = u := by rw [rowv_push, if_neg (by rw [hln]; omega), if_pos hln.symm]
    have e2 : (L ++ [Y]).getD L.length [] = Y := by simp [List.getD]
    rw [e1, e2]
    refine ⟨w.heap.size, w1.heap.size, hsz, by omega, fun gg hg hx => ?_, fun W hW => ht.same (fun j j1 j2 => ?_)⟩
    · rcases hk.lies gg hg with z | z
      · have := (hli.lt gg z).2; omega
      · exact z
    · rw [hW j j1 j2, key j (by omega) j2 (fun e3 => by have := (hli.lt j e3).2; omega)]

/-- the list with the first t signs at the next place -/
def lS (n d : Nat) (X : List Int) : Nat → List (List Int)
  | 0 => []
  | t + 1 => lS n d X t ++ fS n d X ((t : Int) - 1)
theorem lS_all (n d : Nat) (X : List Int) : lS n d X 3 = srS n (d + 1) X := by
  simp only [lS, srS, fS, List.flatMap_cons, List.flatMap_nil, List.append_nil, List.nil_append, List.append_assoc]
  rfl
theorem lS_le (n d : Nat) (X : List Int) {t : Nat} (ht : t ≤ 3) : (lS n d X t).length ≤ (lS n d X 3).length := by
  have h1 : (lS n d X 1).length = (lS n d X 0).length + _ := List.length_append
  have h2 : (lS n d X 2).length = (lS n d X 1).length + _ := List.length_append
  have h3 : (lS n d X 3).length = (lS n d X 2).length + _ := List.length_append
  rcases (show t = 0 ∨ t = 1 ∨ t = 2 ∨ t = 3 by omega) with rfl | rfl | rfl | rfl <;> omega

/-- what a call of the closure leaves -/
def PEc (w0 : World) (H l0 lo g n bR bC : Nat) (gs : Nat → Nat) (L : List (List Int)) (X : List Int) (w' : World) : Prop :=
  ∃ Q vl us, SX w0 w' H l0 lo g n bR bC gs Q (rwT n X) (clT n X) vl us L.length ∧ (∀ i, i < n → ∀ j, j < n → -1 ≤ Q i j ∧ Q i j ≤ 1) ∧ AgS n Q X ∧ TsS w' lo n vl us L

section
variable {w0 : World} {H l0 lo g n bN bS bR bC bF : Nat} {gs : Nat → Nat}

set_option maxHeartbeats 8000000 in
set_option maxRecDepth 100000 in
theorem PutC_leaf {w : World} {Q : Nat → Nat → Int} {fR fC : Nat → Int} {vl : Value} {us : List Value} {L : List (List Int)} {X : List Int} {p : Nat} (E : SE w0 l0 lo g n bN bS bR bC bF gs) (hX : SX w0 w H l0 lo g n bR bC gs Q fR fC vl us L.length) (hTs : TsS w lo n vl us L) (hAg : AgS n Q X) (hXl : X.length = n * n) (hc : L.length ≤ 1000000) (hp : p = n * n) (hQ : ∀ i, i < n → ∀ j, j < n → -1 ≤ Q i j ∧ Q i j ≤ 1) :
    Calls Tryz.prog 24 #[.int .i64 (p : Int), bxS bN, bxS l0, bxS bS, bxS bR, bxS bC, bxS bF] w fun e w' => e = .returned (.tuple #[]) ∧ ∃ vl' us', SX w0 w' H l0 lo g n bR bC gs Q fR fC vl' us' (L ++ [X]).length ∧ TsS w' lo n vl' us' (L ++ [X]) := by
  obtain ⟨av, cv, hvl⟩ := own_shapeS hX.li
  obtain ⟨m, HM⟩ : ∃ m, Hid (m = us.length) := ⟨_, rfl⟩
  rw [← HM.out] at hvl
  have hm : m ≤ 1000000 := by rw [HM.out, hX.ln]; exact hc
  subst hvl
  have c0 := (cell_oneS hX.lb).1
  obtain ⟨s1, s2, s3⟩ := E.cs w hX.st
  have n1 := E.n1; have n5 := E.n5
  have hT : Table w (some ⟨g, 0, none⟩) (tz n n Q) := by
    obtain ⟨at', nt, ct, et, hT, HNt⟩ := hX.rz.tbl.table (tz_wf (by omega) (fun i hi j hj => by have := hQ i hi j hj; omega))
    simp only [Value.slice.injEq] at et
    rw [et.1]; exact hT
  have HX : Hid (SX w0 w H l0 lo g n bR bC gs Q fR fC (.slice av m cv) us L.length) := hX
  have HTs : Hid (TsS w lo n (.slice av m cv) us L) := hTs
  have HQe : Hid (tz n n Q = tz n n (fXs n X)) := tz_congr (ags_full n1 hAg hXl)
  have HQb : Hid (∀ i, i < n → ∀ j, j < n → -1 ≤ Q i j ∧ Q i j ≤ 1) := hQ
  have HE0 : Hid (SE w0 l0 lo g n bN bS bR bC bF gs) := E
  have HC : Hid (∀ W, Below w.heap.size w W → Calls Tryz.prog 25 #[.slice (some ⟨g, 0, none⟩) n n] W fun e w' => ∃ v, e = .returned v ∧ ∃ a1 m1 k1, v = .slice a1 m1 k1 ∧ w'.cell? ⟨l0, 0, none⟩ = some (.slice av m cv) ∧ w'.cell? ⟨bS, 0, none⟩ = some (.slice (some ⟨g, 0, none⟩) n n) ∧ (w'.alloc (.cells #[.slice a1 m1 k1] 22)).cell? ⟨l0, 0, none⟩ = some (.slice av m cv) ∧ Hid (Below w.heap.size w w' ∧ Tbl w' w.heap.size (.slice a1 m1 k1) (tz n n (fXs n X)))) := fun W hW => by
    refine (sgcopied_at (some ⟨g, 0, none⟩) n n n Q W (hT.below hW) rfl n1 (by omega)).mono ?_
    rintro e w' ⟨v, rfl, ht, hb⟩
    have hb2 := hW.trans (hb.mono hW.size)
    have hx := HX.out.below hb2
    obtain ⟨a1, m1, k1, e1, _, _⟩ := ht.table (tz_wf (by omega) (fun i hi j hj => by have := hQ i hi j hj; omega))
    subst e1
    have hl0 : l0 < w'.heap.size := Nat.lt_of_lt_of_le hx.lt.1 hx.sz
    exact ⟨_, rfl, a1, m1, k1, rfl, (cell_oneS hx.lb).1, (HE0.out.cs w' hx.st).2.1, by rw [World.cell?_of_block (Below.heap_alloc w' _ l0 hl0)]; exact (cell_oneS hx.lb).1, hb2, by rw [← HQe.out]; exact ht.mono hW.size⟩
  have HE : Hid (∀ w1 v1 v2 w2, (Below w.heap.size w w1 ∧ Tbl w1 w.heap.size v1 (tz n n (fXs n X))) → w2.ownsRow lo 22 1 v2 (us ++ [v1]).length (us ++ [v1]) → Below lo w1 w2 → KeepB (.slice av m cv) v2 w1 w2 → w2.cell? ⟨l0, 0, none⟩ = some (.slice av m cv) ∧ w2.frozen? ⟨l0, 0, none⟩ = false ∧ Hid (SX w0 (w2.setCell ⟨l0, 0, none⟩ v2) H l0 lo g n bR bC gs Q fR fC v2 (us ++ [v1]) (L ++ [X]).length ∧ TsS (w2.setCell ⟨l0, 0, none⟩ v2) lo n v2 (us ++ [v1]) (L ++ [X])) ∧ ∃ a2 m2 k2, v2 = .slice a2 m2 k2) := fun w1 v1 v2 w2 ⟨h1, h1t⟩ h2 h3 h4 => by
    have hx := HX.out.below h1
    have hb0 : (Value.slice av m cv).ownBlock ≠ some l0 := fun e => by have := (hx.li.lt l0 e).1; have := hx.lt.1; omega
    have e0 : w2.heap[l0]? = some (.cells #[.slice av m cv] 29 (0, 0)) := by rw [h4.block l0 (Nat.lt_of_lt_of_le hx.lt.1 hx.sz) hb0]; exact hx.lb
    refine ⟨(cell_oneS e0).1, (cell_oneS e0).2, ⟨by rw [List.length_append]; exact HX.out.push h1 h2 h3 h4, HTs.out.push HX.out.li HX.out.ln HX.out.sz h1 h1t h4 HX.out.lt.1⟩, ?_⟩
    obtain ⟨a2, k2, q⟩ := own_shapeS h2
    exact ⟨_, _, _, q⟩
  have HLi : Hid (∀ w1, Below w.heap.size w w1 → w1.ownsRow lo 22 1 (.slice av m cv) us.length us) := fun w1 h1 => (HX.out.below h1).li
  have HSz : Hid (∀ w1, Below w.heap.size w w1 → lo ≤ w1.heap.size) := fun w1 h1 => (HX.out.below h1).sz
  have HUl : Hid (us.length ≤ 1000000) := by show _ ≤ _; rw [HX.out.ln]; exact hc
  have hpp : p ≤ 25 := by rw [hp]; exact Nat.mul_le_mul n5 n5
  have e1 : (n : Int) * (n : Int) = (p : Int) := by rw [hp, Int.natCast_mul]
  have hqq : ((p : Int) == (p : Int)) = true := by simp
  clear hX hT hc E hQ s3 hp hTs hAg hXl
  go_enter Tryz.func24, Tryz.ntmps24
  go_upto_region 1 with fail
  go_region_law (first | (refine step_scop (x := .slice (some ⟨g, 0, none⟩) n n) rfl (.tmp 17) rfl (by first | (simp [Act.eval]; done) | (simp [Act.eval, Act.put]; done)) (HC.out _ (by first | exact Below.refl _ _ | exact below_drewN (Below.refl _ _) 1)) ?_; rintro v1 w1 ⟨a1, m1, k1, rfl, g0, g1, g5, g2⟩) | (refine step_one elem_cs (x := .slice a1 m1 k1) rfl (.tmp 16) (.tmp 19) rfl (by first | (simp [Act.eval]; done) | (simp [Act.eval, Act.put]; done)) (by first | (simp [Act.eval]; done) | (simp [Act.eval, Act.put]; done)) rfl (HLi.out w1 g2.out.1) rfl (by have := HUl.out; unfold maxLen; omega) (by have := HUl.out; omega) (HSz.out w1 g2.out.1) ?_; intro v2 w2 hO2 hb2 hk2; obtain ⟨e0, e1, e2, a2, m2, k2, rfl⟩ := HE.out w1 _ v2 w2 g2.out hO2 hb2 hk2; clear hO2 hb2 hk2))
  all_goals go_wp2
  all_goals (first | go_end0 | (refine bodyPost_ret (results_none rfl _ _ _) rfl ?_))
  all_goals exact ⟨rfl, _, _, e2.out.1, e2.out.2⟩

set_option maxHeartbeats 16000000 in
set_option maxRecDepth 100000 in
theorem PutC_at (E : SE w0 l0 lo g n bN bS bR bC bF gs) : ∀ (d : Nat) (X : List Int) (w : World) (L : List (List Int)), X.length + d = n * n → (∀ z ∈ X, -1 ≤ z ∧ z ≤ 1) → PEc w0 H l0 lo g n bR bC gs L X w → (L ++ srS n d X).length ≤ 1000000 →
    Calls Tryz.prog 24 #[.int .i64 (X.length : Int), bxS bN, bxS l0, bxS bS, bxS bR, bxS bC, bxS bF] w fun e w' => e = .returned (.tuple #[]) ∧ PEc w0 H l0 lo g n bR bC gs (L ++ srS n d X) X w' := by
  intro d
  induction d with
  | zero =>
    intro X w L hd hX1 ⟨Q, vl, us, hX, hQ, hAg, hTs⟩ hc
    refine (PutC_leaf E hX hTs hAg (by omega) (by rw [List.length_append] at hc; omega) (by omega) hQ).mono ?_
    rintro e w' ⟨rfl, vl', us', hX', hT'⟩
    exact ⟨rfl, Q, vl', us', hX', hQ, hAg, hT'⟩
  | succ d ih =>
    intro X w L hd hX1 ⟨Q, vl, us, hX, hQ, hAg, hTs⟩ hc
    have n1 := E.n1; have n5 := E.n5
    obtain ⟨p, HPl⟩ : ∃ p, Hid (p = X.length) := ⟨_, rfl⟩
    obtain ⟨pp, HPp⟩ : ∃ pp, Hid (pp = n * n) := ⟨_, rfl⟩
    have hpp : pp ≤ 25 := by rw [HPp.out]; exact Nat.mul_le_mul n5 n5
    have e1 : (n : Int) * (n : Int) = (pp : Int) := by rw [HPp.out, Int.natCast_mul]
    have hplt : p < pp := by rw [HPl.out, HPp.out]; omega
    have hne : ((p : Int) == (pp : Int)) = false := by simp; omega
    obtain ⟨i, HI⟩ : ∃ i, Hid (i = p / n) := ⟨_, rfl⟩
    obtain ⟨j, HJ⟩ : ∃ j, Hid (j = p % n) := ⟨_, rfl⟩
    have hi : i < n := by rw [HI.out]; exact Nat.div_lt_of_lt_mul (by rw [← HPp.out]; exact hplt)
    have hj : j < n := by rw [HJ.out]; exact Nat.mod_lt _ n1
    have hdv : Int.tdiv (p : Int) (n : Int) = (i : Int) := by rw [HI.out]; rfl
    have hmd : Int.tmod (p : Int) (n : Int) = (j : Int) := by rw [HJ.out]; rfl
    have hc0b : ((n : Int) == 0) = false := by simp; omega
    have hc0n : ¬ (n : Int) = 0 := by omega
    have HPE : Hid (PEc w0 H l0 lo g n bR bC gs (L ++ lS n d X 0) X w) := by
      rw [show L ++ lS n d X 0 = L from List.append_nil L]; exact ⟨Q, vl, us, hX, hQ, hAg, hTs⟩
    obtain ⟨s1, s2, s3⟩ := E.cs w hX.st
    have HEe : Hid (SE w0 l0 lo g n bN bS bR bC bF gs) := E
    have HIH := hid_w ih
    have HDd : Hid (X.length + (d + 1) = n * n) := hd
    have HX1 : Hid (∀ z ∈ X, -1 ≤ z ∧ z ≤ 1) := hX1
    have HCc : Hid ((L ++ lS n d X 3).length ≤ 1000000) := by show _ ≤ _; rw [lS_all]; exact hc
    have hn1w : IntKind.i64.wrap ((n : Int) - 1) = (n : Int) - 1 := by rw [IntKind.wrap_i64]; omega
    obtain ⟨lc, hlc⟩ : ∃ l : Bool, ((j : Int) == (n : Int) - 1) = l := ⟨_, rfl⟩
    obtain ⟨lr, hlr⟩ : ∃ l : Bool, ((i : Int) == (n : Int) - 1) = l := ⟨_, rfl⟩
    have HLc : Hid (decide (X.length % n = n - 1) = lc) := by
      show _ = _
      rw [← hlc, ← HPl.out, ← HJ.out]
      by_cases h : j = n - 1
      · rw [decide_eq_true h]; symm; simp; omega
      · rw [decide_eq_false h]; symm; simp; omega
    have HLr : Hid (decide (X.length / n = n - 1) = lr) := by
      show _ = _
      rw [← hlr, ← HPl.out, ← HI.out]
      by_cases h : i = n - 1
      · rw [decide_eq_true h]; symm; simp; omega
      · rw [decide_eq_false h]; symm; simp; omega
    obtain ⟨x, HXx⟩ : ∃ x, Hid (x = rwT n X i) := ⟨_, rfl⟩
    obtain ⟨y, HYy⟩ : ∃ y, Hid (y = clT n X j) := ⟨_, rfl⟩
    have bx : -5 ≤ x ∧ x ≤ 5 := by rw [HXx.out]; have := rwT_bd (n := n) hX1 i; omega
    have by1 : -5 ≤ y ∧ y ≤ 5 := by rw [HYy.out]; unfold clT; rw [if_pos hj]; have := clS_bd (n := n) hX1 j n; omega
    have HOk : Hid (∀ z, okS n X z = (mayB (x + z) lc && mayB (y + z) lr)) := fun z => by
      unfold okS
      have hy : y = clS n X n j := by rw [HYy.out]; exact if_pos hj
      rw [HLc.out, HLr.out, ← rwT_cur n1, HXx.out, hy, HI.out, HJ.out, HPl.out]
      have e := clS_cur (X := X) n1 (n - X.length / n)
      have : X.length / n ≤ n := by rw [← HPl.out, ← HI.out]; omega
      rw [show X.length / n + (n - X.length / n) = n by omega] at e
      rw [e]
    rw [← HPl.out, ← lS_all]
    clear hX hQ E ih hd hX1 hc hAg hTs
    go_enter Tryz.func24, Tryz.ntmps24
    go_wp2_with fail
    go_quiet (fail)
    go_wp2_with fail
    have HP1 : Hid (PEc w0 H l0 lo g n bR bC gs (L ++ lS n d X 0) X (w.drewN nq)) := by
      obtain ⟨Q1, v1, u1, q1, q3, qa, qt⟩ := HPE.out
      exact ⟨Q1, v1, u1, q1.below (below_drewN (Below.refl _ _) nq), q3, qa, qt.below (below_drewN (Below.refl _ _) nq)⟩
    clear HPE s1 s2 s3
    go_loopw [10] (fun q wr => ∃ (t : Nat) (s : Int), t ≤ 3 ∧ Hid (s = (t : Int) - 1) ∧ q = .int .i64 s ∧ Hid (PEc w0 H l0 lo g n bR bC gs (L ++ lS n d X t) X wr)) (fun q _ => 3 - (intOf q + 1).toNat)
    case atStart => exact ⟨0, -1, by omega, by show (-1 : Int) = _; omega, rfl, HP1⟩
    case round =>
      clear HP1
      obtain ⟨t, s, ht, Hs, rfl, HP⟩ := hrel
      by_cases htl : t < 3
      · have hsl : s ≤ 1 := by have := Hs.out; omega
        have hsg : -1 ≤ s := by have := Hs.out; omega
        obtain ⟨Q1, v1, u1, q1, q3, qa, qt⟩ := HP.out
        obtain ⟨s1, s2, s3⟩ := HEe.out.cs wr q1.st
        have hi' : (i : Int) < (n : Int) := by omega
        have hj' : (j : Int) < (n : Int) := by omega
        have hi5 : (i : Int) < 5 := by omega
        have hj5 : (j : Int) < 5 := by omega
        have cRr : wr.cell? ⟨bR, i, none⟩ = some (.int .i64 x) := by rw [cell_of_row wr bR i _ _ _ q1.ra, ar5_get _ (by omega), HXx.out]
        have cCc : wr.cell? ⟨bC, j, none⟩ = some (.int .i64 y) := by rw [cell_of_row wr bC j _ _ _ q1.ca, ar5_get _ (by omega), HYy.out]
        have ewx : IntKind.i64.wrap (x + s) = x + s := by rw [IntKind.wrap_i64]; omega
        have ewy : IntKind.i64.wrap (y + s) = y + s := by rw [IntKind.wrap_i64]; omega
        obtain ⟨A, HA⟩ : ∃ A, Hid (mayB (x + s) lc = A) := ⟨_, rfl⟩
        obtain ⟨B, HB⟩ : ∃ B, Hid (mayB (y + s) lr = B) := ⟨_, rfl⟩
        have HMa : Hid (∀ W, Calls Tryz.prog 26 #[.int .i64 (x + s), .bool lc] W fun e w' => e = .returned (.bool A) ∧ ∃ n, w' = W.drewN n) := fun W => mayCome_q _ _ _ W (by omega) HA
        have HMb : Hid (∀ W, Calls Tryz.prog 26 #[.int .i64 (y + s), .bool lr] W fun e w' => e = .returned (.bool B) ∧ ∃ n, w' = W.drewN n) := fun W => mayCome_q _ _ _ W (by omega) HB
        have HNo : Hid ((A && B) = false → lS n d X (t + 1) = lS n d X t) := fun h => by
          have : (fS n d X ((t : Int) - 1)) = [] := by
            unfold fS
            rw [HOk.out, ← Hs.out, HA.out, HB.out, h]; rfl
          show lS n d X t ++ _ = _
          rw [this]; exact List.append_nil _
        cases A with
        | false =>
          have HPn : Hid (∀ k, PEc w0 H l0 lo g n bR bC gs (L ++ lS n d X (t + 1)) X (wr.drewN k)) := fun k => by
            rw [HNo.out rfl]
            exact ⟨Q1, v1, u1, q1.below (below_drewN (Below.refl _ _) k), q3, qa, qt.below (below_drewN (Below.refl _ _) k)⟩
          go_wp2_with fail
          go_quiet ((go_at_call 26; exact Calls.quiet_of (HMa.out _)))
          go_wp2
          go_roundw
          case rel => exact ⟨t + 1, s + 1, by omega, by show _ = _; have := Hs.out; omega, by go_num, HPn.out _⟩
          case measure => have := Hs.out; simp [intOf]; omega
        | true =>
          cases B with
          | false =>
            have HPn : Hid (∀ k, PEc w0 H l0 lo g n bR bC gs (L ++ lS n d X (t + 1)) X (wr.drewN k)) := fun k => by
              rw [HNo.out rfl]
              exact ⟨Q1, v1, u1, q1.below (below_drewN (Below.refl _ _) k), q3, qa, qt.below (below_drewN (Below.refl _ _) k)⟩
            go_wp2_with fail
            go_quiet ((go_at_call 26; first | (with_reducible exact Calls.quiet_of (HMa.out _)) | (with_reducible exact Calls.quiet_of (HMb.out _))))
            go_wp2
            go_roundw
            case rel => exact ⟨t + 1, s + 1, by omega, by show _ = _; have := Hs.out; omega, by go_num, HPn.out _⟩
            case measure => have := Hs.out; simp [intOf]; omega
          | true =>
            go_wp2_with fail
            go_quiet ((go_at_call 26; first | (with_reducible exact Calls.quiet_of (HMa.out _)) | (with_reducible exact Calls.quiet_of (HMb.out _))))
            have HB5 := hid_w q1.ne
            have HN5 := hid_w (q1.na i hi)
            have cS2 := s2
            have cG := q1.rz.head hi
            obtain ⟨cB, fB, hlo, hhi⟩ := q1.rz.box hi hj
            have fR : wr.frozen? ⟨bR, i, none⟩ = false := frozen_of_row wr bR i _ _ q1.ra
            have fC : wr.frozen? ⟨bC, j, none⟩ = false := frozen_of_row wr bC j _ _ q1.ca
            have q1d := q1.below (below_drewN (Below.refl _ _) nq)
            have sA := q1d.setQ hi hj s (W := wr.drewN nq) rfl (Below.refl _ _)
            have sB := sA.setR (i := i) (by omega) (x + s) (W := (wr.drewN nq).setCell ⟨gs i, j, none⟩ (.int .i64 s)) rfl (Below.refl _ _)
            have sC := sB.setC (i := j) (by omega) (y + s) (W := ((wr.drewN nq).setCell ⟨gs i, j, none⟩ (.int .i64 s)).setCell ⟨bR, i, none⟩ (.int .i64 (x + s))) rfl (Below.refl _ _)
            have hXs : ∀ z ∈ X ++ [s], -1 ≤ z ∧ z ≤ 1 := fun z hz => by
              rcases List.mem_append.1 hz with h | h
              · exact HX1.out z h
              · rw [List.mem_singleton] at h; omega
            have hRx : ∀ k, rwT n (X ++ [s]) k = if k = i then x + s else rwT n X k := fun k => by
              rw [rwT_snoc n1, ← HPl.out, ← HI.out]
              by_cases e : k = i
              · rw [if_pos e, if_pos e, HXx.out, e]
              · rw [if_neg e, if_neg e, Int.add_zero]
            have hCx : ∀ k, clT n (X ++ [s]) k = if k = j then y + s else clT n X k := fun k => by
              unfold clT
              by_cases hk : k < n
              · rw [if_pos hk, if_pos hk, clS_snoc n1 s hk, ← HPl.out, ← HI.out, ← HJ.out]
                by_cases e : k = j
                · rw [if_pos ⟨hi, e⟩, if_pos e, HYy.out, e]
                  unfold clT
                  rw [if_pos hj]
                · rw [if_neg (fun q => e q.2), if_neg e, Int.add_zero]
              · rw [if_neg hk, if_neg hk, if_neg (by omega)]
            have sC2 := sC.congr (fR' := rwT n (X ++ [s])) (fC' := clT n (X ++ [s])) (fun k _ => (hRx k).symm) (fun k _ => (hCx k).symm)
            have hQ2 : ∀ a, a < n → ∀ b, b < n → -1 ≤ updz Q1 i j s a b ∧ updz Q1 i j s a b ≤ 1 := fun a ha b hb => by
              unfold updz
              split
              · omega
              · exact q3 a ha b hb
            have hAg2 : AgS n (updz Q1 i j s) (X ++ [s]) := by rw [HI.out, HJ.out, HPl.out]; exact ags_more qa s
            have hTs2 := ((((qt.below (below_drewN (Below.refl _ _) nq)).set rfl (g := gs i) (o := j) (v := .int .i64 s) (q1.lt.2.2.2.2 i hi)).set rfl (g := bR) (o := i) (v := .int .i64 (x + s)) q1.lt.2.2.1).set rfl (g := bC) (o := j) (v := .int .i64 (y + s)) q1.lt.2.2.2.1)
            have hlen : (X ++ [s]).length = p + 1 := by rw [List.length_append, HPl.out]; rfl
            obtain ⟨-, -, s5⟩ := HEe.out.cs _ sC.st
            obtain ⟨K, HK⟩ : ∃ K, Hid (K = srS n d (X ++ [s])) := ⟨_, rfl⟩
            have HcK : Hid (lS n d X (t + 1) = lS n d X t ++ K) := by
              show lS n d X t ++ _ = _
              unfold fS
              rw [HOk.out, ← Hs.out, HA.out, HB.out, HK.out]
              rfl
            have HIc : Hid (Calls Tryz.prog 24 #[.int .i64 ((p : Int) + 1), bxS bN, bxS l0, bxS bS, bxS bR, bxS bC, bxS bF] (((((wr.drewN nq).setCell ⟨gs i, j, none⟩ (.int .i64 s)).setCell ⟨bR, i, none⟩ (.int .i64 (x + s))).setCell ⟨bC, j, none⟩ (.int .i64 (y + s)))) fun e w' => e = .returned (.tuple #[]) ∧ PEc w0 H l0 lo g n bR bC gs (L ++ lS n d X t ++ K) (X ++ [s]) w') := by
              have hb := HIH.out (X ++ [s]) (((((wr.drewN nq).setCell ⟨gs i, j, none⟩ (.int .i64 s)).setCell ⟨bR, i, none⟩ (.int .i64 (x + s))).setCell ⟨bC, j, none⟩ (.int .i64 (y + s)))) (L ++ lS n d X t) (by have := HDd.out; rw [hlen, HPl.out]; omega) hXs ⟨_, _, _, sC2, hQ2, hAg2, hTs2⟩ (by
                have h1 := HCc.out
                have h2 := lS_le n d X (t := t + 1) (by omega)
                have h3 := HcK.out
                rw [HK.out] at h3
                rw [h3] at h2
                simp only [List.length_append] at h1 h2 ⊢
                omega)
              rw [hlen, show ((p + 1 : Nat) : Int) = (p : Int) + 1 by omega, ← HK.out] at hb
              exact hb
            have HRx := hid_w hRx
            have HCx := hid_w hCx
            obtain ⟨G, HG⟩ : ∃ G, Hid (G = gs i) := ⟨_, rfl⟩
            have g1 : G ≠ bR := by rw [HG.out]; exact HN5.out.2.1
            have g2 : G ≠ bC := by rw [HG.out]; exact HN5.out.2.2
            have g3 : bR ≠ bC := HB5.out.2.2.2.2.2
            rw [← HG.out] at cG cB fB HIc s5
            clear sA sB sC sC2 q1d q1 q3 hQ2 hXs hRx hCx HP hlo hhi hlen hAg2 hTs2 qa qt
            go_wp2_with fail
            refine HIc.out.mono ?_
            rintro e w7 ⟨rfl, HP7⟩
            obtain ⟨Q2, v2, u2, q2, q4, qa2, qt2⟩ := HP7
            have cR7 : w7.cell? ⟨bR, i, none⟩ = some (.int .i64 (x + s)) := by rw [cell_of_row w7 bR i _ _ _ q2.ra, ar5_get _ (by omega), HRx.out, if_pos rfl]
            have cC7 : w7.cell? ⟨bC, j, none⟩ = some (.int .i64 (y + s)) := by rw [cell_of_row w7 bC j _ _ _ q2.ca, ar5_get _ (by omega), HCx.out, if_pos rfl]
            have fR7 : w7.frozen? ⟨bR, i, none⟩ = false := frozen_of_row w7 bR i _ _ q2.ra
            have fC7 : w7.frozen? ⟨bC, j, none⟩ = false := frozen_of_row w7 bC j _ _ q2.ca
            have ex : IntKind.i64.wrap (x + s - s) = x := by rw [IntKind.wrap_i64]; omega
            have ey : IntKind.i64.wrap (y + s - s) = y := by rw [IntKind.wrap_i64]; omega
            have ex2 : x + s - s = x := by omega
            have ey2 : y + s - s = y := by omega
            have sD := q2.setR (i := i) (by omega) x (W := w7) rfl (Below.refl _ _)
            have sE := sD.setC (i := j) (by omega) y (W := w7.setCell ⟨bR, i, none⟩ (.int .i64 x)) rfl (Below.refl _ _)
            have sF := sE.congr (fR' := rwT n X) (fC' := clT n X) (fun k _ => by
              rw [HRx.out]
              by_cases e : k = i
              · rw [if_pos e, HXx.out, e]
              · rw [if_neg e, if_neg e]) (fun k _ => by
              rw [HCx.out]
              by_cases e : k = j
              · rw [if_pos e, HYy.out, e]
              · rw [if_neg e, if_neg e])
            have HPn : Hid (PEc w0 H l0 lo g n bR bC gs (L ++ lS n d X (t + 1)) X ((w7.setCell ⟨bR, i, none⟩ (.int .i64 x)).setCell ⟨bC, j, none⟩ (.int .i64 y))) := by
              rw [HcK.out, ← List.append_assoc]
              exact ⟨Q2, v2, u2, sF, q4, ags_less qa2, (qt2.set rfl (g := bR) (o := i) (v := .int .i64 x) q2.lt.2.2.1).set rfl (g := bC) (o := j) (v := .int .i64 y) q2.lt.2.2.2.1⟩
            clear sD sE sF q2 q4 HIc s5 qa2 qt2
            go_wp2_with fail
            go_roundw
            case rel => exact ⟨t + 1, s + 1, by omega, by show _ = _; have := Hs.out; omega, by go_num, HPn⟩
            case measure => have := Hs.out; simp [intOf]; omega
      · obtain rfl : t = 3 := by omega
        have hsl : ¬ s ≤ 1 := by have := Hs.out; omega
        go_wp2
        first | go_end0 | (refine bodyPost_ret (results_none rfl _ _ _) rfl ?_)
        exact ⟨rfl, HP.out⟩
end

end Go.Proofs.YtgcpconlmihilaaGreatDoor
