/-
  The search's memory; the contracts of least, greatest, mayCome of package rule.
-/
import Derived.Test.YtncokoimbpkapaaTTab
import Derived.Test.YtncokoimbpkapaaRuE
namespace Go.Proofs.Ytncokoimbpkapaa
open Go.RowKit

def castL (l : List Nat) : List Int := l.map fun (n : Nat) => (n : Int)
def castT (t : List (List Nat)) : List (List Int) := t.map castL
def uL (n : Nat) (u : Nat → Nat) : List Nat := (List.range (n + 1)).map u
theorem castL_len (l : List Nat) : (castL l).length = l.length := by simp [castL]
theorem castT_len (t : List (List Nat)) : (castT t).length = t.length := by simp [castT]
theorem castL_at (l : List Nat) (j : Nat) : (castL l).getD j 0 = (l.getD j 0 : Int) := by
  simp only [castL, List.getD, List.getElem?_map]
  cases l[j]? with
  | none => rfl
  | some v => rfl
theorem castT_at (t : List (List Nat)) (i : Nat) : (castT t).getD i [] = castL (t.getD i []) := by
  simp only [castT, List.getD, List.getElem?_map]
  cases t[i]? with
  | none => rfl
  | some v => rfl
theorem uL_at {n : Nat} {u : Nat → Nat} {x : Nat} (h : x ≤ n) : (uL n u).getD x 0 = u x := by
  simp [uL, List.getD, show x < n + 1 by omega]
theorem tabN_row {c : Nat → Nat} {m : Nat} {g : Nat → Nat → Nat} {i : Nat} (hi : i < m) : (tabN c m g).getD i [] = (List.range (c i)).map (g i) := by
  simp [tabN, List.getD, hi]
theorem tabN_len (c : Nat → Nat) (m : Nat) (g : Nat → Nat → Nat) : (tabN c m g).length = m := by simp [tabN]

/-- Box i, j of the rows. -/
theorem TblV.box {w : World} {lo : Nat} {v : Value} {vs : List Value} {c : Nat → Nat} {m : Nat} {g : Nat → Nat → Nat} (h : TblV w lo v vs (castT (tabN c m g))) {i : Nat} (hi : i < m) (hc : 0 < c i) :
    ∃ R cr q cq, v = .slice (some ⟨R, 0, none⟩) m cr ∧ R < w.heap.size ∧ w.cell? ⟨R, i, none⟩ = some (.slice (some ⟨q, 0, none⟩) (c i) cq) ∧ rowv vs i = .slice (some ⟨q, 0, none⟩) (c i) cq ∧ q < w.heap.size ∧ (∀ j, w.frozen? ⟨q, j, none⟩ = false) ∧ ∀ j, j < c i → w.cell? ⟨q, j, none⟩ = some (.int .i64 (g i j : Int)) := by
  have hl : (castT (tabN c m g)).length = m := by rw [castT_len, tabN_len]
  obtain ⟨R, n, cr, rfl, HN, h1, h2, h3, h4⟩ := h.head (by omega)
  have hn : n = m := by rw [HN.out, hl]
  subst hn
  have ho := h.rows i (by omega)
  rw [castT_at, tabN_row hi] at ho
  have hl2 : (castL ((List.range (c i)).map (g i))).length = c i := by rw [castL_len]; simp
  have hcell := h4 i (by omega)
  obtain ⟨q, cap, e1, e2, e3, e4, e5⟩ := ho.head (by omega)
  rw [hl2] at e1 e5
  rw [e1] at hcell
  refine ⟨R, cr, q, cap, rfl, h2, hcell, e1, e3, e4, fun j hj => ?_⟩
  rw [e5 j hj, castL_at]
  simp [List.getD, hj]

set_option maxHeartbeats 2000000 in
theorem least_at (s i j : Nat) (vr : Value) (vs : List Value) (lo : Nat) (c : Nat → Nat) (m : Nat) (g : Nat → Nat → Nat) (w : World) (h1 : w.cell? ⟨s, 1, none⟩ = some vr) (ht : TblV w lo vr vs (castT (tabN c m g))) (hi : i < m) (hj : j < c i) (hd : 0 < i → c i ≤ c (i - 1)) (hm : m ≤ 1000) (hg : ∀ a b, g a b ≤ 1000) :
    Calls Try.prog 40 #[.pointer (some ⟨s, 0, none⟩), .agg #[.int .i64 (i : Int), .int .i64 (j : Int)]] w fun e w' => e = .returned (.int .i64 (loN g i j : Int)) ∧ Below w.heap.size w w' := by
  have hB : Below w.heap.size w (w.alloc (.cells #[.int .i64 (i : Int), .int .i64 (j : Int)] 52)) := (Below.refl _ _).alloc (Nat.le_refl _) _
  have HB : Hid (Below w.heap.size w (w.alloc (.cells #[.int .i64 (i : Int), .int .i64 (j : Int)] 52))) := hB
  by_cases h0 : i = 0
  · subst h0
    clear hB ht h1
    go_enter Try.func40, Try.ntmps40
    go_wp2
    go_ret
    exact ⟨rfl, HB.out⟩
  · obtain ⟨k, HK⟩ : ∃ k, Hid (i = k + 1) := ⟨i - 1, by show _ = _; omega⟩
    have hk := HK.out
    have hd1 := hd (by omega)
    rw [hk, Nat.add_sub_cancel, ← hk] at hd1
    obtain ⟨R, cr, q, cq, rfl, hR, hcR, _, hq, _, hcq⟩ := ht.box (i := k) (by omega) (by omega)
    have hs : s < w.heap.size := World.block_lt_of_cell? w _ h1
    have c3 := hcq j (by omega)
    have g0 : ¬ ((i : Int) = 0) := by omega
    have g1 : ((i : Int) == 0) = false := by simp; omega
    have e1 : (i : Int) - 1 = (k : Int) := by omega
    have hkm : (k : Int) < (m : Int) := by omega
    have hjc : (j : Int) < (c k : Int) := by omega
    have hgb := hg k j
    obtain ⟨y, HY⟩ : ∃ y, Hid (y = g k j) := ⟨_, rfl⟩
    rw [← HY.out] at c3 hgb
    have HL : Hid (loN g i j = y + 1) := by show _ = _; unfold loN; rw [if_neg (by omega), HK.out, Nat.add_sub_cancel, HY.out]
    clear hB ht hcq hd hk
    go_enter Try.func40, Try.ntmps40
    go_wp2_with fail
    go_region
    go_wp2
    go_ret
    exact ⟨by rw [HL.out]; rfl, HB.out.drew⟩

set_option maxHeartbeats 2000000 in
theorem greatest_at (s i j n : Nat) (vr : Value) (aw : Option Addr) (cw : Nat) (vs : List Value) (lo : Nat) (c : Nat → Nat) (m : Nat) (g : Nat → Nat → Nat) (w : World) (h1 : w.cell? ⟨s, 1, none⟩ = some vr) (h2 : w.cell? ⟨s, 2, none⟩ = some (.slice aw (n + 1) cw)) (ht : TblV w lo vr vs (castT (tabN c m g))) (hi : i < m) (hj : j < c i) (hn : n ≤ 1000) (hc : ∀ a, c a ≤ 1000) :
    Calls Try.prog 41 #[.pointer (some ⟨s, 0, none⟩), .agg #[.int .i64 (i : Int), .int .i64 (j : Int)]] w fun e w' => e = .returned (.int .i64 (hiN n c g i j : Int)) ∧ Below w.heap.size w w' := by
  have hB : Below w.heap.size w (w.alloc (.cells #[.int .i64 (i : Int), .int .i64 (j : Int)] 52)) := (Below.refl _ _).alloc (Nat.le_refl _) _
  have HB : Hid (Below w.heap.size w (w.alloc (.cells #[.int .i64 (i : Int), .int .i64 (j : Int)] 52))) := hB
  obtain ⟨R, cr, q, cq, rfl, hR, hcR, _, hq, _, hcq⟩ := ht.box (i := i) hi (by omega)
  have hs : s < w.heap.size := World.block_lt_of_cell? w _ h1
  have c1 := (hB.cell (p := ⟨s, 1, none⟩) hs).trans h1
  have c2 := (hB.cell (p := ⟨R, i, none⟩) hR).trans hcR
  have c4 := (hB.cell (p := ⟨s, 2, none⟩) hs).trans h2
  have him : (i : Int) < (m : Int) := by omega
  have hci := hc i
  by_cases h0 : j + 1 = c i
  · have HL : Hid (hiN n c g i j = n) := if_pos h0
    have g0 : (j : Int) + 1 = (c i : Int) := by omega
    have e1 : ((n : Int) + 1) - 1 = (n : Int) := by omega
    clear hB ht h1 h2 hcR hcq hR hq
    go_enter Try.func41, Try.ntmps41
    go_wp2_with fail
    go_region
    go_wp2
    go_ret
    exact ⟨by rw [HL.out]; try rfl, HB.out.drew⟩
  · have c3 := (hB.cell (p := ⟨q, j + 1, none⟩) hq).trans (hcq (j + 1) (by omega))
    obtain ⟨y, HY⟩ : ∃ y, Hid (y = g i (j + 1)) := ⟨_, rfl⟩
    rw [← HY.out] at c3
    have HL : Hid (hiN n c g i j = y) := by show _ = _; unfold hiN; rw [if_neg h0, HY.out]
    have g0 : ¬ ((j : Int) + 1 = (c i : Int)) := by omega
    have g1 : (((j : Int) + 1) == (c i : Int)) = false := by simp; omega
    have g2 : (j : Int) + 1 < (c i : Int) := by omega
    have g3 : (0 : Int) ≤ (j : Int) + 1 := by omega
    clear hB ht h1 h2 hcR hcq hR hq
    go_enter Try.func41, Try.ntmps41
    go_wp2_with fail
    go_region
    go_wp2
    go_ret
    exact ⟨by rw [HL.out]; rfl, HB.out.drew⟩

set_option maxHeartbeats 4000000 in
theorem mayCome_at (s x n U cu W cw : Nat) (b u : Nat → Nat) (w : World) (h2 : w.cell? ⟨s, 2, none⟩ = some (.slice (some ⟨W, 0, none⟩) (n + 1) cw)) (h3 : w.cell? ⟨s, 3, none⟩ = some (.slice (some ⟨U, 0, none⟩) (n + 1) cu)) (hU : ∀ j, j ≤ n → w.cell? ⟨U, j, none⟩ = some (.int .i64 (u j : Int))) (hW : ∀ j, j ≤ n → w.cell? ⟨W, j, none⟩ = some (.int .i64 (b j : Int))) (hx1 : 1 ≤ x) (hx : x ≤ n) (hn : n ≤ 1000) :
    Calls Try.prog 42 #[.pointer (some ⟨s, 0, none⟩), .int .i64 (x : Int)] w fun e w' => e = .returned (.bool (mayN b u x)) ∧ ∃ k, w' = w.drewN k := by
  have c1 := hU x hx
  have c2 := hW x hx
  obtain ⟨k, HK⟩ : ∃ k, Hid (x = k + 1) := ⟨x - 1, by show _ = _; omega⟩
  have hk := HK.out
  have c3 := hU k (by omega)
  have e1 : (x : Int) - 1 = (k : Int) := by omega
  have l1 : (x : Int) < (n : Int) + 1 := by omega
  have l2 : (k : Int) < (n : Int) + 1 := by omega
  have HM : Hid (mayN b u x = (decide (u x ≠ b x) && (decide (x = 1) || decide (u x < u k)))) := by show _ = _; unfold mayN; rw [show x - 1 = k by omega]
  obtain ⟨p, HPp⟩ : ∃ p, Hid (p = u x) := ⟨_, rfl⟩
  obtain ⟨q, HQ⟩ : ∃ q, Hid (q = b x) := ⟨_, rfl⟩
  obtain ⟨r, HR⟩ : ∃ r, Hid (r = u k) := ⟨_, rfl⟩
  rw [← HPp.out] at c1
  rw [← HQ.out] at c2
  rw [← HR.out] at c3
  rw [← HPp.out, ← HQ.out, ← HR.out] at HM
  clear hU hW hk
  by_cases h0 : p = q
  · subst h0
    go_enter Try.func42, Try.ntmps42
    go_wp2_with fail
    go_region
    go_wp2
    go_ret
    exact ⟨by rw [HM.out]; simp, 1, rfl⟩
  · have n0 : ¬ ((p : Int) = (q : Int)) := by omega
    have n1 : ((p : Int) == (q : Int)) = false := by simp; omega
    by_cases hx1 : x = 1
    · subst hx1
      have m0 : (1 : Int) < (n : Int) + 1 := by omega
      have m1 : ((1 : Nat) : Int) = 1 := rfl
      rw [m1]
      clear l1 e1 l2 m1
      go_enter Try.func42, Try.ntmps42
      go_wp2_with fail
      go_region
      go_wp2_with fail
      go_region
      go_wp2
      go_ret
      exact ⟨by rw [HM.out]; simp [h0], 2, rfl⟩
    · have m0 : ¬ ((x : Int) = 1) := by omega
      have m1 : ((x : Int) == 1) = false := by simp; omega
      go_enter Try.func42, Try.ntmps42
      go_wp2_with fail
      go_region
      go_wp2_with fail
      go_region
      go_wp2
      go_ret
      exact ⟨by rw [HM.out]; simp [h0, hx1], 2, rfl⟩

end Go.Proofs.Ytncokoimbpkapaa
