/-
  The contract of ferref.FromBoxes.
-/
import Derived.Test.YtheebpjkjclgbaaLBox
import Derived.Test.YtheebpjkjclgbaaPChk
namespace Go.Proofs.Ytheebpjkjclgbaa
open Go.RowKit

theorem updS (f : Nat → Int) (j : Nat) (x : Int) : upd f j x j = x := by simp [upd]
theorem updN (f : Nat → Int) {i j : Nat} (x : Int) (h : i ≠ j) : upd f j x i = f i := by simp [upd, h]
/-- The address a shows the pairs ps. -/
def Shows2 (w : World) (a : Option Addr) (ps : List (Int × Int)) : Prop :=
  ps ≠ [] → ∃ g, a = some ⟨g, 0, none⟩ ∧ g < w.heap.size ∧ ∀ j, j < ps.length → w.cell? ⟨g, j * 2, none⟩ = some (.int .i64 (ps.getD j (0, 0)).1) ∧ w.cell? ⟨g, j * 2 + 1, none⟩ = some (.int .i64 (ps.getD j (0, 0)).2)
theorem Shows2.below {w w' : World} {a : Option Addr} {ps : List (Int × Int)} (h : Shows2 w a ps) (hb : Below w.heap.size w w') : Shows2 w' a ps := by
  intro hne
  obtain ⟨g, ha, hlt, hc⟩ := h hne
  exact ⟨g, ha, Nat.lt_of_lt_of_le hlt hb.size, fun j hj => ⟨(hb.cell (p := ⟨g, j * 2, none⟩) hlt).trans (hc j hj).1, (hb.cell (p := ⟨g, j * 2 + 1, none⟩) hlt).trans (hc j hj).2⟩⟩
theorem Owns2.shows {w : World} {base : Nat} {v : Value} {ps : List (Int × Int)} (h : Owns2 w base v ps) : ∃ a cap, v = .slice a ps.length cap ∧ Shows2 w a ps := by
  by_cases hne : 0 < ps.length
  · obtain ⟨g, cap, hv, _, hlt, _, hc⟩ := h.head hne
    exact ⟨_, cap, hv, fun _ => ⟨g, rfl, hlt, hc⟩⟩
  · obtain ⟨a, cap, hv⟩ := h.shape
    exact ⟨a, cap, hv, fun h => absurd (List.eq_nil_of_length_eq_zero (by omega)) h⟩
theorem Shows2.elem {w : World} {a : Option Addr} {ps : List (Int × Int)} (h : Shows2 w a ps) {k : Nat} (hk : k < ps.length) :
    ∃ (g : Nat) (x y : Int), a = some ⟨g, 0, none⟩ ∧ Hid (ps.getD k (0, 0) = (x, y)) ∧ w.cell? ⟨g, k * 2, none⟩ = some (.int .i64 x) ∧ w.cell? ⟨g, k * 2 + 1, none⟩ = some (.int .i64 y) := by
  obtain ⟨g, ha, _, hc⟩ := h (fun e => by subst e; simp at hk)
  exact ⟨g, _, _, ha, rfl, (hc k hk).1, (hc k hk).2⟩

/-- How many rows the first coordinates need; how many are r. -/
def topOf : List (Int × Int) → Nat
  | [] => 0
  | p :: l => max (p.1 + 1).toNat (topOf l)
def inRow (ps : List (Int × Int)) (r : Nat) : Int := ((ps.countP fun p => p.1 == (r : Int) : Nat) : Int)
theorem topOf_snoc (ps : List (Int × Int)) (p : Int × Int) : topOf (ps ++ [p]) = max (topOf ps) (p.1 + 1).toNat := by
  induction ps with
  | nil => simp [topOf]
  | cons q ps ih => simp only [List.cons_append, topOf, ih]; omega
theorem inRow_snoc (ps : List (Int × Int)) (p : Int × Int) (r : Nat) : inRow (ps ++ [p]) r = inRow ps r + if p.1 = (r : Int) then 1 else 0 := by
  unfold inRow
  rw [List.countP_append]
  by_cases h : p.1 = (r : Int) <;> simp [h]
theorem inRow_nonneg (ps : List (Int × Int)) (r : Nat) : 0 ≤ inRow ps r := by unfold inRow; omega
theorem inRow_le (ps : List (Int × Int)) (r : Nat) : inRow ps r ≤ ps.length := by
  unfold inRow; have := List.countP_le_length (p := fun p : Int × Int => p.1 == (r : Int)) (l := ps); omega
theorem inRow_top (ps : List (Int × Int)) (r : Nat) (h : topOf ps ≤ r) : inRow ps r = 0 := by
  induction ps with
  | nil => rfl
  | cons p ps ih =>
    simp only [topOf] at h
    have h1 := ih (by omega)
    unfold inRow at *
    rw [List.countP_cons]
    have hne : p.1 ≠ (r : Int) := by intro e; rw [e] at h; omega
    have hbn : (p.1 == (r : Int)) = false := beq_eq_false_iff_ne.2 hne
    rw [hbn]; simpa using h1
theorem take_snoc2 (ps : List (Int × Int)) (k : Nat) (hk : k < ps.length) : ps.take (k + 1) = ps.take k ++ [ps.getD k (0, 0)] := by
  rw [List.take_succ_eq_append_getElem hk]; simp [List.getD, List.getElem?_eq_getElem hk]
def fromB (ps : List (Int × Int)) : List Int := tab (topOf ps) (inRow ps)

set_option maxHeartbeats 4000000 in
theorem FromBoxes_any (a : Option Addr) (n cap : Nat) (ps : List (Int × Int)) (w : World) (hs : Shows2 w a ps) (hn : Hid (n = ps.length)) (hb : Hid (∀ p ∈ ps, 0 ≤ p.1 ∧ p.1 ≤ 100)) (hl : ps.length ≤ 10000) :
    Calls Try.prog 37 #[.slice a n cap] w fun e w' => ∃ v, e = .returned v ∧ Owns w' w.heap.size v (fromB ps) ∧ Below w.heap.size w w' := by
  obtain rfl := hn.out
  go_enter Try.func37, Try.ntmps37
  go_wp2
  go_loopw [3, 4] (fun v i wr => ∃ k : Nat, k ≤ ps.length ∧ i = .int .i64 k ∧ topOf (ps.take k) ≤ 101 ∧ Hid (Owns wr w.heap.size v (fromB (ps.take k))) ∧ Hid (Below w.heap.size w wr)) (fun _ i _ => ps.length - (intOf i).toNat)
  case atStart => exact ⟨0, Nat.zero_le _, rfl, by simp [topOf], World.ownsRow_nil _ _ _ _, Below.refl _ _⟩
  case round =>
    obtain ⟨k, hk, rfl, htop, HO, HB⟩ := hrel
    by_cases hlt : k < ps.length
    · have hltI : (k : Int) < (ps.length : Int) := by omega
      obtain ⟨gp, x, y, rfl, HP, -, -⟩ := hs.elem hlt
      have hxb : 0 ≤ x ∧ x ≤ 100 := by
        have := hb.out (ps.getD k (0, 0)) (by simp [List.getD, List.getElem?_eq_getElem hlt])
        rw [HP.out] at this; exact this
      obtain ⟨r, rfl⟩ : ∃ r : Nat, x = r := ⟨x.toNat, by omega⟩
      have hr : r ≤ 100 := by omega
      clear hxb
      go_wp2
      go_loopw [3] (fun v wq => ∃ m : Nat, topOf (ps.take k) ≤ m ∧ m ≤ max (topOf (ps.take k)) (r + 1) ∧ Hid (Owns wq w.heap.size v (tab m (inRow (ps.take k)))) ∧ Hid (Below w.heap.size w wq)) (fun v _ => 200 - lenOf v)
      case atStart => exact ⟨_, Nat.le_refl _, by omega, HO, HB⟩
      case round =>
        obtain ⟨m, hm1, hm2, HOm, HBm⟩ := hrel
        obtain ⟨av, cv, hv⟩ := HOm.out.shape
        rw [tab_length] at hv
        subst hv
        obtain ⟨gp', x', y', hgp, HP', hc1, hc2⟩ := (hs.below HBm.out).elem hlt
        simp only [Option.some.injEq, Addr.mk.injEq, and_true] at hgp
        subst hgp
        have hxy : x' = (r : Int) := by have := HP.out; rw [HP'.out] at this; exact (Prod.mk.inj this).1
        subst hxy
        by_cases hmr : m ≤ r
        · have hmrI : (m : Int) ≤ (r : Int) := by omega
          have hsz := HBm.out.size
          go_wp2_with (at_builtin; refine append_int (x := 0) rfl _ _ rfl rfl HOm.out rfl ?c1 ?c2 ?_)
          case c1 => rw [tab_length]; omega
          case c2 => exact hsz
          intro v' w2 hown hb2
          have HS : Hid (Owns w2 w.heap.size v' (tab (m + 1) (inRow (ps.take k)))) := by
            show Owns _ _ _ _
            rw [tab_succ, inRow_top _ _ hm1]; exact hown
          have HB2 : Hid (Below w.heap.size w w2) := HBm.out.trans hb2
          clear hown hb2
          obtain ⟨av2, cv2, hv2⟩ := HS.out.shape
          rw [tab_length] at hv2
          subst hv2
          go_wp2
          go_roundw
          case rel => exact ⟨m + 1, by omega, by omega, HS, HB2⟩
          case measure => simp [lenOf] <;> omega
        · have hmrI : decide ((m : Int) ≤ (r : Int)) = false := by simp; omega
          have hrm : (r : Int) < (m : Int) := by omega
          have hrm' : r < m := by omega
          obtain ⟨g, cp, hv3, hgB, hglt, -, -⟩ := HOm.out.head (by rw [tab_length]; omega)
          rw [tab_length] at hv3
          simp only [Value.slice.injEq] at hv3
          obtain ⟨rfl, -, rfl⟩ := hv3
          obtain ⟨hf0, hc0⟩ := HOm.out.tabAt hrm'
          have hi1 := inRow_nonneg (ps.take k) r
          have hi2 := inRow_le (ps.take k) r
          rw [List.length_take] at hi2
          obtain ⟨z, HZ⟩ : ∃ z, Hid (z = inRow (ps.take k) r) := ⟨_, rfl⟩
          rw [← HZ.out] at hc0 hi1 hi2
          have HS : Hid (Owns (wr.setCell ⟨g, r, none⟩ (.int .i64 (z + 1))) w.heap.size (.slice (some ⟨g, 0, none⟩) m cv) (fromB (ps.take (k + 1)))) := by
            show Owns _ _ _ _
            have h1 := HOm.out.tabStore r (z + 1)
            have e : fromB (ps.take (k + 1)) = tab m (upd (inRow (ps.take k)) r (z + 1)) := by
              unfold fromB
              have hmm : topOf (ps.take (k + 1)) = m := by
                rw [take_snoc2 ps k hlt, HP.out, topOf_snoc]
                show max _ ((r : Int) + 1).toNat = m
                omega
              rw [hmm]
              refine tab_congr (fun j _ => ?_)
              rw [take_snoc2 ps k hlt, HP.out, inRow_snoc]
              by_cases hjr : j = r
              · subst hjr; rw [updS, if_pos rfl, HZ.out]
              · rw [updN _ _ hjr, if_neg (by intro h; exact hjr (by have : (r : Int) = (j : Int) := h; omega))]; omega
            rw [e]; exact h1
          have htop2 : topOf (ps.take (k + 1)) ≤ 101 := by
            rw [take_snoc2 ps k hlt, HP.out, topOf_snoc]
            show max _ ((r : Int) + 1).toNat ≤ 101
            omega
          go_wp2
          go_roundw
          case rel => exact ⟨k + 1, by omega, by go_num, htop2, HS, HBm.out.setCell hgB _⟩
          case measure => simp [intOf] <;> omega
    · obtain rfl : k = ps.length := by omega
      rw [List.take_length] at HO
      go_wp2
      go_ret
      exact ⟨_, rfl, HO.out, HB.out⟩

end Go.Proofs.Ytheebpjkjclgbaa
