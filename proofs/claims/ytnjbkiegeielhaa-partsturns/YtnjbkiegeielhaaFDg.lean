/-
  The contract of ferref.FromDiagonal.
-/
import Derived.Test.YtnjbkiegeielhaaDMath
namespace Go.Proofs.Ytnjbkiegeielhaa
open Go.RowKit

/-- The hook at (i, i): the box, its arm, its leg. -/
def hookB (i a b : Nat) : List (Int × Int) := [((i : Int), (i : Int))] ++ (List.range a).map (fun (t : Nat) => ((i : Int), (i : Int) + ((t : Int) + 1))) ++ (List.range b).map (fun (t : Nat) => ((i : Int) + ((t : Int) + 1), (i : Int)))
def hooksTo (xs ys : List Int) : Nat → List (Int × Int)
  | 0 => []
  | k + 1 => hooksTo xs ys k ++ hookB k (xs.getD k 0).toNat (ys.getD k 0).toNat

theorem topOf_arm (i : Nat) : ∀ a, topOf ((List.range a).map (fun (t : Nat) => ((i : Int), (i : Int) + ((t : Int) + 1)))) ≤ i + 1 := by
  intro a
  induction a with
  | zero => simp [topOf]
  | succ a ih => rw [List.range_succ, List.map_append, topOf_append]; simp only [List.map_cons, List.map_nil, topOf]; omega
theorem topOf_leg (i : Nat) : ∀ b, topOf ((List.range b).map (fun (t : Nat) => ((i : Int) + ((t : Int) + 1), (i : Int)))) = if b = 0 then 0 else i + b + 1 := by
  intro b
  induction b with
  | zero => rfl
  | succ b ih =>
    rw [List.range_succ, List.map_append, topOf_append, ih]
    simp only [List.map_cons, List.map_nil, topOf]
    rw [if_neg (show ¬ b + 1 = 0 by omega)]
    split <;> omega
theorem topOf_hook (i a b : Nat) : topOf (hookB i a b) = i + b + 1 := by
  unfold hookB
  rw [topOf_append, topOf_append, topOf_leg]
  have := topOf_arm i a
  simp only [topOf]
  split <;> omega
theorem inRow_arm (i r : Nat) : ∀ a, inRow ((List.range a).map (fun (t : Nat) => ((i : Int), (i : Int) + ((t : Int) + 1)))) r = if r = i then (a : Int) else 0 := by
  intro a
  induction a with
  | zero => show (0 : Int) = _; split <;> rfl
  | succ a ih =>
    rw [List.range_succ, List.map_append, inRow_append, ih]
    simp only [List.map_cons, List.map_nil]
    rw [inRow_cons]
    show _ + (0 + _) = _
    by_cases h : r = i
    · subst h; rw [if_pos rfl, if_pos rfl, if_pos rfl]; omega
    · rw [if_neg h, if_neg h, if_neg (show ¬ (i : Int) = (r : Int) by omega)]; rfl
theorem inRow_leg (i r : Nat) : ∀ b, inRow ((List.range b).map (fun (t : Nat) => ((i : Int) + ((t : Int) + 1), (i : Int)))) r = if i < r ∧ r ≤ i + b then 1 else 0 := by
  intro b
  induction b with
  | zero => show (0 : Int) = _; rw [if_neg (by omega)]
  | succ b ih =>
    rw [List.range_succ, List.map_append, inRow_append, ih]
    simp only [List.map_cons, List.map_nil]
    rw [inRow_cons]
    show _ + (0 + (if (i : Int) + ((b : Int) + 1) = (r : Int) then 1 else 0)) = _
    by_cases h : i < r ∧ r ≤ i + b
    · rw [if_pos h, if_neg (by omega), if_pos (by omega)]; rfl
    · rw [if_neg h]
      by_cases h2 : r = i + b + 1
      · rw [if_pos (by omega), if_pos (by omega)]; rfl
      · rw [if_neg (by omega), if_neg (by omega)]; rfl
theorem inRow_hook (i a b r : Nat) : inRow (hookB i a b) r = (if r = i then (a : Int) + 1 else 0) + (if i < r ∧ r ≤ i + b then 1 else 0) := by
  unfold hookB
  rw [inRow_append, inRow_append, inRow_arm, inRow_leg, inRow_cons]
  show (0 + (if (i : Int) = (r : Int) then 1 else 0)) + _ + _ = _
  by_cases h : r = i
  · subst h; rw [if_pos rfl, if_pos rfl, if_pos rfl]; omega
  · rw [if_neg h, if_neg h, if_neg (show ¬ (i : Int) = (r : Int) by omega)]; omega
theorem hookB_length (i a b : Nat) : (hookB i a b).length = a + b + 1 := by simp [hookB]

theorem hooks_rows {xs ys : List Int} (hx : ∀ i, 0 ≤ xs.getD i 0) (hy : Goes 0 1 ys) (hl : xs.length = ys.length) : ∀ k, k ≤ xs.length → (topOf (hooksTo xs ys k) = if k = 0 then 0 else (ys.getD 0 0 + 1).toNat) ∧ ∀ r, inRow (hooksTo xs ys k) r = ffv xs ys k r := by
  intro k
  induction k with
  | zero => intro _; exact ⟨rfl, fun r => rfl⟩
  | succ k ih =>
    intro hk
    obtain ⟨i1, i2⟩ := ih (by omega)
    have hy0 : 0 ≤ ys.getD k 0 := hy.nonneg _ (getD_mem (by omega))
    have hf := hy.fall k 0 (by omega)
    rw [Nat.zero_add] at hf
    have hx0 := hx k
    refine ⟨?_, fun r => ?_⟩
    · rw [hooksTo, topOf_append, i1, topOf_hook, if_neg (show ¬ k + 1 = 0 by omega)]
      by_cases h0 : k = 0
      · subst h0; rw [if_pos rfl]; omega
      · rw [if_neg h0]; omega
    · rw [hooksTo, inRow_append, i2, inRow_hook, ffv]
      have e1 : ((xs.getD k 0).toNat : Int) = xs.getD k 0 := by omega
      rw [e1]
      by_cases h : k < r ∧ (r : Int) ≤ k + ys.getD k 0
      · rw [if_pos h, if_pos (show k < r ∧ r ≤ k + (ys.getD k 0).toNat by omega)]; omega
      · rw [if_neg h, if_neg (show ¬ (k < r ∧ r ≤ k + (ys.getD k 0).toNat) by omega)]; omega
theorem fromB_hooks {xs ys : List Int} (hx : ∀ i, 0 ≤ xs.getD i 0) (hy : Goes 0 1 ys) (hl : xs.length = ys.length) : fromB (hooksTo xs ys xs.length) = fromF xs ys := by
  obtain ⟨h1, h2⟩ := hooks_rows hx hy hl xs.length (Nat.le_refl _)
  unfold fromB fromF
  rw [h1]
  by_cases h0 : xs.length = 0
  · rw [if_pos h0, if_pos h0]; rfl
  · rw [if_neg h0, if_neg h0]
    exact tab_congr (fun j _ => h2 j)
theorem hooks_len {xs ys : List Int} (hx : ∀ i, 0 ≤ xs.getD i 0 ∧ xs.getD i 0 ≤ 40) (hy : ∀ i, 0 ≤ ys.getD i 0 ∧ ys.getD i 0 ≤ 40) : ∀ k, (hooksTo xs ys k).length ≤ 81 * k ∧ ∀ p ∈ hooksTo xs ys k, 0 ≤ p.1 ∧ p.1 ≤ k + 40 := by
  intro k
  induction k with
  | zero => exact ⟨by simp [hooksTo], fun p hp => by cases hp⟩
  | succ k ih =>
    have h1 := hx k
    have h2 := hy k
    refine ⟨by rw [hooksTo, List.length_append, hookB_length]; omega, fun p hp => ?_⟩
    rw [hooksTo, List.mem_append] at hp
    rcases hp with hp | hp
    · have := ih.2 p hp; omega
    · unfold hookB at hp
      simp only [List.mem_append, List.mem_singleton, List.mem_map, List.mem_range] at hp
      rcases hp with (hp | ⟨t, ht, hp⟩) | ⟨t, ht, hp⟩
      · subst hp; simp; omega
      · subst hp; simp; omega
      · subst hp; simp; omega

theorem ffr_bad {xs ys q : List Int} {c : Int} (h : FFR xs ys c q) (hb : ¬ (xs.length = ys.length ∧ Goes 0 1 xs ∧ Goes 0 1 ys)) : c = 1 ∧ q = [] := by
  rcases h with ⟨_, hc, hq⟩ | ⟨h1, h2, h3, _⟩ | ⟨h1, h2, h3, _⟩
  · exact ⟨hc, hq⟩
  · exact absurd ⟨h1, h2, h3⟩ hb
  · exact absurd ⟨h1, h2, h3⟩ hb
theorem ffr_large {xs ys q : List Int} {c : Int} (h : FFR xs ys c q) (h1 : xs.length = ys.length) (h2 : Goes 0 1 xs) (h3 : Goes 0 1 ys) (hL : ¬ (xs.length : Int) + sum xs + sum ys ≤ 40) : c = 2 ∧ q = [] := by
  rcases h with ⟨hb, _⟩ | ⟨_, _, _, _, hc, hq⟩ | ⟨_, _, _, h4, _⟩
  · exact absurd ⟨h1, h2, h3⟩ hb
  · exact ⟨hc, hq⟩
  · exact absurd h4 hL
theorem ffr_ok {xs ys q : List Int} {c : Int} (h : FFR xs ys c q) (h1 : xs.length = ys.length) (h2 : Goes 0 1 xs) (h3 : Goes 0 1 ys) (hL : (xs.length : Int) + sum xs + sum ys ≤ 40) : c = 0 ∧ q = fromF xs ys := by
  rcases h with ⟨hb, _⟩ | ⟨_, _, _, h4, _⟩ | ⟨_, _, _, _, hc, hq⟩
  · exact absurd ⟨h1, h2, h3⟩ hb
  · exact absurd hL h4
  · exact ⟨hc, hq⟩
theorem hookSum_mono (xs ys : List Int) (hx : ∀ i, 0 ≤ xs.getD i 0) (hy : ∀ i, 0 ≤ ys.getD i 0) (k : Nat) : ∀ d, hookSum xs ys k ≤ hookSum xs ys (k + d) := by
  intro d
  induction d with
  | zero => exact Int.le_refl _
  | succ d ih => rw [← Nat.add_assoc, hookSum]; have := hx (k + d); have := hy (k + d); omega
theorem getD_nn {zs : List Int} (h : ∀ z ∈ zs, 0 ≤ z) (i : Nat) : 0 ≤ zs.getD i 0 := by
  by_cases hi : i < zs.length
  · exact h _ (getD_mem hi)
  · simp [List.getD, List.getElem?_eq_none (show zs.length ≤ i by omega)]

def armL (i a : Nat) : List (Int × Int) := (List.range a).map fun (t : Nat) => ((i : Int), (i : Int) + ((t : Int) + 1))
def legL (i b : Nat) : List (Int × Int) := (List.range b).map fun (t : Nat) => ((i : Int) + ((t : Int) + 1), (i : Int))
theorem armL_succ (i a : Nat) : armL i (a + 1) = armL i a ++ [((i : Int), (i : Int) + ((a + 1 : Nat) : Int))] := by simp [armL, List.range_succ]
theorem legL_succ (i b : Nat) : legL i (b + 1) = legL i b ++ [((i : Int) + ((b + 1 : Nat) : Int), (i : Int))] := by simp [legL, List.range_succ]
theorem hookB_eq (i a b : Nat) : hookB i a b = [((i : Int), (i : Int))] ++ armL i a ++ legL i b := rfl
theorem armL_length (i a : Nat) : (armL i a).length = a := by simp [armL]
theorem legL_length (i b : Nat) : (legL i b).length = b := by simp [legL]

set_option maxHeartbeats 1000000 in
theorem FD_len (a b : Option Addr) (ca cb : Nat) (xs ys : List Int) (w : World) (hs : Shows w a xs) (ht : Shows w b ys) (h : xs.length ≠ ys.length) :
    Calls Try.prog 16 #[.slice a xs.length ca, .slice b ys.length cb] w fun e w' => e = .returned (.tuple #[.slice none 0 0, .int .i64 1]) ∧ w' = w := by
  have hl := hs.len
  have hl2 := ht.len
  have hb : ((xs.length : Int) != (ys.length : Int)) = true := bne_iff_ne.2 (by omega)
  go_enter Try.func16, Try.ntmps16
  go_wp2
  go_ret2
  exact ⟨rfl, rfl⟩

set_option maxRecDepth 100000 in
set_option maxHeartbeats 16000000 in
theorem FD_eq (a b : Option Addr) (ca cb : Nat) (xs ys q : List Int) (c : Int) (w : World) (hs : Shows w a xs) (ht : Shows w b ys) (hlen : Hid (xs.length = ys.length)) (hr : Hid (FFR xs ys c q)) :
    Calls Try.prog 16 #[.slice a xs.length ca, .slice b ys.length cb] w fun e w' => ∃ v, e = .returned (.tuple #[v, .int .i64 c]) ∧ Owns w' w.heap.size v q ∧ Below w.heap.size w w' := by
  have hl := hs.len
  have hb : ((xs.length : Int) != (ys.length : Int)) = false := by rw [hlen.out]; simp
  go_enter Try.func16, Try.ntmps16
  go_wp2
  go_loopw [6] (fun i wr => ∃ k : Nat, k ≤ xs.length ∧ i = .int .i64 k ∧ Hid (∀ j, j < k → stepOk 0 1 xs j ∧ stepOk 0 1 ys j) ∧ ∃ n, wr = w.drewN n) (fun i _ => xs.length - (intOf i).toNat)
  case atStart => exact ⟨0, Nat.zero_le _, rfl, fun j hj => by omega, 0, rfl⟩
  case round =>
    obtain ⟨k, hk, rfl, HR, n, rfl⟩ := hrel
    by_cases hlt : k < xs.length
    · have hlty : k < ys.length := by have := hlen.out; omega
      have hltI : (k : Int) < (xs.length : Int) := by omega
      have hltyI : (k : Int) < (ys.length : Int) := by omega
      rcases Nat.eq_zero_or_pos k with rfl | hpos
      · obtain ⟨bx, ox, x, rfl, HX, -, -, hcx⟩ := hs.elem hlt
        obtain ⟨by1, oy, y, rfl, HY, -, -, hcy⟩ := ht.elem hlty
        rw [Nat.add_zero] at hcx hcy
        by_cases h1 : x < 0
        · go_wp2_with fail
          go_quiet (fail)
          go_wp2_with fail
          go_ret2
          obtain ⟨rfl, rfl⟩ := ffr_bad hr.out (fun hh => by have := (hh.2.1 0 hlt).1; rw [← HX.out] at this; omega)
          exact ⟨_, rfl, World.ownsRow_nil _ _ _ _, below_drewN (below_drewN (Below.refl _ _) _) _⟩
        · have d1 : decide (x < 0) = false := by simp; omega
          by_cases h2 : y < 0
          · go_wp2_with fail
            go_quiet (fail)
            go_wp2_with fail
            go_ret2
            obtain ⟨rfl, rfl⟩ := ffr_bad hr.out (fun hh => by have := (hh.2.2 0 hlty).1; rw [← HY.out] at this; omega)
            exact ⟨_, rfl, World.ownsRow_nil _ _ _ _, below_drewN (below_drewN (Below.refl _ _) _) _⟩
          · have d2 : decide (y < 0) = false := by simp; omega
            go_wp2_with fail
            go_quiet (fail)
            go_wp2_with fail
            go_roundw
            case rel => exact ⟨1, by omega, by go_num, fun j hj => by obtain rfl : j = 0 := (by omega); exact ⟨⟨by rw [← HX.out]; omega, fun h0 => by omega⟩, ⟨by rw [← HY.out]; omega, fun h0 => by omega⟩⟩, _, by first | exact rfl | exact drewN_two _ _ _⟩
            case measure => simp [intOf] <;> omega
      · obtain ⟨m, rfl⟩ : ∃ m, k = m + 1 := ⟨k - 1, by omega⟩
        obtain ⟨bx, ox, x, x0, rfl, HX, HX0, -, -, -, -, hcx, hcx0⟩ := hs.elem2 hlt (show m < xs.length by omega)
        obtain ⟨by1, oy, y, y0, rfl, HY, HY0, -, -, -, -, hcy, hcy0⟩ := ht.elem2 hlty (show m < ys.length by omega)
        have hm0 : (0 : Int) < ((m + 1 : Nat) : Int) := by omega
        have hmx : (m : Int) < (xs.length : Int) := by omega
        have hmy : (m : Int) < (ys.length : Int) := by omega
        by_cases h1 : x < 0
        · go_wp2_with fail
          go_quiet (fail)
          go_wp2_with fail
          go_ret2
          obtain ⟨rfl, rfl⟩ := ffr_bad hr.out (fun hh => by have := (hh.2.1 (m + 1) hlt).1; rw [← HX.out] at this; omega)
          exact ⟨_, rfl, World.ownsRow_nil _ _ _ _, below_drewN (below_drewN (Below.refl _ _) _) _⟩
        · have d1 : decide (x < 0) = false := by simp; omega
          by_cases h2 : y < 0
          · go_wp2_with fail
            go_quiet (fail)
            go_wp2_with fail
            go_ret2
            obtain ⟨rfl, rfl⟩ := ffr_bad hr.out (fun hh => by have := (hh.2.2 (m + 1) hlty).1; rw [← HY.out] at this; omega)
            exact ⟨_, rfl, World.ownsRow_nil _ _ _ _, below_drewN (below_drewN (Below.refl _ _) _) _⟩
          · have d2 : decide (y < 0) = false := by simp; omega
            by_cases h3 : x0 ≤ x
            · go_wp2_with fail
              go_quiet (fail)
              go_wp2_with fail
              go_ret2
              obtain ⟨rfl, rfl⟩ := ffr_bad hr.out (fun hh => by have := (hh.2.1 (m + 1) hlt).2 (by omega); rw [← HX.out, Nat.add_sub_cancel, ← HX0.out] at this; omega)
              exact ⟨_, rfl, World.ownsRow_nil _ _ _ _, below_drewN (below_drewN (Below.refl _ _) _) _⟩
            · have d3 : decide (x0 ≤ x) = false := by simp; omega
              by_cases h4 : y0 ≤ y
              · go_wp2_with fail
                go_quiet (fail)
                go_wp2_with fail
                go_ret2
                obtain ⟨rfl, rfl⟩ := ffr_bad hr.out (fun hh => by have := (hh.2.2 (m + 1) hlty).2 (by omega); rw [← HY.out, Nat.add_sub_cancel, ← HY0.out] at this; omega)
                exact ⟨_, rfl, World.ownsRow_nil _ _ _ _, below_drewN (below_drewN (Below.refl _ _) _) _⟩
              · have d4 : decide (y0 ≤ y) = false := by simp; omega
                go_wp2_with fail
                go_quiet (fail)
                go_wp2_with fail
                go_roundw
                case rel => exact ⟨m + 2, by omega, by go_num, fun j hj => by
                              by_cases hj' : j < m + 1
                              · exact HR.out j hj'
                              · obtain rfl : j = m + 1 := by omega
                                exact ⟨⟨by rw [← HX.out]; omega, fun h0 => by rw [← HX.out, Nat.add_sub_cancel, ← HX0.out]; omega⟩, ⟨by rw [← HY.out]; omega, fun h0 => by rw [← HY.out, Nat.add_sub_cancel, ← HY0.out]; omega⟩⟩, _, by first | exact rfl | exact drewN_two _ _ _⟩
                case measure => simp [intOf] <;> omega
    · obtain rfl : k = xs.length := by omega
      have HGx : Hid (Goes 0 1 xs) := fun j hj => (HR.out j hj).1
      have HGy : Hid (Goes 0 1 ys) := fun j hj => (HR.out j (by have := hlen.out; omega)).2
      have HXn : Hid (∀ i, 0 ≤ xs.getD i 0) := getD_nn HGx.out.nonneg
      have HYn : Hid (∀ i, 0 ≤ ys.getD i 0) := getD_nn HGy.out.nonneg
      have HTot : Hid (hookSum xs ys xs.length = (xs.length : Int) + sum xs + sum ys) := hookSum_eq xs ys hlen.out
      have hdk : decide ((xs.length : Int) < (xs.length : Int)) = false := by simp
      clear HR
      go_wp2_with fail
      go_loopw [7, 8] (fun s i wr => ∃ (j : Nat) (x : Int), j ≤ xs.length ∧ i = .int .i64 j ∧ s = .int .i64 x ∧ 0 ≤ x ∧ x ≤ 121 ∧ Hid (x = hookSum xs ys j) ∧ ∃ n, wr = w.drewN n) (fun _ i _ => xs.length - (intOf i).toNat)
      case atStart => exact ⟨0, 0, Nat.zero_le _, rfl, rfl, by omega, by omega, rfl, _, rfl⟩
      case round =>
        obtain ⟨j, S, hj, rfl, rfl, hS0, hS1, HS, n, rfl⟩ := hrel
        have hmono : Hid (hookSum xs ys j ≤ hookSum xs ys xs.length) := by
          have := hookSum_mono xs ys HXn.out HYn.out j (xs.length - j)
          rwa [show j + (xs.length - j) = xs.length by omega] at this
        by_cases hjl : j < xs.length
        · have hjly : j < ys.length := by have := hlen.out; omega
          have hjI : (j : Int) < (xs.length : Int) := by omega
          have hjyI : (j : Int) < (ys.length : Int) := by omega
          obtain ⟨bx, ox, x, rfl, HX, -, -, hcx⟩ := hs.elem hjl
          obtain ⟨by1, oy, y, rfl, HY, -, -, hcy⟩ := ht.elem hjly
          have hx0 : 0 ≤ x := by rw [HX.out]; exact HXn.out j
          have hy0 : 0 ≤ y := by rw [HY.out]; exact HYn.out j
          have hmono2 : Hid (S + (x + 1) + y ≤ hookSum xs ys xs.length) := by
            have := hookSum_mono xs ys HXn.out HYn.out (j + 1) (xs.length - (j + 1))
            rw [show j + 1 + (xs.length - (j + 1)) = xs.length by omega, hookSum, ← HS.out, ← HX.out, ← HY.out] at this
            exact this
          have hbig : Hid (40 < S + (x + 1) + y → c = 2 ∧ q = []) := fun h => ffr_large hr.out hlen.out HGx.out HGy.out (by have := HTot.out; have := hmono2.out; omega)
          by_cases h1 : 40 < x
          · go_wp2_with fail
            go_ret2
            obtain ⟨rfl, rfl⟩ := hbig.out (by omega)
            exact ⟨_, rfl, World.ownsRow_nil _ _ _ _, by first | exact below_drewN (Below.refl _ _) _ | exact below_drewN (below_drewN (Below.refl _ _) _) _⟩
          · have d1 : decide (40 < x) = false := by simp; omega
            by_cases h2 : 40 < y
            · go_wp2_with fail
              go_ret2
              obtain ⟨rfl, rfl⟩ := hbig.out (by omega)
              exact ⟨_, rfl, World.ownsRow_nil _ _ _ _, by first | exact below_drewN (Below.refl _ _) _ | exact below_drewN (below_drewN (Below.refl _ _) _) _⟩
            · have d2 : decide (40 < y) = false := by simp; omega
              by_cases h3 : 40 < S
              · go_wp2_with fail
                go_ret2
                obtain ⟨rfl, rfl⟩ := hbig.out (by omega)
                exact ⟨_, rfl, World.ownsRow_nil _ _ _ _, by first | exact below_drewN (Below.refl _ _) _ | exact below_drewN (below_drewN (Below.refl _ _) _) _⟩
              · have d3 : decide (40 < S) = false := by simp; omega
                have hw1 : IntKind.i64.wrap (x + y) = x + y := by rw [IntWalk.i64_left, IntWalk.wrap64_in _ (by omega)]
                have hw2 : IntKind.i64.wrap (x + y + 1) = x + y + 1 := by rw [IntWalk.i64_left, IntWalk.wrap64_in _ (by omega)]
                have hw3 : IntKind.i64.wrap (S + (x + y + 1)) = S + (x + y + 1) := by rw [IntWalk.i64_left, IntWalk.wrap64_in _ (by omega)]
                go_wp2_with fail
                go_quiet (fail)
                go_wp2_with fail
                go_roundw
                case rel => exact ⟨j + 1, S + (x + y + 1), by omega, by go_num, by go_num, by omega, by omega, by show _ = _; rw [hookSum, ← HS.out, ← HX.out, ← HY.out]; omega, _, by first | exact rfl | exact drewN_two _ _ _⟩
                case measure => simp [intOf] <;> omega
        · obtain rfl : j = xs.length := by omega
          by_cases hbig : 40 < S
          · go_wp2_with fail
            go_ret2
            obtain ⟨rfl, rfl⟩ := ffr_large hr.out hlen.out HGx.out HGy.out (by have := HTot.out; have := HS.out; omega)
            exact ⟨_, rfl, World.ownsRow_nil _ _ _ _, by first | exact below_drewN (Below.refl _ _) _ | exact below_drewN (below_drewN (Below.refl _ _) _) _⟩
          · have hok := ffr_ok hr.out hlen.out HGx.out HGy.out (by have := HTot.out; have := HS.out; omega)
            have HOK : Hid _ := hok
            have hsum : (xs.length : Int) + sum xs + sum ys ≤ 40 := by have := HTot.out; have := HS.out; omega
            have n1 := sum_nonneg HGx.out.nonneg
            have n2 := sum_nonneg HGy.out.nonneg
            have HXB : Hid (∀ i, 0 ≤ xs.getD i 0 ∧ xs.getD i 0 ≤ 40) := bound_of_sum HGx.out.nonneg (by omega)
            have HYB : Hid (∀ i, 0 ≤ ys.getD i 0 ∧ ys.getD i 0 ≤ 40) := bound_of_sum HGy.out.nonneg (by omega)
            have hl40 : xs.length ≤ 40 := by omega
            have dS : decide (40 < S) = false := by simp; omega
            clear hok hsum
            go_wp2_with fail
            go_loopw [9, 10] (fun v i wr => ∃ t : Nat, t ≤ xs.length ∧ i = .int .i64 t ∧ Hid (Owns2 wr w.heap.size v (hooksTo xs ys t)) ∧ Hid (Below w.heap.size w wr)) (fun _ i _ => xs.length - (intOf i).toNat)
            case atStart => exact ⟨0, Nat.zero_le _, rfl, World.ownsRow_nil _ _ _ _, by first | exact below_drewN (Below.refl _ _) _ | exact below_drewN (below_drewN (Below.refl _ _) _) _⟩
            case round =>
              obtain ⟨t, htl, rfl, HO, HB⟩ := hrel
              by_cases htlt : t < xs.length
              · have htI : (t : Int) < (xs.length : Int) := by omega
                have htly : t < ys.length := by have := hlen.out; omega
                have htyI : (t : Int) < (ys.length : Int) := by omega
                have hxt := HXB.out t
                have hyt := HYB.out t
                obtain ⟨A, HA⟩ : ∃ A : Nat, Hid (xs.getD t 0 = A) := ⟨(xs.getD t 0).toNat, by show _ = _; omega⟩
                obtain ⟨B, HBb⟩ : ∃ B : Nat, Hid (ys.getD t 0 = B) := ⟨(ys.getD t 0).toNat, by show _ = _; omega⟩
                rw [HA.out] at hxt
                rw [HBb.out] at hyt
                have hA40 : A ≤ 40 := by omega
                have hB40 : B ≤ 40 := by omega
                have hHl := (hooks_len HXB.out HYB.out t).1
                have hsz := HB.out.size
                go_wp2_with (at_builtin; refine append_pair (x := (t : Int)) (y := (t : Int)) rfl _ _ rfl rfl HO.out rfl ?c1 ?c2 ?_)
                case c1 => omega
                case c2 => exact hsz
                intro v1 w1 hown1 hb1
                have HO1 : Hid (Owns2 w1 w.heap.size v1 (hooksTo xs ys t ++ [((t : Int), (t : Int))] ++ armL t 0)) := by
                  show Owns2 _ _ _ _
                  have := hown1
                  simpa [armL] using this
                have HB1 : Hid (Below w.heap.size w w1) := HB.out.trans hb1
                clear hown1 hb1
                go_wp2_with fail
                go_loopw [9, 11] (fun v i wr => ∃ r : Nat, 1 ≤ r ∧ r ≤ A + 1 ∧ i = .int .i64 r ∧ Hid (Owns2 wr w.heap.size v (hooksTo xs ys t ++ [((t : Int), (t : Int))] ++ armL t (r - 1))) ∧ Hid (Below w.heap.size w wr)) (fun _ i _ => A + 1 - (intOf i).toNat)
                case atStart => exact ⟨1, by omega, by omega, rfl, HO1, HB1⟩
                case round =>
                  obtain ⟨r, hr1, hr2, rfl, HOr, HBr⟩ := hrel
                  obtain ⟨bx, ox, x, rfl, HX, -, -, hcx⟩ := (hs.below HBr.out).elem htlt
                  obtain rfl : x = A := by rw [HX.out, HA.out]
                  by_cases hrA : r ≤ A
                  · have hrI : (r : Int) ≤ (A : Int) := by omega
                    have hszr := HBr.out.size
                    go_wp2_with (at_builtin; refine append_pair (x := (t : Int)) (y := (t : Int) + (r : Int)) rfl _ _ rfl rfl HOr.out rfl ?d1 ?d2 ?_)
                    case d1 => rw [List.length_append, List.length_append, armL_length]; simp; omega
                    case d2 => exact hszr
                    intro v2 w2 hown2 hb2
                    have HO2 : Hid (Owns2 w2 w.heap.size v2 (hooksTo xs ys t ++ [((t : Int), (t : Int))] ++ armL t (r + 1 - 1))) := by
                      show Owns2 _ _ _ _
                      rw [show r + 1 - 1 = (r - 1) + 1 by omega, armL_succ, show r - 1 + 1 = r by omega]
                      simpa using hown2
                    have HB2 : Hid (Below w.heap.size w w2) := HBr.out.trans hb2
                    clear hown2 hb2
                    go_wp2_with fail
                    go_roundw
                    case rel => exact ⟨r + 1, by omega, by omega, by go_num, HO2, HB2⟩
                    case measure => simp [intOf] <;> omega
                  · obtain rfl : r = A + 1 := by omega
                    have drA : decide (((A + 1 : Nat) : Int) ≤ (A : Int)) = false := by simp; omega
                    have HO3 : Hid (Owns2 wr w.heap.size u9 (hooksTo xs ys t ++ [((t : Int), (t : Int))] ++ armL t A ++ legL t 0)) := by
                      show Owns2 _ _ _ _
                      have := HOr.out
                      rw [Nat.add_sub_cancel] at this
                      simpa [legL] using this
                    go_wp2_with fail
                    go_loopw [9, 12] (fun v i wr => ∃ r : Nat, 1 ≤ r ∧ r ≤ B + 1 ∧ i = .int .i64 r ∧ Hid (Owns2 wr w.heap.size v (hooksTo xs ys t ++ [((t : Int), (t : Int))] ++ armL t A ++ legL t (r - 1))) ∧ Hid (Below w.heap.size w wr)) (fun _ i _ => B + 1 - (intOf i).toNat)
                    case atStart => exact ⟨1, by omega, by omega, rfl, HO3, HBr⟩
                    case round =>
                      obtain ⟨r, hq1, hq2, rfl, HOs, HBs⟩ := hrel
                      obtain ⟨by1, oy, y, rfl, HY, -, -, hcy⟩ := (ht.below HBs.out).elem htly
                      obtain rfl : y = B := by rw [HY.out, HBb.out]
                      by_cases hrB : r ≤ B
                      · have hrBI : (r : Int) ≤ (B : Int) := by omega
                        have hszs := HBs.out.size
                        go_wp2_with (at_builtin; refine append_pair (x := (t : Int) + (r : Int)) (y := (t : Int)) rfl _ _ rfl rfl HOs.out rfl ?e1 ?e2 ?_)
                        case e1 => rw [List.length_append, List.length_append, List.length_append, armL_length, legL_length]; simp; omega
                        case e2 => exact hszs
                        intro v4 w4 hown4 hb4
                        have HO4 : Hid (Owns2 w4 w.heap.size v4 (hooksTo xs ys t ++ [((t : Int), (t : Int))] ++ armL t A ++ legL t (r + 1 - 1))) := by
                          show Owns2 _ _ _ _
                          rw [show r + 1 - 1 = (r - 1) + 1 by omega, legL_succ, show r - 1 + 1 = r by omega]
                          simpa using hown4
                        have HB4 : Hid (Below w.heap.size w w4) := HBs.out.trans hb4
                        clear hown4 hb4
                        go_wp2_with fail
                        go_roundw
                        case rel => first | exact ⟨r + 1, by omega, by omega, by go_num, HO4, HB4⟩ | ((repeat apply Exists.intro); exact ⟨⟨r + 1, by omega, by omega, by go_num, HO4, HB4⟩, rfl⟩)
                        case measure => simp [intOf] <;> omega
                      · obtain rfl : r = B + 1 := by omega
                        have drB : decide (((B + 1 : Nat) : Int) ≤ (B : Int)) = false := by simp; omega
                        have HO5 : Hid (Owns2 wr w.heap.size u9 (hooksTo xs ys (t + 1))) := by
                          show Owns2 _ _ _ _
                          have := HOs.out
                          rw [Nat.add_sub_cancel] at this
                          rw [hooksTo, hookB_eq, HA.out, HBb.out, Int.toNat_natCast, Int.toNat_natCast]
                          simpa using this
                        go_wp2_with fail
                        go_roundw
                        case rel => exact ⟨t + 1, by omega, by go_num, HO5, HBs⟩
                        case measure => simp [intOf] <;> omega
              · obtain rfl : t = xs.length := by omega
                have hHl := hooks_len HXB.out HYB.out xs.length
                obtain ⟨aq, cq, rfl, hsq⟩ := HO.out.shows
                have HSM : Hid (∀ p ∈ hooksTo xs ys xs.length, 0 ≤ p.1 ∧ p.1 ≤ 100) := fun p hp => by have := hHl.2 p hp; omega
                have hHl1 := hHl.1
                clear hHl
                go_wp2_with (go_at_call 30; refine (FromBoxes_any _ _ _ (hooksTo xs ys xs.length) _ hsq rfl HSM (by omega)).mono ?_; rintro e w6 ⟨v6, rfl, hown6, hb6⟩)
                go_ret2
                obtain ⟨rfl, hq⟩ := HOK.out
                refine ⟨_, rfl, ?_, HB.out.trans (hb6.mono HB.out.size)⟩
                rw [hq, ← fromB_hooks HXn.out HGy.out hlen.out]
                exact hown6.mono HB.out.size

#print axioms FD_eq
end Go.Proofs.Ytnjbkiegeielhaa
