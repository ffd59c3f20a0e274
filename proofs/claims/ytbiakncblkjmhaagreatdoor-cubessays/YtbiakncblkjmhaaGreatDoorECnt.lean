/-
  The contract of cubes.Count.
-/
import Derived.Test.YtbiakncblkjmhaaGreatDoorDQs
import Derived.Test.YtbiakncblkjmhaaGreatDoorWQuo
import Derived.Test.YtbiakncblkjmhaaGreatDoorDQu
import Derived.Test.YtbiakncblkjmhaaGreatDoorDTrn
namespace Go.Proofs.YtbiakncblkjmhaaGreatDoor
open Go.RowKit

theorem pL_rg (f : Nat → Nat) : ∀ n, ((pL ((List.range n).map f) : Nat) : Int) = pZ (fun i => (f i : Int)) n
  | 0 => rfl
  | n + 1 => by rw [List.range_succ, List.map_append, pL_app, pZ, Int.natCast_mul, pL_rg f n]; simp [pL]
/-- the program's list, row by row -/
def ovL (b h : Nat) : Nat → List Nat
  | 0 => []
  | i + 1 => ovL b h i ++ (List.range b).map fun j => i + j + h + 1
theorem ovL_prod (b h : Nat) : ∀ a, ((pL (ovL b h a) : Nat) : Int) = mP a b h
  | 0 => rfl
  | a + 1 => by
    rw [ovL, pL_app, Int.natCast_mul, ovL_prod b h a, pL_rg]
    show mP a b h * _ = pZ (fun i => pZ (fun j => (i : Int) + j + h + 1) b) a * pZ (fun j => (a : Int) + j + h + 1) b
    congr 1
theorem ovL_len (b h : Nat) : ∀ a, (ovL b h a).length = a * b
  | 0 => by simp [ovL]
  | a + 1 => by rw [ovL, List.length_append, ovL_len b h a, List.length_map, List.length_range, Nat.succ_mul]
theorem ovL_mem (b h : Nat) : ∀ a z, z ∈ ovL b h a → 0 < z ∧ z ≤ a + b + h + 1
  | 0, z, hz => by simp [ovL] at hz
  | a + 1, z, hz => by
    rw [ovL] at hz
    rcases List.mem_append.1 hz with hz | hz
    · have := ovL_mem b h a z hz; omega
    · obtain ⟨j, hj, rfl⟩ := List.mem_map.1 hz
      have := List.mem_range.1 hj
      omega
theorem count_low (a b h : Nat) : pL (lows (ovL b 0 a) (ovL b h a)) = mN a b h := by
  have h1 := mN_mP a b h
  rw [← ovL_prod b 0 a, ← ovL_prod b h a] at h1
  have h2 : pL (ovL b 0 a) * mN a b h = pL (ovL b h a) := by
    have : ((pL (ovL b 0 a) * mN a b h : Nat) : Int) = (pL (ovL b h a) : Nat) := by rw [Int.natCast_mul]; exact h1
    exact Int.natCast_inj.1 this
  have hp : ∀ d ∈ ovL b 0 a, 0 < d := fun d hd => (ovL_mem b 0 a d hd).1
  have h3 := lows_prod (ovL b 0 a) (ovL b h a) hp ⟨_, h2.symm⟩
  rw [← h2, Nat.mul_comm] at h3
  exact Nat.eq_of_mul_eq_mul_left (pL_pos hp) h3

theorem castL_snoc (l : List Nat) (x : Nat) : castL (l ++ [x]) = castL l ++ [(x : Int)] := by simp [castL]

theorem min3_run (ts : Array TypeId) (t : TypeId) (x y z : Int) (W : World) : (Builtin.min_ ts t #[.int .i64 x, .int .i64 y, .int .i64 z]).run Tryz.prog W = .ok (.int .i64 (min (min x y) z)) W := by
  have : (Builtin.min_ ts t #[.int .i64 x, .int .i64 y, .int .i64 z]).run Tryz.prog W = .ok (.int .i64 (if z < (if y < x then y else x) then z else (if y < x then y else x))) W := by
    simp [Builtin.min_, Builtin.min2]
  rw [this]
  congr 2
  split <;> split at * <;> omega
theorem max3_run (ts : Array TypeId) (t : TypeId) (x y z : Int) (W : World) : (Builtin.max_ ts t #[.int .i64 x, .int .i64 y, .int .i64 z]).run Tryz.prog W = .ok (.int .i64 (max (max x y) z)) W := by
  have : (Builtin.max_ ts t #[.int .i64 x, .int .i64 y, .int .i64 z]).run Tryz.prog W = .ok (.int .i64 (if z > (if y > x then y else x) then z else (if y > x then y else x))) W := by
    simp [Builtin.max_, Builtin.max2]
  rw [this]
  congr 2
  split <;> split at * <;> omega

set_option maxHeartbeats 2000000 in
theorem CbCount_no (a b c : Int) (w : World) (h : min (min a b) c < 0 ∨ 20 < max (max a b) c) :
    Calls Tryz.prog 10 #[.int .i64 a, .int .i64 b, .int .i64 c] w fun e w' => e = .returned (.tuple #[.string ⟨#[]⟩, .int .i64 1]) ∧ w' = w := by
  have hmn := min3_run #[3, 3, 3] 3 a b c
  have hmx := max3_run #[3, 3, 3] 3 a b c
  obtain ⟨mn, HMn⟩ : ∃ mn, Hid (mn = min (min a b) c) := ⟨_, rfl⟩
  obtain ⟨mx, HMx⟩ : ∃ mx, Hid (mx = max (max a b) c) := ⟨_, rfl⟩
  rw [← HMn.out] at hmn h
  rw [← HMx.out] at hmx h
  by_cases h1 : mn < 0
  · clear h
    go_enter Tryz.func10, Tryz.ntmps10
    go_wp2
    go_ret2
    exact ⟨rfl, rfl⟩
  · have h2 : 20 < mx := by omega
    clear h
    go_enter Tryz.func10, Tryz.ntmps10
    go_wp2
    go_ret2
    exact ⟨rfl, rfl⟩

set_option maxHeartbeats 8000000 in
set_option maxRecDepth 100000 in
theorem CbCount_ok (a b c : Nat) (w : World) (ha : a ≤ 20) (hb : b ≤ 20) (hc : c ≤ 20) (htab : Lib.TabIs Tryz.prog w "internal/strconv.uint64pow10" .u64 Lib.pow10Tab) :
    Calls Tryz.prog 10 #[.int .i64 (a : Int), .int .i64 (b : Int), .int .i64 (c : Int)] w fun e w' => e = .returned (.tuple #[.string ⟨(numT (mN a b c)).toArray⟩, .int .i64 0]) ∧ Hid (Below w.heap.size w w') := by
  obtain ⟨s, HSs⟩ : ∃ s : ByteArray, Hid (s = ⟨(numT (mN a b c)).toArray⟩) := ⟨_, rfl⟩
  rw [← HSs.out]
  have HTab : Hid (∀ W, Below w.heap.size w W → Lib.TabIs Tryz.prog W "internal/strconv.uint64pow10" .u64 Lib.pow10Tab) := fun W hW => Lib.tabBelow_of_tabIs htab W hW
  clear htab
  have hmn := min3_run #[3, 3, 3] 3 (a : Int) (b : Int) (c : Int)
  have hmx := max3_run #[3, 3, 3] 3 (a : Int) (b : Int) (c : Int)
  obtain ⟨mn, HMn⟩ : ∃ mn, Hid (mn = min (min (a : Int) (b : Int)) (c : Int)) := ⟨_, rfl⟩
  obtain ⟨mx, HMx⟩ : ∃ mx, Hid (mx = max (max (a : Int) (b : Int)) (c : Int)) := ⟨_, rfl⟩
  rw [← HMn.out] at hmn
  rw [← HMx.out] at hmx
  have h1 : ¬ mn < 0 := by rw [HMn.out]; omega
  have h2 : ¬ 20 < mx := by rw [HMx.out]; omega
  go_enter Tryz.func10, Tryz.ntmps10
  go_wp2
  clear hmn hmx
  go_loopw [8, 9, 10] (fun v u q wr => ∃ i : Nat, i ≤ a ∧ q = .int .i64 ((i : Int) + 1) ∧ Hid (Owns wr w.heap.size v (castL (ovL b c i))) ∧ Hid (Owns wr w.heap.size u (castL (ovL b 0 i))) ∧ Hid (Apart v u) ∧ Hid (Below w.heap.size w wr)) (fun _ _ q _ => a + 1 - (intOf q).toNat)
  case atStart => exact ⟨0, Nat.zero_le _, rfl, World.ownsRow_nil _ _ _ _, World.ownsRow_nil _ _ _ _, apart_nil _, Below.refl _ _⟩
  case round =>
    obtain ⟨i, hi, rfl, HO, HU, HA, HB⟩ := hrel
    by_cases hil : i < a
    · have hil' : (i : Int) + 1 ≤ (a : Int) := by omega
      go_wp2
      go_loopw [8, 9, 11] (fun v u q wr => ∃ j : Nat, j ≤ b ∧ q = .int .i64 ((j : Int) + 1) ∧ Hid (Owns wr w.heap.size v (castL (ovL b c i ++ (List.range j).map fun j => i + j + c + 1))) ∧ Hid (Owns wr w.heap.size u (castL (ovL b 0 i ++ (List.range j).map fun j => i + j + 0 + 1))) ∧ Hid (Apart v u) ∧ Hid (Below w.heap.size w wr)) (fun _ _ q _ => b + 1 - (intOf q).toNat)
      case atStart => exact ⟨0, Nat.zero_le _, rfl, by simpa using HO, by simpa using HU, HA, HB⟩
      case round =>
        clear HO HU HA HB
        obtain ⟨j, hj, rfl, HO, HU, HA, HB⟩ := hrel
        by_cases hjl : j < b
        · have hjl' : (j : Int) + 1 ≤ (b : Int) := by omega
          have hl1 : (ovL b c i ++ (List.range j).map fun j => i + j + c + 1).length ≤ 1000 := by
            rw [List.length_append, ovL_len, List.length_map, List.length_range]
            have := Nat.mul_le_mul (show i ≤ 20 by omega) hb
            omega
          have hl2 : (ovL b 0 i ++ (List.range j).map fun j => i + j + 0 + 1).length ≤ 1000 := by
            rw [List.length_append, ovL_len, List.length_map, List.length_range]
            have := Nat.mul_le_mul (show i ≤ 20 by omega) hb
            omega
          have HL1 := hid_w hl1
          have HL2 := hid_w hl2
          clear hl1 hl2
          have ex : (i : Int) + 1 + ((j : Int) + 1) + (c : Int) - 1 = ((i + j + c + 1 : Nat) : Int) := by omega
          have ey : (i : Int) + 1 + ((j : Int) + 1) - 1 = ((i + j + 0 + 1 : Nat) : Int) := by omega
          obtain ⟨x, HX⟩ : ∃ x, Hid (x = i + j + c + 1) := ⟨_, rfl⟩
          obtain ⟨y, HY⟩ : ∃ y, Hid (y = i + j + 0 + 1) := ⟨_, rfl⟩
          rw [← HX.out] at ex
          rw [← HY.out] at ey
          have hx : x ≤ 100 := by rw [HX.out]; omega
          have hy : y ≤ 100 := by rw [HY.out]; omega
          go_wp2_with (at_builtin; refine append_int_at (N := wr.heap.size) (x := (x : Int)) rfl _ _ rfl rfl rfl rfl HO.out ?c1 ?c2 ?_)
          case c1 => rw [castL_len]; have := HL1.out; omega
          case c2 => exact HB.out.size
          intro v2 w2 hO2 hb2 hk2
          obtain ⟨hU2, hA2⟩ := hk2 _ _ HU.out HA.out
          have HU2 := hid_w hU2
          have HA2 := hid_w hA2.symm
          have HO2 := hid_w hO2
          have HB2 : Hid (Below w.heap.size w w2) := HB.out.trans hb2
          clear hO2 hb2 hk2 hU2 hA2
          go_wp2_with (at_builtin; refine append_int_at (N := w2.heap.size) (x := (y : Int)) rfl _ _ rfl rfl rfl rfl HU2.out ?c3 ?c4 ?_)
          case c3 => rw [castL_len]; have := HL2.out; omega
          case c4 => exact HB2.out.size
          intro v3 w3 hO3 hb3 hk3
          obtain ⟨hO4, hA4⟩ := hk3 _ _ HO2.out HA2.out
          have HO5 : Hid (Owns w3 w.heap.size v2 (castL (ovL b c i ++ (List.range (j + 1)).map fun j => i + j + c + 1))) := by
            show Owns _ _ _ _
            rw [List.range_succ, List.map_append, ← List.append_assoc, show (List.map (fun j => i + j + c + 1) [j]) = [x] by rw [HX.out]; rfl, castL_snoc]
            exact hO4
          have HU5 : Hid (Owns w3 w.heap.size v3 (castL (ovL b 0 i ++ (List.range (j + 1)).map fun j => i + j + 0 + 1))) := by
            show Owns _ _ _ _
            rw [List.range_succ, List.map_append, ← List.append_assoc, show (List.map (fun j => i + j + 0 + 1) [j]) = [y] by rw [HY.out]; rfl, castL_snoc]
            exact hO3
          have HA5 := hid_w hA4.symm
          have HB5 : Hid (Below w.heap.size w w3) := HB2.out.trans hb3
          clear hO3 hb3 hk3 hO4 hA4
          go_wp2
          go_roundw
          case rel => exact ⟨j + 1, by omega, by go_num, HO5, HU5, HA5, HB5⟩
          case measure => simp [intOf]; omega
        · obtain rfl : j = b := by omega
          have hno : ¬ ((j : Int) + 1 ≤ (j : Int)) := by omega
          go_wp2
          go_roundw
          case rel => exact ⟨i + 1, by omega, by go_num, HO, HU, HA, HB⟩
          case measure => simp [intOf]; omega
    · obtain rfl : i = a := by omega
      have hno : ¬ ((i : Int) + 1 ≤ (i : Int)) := by omega
      have hm : ∀ z ∈ ovL b c i, z ≤ 100 := fun z hz => by have := ovL_mem b c i z hz; omega
      have hm0 : ∀ z ∈ ovL b 0 i, 0 < z ∧ z ≤ 100 := fun z hz => by have := ovL_mem b 0 i z hz; omega
      have hlen : ∀ t, (ovL b t i).length ≤ 400 := fun t => by rw [ovL_len]; exact Nat.mul_le_mul (show i ≤ 20 by omega) hb
      obtain ⟨a8, c8, hv8, hs8⟩ := HO.out.shows (by rw [castL_len]; have := hlen c; omega) (fun z hz => by have := castL_lt hm z hz; omega)
      obtain ⟨a9, c9, hv9, hs9⟩ := HU.out.shows (by rw [castL_len]; have := hlen 0; omega) (fun z hz => by have := castL_lt (fun z hz => (hm0 z hz).2) z hz; omega)
      rw [castL_len] at hv8 hv9
      have HC : Hid (Calls Tryz.prog 26 #[.slice a8 (ovL b c i).length c8, .slice a9 (ovL b 0 i).length c9] wr fun e w' => e = .returned (.string s) ∧ Hid (Below wr.heap.size wr w')) := by
        have h := Quotient_at a8 a9 _ c8 _ c9 (ovL b c i) (ovL b 0 i) wr hs8 hs9 rfl rfl (by have := hlen c; omega) (by have := hlen 0; omega) (fun z hz => by have := hm z hz; omega) (fun z hz => by have := hm0 z hz; omega) (HTab.out wr HB.out)
        rw [count_low] at h
        rw [HSs.out]; exact h
      subst hv8
      subst hv9
      clear hs8 hs9 hm hm0 hlen HO HU
      go_wp2_with fail
      refine HC.out.mono ?_
      rintro e w3 ⟨rfl, HB3⟩
      have HB4 : Hid (Below w.heap.size w w3) := HB.out.trans (HB3.out.mono HB.out.size)
      go_wp2
      go_ret2
      exact ⟨rfl, HB4⟩

end Go.Proofs.YtbiakncblkjmhaaGreatDoor
