/-
  The law ferlaw.CubesSays: what its calls tell.
-/
import Derived.Test.YtbiakncblkjmhaaGreatDoorDQx
import Derived.Test.YtbiakncblkjmhaaGreatDoorDQt
import Derived.Test.YtbiakncblkjmhaaGreatDoorRyF
import Derived.Test.YtbiakncblkjmhaaGreatDoorEPil
import Derived.Test.YtbiakncblkjmhaaGreatDoorDVol
import Derived.Test.YtbiakncblkjmhaaGreatDoorECnt
import Derived.Test.YtbiakncblkjmhaaGreatDoorESer
import Derived.Test.YtbiakncblkjmhaaGreatDoorHDec
namespace Go.Proofs.YtbiakncblkjmhaaGreatDoor
open Go.RowKit

set_option maxHeartbeats 1000000 in
theorem Volume_noS (a : Option Addr) (n cap : Nat) (ls : List (List Int)) (h : Int) (w : World) (hh : -9223372036854775808 ≤ h ∧ h ≤ 9223372036854775807) (hs : Table w a ls) (hn : n = ls.length) (hl : ls.length ≤ 17592186044416) (p : ¬ PileL ls h) : Calls Tryz.prog 5 #[.slice a n cap, .int .i64 h] w fun e w' => e = .returned (.tuple #[.int .i64 0, .int .i64 1]) ∧ Hid (Below w.heap.size w w') := by
  have HC : Hid (Calls Tryz.prog 7 #[.slice a n cap, .int .i64 h] w fun e w' => e = .returned (.int .i64 1) ∧ Hid (Below w.heap.size w w')) := Check_no a n cap ls h w hh hs hn hl p
  clear hh hs hn hl p
  go_enter Tryz.func5, Tryz.ntmps5
  go_wp2_with fail
  refine HC.out.mono ?_
  rintro e w1 ⟨rfl, HB1⟩
  go_wp2
  go_ret2
  exact ⟨rfl, HB1⟩
set_option maxHeartbeats 1000000 in
theorem CbSeries_no (m : Int) (w : World) (h : m < 0 ∨ 60 < m) : Calls Tryz.prog 12 #[.int .i64 m] w fun e w' => e = .returned (.tuple #[.slice none 0 0, .int .i64 1]) ∧ w' = w := by
  by_cases h0 : m < 0
  · clear h
    go_enter Tryz.func12, Tryz.ntmps12
    go_wp2
    go_ret2
    exact ⟨rfl, rfl⟩
  · have h1 : 60 < m := by omega
    clear h
    go_enter Tryz.func12, Tryz.ntmps12
    go_wp2
    go_ret2
    exact ⟨rfl, rfl⟩

/-- the numbers of a pile, one behind the other -/
def flP (r c : Nat) (P : Nat → Nat → Nat) : List Nat := ((List.range r).map fun i => (List.range c).map (P i)).flatten
theorem tb_cast (r c : Nat) (P : Nat → Nat → Nat) : tb r c P = castT ((List.range r).map fun i => (List.range c).map (P i)) := by
  unfold castT tb
  rw [List.map_map]
  refine List.map_congr_left fun i _ => ?_
  simp [castL, tab]
theorem tb_flat (r c : Nat) (P : Nat → Nat → Nat) : (tb r c P).flatten = castL (flP r c P) := by
  rw [tb_cast, castT_fl]; rfl
theorem row_sum (f : Nat → Nat) : ∀ c, ((List.range c).map f).sum = S c f
  | 0 => rfl
  | c + 1 => by
    rw [List.range_succ, List.map_append, List.sum_append, row_sum f c, show S (c + 1) f = S c f + f c from rfl]
    simp
theorem flP_sum (c : Nat) (P : Nat → Nat → Nat) : ∀ r, (flP r c P).sum = vol r c P
  | 0 => rfl
  | r + 1 => by
    have h := flP_sum c P r
    unfold flP vol at *
    rw [List.range_succ, List.map_append, List.flatten_append, List.sum_append, h]
    show _ = S r _ + S c _
    simp [row_sum]
theorem flP_len (c : Nat) (P : Nat → Nat → Nat) : ∀ r, (flP r c P).length = r * c
  | 0 => by simp [flP]
  | r + 1 => by
    have h := flP_len c P r
    unfold flP at *
    rw [List.range_succ, List.map_append, List.flatten_append, List.length_append, h, Nat.succ_mul]
    simp
theorem S_leQ {f : Nat → Nat} {b : Nat} : ∀ n, (∀ i, i < n → f i ≤ b) → S n f ≤ n * b
  | 0, _ => by simp [S]
  | n + 1, h => by
    rw [show S (n + 1) f = S n f + f n from rfl, Nat.succ_mul]
    have h1 := S_leQ n (fun i hi => h i (by omega))
    have h2 := h n (by omega)
    omega
theorem vol_leQ {r c k : Nat} {P : Nat → Nat → Nat} (p : Pil r c k P) : vol r c P ≤ 512 := by
  have h1 : vol r c P ≤ r * 64 := S_leQ r (fun i hi => by
    have h2 : S c (fun j => P i j) ≤ c * 8 := S_leQ c (fun j hj => Nat.le_trans (p.le i hi j hj) p.h8)
    have := p.c8
    omega)
  have := p.r8
  omega
/-- Size of Joined -/
theorem size_joined (a : Option Addr) (n cap r c k : Nat) (P : Nat → Nat → Nat) (w : World) (hs : Table w a (tb r c P)) (hn : n = r) (p : Pil r c k P) :
    Calls Tryz.prog 9 #[.slice a n cap] w fun e w' => ∃ a1 n1 c1, e = .returned (.slice a1 n1 c1) ∧ Hid (Calls Tryz.prog 8 #[.slice a1 n1 c1] w' fun e w2 => e = .returned (.int .i64 (vol r c P : Nat)) ∧ w2 = w') ∧ Hid (Below w.heap.size w w') := by
  subst hn
  have hf := tb_flat n c P
  have hfl : (tb n c P).flatten.length ≤ 1000 := by
    rw [hf, castL_len, flP_len]
    have := Nat.mul_le_mul p.r8 p.c8
    omega
  have hj := Joined_any a cap (tb n c P) w hs (by rw [tb_len]; have := p.r8; omega) (by omega)
  rw [tb_len] at hj
  refine hj.mono ?_
  rintro e w' ⟨v, rfl, ho, hb⟩
  rw [hf] at ho
  obtain ⟨a1, c1, rfl, hsh⟩ := ho.shows (by rw [← hf]; omega) (fun z hz => by
    have := castL_lt (b := 8) (l := flP n c P) (fun y hy => by
      unfold flP at hy
      obtain ⟨q, hq, hy⟩ := List.mem_flatten.1 hy
      obtain ⟨i, hi, rfl⟩ := List.mem_map.1 hq
      obtain ⟨j, hj, rfl⟩ := List.mem_map.1 hy
      exact Nat.le_trans (p.le i (List.mem_range.1 hi) j (List.mem_range.1 hj)) p.h8) z hz
    omega)
  refine ⟨a1, _, c1, rfl, ?_, hb⟩
  have := RSize_nat a1 _ c1 (flP n c P) w' hsh (castL_len _) (by rw [flP_sum]; have := vol_leQ p; omega)
  rw [flP_sum] at this
  exact this
end Go.Proofs.YtbiakncblkjmhaaGreatDoor
