/-
  What the law CubesMacmahon needs: plain mathematics.
-/
import Derived.Test.YtpdlhnniibjfaaiDoorDMae
namespace Go.Proofs.YtpdlhnniibjfaaiDoor

theorem fold_pZ (f : Nat → Nat) : ∀ n, ((((List.range n).map f).foldl (· * ·) 1 : Nat) : Int) = pZ (fun i => (f i : Int)) n
  | 0 => rfl
  | n + 1 => by rw [List.range_succ, List.map_append, List.foldl_append, pZ, ← fold_pZ f n]; simp
theorem ovN_mP (R C H : Nat) : ((ovN R C H : Nat) : Int) = mP R C H := by
  unfold ovN mP
  rw [fold_pZ]
  refine pZ_congr R (fun i _ => ?_)
  rw [fold_pZ]
  exact pZ_congr C (fun j _ => by omega)

theorem S_plus (g : Nat → Nat) (a : Nat) : ∀ b, S (a + b) g = S a g + S b (fun j => g (a + j))
  | 0 => rfl
  | b + 1 => by
    rw [show a + (b + 1) = (a + b) + 1 by omega, show S ((a + b) + 1) g = S (a + b) g + g (a + b) from rfl, S_plus g a b, show S (b + 1) (fun j => g (a + j)) = S b (fun j => g (a + j)) + g (a + b) from rfl]
    omega
theorem S_block (g : Nat → Nat) (c : Nat) : ∀ r, S (r * c) g = S r fun i => S c fun j => g (i * c + j)
  | 0 => by simp [S]
  | r + 1 => by rw [Nat.succ_mul, S_plus, S_block g c r]; rfl
theorem sum_S : ∀ Y : List Nat, Y.sum = S Y.length fun t => Y.getD t 0
  | [] => rfl
  | y :: Y => by
    rw [List.length_cons, S_front, List.sum_cons, sum_S Y]; rfl
def fXm (c : Nat) (Y : List Nat) (i j : Nat) : Nat := Y.getD (i * c + j) 0
theorem vol_sum {r c : Nat} {Y : List Nat} (h : Y.length = r * c) : vol r c (fXm c Y) = Y.sum := by
  rw [sum_S, h, S_block]; rfl
theorem sr_pil {r c h : Nat} (r1 : 1 ≤ r) (r8 : r ≤ 8) (c1 : 1 ≤ c) (c8 : c ≤ 8) (h1 : 1 ≤ h) (h8 : h ≤ 8) {Y : List Nat} (hY : Y ∈ sr c h (r * c) []) : Y.length = r * c ∧ Pil r c h (fXm c Y) := by
  obtain ⟨hl, hp⟩ := (pil_sr c1).1 hY
  refine ⟨hl, r1, r8, c1, c8, h1, h8, fun i hi j hj => (hp i hi j hj).1, fun i hi j hj => ?_, fun i hi j hj => ?_⟩
  · have := (hp i hi (j + 1) hj).2.1 (by omega)
    rw [Nat.add_sub_cancel] at this; exact this
  · have := (hp (i + 1) hi j hj).2.2 (by omega)
    rw [Nat.add_sub_cancel] at this; exact this

theorem few_cubes {r c h m : Nat} (r1 : 1 ≤ r) (r8 : r ≤ 8) (c1 : 1 ≤ c) (c8 : c ≤ 8) (h1 : 1 ≤ h) (h8 : h ≤ 8) (hm : m < 6) (hN : (sr c h (r * c) []).length ≤ 2000) (hmin : m ≤ min r (min c h)) : ((sr c h (r * c) []).filter fun Y => decide (Y.sum = m)).length = serN m := by
  have hr := rooms_ok
  unfold rooms at hr
  have h2 := List.all_eq_true.1 (List.all_eq_true.1 (List.all_eq_true.1 (List.all_eq_true.1 hr (r - 1) (List.mem_range.2 (by omega))) (c - 1) (List.mem_range.2 (by omega))) (h - 1) (List.mem_range.2 (by omega))) m (List.mem_range.2 hm)
  rw [show r - 1 + 1 = r by omega, show c - 1 + 1 = c by omega, show h - 1 + 1 = h by omega] at h2
  unfold roomOk at h2
  simp only [Bool.or_eq_true, decide_eq_true_eq] at h2
  have h3 := macmahon (R := r) (H := h) c1
  rw [← ovN_mP, ← ovN_mP] at h3
  rcases h2 with (h2 | h2) | h2
  · exfalso
    have h4 : ovN r c 0 * (sr c h (r * c) []).length = ovN r c h := by
      have : ((ovN r c 0 * (sr c h (r * c) []).length : Nat) : Int) = (ovN r c h : Nat) := by rw [Int.natCast_mul]; exact h3
      exact Int.natCast_inj.1 this
    have h5 := Nat.mul_le_mul_left (ovN r c 0) hN
    rw [Nat.mul_comm (ovN r c 0) 2000] at h5
    omega
  · omega
  · rw [← h2, ← svr_is (r * c) [] m]
    congr 2
    funext Y
    simp

theorem mN_len {R C H : Nat} (hC : 1 ≤ C) : mN R C H = (sr C H (R * C) []).length := by unfold mN; rw [if_neg (by omega)]
theorem mN222 : mN 2 2 2 = 20 := by decide +kernel

end Go.Proofs.YtpdlhnniibjfaaiDoor
