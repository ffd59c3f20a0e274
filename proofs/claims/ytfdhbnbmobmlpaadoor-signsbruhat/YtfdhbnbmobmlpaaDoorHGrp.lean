/-
  Numbers in groups of nine digits.
-/
namespace Go.Proofs.YtfdhbnbmobmlpaaDoor

/-- What n groups come to. -/
def valF (f : Nat → Nat) : Nat → Nat
  | 0 => 0
  | n + 1 => valF f n + f n * 1000000000 ^ n
def upN (f : Nat → Nat) (k x : Nat) : Nat → Nat := fun j => if j = k then x else f j
theorem upN_self (f : Nat → Nat) (k x : Nat) : upN f k x k = x := if_pos rfl
theorem upN_ne (f : Nat → Nat) {k x j : Nat} (h : j ≠ k) : upN f k x j = f j := if_neg h
theorem valF_congr {f g : Nat → Nat} : ∀ n, (∀ j, j < n → f j = g j) → valF f n = valF g n
  | 0, _ => rfl
  | n + 1, h => by rw [valF, valF, valF_congr n fun j hj => h j (by omega), h n (by omega)]
theorem valF_up (f : Nat → Nat) (k x : Nat) : ∀ n, k < n → valF (upN f k x) n + f k * 1000000000 ^ k = valF f n + x * 1000000000 ^ k
  | 0, h => by omega
  | n + 1, h => by
    rw [valF, valF]
    by_cases e : k = n
    · subst e
      rw [upN_self, valF_congr k (f := upN f k x) (g := f) (fun j hj => upN_ne f (by omega))]; omega
    · have ih := valF_up f k x n (by omega)
      rw [upN_ne f (fun q => e q.symm)]; omega
theorem valF_lt (f : Nat → Nat) : ∀ n, (∀ j, j < n → f j < 1000000000) → valF f n < 1000000000 ^ n
  | 0, _ => by simp [valF]
  | n + 1, h => by
    have ih := valF_lt f n fun j hj => h j (by omega)
    have h1 := h n (by omega)
    rw [valF, Nat.pow_succ]
    have : f n * 1000000000 ^ n ≤ 999999999 * 1000000000 ^ n := Nat.mul_le_mul_right _ (by omega)
    omega
/-- The groups are told by what they come to. -/
theorem valF_inj {f g : Nat → Nat} : ∀ n, (∀ j, j < n → f j < 1000000000) → (∀ j, j < n → g j < 1000000000) → valF f n = valF g n → ∀ j, j < n → f j = g j
  | 0, _, _, _, j, hj => by omega
  | n + 1, h1, h2, h, j, hj => by
    rw [valF, valF] at h
    have a1 := valF_lt f n fun j hj => h1 j (by omega)
    have a2 := valF_lt g n fun j hj => h2 j (by omega)
    have e : f n = g n := by
      rcases Nat.lt_trichotomy (f n) (g n) with q | q | q
      · have := Nat.mul_le_mul_right (1000000000 ^ n) (show f n + 1 ≤ g n by omega)
        rw [Nat.add_mul] at this; omega
      · exact q
      · have := Nat.mul_le_mul_right (1000000000 ^ n) (show g n + 1 ≤ f n by omega)
        rw [Nat.add_mul] at this; omega
    by_cases q : j = n
    · rw [q]; exact e
    · exact valF_inj n (fun j hj => h1 j (by omega)) (fun j hj => h2 j (by omega)) (by rw [e] at h; omega) j (by omega)
/-- n groups, the highest not 0, come to x. -/
structure Can (n : Nat) (f : Nat → Nat) (x : Nat) : Prop where
  dg : ∀ j, j < n → f j < 1000000000
  top : 0 < n → f (n - 1) ≠ 0
  val : valF f n = x
theorem Can.pos {n : Nat} {f : Nat → Nat} {x : Nat} (h : Can n f x) (hn : 0 < n) : 1000000000 ^ (n - 1) ≤ x := by
  obtain ⟨k, rfl⟩ : ∃ k, n = k + 1 := ⟨n - 1, by omega⟩
  have h1 := h.val
  have h2 := h.top hn
  rw [valF] at h1
  rw [show k + 1 - 1 = k by omega] at h2 ⊢
  have := Nat.mul_le_mul_right (1000000000 ^ k) (show 1 ≤ f k by omega)
  omega
theorem Can.lt {n : Nat} {f : Nat → Nat} {x : Nat} (h : Can n f x) : x < 1000000000 ^ n := by rw [← h.val]; exact valF_lt f n h.dg
theorem Can.same {n m : Nat} {f g : Nat → Nat} {x : Nat} (h1 : Can n f x) (h2 : Can m g x) : n = m ∧ ∀ j, j < n → f j = g j := by
  have key : ∀ {n m : Nat} {f g : Nat → Nat}, Can n f x → Can m g x → ¬ n < m := fun {n m f g} h1 h2 h => by
    have a := h1.lt
    have b := h2.pos (by omega)
    have c := Nat.pow_le_pow_right (show 0 < 1000000000 by omega) (show n ≤ m - 1 by omega)
    omega
  obtain rfl : n = m := by
    rcases Nat.lt_trichotomy n m with q | q | q
    · exact absurd q (key h1 h2)
    · exact q
    · exact absurd q (key h2 h1)
  exact ⟨rfl, valF_inj n h1.dg h2.dg (h1.val.trans h2.val.symm)⟩
/-- So many groups are left without the noughts at the high end. -/
def tlG (f : Nat → Nat) : Nat → Nat
  | 0 => 0
  | n + 1 => if f n = 0 then tlG f n else n + 1
theorem tlG_le (f : Nat → Nat) : ∀ n, tlG f n ≤ n
  | 0 => Nat.le_refl _
  | n + 1 => by rw [tlG]; split; have := tlG_le f n; omega; omega
theorem tlG_val (f : Nat → Nat) : ∀ n, valF f (tlG f n) = valF f n
  | 0 => rfl
  | n + 1 => by
    rw [tlG]
    split
    · rename_i h; rw [tlG_val f n, valF, h, Nat.zero_mul, Nat.add_zero]
    · rfl
theorem tlG_top (f : Nat → Nat) : ∀ n, 0 < tlG f n → f (tlG f n - 1) ≠ 0
  | 0, h => by simp [tlG] at h
  | n + 1, h => by
    rw [tlG] at h ⊢
    split
    · rename_i e; rw [if_pos e] at h; exact tlG_top f n h
    · rename_i e; exact e
theorem can_tl {f : Nat → Nat} {n : Nat} (h : ∀ j, j < n → f j < 1000000000) : Can (tlG f n) f (valF f n) :=
  ⟨fun j hj => h j (by have := tlG_le f n; omega), tlG_top f n, tlG_val f n⟩
theorem can_zero : Can 0 (fun _ => 0) 0 := ⟨fun j hj => by omega, fun h => by omega, rfl⟩
/-- One step of a product. -/
theorem mul_step {f : Nat → Nat} {n i j c g o x A : Nat} (hk : i + j < n) (hx : x = c + (f (i + j) + g * o)) (h : valF f n + c * 1000000000 ^ (i + j) = A) : valF (upN f (i + j) (x % 1000000000)) n + x / 1000000000 * 1000000000 ^ (i + (j + 1)) = A + g * o * 1000000000 ^ (i + j) := by
  have h1 := valF_up f (i + j) (x % 1000000000) n hk
  have h2 : x % 1000000000 * 1000000000 ^ (i + j) + x / 1000000000 * 1000000000 ^ (i + (j + 1)) = x * 1000000000 ^ (i + j) := by
    rw [← Nat.add_assoc, Nat.pow_succ, Nat.mul_comm (1000000000 ^ (i + j)) 1000000000, ← Nat.mul_assoc, ← Nat.add_mul]
    congr 1
    have := Nat.mod_add_div x 1000000000
    omega
  rw [hx, Nat.add_mul c, Nat.add_mul (f (i + j))] at h2
  rw [hx] at h1
  rw [hx]
  omega

end Go.Proofs.YtfdhbnbmobmlpaaDoor
