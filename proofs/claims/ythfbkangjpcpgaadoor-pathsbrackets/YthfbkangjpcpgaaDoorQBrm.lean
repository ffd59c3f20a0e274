/-
  Brackets by turning over: PASCAL'S numbers; a text is right just if what stays when each pair is taken out is nothing; ranks by what is left to open and to close; the places to begin, by counting.
-/
import Derived.Test.YthfbkangjpcpgaaDoorQEnd
namespace Go.Proofs.YthfbkangjpcpgaaDoor

/-- PASCAL'S numbers. -/
def chB : Nat → Nat → Nat
  | _, 0 => 1
  | 0, _ + 1 => 0
  | n + 1, k + 1 => chB n k + chB n (k + 1)
theorem chB_far : ∀ n k, n < k → chB n k = 0
  | _, 0, h => by omega
  | 0, k + 1, _ => rfl
  | n + 1, k + 1, h => by rw [chB, chB_far n k (by omega), chB_far n (k + 1) (by omega)]
theorem chB_self : ∀ n, chB n n = 1
  | 0 => rfl
  | n + 1 => by rw [chB, chB_self n, chB_far n (n + 1) (by omega)]
theorem chB_sym : ∀ a b, chB (a + b) a = chB (a + b) b
  | 0, b => by rw [Nat.zero_add, chB_self]; cases b <;> rfl
  | a + 1, 0 => by rw [Nat.add_zero, chB_self]; rfl
  | a + 1, b + 1 => by
    have e : a + 1 + (b + 1) = (a + b + 1) + 1 := by omega
    have e1 : chB (a + b + 1 + 1) (a + 1) = chB (a + b + 1) a + chB (a + b + 1) (a + 1) := by rw [chB]
    have e2 : chB (a + b + 1 + 1) (b + 1) = chB (a + b + 1) b + chB (a + b + 1) (b + 1) := by rw [chB]
    rw [e, e1, e2]
    have h1 := chB_sym a (b + 1)
    have h2 := chB_sym (a + 1) b
    rw [show a + (b + 1) = a + b + 1 by omega] at h1
    rw [show a + 1 + b = a + b + 1 by omega] at h2
    omega
theorem chB_abs : ∀ n k, (k + 1) * chB (n + 1) (k + 1) = (n + 1) * chB n k
  | 0, 0 => rfl
  | 0, k + 1 => by rw [chB_far 1 (k + 1 + 1) (by omega), chB_far 0 (k + 1) (by omega)]; simp
  | n + 1, 0 => by
    have h := chB_abs n 0
    rw [chB]
    simp only [chB] at h ⊢
    omega
  | n + 1, k + 1 => by
    have h1 := chB_abs n k
    have h2 := chB_abs n (k + 1)
    have e : chB (n + 1 + 1) (k + 1 + 1) = chB (n + 1) (k + 1) + chB (n + 1) (k + 1 + 1) := by rw [chB]
    have f : chB (n + 1) (k + 1) = chB n k + chB n (k + 1) := by rw [chB]
    rw [e, Nat.mul_add, h2]
    rw [show (k + 1 + 1) * chB (n + 1) (k + 1) = (k + 1) * chB (n + 1) (k + 1) + chB (n + 1) (k + 1) by rw [Nat.add_mul (k + 1) 1]; omega, h1]
    rw [show (n + 1 + 1) * chB (n + 1) (k + 1) = (n + 1) * chB (n + 1) (k + 1) + chB (n + 1) (k + 1) by rw [Nat.add_mul (n + 1) 1]; omega]
    rw [f, Nat.mul_add]
    omega
/-- Factor by factor. -/
theorem chB_by (s : Nat → Nat) (a : Nat) (h0 : s 0 = 1) (h1 : ∀ i, s (i + 1) = s i * (a + (i + 1)) / (i + 1)) : ∀ i, s i = chB (a + i) i
  | 0 => by rw [h0]; cases a <;> rfl
  | i + 1 => by
    rw [h1, chB_by s a h0 h1 i]
    have h := chB_abs (a + i) i
    rw [show a + (i + 1) = a + i + 1 by omega, Nat.mul_comm (chB (a + i) i), ← h, Nat.mul_comm (i + 1), Nat.mul_div_cancel _ (by omega)]

/-- Ways to end right: by turning over those that go too far. -/
theorem eW_turn : ∀ (a b : Nat), a ≤ b → eW (a + b) (b - a) + (if a = 0 then 0 else chB (a + b) (a - 1)) = chB (a + b) a := by
  suffices H : ∀ n a b, a + b = n → a ≤ b → eW n (b - a) + (if a = 0 then 0 else chB n (a - 1)) = chB n a from fun a b h => H (a + b) a b rfl h
  intro n
  induction n with
  | zero =>
    intro a b hn hab
    obtain rfl : a = 0 := by omega
    obtain rfl : b = 0 := by omega
    rfl
  | succ n ih =>
    intro a b hn hab
    rw [eW_step]
    by_cases h0 : a = 0
    · subst h0
      have h1 := ih 0 (b - 1) (by omega) (by omega)
      rw [if_pos rfl] at h1 ⊢
      rw [if_pos (show 0 < b - 0 by omega), eW_far n (b - 0 + 1) (by omega)]
      have e1 : chB n 0 = 1 := by cases n <;> rfl
      have e2 : chB (n + 1) 0 = 1 := rfl
      rw [e1, show b - 1 - 0 = b - 0 - 1 by omega] at h1
      omega
    · obtain ⟨a, rfl⟩ : ∃ q, a = q + 1 := ⟨a - 1, by omega⟩
      rw [if_neg h0, show a + 1 - 1 = a by omega]
      have h1 := ih a b (by omega) (by omega)
      rw [show b - (a + 1) + 1 = b - a by omega]
      have e : chB (n + 1) (a + 1) = chB n a + chB n (a + 1) := by rw [chB]
      by_cases hb : a + 1 < b
      · have h2 := ih (a + 1) (b - 1) (by omega) (by omega)
        rw [if_neg h0, show a + 1 - 1 = a by omega] at h2
        rw [if_pos (show 0 < b - (a + 1) by omega), show b - (a + 1) - 1 = b - 1 - (a + 1) by omega]
        by_cases ha : a = 0
        · subst ha
          rw [if_pos rfl] at h1
          have e1 : chB n 0 = 1 := by cases n <;> rfl
          have e2 : chB (n + 1) 0 = 1 := rfl
          omega
        · rw [if_neg ha] at h1
          obtain ⟨c, rfl⟩ : ∃ q, a = q + 1 := ⟨a - 1, by omega⟩
          rw [show c + 1 - 1 = c by omega] at h1
          have e2 : chB (n + 1) (c + 1) = chB n c + chB n (c + 1) := by rw [chB]
          omega
      · obtain rfl : b = a + 1 := by omega
        rw [if_neg (show ¬ 0 < a + 1 - (a + 1) by omega)]
        have hs := chB_sym a (a + 1)
        rw [show a + (a + 1) = n by omega] at hs
        by_cases ha : a = 0
        · subst ha
          rw [if_pos rfl] at h1
          have e1 : chB n 0 = 1 := by cases n <;> rfl
          have e2 : chB (n + 1) 0 = 1 := rfl
          omega
        · rw [if_neg ha] at h1
          obtain ⟨c, rfl⟩ : ∃ q, a = q + 1 := ⟨a - 1, by omega⟩
          rw [show c + 1 - 1 = c by omega] at h1
          have e2 : chB (n + 1) (c + 1) = chB n c + chB n (c + 1) := by rw [chB]
          omega

/-- Every pair that stands side by side is taken out, from the left. -/
def rmB : List UInt8 → List UInt8
  | [] => []
  | [b] => [b]
  | b :: c :: r => if b = 40 ∧ c = 41 then rmB r else b :: rmB (c :: r)
theorem rmB_pair (r : List UInt8) : rmB (40 :: 41 :: r) = rmB r := by rw [rmB, if_pos ⟨rfl, rfl⟩]
theorem rmB_le : ∀ s : List UInt8, (rmB s).length ≤ s.length
  | [] => by simp [rmB]
  | [b] => by simp [rmB]
  | b :: c :: r => by
    rw [rmB]; split
    · have := rmB_le r; simp; omega
    · have := rmB_le (c :: r); simp at this ⊢; omega
theorem rt_rm : ∀ (s : List UInt8) (o : Nat), rt o (rmB s) = rt o s
  | [], o => rfl
  | [b], o => rfl
  | b :: c :: r, o => by
    rw [rmB]; split
    · rename_i h
      obtain ⟨rfl, rfl⟩ := h
      rw [rt_rm r o, rt, if_pos rfl, rt, if_neg (by decide), if_pos rfl]
      simp
    · rw [rt, rt_rm (c :: r), rt_rm (c :: r)]
      conv => rhs; rw [rt]
theorem rm_less : ∀ (s : List UInt8) (o : Nat), rt (o + 1) s = true → (rmB (40 :: s)).length < s.length + 1
  | [], o, h => by simp [rt] at h
  | c :: r, o, h => by
    rw [rmB]
    by_cases hc : c = 41
    · subst hc
      rw [if_pos ⟨rfl, rfl⟩]
      have := rmB_le r; simp; omega
    · rw [if_neg (fun x => hc x.2)]
      rw [rt] at h
      by_cases hb : c = 40
      · subst hb
        rw [if_pos rfl] at h
        have := rm_less r (o + 1) h
        simp at this ⊢; omega
      · rw [if_neg hb, if_neg hc] at h; cases h
/-- What does not change, and is not nothing, is not right. -/
theorem rm_stuck {s : List UInt8} (h : rmB s = s) (hs : s ≠ []) : rt 0 s = false := by
  cases hr : rt 0 s with
  | false => rfl
  | true =>
    exfalso
    cases s with
    | nil => exact hs rfl
    | cons b r =>
      rw [rt] at hr
      by_cases hb : b = 40
      · subst hb
        rw [if_pos rfl] at hr
        have := rm_less r 0 hr
        rw [h] at this; simp at this
      · rw [if_neg hb] at hr
        by_cases hc : b = 41
        · rw [if_pos hc] at hr; simp at hr
        · rw [if_neg hc] at hr; cases hr
theorem rm_shrinks {s : List UInt8} (h : rmB s ≠ s) : (rmB s).length < s.length := by
  suffices H : ∀ s : List UInt8, rmB s = s ∨ (rmB s).length < s.length by
    rcases H s with h1 | h1
    · exact absurd h1 h
    · exact h1
  intro s
  induction s using rmB.induct with
  | case1 => left; rfl
  | case2 b => left; rfl
  | case3 b c r h ih => right; rw [rmB, if_pos h]; have := rmB_le r; simp; omega
  | case4 b c r h ih =>
    rw [rmB, if_neg h]
    rcases ih with ih | ih
    · left; rw [ih]
    · right; simp at ih ⊢; omega

/-- How many ways there are with so many left to open and to close. -/
def gnB (a b : Int) : Nat := if a < 0 ∨ b < a then 0 else eW (a + b).toNat (b - a).toNat
/-- The sum that the document takes, from place i on: x opened, y closed so far, h pairs in all. -/
def ahB (h : Int) : Nat → Nat → List UInt8 → Nat
  | _, _, [] => 0
  | x, y, b :: r => if b = 41 then gnB (h - (x + 1)) (h - y) + ahB h x (y + 1) r else ahB h (if b = 40 then x + 1 else x) y r
theorem ah_rk : ∀ (s : List UInt8) (h x y : Nat), rt (x - y) s = true → y ≤ x → x + y + s.length = 2 * h → ahB h x y s = rk (x - y) s
  | [], h, x, y, _, _, _ => rfl
  | b :: r, h, x, y, hr, hy, hl => by
    rw [rt] at hr
    rw [ahB, rk]
    by_cases hb : b = 40
    · subst hb
      rw [if_pos rfl] at hr
      rw [if_neg (by decide), if_pos rfl, if_pos rfl, ah_rk r h (x + 1) y (by rw [show x + 1 - y = x - y + 1 by omega]; exact hr) (by omega) (by simp at hl; omega), show x + 1 - y = x - y + 1 by omega]
    · rw [if_neg hb] at hr
      by_cases hc : b = 41
      · subst hc
        rw [if_pos rfl, Bool.and_eq_true, decide_eq_true_eq] at hr
        simp at hl
        rw [if_pos rfl, if_neg (by decide), ah_rk r h x (y + 1) (by rw [show x - (y + 1) = x - y - 1 by omega]; exact hr.2) (by omega) (by omega), show x - (y + 1) = x - y - 1 by omega]
        congr 1
        unfold gnB
        by_cases hn : (h : Int) - ((x : Int) + 1) < 0 ∨ (h : Int) - (y : Int) < (h : Int) - ((x : Int) + 1)
        · rw [if_pos hn, eW_far _ _ (by omega)]
        · rw [if_neg hn, show ((h : Int) - ((x : Int) + 1) + ((h : Int) - (y : Int))).toNat = r.length by omega, show ((h : Int) - (y : Int) - ((h : Int) - ((x : Int) + 1))).toNat = x - y + 1 by omega]
      · rw [if_neg hc] at hr; cases hr

/-- From place i on after each byte more have opened than closed: by counting. -/
def bgB (t : List UInt8) : Nat → Bool
  | 0 => true
  | k + 1 => bgB t k && decide ((t.take (k + 1)).count 41 < (t.take (k + 1)).count 40)
theorem bg_iff (t : List UInt8) : ∀ n, bgB t n = true ↔ ∀ k, 1 ≤ k → k ≤ n → (t.take k).count 41 < (t.take k).count 40
  | 0 => ⟨fun _ k h1 h2 => by omega, fun _ => rfl⟩
  | n + 1 => by
    rw [bgB, Bool.and_eq_true, decide_eq_true_eq, bg_iff t n]
    constructor
    · rintro ⟨h1, h2⟩ k hk1 hk2
      by_cases h : k = n + 1
      · subst h; exact h2
      · exact h1 k hk1 (by omega)
    · intro h
      exact ⟨fun k h1 h2 => h k h1 (by omega), h _ (by omega) (by omega)⟩
theorem bg_sty (t : List UInt8) : bgB t t.length = sty 0 t := by
  rw [Bool.eq_iff_iff, bg_iff, sty_iff]
  constructor
  · intro h k h1 h2
    have := h k h1 h2
    rw [smB_count]; omega
  · intro h k h1 h2
    have := h k h1 h2
    rw [smB_count] at this; omega
/-- The text written twice, from place i on. -/
theorem twice_at (s : List UInt8) (i : Nat) (hi : i ≤ s.length) : ((s ++ s).drop i).take s.length = s.drop i ++ s.take i := by
  rw [List.drop_append_of_le_length hi, List.take_append, List.take_of_length_le (by simp)]
  congr 1
  simp
  congr 1
  omega
end Go.Proofs.YthfbkangjpcpgaaDoor
