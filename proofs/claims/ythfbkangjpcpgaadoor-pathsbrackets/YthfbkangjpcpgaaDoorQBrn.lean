/-
  Brackets: what ReplaceAll and Trim tell of them; numbers by PASCAL'S.
-/
import Derived.Test.YthfbkangjpcpgaaDoorQBrm
import Derived.Test.YthfbkangjpcpgaaDoorZBin
import Derived.Lib.Replace
import Derived.Lib.SlTrimSet
namespace Go.Proofs.YthfbkangjpcpgaaDoor

theorem rm_index : ∀ s : List UInt8, (Lib.index s [40, 41] = -1 → rmB s = s) ∧ ∀ i : Nat, Lib.index s [40, 41] = (i : Int) → rmB s = s.take i ++ rmB (s.drop (i + 2)) := by
  intro s
  induction s using rmB.induct with
  | case1 => exact ⟨fun _ => rfl, fun i h => by have : Lib.index [] [40, 41] = -1 := rfl; omega⟩
  | case2 b =>
    have e : Lib.index [b] [40, 41] = -1 := by
      unfold Lib.index
      rw [if_neg (by simp [List.isPrefixOf])]
      rfl
    exact ⟨fun _ => rfl, fun i h => by omega⟩
  | case3 b c r h ih =>
    obtain ⟨rfl, rfl⟩ := h
    have e : Lib.index (40 :: 41 :: r) [40, 41] = 0 := by
      unfold Lib.index
      rw [if_pos (by simp [List.isPrefixOf])]
    refine ⟨fun h => by omega, fun i h => ?_⟩
    have hi : i = 0 := by omega
    subst hi
    rw [rmB_pair]; rfl
  | case4 b c r h ih =>
    have hp : ¬ List.isPrefixOf [40, 41] (b :: c :: r) = true := by
      simp only [List.isPrefixOf, Bool.and_true, Bool.and_eq_true, beq_iff_eq]
      rintro ⟨rfl, rfl⟩
      exact h ⟨rfl, rfl⟩
    have e : Lib.index (b :: c :: r) [40, 41] = if Lib.index (c :: r) [40, 41] == -1 then -1 else Lib.index (c :: r) [40, 41] + 1 := by
      conv => lhs; unfold Lib.index
      rw [if_neg hp]
    have hge := Lib.index_ge (c :: r) [40, 41]
    refine ⟨fun h1 => ?_, fun i h1 => ?_⟩
    · rw [e] at h1
      by_cases q : Lib.index (c :: r) [40, 41] = -1
      · rw [rmB, if_neg h, ih.1 q]
      · rw [if_neg (by simpa using q)] at h1; omega
    · rw [e] at h1
      by_cases q : Lib.index (c :: r) [40, 41] = -1
      · rw [if_pos (by simpa using q)] at h1; omega
      · rw [if_neg (by simpa using q)] at h1
        obtain ⟨j, hj⟩ : ∃ j : Nat, i = j + 1 := ⟨i - 1, by omega⟩
        subst hj
        rw [rmB, if_neg h, ih.2 j (by omega)]
        rfl
theorem rep_k : ∀ (f : Nat) (s : List UInt8), s.length < f → Lib.replaceK [40, 41] [] (Lib.countFrom [40, 41] f s) s = rmB s
  | 0, s, h => by omega
  | f + 1, s, h => by
    have hge := Lib.index_ge s [40, 41]
    rw [Lib.countFrom]
    by_cases q : Lib.index s [40, 41] = -1
    · rw [if_pos (by simpa using q), (rm_index s).1 q]; rfl
    · rw [if_neg (by simpa using q)]
      obtain ⟨i, hi⟩ : ∃ i : Nat, Lib.index s [40, 41] = (i : Int) := ⟨(Lib.index s [40, 41]).toNat, by omega⟩
      have hr := Lib.index_room s [40, 41] (by omega)
      have e2 : ((Lib.index s [40, 41]).toNat + [(40 : UInt8), 41].length) = i + 2 := by rw [hi]; simp
      rw [e2, Nat.add_comm 1, Lib.replaceK_hit [40, 41] [] _ s i hi, (rm_index s).2 i hi]
      have hl : (s.drop (i + 2)).length < f := by
        simp only [List.length_cons, List.length_nil] at hr
        rw [List.length_drop]; omega
      have := rep_k f (s.drop (i + 2)) hl
      rw [List.append_nil]
      congr 1
theorem rep_all (s : List UInt8) : Lib.replaceAll s [40, 41] [] = rmB s := by
  unfold Lib.replaceAll Lib.replace Lib.replaceNum Lib.count
  rw [if_neg (by decide), if_pos (Or.inl (by decide))]
  exact rep_k _ s (by omega)

theorem drop_nil {p : UInt8 → Bool} : ∀ l : List UInt8, l.dropWhile p = [] ↔ l.all p = true
  | [] => by simp
  | b :: l => by
    rw [List.dropWhile_cons, List.all_cons]
    by_cases h : p b = true
    · rw [if_pos h, drop_nil l, h]; simp
    · rw [if_neg h]
      have : p b = false := by simpa using h
      rw [this]; simp
theorem drop_all {p : UInt8 → Bool} : ∀ l : List UInt8, (l.dropWhile p).all p = true → l.all p = true
  | [], _ => rfl
  | b :: l, h => by
    rw [List.dropWhile_cons] at h
    by_cases q : p b = true
    · rw [if_pos q] at h
      rw [List.all_cons, q, drop_all l h]; rfl
    · rw [if_neg q] at h; exact h
theorem trim_all (s cs : List UInt8) : Lib.trimS s cs = [] ↔ s.all (cs.contains ·) = true := by
  unfold Lib.trimS Lib.trimLeftS Lib.trimRightS
  rw [drop_nil, List.all_reverse]
  constructor
  · intro h
    have := drop_all _ h
    rw [List.all_reverse] at this; exact this
  · intro h
    have h2 : s.reverse.all (cs.contains ·) = true := by rw [List.all_reverse]; exact h
    rw [(drop_nil _).2 h2]; rfl

/-- Binomial is PASCAL'S number. -/
theorem bin_ch {n k : Nat} (h : k ≤ n) : binG n k = chB n k := by
  have hs : ∀ a i, binS a i = chB (a + i) i := fun a i => chB_by (binS a) a rfl (fun _ => rfl) i
  unfold binG
  rw [hs]
  unfold lesK
  split
  · rename_i hc
    have e := chB_sym (n - k) k
    rw [show n - k + k = n by omega] at e
    rw [show n - (n - k) + (n - k) = n by omega, e]
  · rw [show n - k + k = n by omega]
theorem ch_mul (n k : Nat) : (k + 1) * chB n (k + 1) + k * chB n k = n * chB n k := by
  have h := chB_abs n k
  have e : chB (n + 1) (k + 1) = chB n k + chB n (k + 1) := by rw [chB]
  rw [e, Nat.mul_add, Nat.add_mul, Nat.add_mul, Nat.add_mul] at h
  have e2 : (k + 1) * chB n (k + 1) = k * chB n (k + 1) + 1 * chB n (k + 1) := Nat.add_mul _ _ _
  omega
theorem cat_eq (n : Nat) : binG (2 * n) n / (n + 1) = eW (2 * n) 0 := by
  rw [bin_ch (by omega)]
  have h1 := eW_turn n n (Nat.le_refl n)
  rw [Nat.sub_self] at h1
  cases n with
  | zero => decide
  | succ m =>
    rw [if_neg (by omega), show m + 1 + (m + 1) = 2 * (m + 1) by omega, show m + 1 - 1 = m by omega] at h1
    have h2 := ch_mul (2 * (m + 1)) m
    have h3 : (m + 1 + 1) * eW (2 * (m + 1)) 0 = chB (2 * (m + 1)) (m + 1) := by
      have e1 : (m + 2) * (eW (2 * (m + 1)) 0 + chB (2 * (m + 1)) m) = (m + 2) * chB (2 * (m + 1)) (m + 1) := by rw [h1]
      rw [Nat.mul_add, Nat.add_mul, Nat.add_mul m 2 (chB (2 * (m + 1)) m), Nat.add_mul m 2 (chB (2 * (m + 1)) (m + 1))] at e1
      have e2 : (m + 1) * chB (2 * (m + 1)) (m + 1) = m * chB (2 * (m + 1)) (m + 1) + 1 * chB (2 * (m + 1)) (m + 1) := Nat.add_mul _ _ _
      have e3 : 2 * (m + 1) * chB (2 * (m + 1)) m = m * chB (2 * (m + 1)) m + m * chB (2 * (m + 1)) m + 2 * chB (2 * (m + 1)) m := by
        rw [show 2 * (m + 1) = m + m + 2 by omega, Nat.add_mul, Nat.add_mul]
      rw [Nat.add_mul, Nat.add_mul]
      omega
    rw [← h3, Nat.mul_div_cancel_left _ (by omega)]
/-- Ways to go on, by PASCAL'S numbers. -/
theorem gn_eq {a b : Nat} (h : a ≤ b) : gnB (a : Int) (b : Int) = binG (a + b) a - (if a = 0 then 0 else binG (a + b) (a - 1)) ∧ (if a = 0 then 0 else binG (a + b) (a - 1)) ≤ binG (a + b) a := by
  have h1 := eW_turn a b h
  rw [bin_ch (by omega)]
  have e : gnB (a : Int) (b : Int) = eW (a + b) (b - a) := by
    unfold gnB
    rw [if_neg (by omega), show ((a : Int) + (b : Int)).toNat = a + b by omega, show ((b : Int) - (a : Int)).toNat = b - a by omega]
  rw [e]
  by_cases h0 : a = 0
  · rw [if_pos h0] at h1 ⊢; omega
  · rw [if_neg h0] at h1 ⊢
    rw [bin_ch (by omega)]; omega
end Go.Proofs.YthfbkangjpcpgaaDoor
