/-
  What domino.read keeps while it reads: plain.
-/
import Derived.Test.YtcnmndbckjmliaaDoorNIsf
namespace Go.Proofs.YtcnmndbckjmliaaDoor
open Go.RowKit

/-- The rows read so far. -/
def cek (l : List (List UInt8)) (k i : Nat) : UInt8 := if i / 8 < k then cef l i else 0
theorem cek_zero (l : List (List UInt8)) : cek l 0 = fun _ => 0 := by
  funext i; unfold cek; rw [if_neg (by omega)]
theorem cek_all (l : List (List UInt8)) : cek l l.length = cef l := by
  funext i
  unfold cek
  by_cases h : i / 8 < l.length
  · rw [if_pos h]
  · rw [if_neg h]
    unfold cef
    simp [List.getD, List.getElem?_eq_none (Nat.le_of_not_lt h)]
/-- A row written over the others. -/
def rowF (f : Nat → UInt8) (k : Nat) (x : List UInt8) (i : Nat) : UInt8 := if i / 8 = k ∧ i % 8 < x.length then x.getD (i % 8) 0 else f i
theorem cek_succ (l : List (List UInt8)) (k : Nat) (_hk : k < l.length) : rowF (cek l k) k (l.getD k []) = cek l (k + 1) := by
  funext i
  unfold rowF cek cef
  by_cases h : i / 8 = k
  · rw [h]
    by_cases h2 : i % 8 < (l.getD k []).length
    · rw [if_pos ⟨rfl, h2⟩, if_pos (by omega)]
    · rw [if_neg (fun q => h2 q.2), if_neg (by omega), if_pos (by omega)]
      rw [List.getD_eq_getElem?_getD (l := l.getD k []), List.getElem?_eq_none (by omega)]; rfl
  · rw [if_neg (fun q => h q.1)]
    by_cases h3 : i / 8 < k
    · rw [if_pos h3, if_pos (by omega)]
    · rw [if_neg h3, if_neg (by omega)]
theorem shC_row (r c : Nat) (f : Nat → UInt8) (k : Nat) (x : List UInt8) (hk : k < 8) (hx : x.length ≤ 8) :
    ((shC r c f).toList.take (2 + k * 8) ++ Lib.byteCells x ++ (shC r c f).toList.drop (2 + k * 8 + x.length)).toArray = shC r c (rowF f k x) := by
  apply Array.ext_getElem?
  intro i
  have hlen : (shC r c f).toList.length = 66 := by simp [shC]
  have hg : ∀ g j, (shC r c g).toList[j]? = (shC r c g)[j]? := fun g j => Array.getElem?_toList
  have hbl : (Lib.byteCells x).length = x.length := Lib.byteCells_length x
  rw [List.getElem?_toArray]
  by_cases h1 : i < 2 + k * 8
  · rw [List.append_assoc, List.getElem?_append_left (by rw [List.length_take, hlen]; omega), List.getElem?_take_of_lt h1, hg, shC_get _ _ _ _ (by omega), shC_get _ _ _ _ (by omega)]
    unfold shF rowF
    by_cases h0 : i = 0
    · rw [if_pos h0, if_pos h0]
    · by_cases h2 : i = 1
      · rw [if_neg h0, if_neg h0, if_pos h2, if_pos h2]
      · rw [if_neg h0, if_neg h0, if_neg h2, if_neg h2, if_neg (by omega)]
  · by_cases h2 : i < 2 + k * 8 + x.length
    · rw [List.getElem?_append_left (by rw [List.length_append, List.length_take, hlen, hbl]; omega), List.getElem?_append_right (by rw [List.length_take, hlen]; omega), List.length_take, hlen, shC_get _ _ _ _ (by omega)]
      unfold shF rowF
      rw [if_neg (by omega), if_neg (by omega), if_pos (by omega)]
      have hm : i - min (2 + k * 8) 66 = (i - 2) % 8 := by omega
      have hj : (i - 2) % 8 < x.length := by omega
      rw [hm]
      unfold Lib.byteCells
      rw [List.getElem?_map, List.getElem?_eq_getElem hj]
      simp [List.getD, List.getElem?_eq_getElem hj]
    · rw [List.getElem?_append_right (by rw [List.length_append, List.length_take, hlen, hbl]; omega), List.length_append, List.length_take, hlen, hbl, List.getElem?_drop]
      have e : 2 + k * 8 + x.length + (i - (min (2 + k * 8) 66 + x.length)) = i := by omega
      rw [e, hg]
      by_cases h3 : i < 66
      · rw [shC_get _ _ _ _ h3, shC_get _ _ _ _ h3]
        unfold shF rowF
        rw [if_neg (by omega), if_neg (by omega), if_neg (by omega), if_neg (by omega), if_neg (by omega)]
      · rw [Array.getElem?_eq_none (by rw [shC_size]; omega), Array.getElem?_eq_none (by rw [shC_size]; omega)]
theorem shC_one (r c : Nat) (f : Nat → UInt8) : (shC r c f).all (·.oneCell') = true := by
  rw [Array.all_eq_true_iff_forall_mem]
  intro x hx
  unfold shC at hx
  rw [List.mem_toArray, List.mem_map] at hx
  obtain ⟨k, _, rfl⟩ := hx
  unfold shF
  split
  · rfl
  · split <;> rfl
/-- What domino.read answers. -/
def RdP (lt s : List UInt8) (v : Value) : Prop := (∃ r c, Shz lt r c (pz s) ∧ v = .tuple #[.agg (shC r c (cef (pz s))), .int .i64 0]) ∨ ((∀ r c, ¬ Shz lt r c (pz s)) ∧ v = .tuple #[.agg (shC 0 0 fun _ => 0), .int .i64 1])
theorem shz_len {lt : List UInt8} {r c : Nat} {s : List UInt8} (h : Shz lt r c (pz s)) : s.length ≤ 71 := by
  have e := tx_cef h
  obtain ⟨h1, h2, h3, h4, h5, _⟩ := h
  obtain ⟨r', rfl⟩ : ∃ r', r = r' + 1 := ⟨r - 1, by omega⟩
  rw [← e, tx_length]
  have : (r' + 1) * (c + 1) ≤ 8 * 9 := Nat.mul_le_mul (by omega) (by omega)
  omega
theorem shz_eq {lt : List UInt8} {r c : Nat} {l : List (List UInt8)} (h : Shz lt r c l) : r = l.length ∧ c = (l.getD 0 []).length := by
  obtain ⟨h1, h2, h3, h4, h5, h6⟩ := h
  refine ⟨h1.symm, ?_⟩
  have h0 : 0 < l.length := by omega
  have := (h6 (l.getD 0 []) (by rw [List.getD_eq_getElem?_getD, List.getElem?_eq_getElem h0, Option.getD_some]; exact List.getElem_mem h0)).1
  exact this.symm
theorem shz_of {lt : List UInt8} {l : List (List UInt8)} (h1 : 1 ≤ l.length) (h2 : l.length ≤ 8) (h3 : 1 ≤ (l.getD 0 []).length) (h4 : (l.getD 0 []).length ≤ 8) (h : ∀ k, k < l.length → (l.getD k []).length = (l.getD 0 []).length ∧ isL lt (l.getD k []) = true) : Shz lt l.length (l.getD 0 []).length l := by
  refine ⟨rfl, h1, h2, h3, h4, fun x hx => ?_⟩
  obtain ⟨k, hk, rfl⟩ := List.mem_iff_getElem.1 hx
  have := h k hk
  rw [List.getD_eq_getElem?_getD (l := l) (i := k), List.getElem?_eq_getElem hk, Option.getD_some] at this
  exact ⟨this.1, isL_iff.1 this.2⟩
theorem shz_no {lt : List UInt8} {l : List (List UInt8)} {k : Nat} (hk : k < l.length) (h : (l.getD k []).length ≠ (l.getD 0 []).length ∨ isL lt (l.getD k []) = false) : ∀ r c, ¬ Shz lt r c l := by
  intro r c q
  have e := shz_eq q
  obtain ⟨h1, h2, h3, h4, h5, h6⟩ := q
  have hm : l.getD k [] ∈ l := by rw [List.getD_eq_getElem?_getD, List.getElem?_eq_getElem hk, Option.getD_some]; exact List.getElem_mem hk
  have := h6 _ hm
  rcases h with h | h
  · exact h (this.1.trans e.2)
  · rw [isL_iff.2 this.2] at h; cases h

end Go.Proofs.YtcnmndbckjmliaaDoor
