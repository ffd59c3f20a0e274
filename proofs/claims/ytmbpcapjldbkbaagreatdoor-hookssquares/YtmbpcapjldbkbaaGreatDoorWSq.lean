/-
  The law HooksSquares.
-/
import Derived.Test.YtmbpcapjldbkbaaGreatDoorWBig
import Derived.Test.YtmbpcapjldbkbaaGreatDoorWPck
import Derived.Test.YtmbpcapjldbkbaaGreatDoorWIto
import Derived.Test.YtmbpcapjldbkbaaGreatDoorSOf
import Derived.Test.YtmbpcapjldbkbaaGreatDoorHSq2
import Derived.BigGuard
import Derived.Deep.DeepCutAuto
namespace Go.Proofs.YtmbpcapjldbkbaaGreatDoor
open Go.RowKit

/-- The first k numbers together. -/
def psm (f : List Int → Nat) (l : List (List Int)) (k : Nat) : Nat := ((l.take k).map f).sum
theorem psm_zero (f : List Int → Nat) (l : List (List Int)) : psm f l 0 = 0 := rfl
theorem psm_succ (f : List Int → Nat) {l : List (List Int)} {k : Nat} (hk : k < l.length) : psm f l (k + 1) = psm f l k + f (l.getD k []) := by
  unfold psm
  rw [List.take_succ_eq_append_getElem hk, List.map_append, List.sum_append]
  simp [List.getD, hk]
theorem psm_all (f : List Int → Nat) (l : List (List Int)) : psm f l l.length = (l.map f).sum := by unfold psm; rw [List.take_length]
theorem psm_le (f : List Int → Nat) (l : List (List Int)) (k : Nat) : psm f l k ≤ (l.map f).sum := by
  unfold psm
  have h : ∀ (l : List (List Int)) (k : Nat), ((l.take k).map f).sum ≤ (l.map f).sum := by
    intro l
    induction l with
    | nil => intro k; simp
    | cons a l ih =>
      intro k
      cases k with
      | zero => simp
      | succ k => rw [List.take_succ_cons, List.map_cons, List.sum_cons, List.map_cons, List.sum_cons]; have := ih k; omega
  exact h l k
/-- The text of the number of tableaux. -/
def txN (q : List Int) : ByteArray := ⟨(numT (stdN q)).toArray⟩
theorem below_pt {zs : List Int} (h : IsPt zs) : ∀ q ∈ belowL zs, IsPt q := fun q hq => by
  unfold belowL at hq
  obtain ⟨i, hi, hq⟩ := List.mem_flatMap.1 hq
  have hi := List.mem_range.1 hi
  split at hq
  · cases hq
  · rename_i hne
    rw [List.mem_singleton] at hq
    subst hq
    refine low_pt h hi ?_
    have h1 := pF_anti h i
    have h2 := pF_cast h i
    have h3 := pF_cast h (i + 1)
    rcases Nat.lt_or_ge (pF zs (i + 1)) (pF zs i) with q | q
    · exact q
    · exact absurd (by rw [h2, h3]; omega) hne
theorem all_pt {c : Nat} (hc : c < 13) : ∀ q ∈ genA c, IsPt q ∧ szN q = c := fun q hq => by
  have h := genA_pt c hc
  rw [List.all_eq_true] at h
  have := h q hq
  simp only [Bool.and_eq_true, decide_eq_true_eq] at this
  exact ⟨pt_of this.1, this.2⟩
theorem pt_row {l : List (List Int)} (h : ∀ q ∈ l, IsPt q) : ∀ q ∈ l, q.length ≤ 17592186044416 ∧ ∀ z ∈ q, -9223372036854775808 ≤ z ∧ z ≤ 9223372036854775807 := fun q hq => by
  have hp := h q hq
  exact ⟨by have := hp.len; omega, fun z hz => by have := hp.range z hz; omega⟩
theorem mem_getL {l : List (List Int)} {k : Nat} (hk : k < l.length) : l.getD k [] ∈ l := by simp [List.getD, hk]
theorem bgStr {W : World} {lo p : Nat} {zs : List Int} (hp : IsPt zs) (hx : Bg W lo p (stdN zs)) :
    Calls Tryz.prog 26 #[.pointer (some ⟨p, 0, none⟩)] W fun e w' => e = .returned (.string (txN zs)) ∧ Below W.heap.size W w' := by
  obtain ⟨⟨vx, xs, ax⟩, hl⟩ := hx
  have b1 := Bg.len ax (stdN_fit hp)
  have hd := dec_len (k := 47) (stdN_lt hp)
  have h := BString_at p lo vx xs (stdN zs) W ax (by omega) (by
    have h2 : (dig (stdN zs)).length ≤ (Lib.decDigits (stdN zs)).length := by unfold dig; split <;> simp
    omega)
  rw [← numT_dec] at h
  exact h
theorem bgCmp {W : World} {lo p q x : Nat} (hx : Bg W lo p x) (hy : Bg W lo q x) (h1 : x < 4294967296 ^ 100) :
    Calls Tryz.prog 33 #[.pointer (some ⟨p, 0, none⟩), .pointer (some ⟨q, 0, none⟩)] W fun e w' => e = .returned (.int .i64 0) ∧ Below W.heap.size W w' := by
  obtain ⟨⟨vx, xs, ax⟩, hl⟩ := hx
  obtain ⟨⟨vy, ys, ay⟩, _⟩ := hy
  have b1 := Bg.len ax h1
  exact BCmp_same p q lo lo vx vy xs ys x W ax ay (by omega)
/-- A new number is 0. -/
theorem bg_new (w : World) : Bg (w.alloc (.cells #[.bool false, .slice none 0 0] 48)) w.heap.size w.heap.size 0 :=
  ⟨⟨.slice none 0 0, [], heap_alloc_new w _, ownsN_nil _ _⟩, Nat.le_refl _⟩

end Go.Proofs.YtmbpcapjldbkbaaGreatDoor
