/-
  What ferref.Tilings knows of texts: a map from texts to numbers.
-/
import Derived.Test.YtcnmndbckjmliaaDoorNCo
import Derived.Test.YtcnmndbckjmliaaDoorNFsp
import Derived.Test.YtcnmndbckjmliaaDoorNLft
import Derived.Test.YtcnmndbckjmliaaDoorNRPu
import Derived.StringKeys
namespace Go.Proofs.YtcnmndbckjmliaaDoor
open Go.RowKit
open Go.ChangeMaps
open Go.Maps (string_keyed)

/-- The cells that are not open, as a set. -/
def MskP (r c : Nat) (g : Nat → UInt8) (x : Nat) : Prop := x ≤ allC ∧ ∀ k, k < 64 → x.testBit k = !isC r c g k
theorem MskP.of {r c : Nat} {g : Nat → UInt8} {x : Nat} (h : OutP r c g r 0 x) : MskP r c g x := ⟨h.1, fun k hk => by
  rw [h.2 k hk]
  by_cases q : k < r * 8 + 0
  · rw [decide_eq_true q, Bool.and_true]
  · have : isC r c g k = false := by unfold isC; rw [decide_eq_false (by omega)]; rfl
    rw [this]; rfl⟩
theorem MskP.one {r c : Nat} {g : Nat → UInt8} {x y : Nat} (h : MskP r c g x) (h' : MskP r c g y) : x = y := by
  apply Nat.eq_of_testBit_eq
  intro j
  rcases Nat.lt_or_ge j 64 with q | q
  · rw [h.2 j q, h'.2 j q]
  · have a1 := h.1
    have a2 := h'.1
    have e1 : x < 2 ^ j := Nat.lt_of_lt_of_le (show x < 2 ^ 64 by unfold allC at a1; omega) (Nat.pow_le_pow_right (by omega) q)
    have e2 : y < 2 ^ j := Nat.lt_of_lt_of_le (show y < 2 ^ 64 by unfold allC at a2; omega) (Nat.pow_le_pow_right (by omega) q)
    rw [Nat.testBit_lt_two_pow e1, Nat.testBit_lt_two_pow e2]
theorem isC_iff {r c : Nat} {g : Nat → UInt8} {k : Nat} : isC r c g k = true ↔ k / 8 < r ∧ k % 8 < c ∧ g k = 35 := by
  unfold isC
  simp only [Bool.and_eq_true, decide_eq_true_eq]
  constructor
  · rintro ⟨⟨a, b⟩, d⟩; exact ⟨a, b, d⟩
  · rintro ⟨a, b, d⟩; exact ⟨⟨a, b⟩, d⟩
theorem isC_congr {r c : Nat} {g g' : Nat → UInt8} (h : ∀ i, i < r → ∀ j, j < c → g (i * 8 + j) = g' (i * 8 + j)) (k : Nat) : isC r c g k = isC r c g' k := by
  rw [Bool.eq_iff_iff, isC_iff, isC_iff]
  constructor
  · rintro ⟨a, b, d⟩
    have := h _ a _ b
    rw [show k / 8 * 8 + k % 8 = k by omega] at this
    exact ⟨a, b, by rw [← this]; exact d⟩
  · rintro ⟨a, b, d⟩
    have := h _ a _ b
    rw [show k / 8 * 8 + k % 8 = k by omega] at this
    exact ⟨a, b, by rw [this]; exact d⟩
/-- One text, one set. -/
theorem msk_text {r c : Nat} {g g' : Nat → UInt8} {x y : Nat} (h : MskP (r + 1) c g x) (h' : MskP (r + 1) c g' y) (e : tx (r + 1) c g = tx (r + 1) c g') : x = y := by
  refine h.one ⟨h'.1, fun k hk => ?_⟩
  rw [h'.2 k hk]
  congr 1
  refine isC_congr (fun i hi j hj => ?_) k
  have e1 := tx_get r c g i j hi hj
  have e2 := tx_get r c g' i j hi hj
  rw [e, e2] at e1
  exact Option.some.inj e1
/-- A domino less. -/
theorem msk_put {r c : Nat} {g : Nat → UInt8} {x p q : Nat} (h : MskP r c g x) (hp : p < 64) (hq : q < 64) (hpq : p ≠ q) : MskP r c (up2 g p 46 q 46) (addC x p q) := by
  refine ⟨add_le h.1 hp hq, fun k hk => ?_⟩
  rw [add_bit, h.2 k hk]
  unfold isC up2 upB
  by_cases e1 : k = q
  · subst e1; simp
  · by_cases e2 : k = p
    · subst e2; simp [e1]
    · have e1' := Ne.symm e1
      have e2' := Ne.symm e2
      simp [e1, e2, e1', e2']
theorem free_two {c p q : Nat} (hp : p < 64) (hq : q < 64) (h1 : c.testBit p = false) (h2 : c.testBit q = false) (hne : q ≠ p) : freeC (addC c p q) + 2 ≤ freeC c := by
  have hnd : (List.range 64).Nodup := List.nodup_range
  have a1 := filter_drop (List.range 64) (fun j => !c.testBit j) (fun j => !(c ||| 2 ^ p).testBit j) p hnd (by simpa using hp) (by simp [h1]) (by simp [Nat.testBit_or]) (fun j hj => by
    simp only [Nat.testBit_or, Bool.not_or, Bool.and_eq_true] at hj; exact hj.1)
  have a2 := filter_drop (List.range 64) (fun j => !(c ||| 2 ^ p).testBit j) (fun j => !(addC c p q).testBit j) q hnd (by simpa using hq) (by simp [Nat.testBit_or, h2, Ne.symm hne]) (by simp [add_bit]) (fun j hj => by
    unfold addC at hj
    rw [Nat.testBit_or] at hj
    simp only [Bool.not_or, Bool.and_eq_true] at hj; exact hj.1)
  unfold freeC
  omega
/-- The key of a text. -/
def keyS (l : List UInt8) : Lit := .string l
theorem keyS_of (s : ByteArray) (hs : s.size ≤ 71) : keyOf Tryd.prog 9 (.string s) = some (keyS s.data.toList) := Go.WideMaps.keyOf_string_mk Tryd.underlying9 (by unfold maxLen; omega)
/-- What is known is right: block b is a map of at most n texts of boards of r rows and c columns. -/
def KnowS (r c : Nat) (w : World) (b n : Nat) : Prop := ∃ D : DataW Unit, w.ownsMap Tryd.prog 9 (plainElem Tryd.prog 2) b n D ∧ Maps.IsMap D ∧ ∀ (g : Nat → UInt8) (x : Nat), MskP (r + 1) c g x → Maps.has D (keyS (tx (r + 1) c g)) = true → D.atKey (keyS (tx (r + 1) c g)) (.lit (.int .i64 0)) = .lit (.int .i64 (cntC x : Int))
theorem KnowS.mono {r c : Nat} {w : World} {b n n' : Nat} (h : KnowS r c w b n) (hn : n ≤ n') : KnowS r c w b n' := by
  obtain ⟨D, h1, h2, h3⟩ := h
  exact ⟨D, h1.mono hn, h2, h3⟩
theorem knowS_made (r c : Nat) (w : World) : KnowS r c (w.alloc (.map #[] 0)) w.heap.size 0 := by
  refine ⟨.map [], World.ownsMap_made _ _ _ _, Maps.isMap_empty, fun g x _ h => ?_⟩
  simp [Maps.has] at h
theorem KnowS.same {r c : Nat} {w w' : World} {b n : Nat} (h : KnowS r c w b n) (hb : w'.heap[b]? = w.heap[b]?) : KnowS r c w' b n := by
  obtain ⟨D, ⟨es, clock, h1, h4⟩, h2, h3⟩ := h
  exact ⟨D, ⟨es, clock, by rw [hb]; exact h1, h4⟩, h2, h3⟩
theorem KnowS.lt {r c : Nat} {w : World} {b n : Nat} (h : KnowS r c w b n) : b < w.heap.size := by
  obtain ⟨D, h1, _⟩ := h
  exact h1.lt
theorem knowS_put {r c : Nat} {D : DataW Unit} {g : Nat → UInt8} {x : Nat} (hx : MskP (r + 1) c g x) (h2 : Maps.IsMap D) (h3 : ∀ (g : Nat → UInt8) (x : Nat), MskP (r + 1) c g x → Maps.has D (keyS (tx (r + 1) c g)) = true → D.atKey (keyS (tx (r + 1) c g)) (.lit (.int .i64 0)) = .lit (.int .i64 (cntC x : Int))) :
    Maps.IsMap (D.put (keyS (tx (r + 1) c g)) (.lit (.int .i64 (cntC x : Int)))) ∧ ∀ (g' : Nat → UInt8) (y : Nat), MskP (r + 1) c g' y → Maps.has (D.put (keyS (tx (r + 1) c g)) (.lit (.int .i64 (cntC x : Int)))) (keyS (tx (r + 1) c g')) = true → (D.put (keyS (tx (r + 1) c g)) (.lit (.int .i64 (cntC x : Int)))).atKey (keyS (tx (r + 1) c g')) (.lit (.int .i64 0)) = .lit (.int .i64 (cntC y : Int)) := by
  refine ⟨h2.put _ _, fun g' y hy h => ?_⟩
  by_cases e : tx (r + 1) c g' = tx (r + 1) c g
  · rw [e, msk_text hy hx e]
    exact Maps.atKey_put_same h2 (by unfold keyS WideAt.IsKeyLit; trivial) _ _
  · have hne : keyS (tx (r + 1) c g') ≠ keyS (tx (r + 1) c g) := fun q => e (by unfold keyS at q; simpa using q)
    rw [Maps.atKey_put_other hne]
    rw [Maps.has_put_other hne] at h
    exact h3 g' y hy h

end Go.Proofs.YtcnmndbckjmliaaDoor
