/-
  What the law DominoTurns meets at each call.
-/
import Derived.Test.YtcnmndbckjmliaaDoorNFl
import Derived.Test.YtcnmndbckjmliaaDoorNAz
import Derived.Test.YtcnmndbckjmliaaDoorNRBl
import Derived.Test.YtcnmndbckjmliaaDoorNRPu
import Derived.Test.YtcnmndbckjmliaaDoorNSmP
import Derived.Test.YtcnmndbckjmliaaDoorNRDi
namespace Go.Proofs.YtcnmndbckjmliaaDoor
open Go.RowKit

theorem til_eq {s : List UInt8} {r c r' c' : Nat} (h : Til s r c) (h' : Til s r' c') : r' = r ∧ c' = c := by
  have e1 := shz_eq h.1
  have e2 := shz_eq h'.1
  exact ⟨e2.1.trans e1.1.symm, e2.2.trans e1.2.symm⟩
theorem flpT {s : List UInt8} {r c : Nat} (h : Til s (r + 1) (c + 1)) : flp (mtQ (r + 1) (c + 1) (cef (pz s))) (r + 1) (c + 1) = flp (qR (cef (pz s))) r c := flips_eq h.2
/-- The blocks of a tiling. -/
def blP (s : List UInt8) (r c : Nat) : List (Int × Int) := flp (qR (cef (pz s))) r c
theorem blP_len {s : List UInt8} {r c : Nat} (h : Til s (r + 1) (c + 1)) : (blP s r c).length ≤ 64 := by
  have h1 := flp_length (qR (cef (pz s))) r c
  have h2 := h.1.2.2.1
  have h3 := h.1.2.2.2.2.1
  have h4 : r * c ≤ 8 * 8 := Nat.mul_le_mul (by omega) (by omega)
  unfold blP; omega
theorem blP_mem {s : List UInt8} {r c : Nat} (h : Til s (r + 1) (c + 1)) (x y : Int) : (x, y) ∈ blP s r c ↔ mtB (r + 1) (c + 1) (cef (pz s)) y x = true := mem_flips h.2 x y

section
variable (t : ByteArray) (m : Int) (w : World) (hs : t.size ≤ 4000000000) (hm : w.cell? ⟨0, 0, none⟩ = some (.int .i64 m))
include hs hm
theorem Flips_no (hT : ∀ r c, ¬ Til t.data.toList r c) : Calls Tryd.prog 20 #[.string t] w fun e w' => e = .returned (.tuple #[.slice none 0 0, .int .i64 1]) ∧ Hid (Below w.heap.size w w') := by
  refine (Flips_at t m w hs hm).mono ?_
  rintro e w' ⟨v, er, rfl, hF, hB⟩
  rcases hF.out with ⟨_, r, c, h, _⟩ | ⟨rfl, rfl, _⟩
  · exact absurd h (hT r c)
  · exact ⟨rfl, hB⟩
theorem Flips_ok (r c : Nat) (hT : Til t.data.toList (r + 1) (c + 1)) (n : Nat) (hn : n = (blP t.data.toList r c).length) : Calls Tryd.prog 20 #[.string t] w fun e w' => ∃ a cp, e = .returned (.tuple #[.slice a n cp, .int .i64 0]) ∧ Hid (PtI w' a (blP t.data.toList r c)) ∧ Hid (Below w.heap.size w w') := by
  subst hn
  refine (Flips_at t m w hs hm).mono ?_
  rintro e w' ⟨v, er, rfl, hF, hB⟩
  rcases hF.out with ⟨rfl, r', c', h, hO⟩ | ⟨_, _, hno⟩
  · obtain ⟨rfl, rfl⟩ := til_eq hT h
    rw [flpT hT] at hO
    obtain ⟨a, cp, rfl, hP, _⟩ := OwPt.open hO
    exact ⟨a, cp, rfl, hP, hB⟩
  · exact absurd hT (hno _ _)
theorem Flip_no (x y : Int) (hT : ∀ r c, ¬ Til t.data.toList r c) : Calls Tryd.prog 21 #[.string t, .agg #[.int .i64 x, .int .i64 y]] w fun e w' => e = .returned (.tuple #[.string ⟨#[]⟩, .int .i64 1]) ∧ Hid (Below w.heap.size w w') := by
  refine (Flip_at t x y m w hs hm).mono ?_
  rintro e w' ⟨v, er, rfl, hF, hB⟩
  rcases hF.out with ⟨r, c, h, _⟩ | ⟨rfl, rfl, _⟩
  · exact absurd h (hT r c)
  · exact ⟨rfl, hB⟩
theorem Flip_off (x y : Int) (r c : Nat) (hT : Til t.data.toList (r + 1) (c + 1)) (hf : (x, y) ∉ blP t.data.toList r c) : Calls Tryd.prog 21 #[.string t, .agg #[.int .i64 x, .int .i64 y]] w fun e w' => e = .returned (.tuple #[.string ⟨#[]⟩, .int .i64 5]) ∧ Hid (Below w.heap.size w w') := by
  refine (Flip_at t x y m w hs hm).mono ?_
  rintro e w' ⟨v, er, rfl, hF, hB⟩
  rcases hF.out with ⟨r', c', h, h2⟩ | ⟨_, _, hno⟩
  · obtain ⟨rfl, rfl⟩ := til_eq hT h
    rcases h2 with ⟨_, i, j, rfl, rfl, hi, hj, hq, _⟩ | ⟨rfl, rfl, _⟩
    · exact absurd ((mem_flp _ _ _ _ _).2 ⟨i, j, by omega, by omega, hq, rfl, rfl⟩) hf
    · exact ⟨rfl, hB⟩
  · exact absurd hT (hno _ _)
theorem Flip_on (i j : Nat) (r c : Nat) (hT : Til t.data.toList (r + 1) (c + 1)) (hi : i < r) (hj : j < c) (hq : qR (cef (pz t.data.toList)) i j = true) (up : Bool) (hup : up = (cef (pz t.data.toList) (i * 8 + j) == 108)) (u : ByteArray) (hu : u = ⟨(tx (r + 1) (c + 1) (cvF (cef (pz t.data.toList)) i j up)).toArray⟩) : Calls Tryd.prog 21 #[.string t, .agg #[.int .i64 (j : Int), .int .i64 (i : Int)]] w fun e w' => e = .returned (.tuple #[.string u, .int .i64 0]) ∧ Hid (Below w.heap.size w w') := by
  subst hup
  subst hu
  refine (Flip_at t (j : Int) (i : Int) m w hs hm).mono ?_
  rintro e w' ⟨v, er, rfl, hF, hB⟩
  rcases hF.out with ⟨r', c', h, h2⟩ | ⟨_, _, hno⟩
  · obtain ⟨rfl, rfl⟩ := til_eq hT h
    rcases h2 with ⟨rfl, i', j', h3, h4, _, _, _, rfl⟩ | ⟨_, _, hn⟩
    · obtain rfl : i = i' := by omega
      obtain rfl : j = j' := by omega
      exact ⟨rfl, hB⟩
    · have := (mem_flips hT.2 (j : Int) (i : Int)).1 ((mem_flp _ _ _ _ _).2 ⟨i, j, by omega, by omega, hq, rfl, rfl⟩)
      rw [hn] at this; cases this
  · exact absurd hT (hno _ _)
theorem Laid_no (hT : ∀ r c, ¬ Til t.data.toList r c) : Calls Tryd.prog 11 #[.string t] w fun e w' => e = .returned (.bool false) ∧ Hid (Below w.heap.size w w') := by
  refine (Laid_at t m w hs hm).mono ?_
  rintro e w' ⟨b, rfl, hL, hB⟩
  cases b with
  | false => exact ⟨rfl, hB⟩
  | true => obtain ⟨r, c, h⟩ := hL.out.1 rfl; exact absurd h (hT r c)
theorem Laid_ok (r c : Nat) (hT : Til t.data.toList r c) : Calls Tryd.prog 11 #[.string t] w fun e w' => e = .returned (.bool true) ∧ Hid (Below w.heap.size w w') := by
  refine (Laid_at t m w hs hm).mono ?_
  rintro e w' ⟨b, rfl, hL, hB⟩
  have : b = true := hL.out.2 ⟨r, c, hT⟩
  subst this
  exact ⟨rfl, hB⟩
omit hs in
theorem Blocks_ok (r c : Nat) (hT : Til t.data.toList (r + 1) (c + 1)) (n : Nat) (hn : n = (blP t.data.toList r c).length) : Calls Tryd.prog 22 #[.string t] w fun e w' => ∃ a cp, e = .returned (.slice a n cp) ∧ Hid (PtI w' a (blP t.data.toList r c)) ∧ Hid (Below w.heap.size w w') := by
  subst hn
  refine (Blocks_at t r c m w hT.1 hm).mono ?_
  rintro e w' ⟨v, rfl, hO, hB⟩
  obtain ⟨a, cp, rfl, hP, _⟩ := OwPt.open hO.out
  exact ⟨a, cp, rfl, hP, hB⟩
end
theorem til_tx {s : List UInt8} {r c : Nat} (h : Til s r c) : tx r c (cef (pz s)) = s := tx_cef h.1
theorem Put_lie (t : ByteArray) (i j : Nat) (r c : Nat) (w : World) (hT : Til t.data.toList (r + 1) (c + 1)) (hi : i < r) (hj : j < c) (u : ByteArray) (hu : u = ⟨(tx (r + 1) (c + 1) (cvF (cef (pz t.data.toList)) i j false)).toArray⟩) :
    Calls Tryd.prog 24 #[.string t, .int .i64 (j : Int), .int .i64 (i : Int), .string ⟨#[108, 114, 108, 114]⟩] w fun e w' => e = .returned (.string u) ∧ Hid (Below w.heap.size w w') := by
  subst hu
  have h := Put_at t r (c + 1) j i ⟨#[108, 114, 108, 114]⟩ 108 114 108 114 w lrud hT.1 (by omega) (by omega) rfl
  have e : putL t.data.toList (c + 1 + 1) j i 108 114 108 114 = tx (r + 1) (c + 1) (cvF (cef (pz t.data.toList)) i j false) := by
    rw [← put_lie, ← put_tx r (c + 1) _ j i (by omega) (by omega) hT.1.2.2.2.2.1, til_tx hT]
  rw [e] at h; exact h
theorem Put_std (t : ByteArray) (i j : Nat) (r c : Nat) (w : World) (hT : Til t.data.toList (r + 1) (c + 1)) (hi : i < r) (hj : j < c) (u : ByteArray) (hu : u = ⟨(tx (r + 1) (c + 1) (cvF (cef (pz t.data.toList)) i j true)).toArray⟩) :
    Calls Tryd.prog 24 #[.string t, .int .i64 (j : Int), .int .i64 (i : Int), .string ⟨#[117, 117, 100, 100]⟩] w fun e w' => e = .returned (.string u) ∧ Hid (Below w.heap.size w w') := by
  subst hu
  have h := Put_at t r (c + 1) j i ⟨#[117, 117, 100, 100]⟩ 117 117 100 100 w lrud hT.1 (by omega) (by omega) rfl
  have e : putL t.data.toList (c + 1 + 1) j i 117 117 100 100 = tx (r + 1) (c + 1) (cvF (cef (pz t.data.toList)) i j true) := by
    rw [← put_stand, ← put_tx r (c + 1) _ j i (by omega) (by omega) hT.1.2.2.2.2.1, til_tx hT]
  rw [e] at h; exact h
/-- Lying dominoes there already: the text stays. -/
theorem put_stays {t : ByteArray} {i j r c : Nat} (hT : Til t.data.toList (r + 1) (c + 1)) (hi : i < r) (hj : j < c) (hq : qR (cef (pz t.data.toList)) i j = true) (u : ByteArray) (hu : u = ⟨(tx (r + 1) (c + 1) (cvF (cef (pz t.data.toList)) i j false)).toArray⟩) :
    u = t ↔ (cef (pz t.data.toList) (i * 8 + j) == 108) = true := by
  have h := flip_lie (r := r) (c := c + 1) (f := cef (pz t.data.toList)) (i := i) (j := j) (by omega) (by omega) hq
  rw [til_tx hT] at h
  rw [← h]
  subst hu
  constructor
  · intro e
    have := congrArg (·.data.toList) e
    exact decide_eq_true this
  · intro e
    exact ba_extN (of_decide_eq_true e)

end Go.Proofs.YtcnmndbckjmliaaDoor
