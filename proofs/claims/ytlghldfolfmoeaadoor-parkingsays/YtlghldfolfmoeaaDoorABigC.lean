/-
  The contracts of ferrersbig's SetInt64 (of a number that is not below 0) and String.
-/
import Derived.Test.YtlghldfolfmoeaaDoorABig
namespace Go.Proofs.YtlghldfolfmoeaaDoor
open Go.RowKit

set_option maxHeartbeats 4000000 in
theorem BSet_at (p lz : Nat) (b : Bool) (v0 : Value) (x : Nat) (w : World) (hz : w.heap[p]? = some (.cells #[.bool b, v0] 47 (0, 0))) (hlz : lz ≤ p) (hx : x < 9223372036854775808) :
    Calls Tryd.prog 32 #[.pointer (some ⟨p, 0, none⟩), .int .i64 (x : Int)] w fun e w' => ∃ v us, e = .returned (.pointer (some ⟨p, 0, none⟩)) ∧ w'.heap[p]? = some (.cells #[.bool false, v] 47 (0, 0)) ∧ OwnsN w' w.heap.size v us x ∧ Put w w' lz p := by
  have HZ : Hid (w.heap[p]? = some (.cells #[.bool b, v0] 47 (0, 0))) := hz
  have HZl : Hid (p < w.heap.size) := (Array.getElem?_eq_some_iff.1 hz).1
  have g0 : decide ((x : Int) < 0) = false := decide_eq_false (by omega)
  have g1 : ¬ (x : Int) < 0 := by omega
  clear hz
  go_enter Tryd.func32, Tryd.ntmps32
  go_wp2_with fail
  refine (words_at x (by omega) _).mono ?_
  rintro e W1 ⟨v, us, rfl, h1, h0, h2⟩
  obtain ⟨a3, c3, rfl, _⟩ := h1.shows (by omega)
  have H1 : Hid (OwnsN W1 w.heap.size (.slice a3 us.length c3) us x) := h1
  have H2 : Hid (Below w.heap.size w W1) := h2
  clear h1 h0 h2
  go_wp2_with fail
  refine (give_at p lz b v0 a3 us.length c3 W1 ((H2.out.block p HZl.out).trans HZ.out) hlz).mono ?_
  rintro e W2 ⟨rfl, h3, h4, h5⟩
  have HT : Hid (∃ v us, W2.heap[p]? = some (.cells #[.bool false, v] 47 (0, 0)) ∧ OwnsN W2 w.heap.size v us x ∧ Put w W2 lz p) := by
    have h1 := H1.out
    have h2 := H2.out
    refine ⟨_, us, h3, ⟨h1.own.blocks (fun k e => h5.block k (h1.own.lt e).2 (fun e2 => ?_)), h1.num, h1.room⟩, ?_, fun k hk hne => ?_⟩
    · have := (h1.own.lt e).1; have := HZl.out; omega
    · exact (h2.mono (by have := HZl.out; omega)).trans h5.below
    · rw [h5.block k (by have := h2.size; omega) hne, h2.block k hk]
  clear h3 h4 h5
  go_wp2
  go_ret
  obtain ⟨v, us, q1, q2, q3⟩ := HT.out
  exact ⟨v, us, rfl, q1, q2, q3⟩

set_option maxHeartbeats 4000000 in
theorem Text_zero (p : Nat) (a : Option Addr) (ca : Nat) (w : World) (hp1 : w.cell? ⟨p, 1, none⟩ = some (.slice a 0 ca)) :
    Calls Tryd.prog 38 #[.pointer (some ⟨p, 0, none⟩), .int .i64 10] w fun e w' => e = .returned (.string ⟨#[48]⟩) ∧ w' = w := by
  go_enter Tryd.func38, Tryd.ntmps38
  go_wp2
  go_ret
  exact ⟨rfl, rfl⟩

set_option maxHeartbeats 4000000 in
theorem BString_at (p lo : Nat) (v : Value) (us : List Nat) (x : Nat) (w : World) (h : IntAt w lo p v us x) (hl : us.length ≤ 1000000) (hd : (dig x).length ≤ 1000000) :
    Calls Tryd.prog 23 #[.pointer (some ⟨p, 0, none⟩)] w fun e w' => e = .returned (.string ⟨(Lib.decDigits x).toArray⟩) ∧ Below w.heap.size w w' := by
  obtain ⟨a, ca, rfl, hS⟩ := h.own.shows hl
  have HT : Hid (Calls Tryd.prog 38 #[.pointer (some ⟨p, 0, none⟩), .int .i64 10] w fun e w' => e = .returned (.string ⟨(Lib.decDigits x).toArray⟩) ∧ Below w.heap.size w w') := by
    rcases Nat.eq_zero_or_pos x with h0 | h0
    · subst h0
      have e := (num_zero h.own.num).2 rfl
      subst e
      refine (Text_zero p a ca w h.cell1).mono ?_
      rintro e w' ⟨rfl, rfl⟩
      exact ⟨by rw [Lib.decDigits, dif_pos (by omega)]; rfl, Below.refl _ _⟩
    · have hu : 0 < us.length := by
        rcases Nat.eq_zero_or_pos us.length with e | e
        · have := (num_zero h.own.num).1 (List.eq_nil_of_length_eq_zero e); omega
        · exact e
      have := Text_pos p a ca us.length us x w h.lt h.cell0 h.cell1 hS rfl hu h.own.num hd
      rw [dig, if_neg (by omega)] at this
      exact this
  clear h hS hl hd
  go_enter Tryd.func23, Tryd.ntmps23
  go_wp2_with fail
  refine HT.out.mono ?_
  rintro e w' ⟨rfl, hb⟩
  go_wp2
  go_ret
  exact ⟨rfl, hb⟩

end Go.Proofs.YtlghldfolfmoeaaDoor
