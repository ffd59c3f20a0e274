/-
  Tables of ints as an address shows them; the contract of ferref.Joined.
-/
import Derived.Test.YtfpbccahmipliaaBApp
namespace Go.Proofs.Ytfpbccahmipliaa
open Go.RowKit

/-- The address a shows the rows ls. -/
def Table (w : World) (a : Option Addr) (ls : List (List Int)) : Prop := ∀ i, i < ls.length → ∃ b off ai ci, a = some ⟨b, off, none⟩ ∧ b < w.heap.size ∧ w.cell? ⟨b, off + i, none⟩ = some (.slice ai (ls.getD i []).length ci) ∧ Shows w ai (ls.getD i []) ∧ (ai = none → ls.getD i [] = [] ∧ ci = 0)

theorem Table.below {w w' : World} {a : Option Addr} {ls : List (List Int)} (h : Table w a ls) (hb : Below w.heap.size w w') : Table w' a ls := fun i hi => by
  obtain ⟨b, off, ai, ci, h1, h2, h3, h4, h5⟩ := h i hi
  exact ⟨b, off, ai, ci, h1, Nat.lt_of_lt_of_le h2 hb.size, (hb.cell h2).trans h3, h4.below hb, h5⟩

theorem take_flat (ls : List (List Int)) (k : Nat) (hk : k < ls.length) : (ls.take (k + 1)).flatten = (ls.take k).flatten ++ ls.getD k [] := by
  rw [List.take_succ_eq_append_getElem hk, List.flatten_append]
  simp [List.getD, List.getElem?_eq_getElem hk]
theorem take_flat_le (ls : List (List Int)) (k : Nat) : (ls.take k).flatten.length ≤ ls.flatten.length := by
  conv => rhs; rw [← List.take_append_drop k ls]
  rw [List.flatten_append, List.length_append]; omega

set_option maxHeartbeats 2000000 in
theorem Joined_any (a : Option Addr) (cap : Nat) (ls : List (List Int)) (w : World) (hs : Table w a ls) (hl : ls.length ≤ 2000000) (hf : ls.flatten.length ≤ 2000000) :
    Calls Try.prog 10 #[.slice a ls.length cap] w fun e w' => ∃ v, e = .returned v ∧ Owns w' w.heap.size v ls.flatten ∧ Below w.heap.size w w' := by
  have HF : Hid (ls.flatten.length ≤ 2000000) := hf
  have HS : Hid (Table w a ls) := hs
  clear hf hs
  go_enter Try.func10, Try.ntmps10
  go_wp2
  go_loopw [3, 4] (fun v i wr => ∃ k : Nat, k ≤ ls.length ∧ i = .int .i64 k ∧ Hid (Owns wr w.heap.size v (ls.take k).flatten) ∧ Hid (Below w.heap.size w wr)) (fun _ i _ => ls.length - (intOf i).toNat)
  case atStart => exact ⟨0, Nat.zero_le _, rfl, World.ownsRow_nil _ _ _ _, Below.refl _ _⟩
  case round =>
    obtain ⟨k, hk, rfl, HO, HB⟩ := hrel
    by_cases hlt : k < ls.length
    · have hlt' : (k : Int) < (ls.length : Int) := by omega
      obtain ⟨b, off, ai, ci, rfl, -, hc, hS, hN⟩ := (HS.out.below HB.out) k hlt
      have hT := take_flat ls k hlt
      obtain ⟨r, hr⟩ : ∃ r, r = ls.getD k [] := ⟨_, rfl⟩
      rw [← hr] at hc hS hN hT
      clear hr
      have HSk : Hid (Shows wr ai r) := hS
      have HNk : Hid (ai = none → r = [] ∧ ci = 0) := hN
      obtain ⟨m, HM⟩ : ∃ m, Hid (m = r.length) := ⟨_, rfl⟩
      rw [← HM.out] at hc
      have HT : Hid ((ls.take (k + 1)).flatten = (ls.take k).flatten ++ r) := hT
      clear hT
      clear hS hN
      go_wp2_with (at_builtin; refine append_src rfl _ _ rfl rfl rfl HO.out HSk.out HM.out HNk.out ?c1 ?c2 ?_)
      case c1 =>
        have h1 := take_flat_le ls (k + 1)
        rw [HT.out, List.length_append] at h1
        have := HF.out; omega
      case c2 => exact HB.out.size
      intro v' w' hO hb _
      have HO' : Hid (Owns w' w.heap.size v' (ls.take (k + 1)).flatten) := by show Owns _ _ _ _; rw [HT.out]; exact hO
      have HB' : Hid (Below w.heap.size w w') := HB.out.trans hb
      clear hO hb
      go_wp2
      go_roundw
      case rel => exact ⟨k + 1, by omega, by go_num, HO', HB'⟩
      case measure => simp [intOf]; omega
    · obtain rfl : k = ls.length := by omega
      have HE : Hid (Owns wr w.heap.size u3 ls.flatten) := by have := HO.out; rw [List.take_length] at this; exact this
      go_wp2
      go_ret
      exact ⟨_, rfl, HE.out, HB.out⟩

theorem Joined_ok (a : Option Addr) (cap : Nat) (ls : List (List Int)) (w : World) (hs : Table w a ls) (hl : ls.length ≤ 1000000) (hf : ls.flatten.length ≤ 1000000) :
    Calls Try.prog 10 #[.slice a ls.length cap] w fun e w' => ∃ v, e = .returned v ∧ Owns w' w.heap.size v ls.flatten ∧ Below w.heap.size w w' := Joined_any a cap ls w hs (by omega) (by omega)
theorem Joined_is (a : Option Addr) (n cap : Nat) (ls : List (List Int)) (w : World) (hs : Table w a ls) (hn : n = ls.length) (hl : ls.length ≤ 2000000) (hf : ls.flatten.length ≤ 2000000) :
    Calls Try.prog 10 #[.slice a n cap] w fun e w' => ∃ v, e = .returned v ∧ Owns w' w.heap.size v ls.flatten ∧ Below w.heap.size w w' := by
  subst hn; exact Joined_any a cap ls w hs hl hf

end Go.Proofs.Ytfpbccahmipliaa
