/-
  The contract of slices.Clone[[]int,int] at a slice that is not nil.
-/
import Derived.Test.YtampjdebnaapaaeBApp
import Derived.Test.YtampjdebnaapaaeIRev
import Derived.Lib.SliceRun
namespace Go.Proofs.Ytampjdebnaapaae
open Go.RowKit

set_option maxHeartbeats 4000000 in
theorem Clone_at (ad : Addr) (n cap : Nat) (zs : List Int) (w : World) (hs : Shows w (some ad) zs) (hn : n = zs.length) (hl : zs.length ≤ 1000) :
    Calls Try.prog 7 #[.slice (some ad) n cap] w fun e w' => ∃ v, e = .returned v ∧ Owns w' w.heap.size v zs ∧ Below w.heap.size w w' := by
  have HS : Hid (Shows w (some ad) zs) := hs
  have HN : Hid (n = zs.length) := hn
  have heq : (binOp .eql 22 (.slice (some ad) n cap) (.slice none 0 0)).run Try.prog w = .ok (.bool false) w := Lib.run_eql_slice_nil w 22 3 (some ad) n cap 0 0 Try.underlying22
  have HA : Hid (Below w.heap.size w (w.alloc (.cells #[] 3))) := (Below.refl _ _).alloc (Nat.le_refl _) _
  have HW : Hid (Shows (w.alloc (.cells #[] 3)) (some ad) zs) := hs.below HA.out
  have HX : (w.alloc (.cells #[] 3)).heap[w.heap.size]? = some (.cells #[] 3 (0, 0)) := by show (w.heap.push _)[w.heap.size]? = _; rw [Array.getElem?_push_size]
  have HO : Hid (Owns (w.alloc (.cells #[] 3)) w.heap.size (.slice (some ⟨w.heap.size, 0, none⟩) 0 0) []) := ⟨rfl, Or.inr ⟨w.heap.size, 0, #[], rfl, Nat.le_refl _, HX, Nat.le_refl _, Nat.zero_le _, rfl, rfl⟩⟩
  clear hs hn HX
  go_enter Try.func7, Try.ntmps7
  go_wp2_with (at_builtin; refine append_src (zs := []) (ys := zs) (base := w.heap.size) rfl _ _ rfl rfl rfl ?o ?s HN.out (fun h => by cases h) (by simp; omega) ?b ?_)
  case o => exact HO.out
  case s => exact HW.out
  case b => simp
  intro v' w' hO hb hk
  have HO' : Hid (Owns w' w.heap.size v' zs) := hO
  have HB' : Hid (Below w.heap.size w w') := HA.out.trans hb
  clear hO hb hk
  go_wp2
  go_ret
  exact ⟨_, rfl, HO'.out, HB'.out⟩

set_option maxHeartbeats 4000000 in
theorem Clone_nil (w : World) : Calls Try.prog 7 #[.slice none 0 0] w fun e w' => e = .returned (.slice none 0 0) ∧ Below w.heap.size w w' := by
  have heq : (binOp .eql 22 (.slice none 0 0) (.slice none 0 0)).run Try.prog w = .ok (.bool true) w := Lib.run_eql_slice_nil w 22 3 none 0 0 0 0 Try.underlying22
  go_enter Try.func7, Try.ntmps7
  go_wp2
  go_ret
  exact ⟨rfl, Below.refl _ _⟩

theorem Clone_any (a : Option Addr) (n cap : Nat) (zs : List Int) (w : World) (hs : Shows w a zs) (hn : n = zs.length) (hc : a = none → cap = 0) (hl : zs.length ≤ 1000) :
    Calls Try.prog 7 #[.slice a n cap] w fun e w' => ∃ v, e = .returned v ∧ Owns w' w.heap.size v zs ∧ Below w.heap.size w w' := by
  cases a with
  | some ad => exact Clone_at ad n cap zs w hs hn hl
  | none =>
    have hz : zs = [] := Classical.byContradiction fun h => by obtain ⟨b, off, e, _⟩ := hs.cells h; cases e
    subst hz
    subst hn
    have := hc rfl
    subst this
    refine (Clone_nil w).mono fun e w' h => ?_
    obtain ⟨rfl, hb⟩ := h
    exact ⟨_, rfl, ⟨rfl, Or.inl ⟨rfl, rfl⟩⟩, hb⟩

set_option maxHeartbeats 4000000 in
theorem Reverse_nil (w : World) : Calls Try.prog 8 #[.slice none 0 0] w fun e w' => e = .returned (.tuple #[]) ∧ w' = w := by
  go_enter Try.func8, Try.ntmps8
  go_wp2
  go_loopw [2, 3] (fun iv jv wr => iv = .int .i64 0 ∧ jv = .int .i64 (-1) ∧ wr = w) (fun _ _ _ => 0)
  case atStart => exact ⟨rfl, rfl, rfl⟩
  case round =>
    obtain ⟨rfl, rfl, rfl⟩ := hrel
    go_wp2
    go_end0
    exact ⟨rfl, rfl⟩

theorem Reverse_any (v : Value) (zs : List Int) (lo : Nat) (w : World) (ho : Owns w lo v zs) (hl : zs.length ≤ 1000) :
    Calls Try.prog 8 #[v] w fun e w' => e = .returned (.tuple #[]) ∧ Owns w' lo v zs.reverse ∧ Below lo w w' ∧ w'.heap.size = w.heap.size := by
  rcases ho.2 with ⟨h2, h3⟩ | ⟨g, cap, cur, hv, _⟩
  · have hz : zs = [] := List.length_eq_zero_iff.1 h3
    subst hz
    subst h2
    refine (Reverse_nil w).mono fun e w' h => ?_
    obtain ⟨rfl, rfl⟩ := h
    exact ⟨rfl, ho, Below.refl _ _, rfl⟩
  · subst hv
    exact Reverse_at g zs.length cap zs lo w ho rfl hl

end Go.Proofs.Ytampjdebnaapaae
