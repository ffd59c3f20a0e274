/-
  slices.Insert of one number, anywhere; slices.Clone.
-/
import Derived.Test.YtapchcamjeafmaaDoorQInt
import Derived.Test.YtapchcamjeafmaaDoorQInu
namespace Go.Proofs.YtapchcamjeafmaaDoor
open Go.RowKit

theorem InsI_any (v : Value) (base i N : Nat) (x : Int) (l : List Int) (w : World) (hO : Owns w base v l) (hi : i ≤ l.length) (h40 : l.length ≤ 40) (hN : N = w.heap.size) (hbs : base ≤ w.heap.size) :
    Calls Tryd.prog 14 #[v, .int .i64 (i : Int), .slice (some ⟨N, 0, none⟩) 1 1] (w.alloc (.cells #[.int .i64 x] 3)) fun e w' => ∃ v', e = .returned v' ∧ Hid (Owns w' base v' (l.take i ++ x :: l.drop i)) ∧ Hid (Below base w w') := by
  by_cases he : i = l.length
  · have h := InsI_end v base i N x l w hO he h40 hN hbs
    have e : l.take i ++ x :: l.drop i = l ++ [x] := by rw [he, List.take_length, List.drop_length]
    rw [e]; exact h
  · rcases hO.2 with ⟨h2, h3⟩ | ⟨g, cap, cur, hv, hg, hh, h4, h5, h6, h7⟩
    · omega
    · subst hv
      by_cases hr : l.length + 1 ≤ cap
      · exact InsI_shift g l.length cap i base N x l w hO rfl (by omega) hr h40 hN
      · exact InsI_grow g l.length cap i base N x l w hO rfl (by omega) (by omega) h40 hN hbs

set_option maxHeartbeats 4000000 in
theorem CloneI_at (ad : Addr) (n cap : Nat) (zs : List Int) (w : World) (hs : Shows w (some ad) zs) (hn : n = zs.length) (hl : zs.length ≤ 1000) :
    Calls Tryd.prog 15 #[.slice (some ad) n cap] w fun e w' => ∃ v, e = .returned v ∧ Owns w' w.heap.size v zs ∧ Below w.heap.size w w' := by
  have HS : Hid (Shows w (some ad) zs) := hs
  have HN : Hid (n = zs.length) := hn
  have heq : (binOp .eql 36 (.slice (some ad) n cap) (.slice none 0 0)).run Tryd.prog w = .ok (.bool false) w := Lib.run_eql_slice_nil w 36 3 (some ad) n cap 0 0 Tryd.underlying36
  have HA : Hid (Below w.heap.size w (w.alloc (.cells #[] 3))) := (Below.refl _ _).alloc (Nat.le_refl _) _
  have HW : Hid (Shows (w.alloc (.cells #[] 3)) (some ad) zs) := hs.below HA.out
  have HX : (w.alloc (.cells #[] 3)).heap[w.heap.size]? = some (.cells #[] 3 (0, 0)) := by show (w.heap.push _)[w.heap.size]? = _; rw [Array.getElem?_push_size]
  have HO : Hid (Owns (w.alloc (.cells #[] 3)) w.heap.size (.slice (some ⟨w.heap.size, 0, none⟩) 0 0) []) := ⟨rfl, Or.inr ⟨w.heap.size, 0, #[], rfl, Nat.le_refl _, HX, Nat.le_refl _, Nat.zero_le _, rfl, rfl⟩⟩
  clear hs hn HX
  go_enter Tryd.func15, Tryd.ntmps15
  go_wp2_with (at_builtin; refine append_src (zs := []) (ys := zs) (base := w.heap.size) rfl _ _ rfl rfl rfl ?o ?s HN.out (fun h => by cases h) (by simp; omega) ?b ?_)
  case o => exact HO.out
  case s => exact HW.out
  case b => simp
  intro v' w' hO hb hk
  have HO' : Hid (Owns w' w.heap.size v' zs) := hO
  have HB' : Hid (Below w.heap.size w w') := HA.out.trans hb
  clear hO hb hk
  go_wp2
  go_ret
  exact ⟨_, rfl, HO'.out, HB'.out⟩

set_option maxHeartbeats 4000000 in
theorem CloneI_nil (w : World) : Calls Tryd.prog 15 #[.slice none 0 0] w fun e w' => e = .returned (.slice none 0 0) ∧ Below w.heap.size w w' := by
  have heq : (binOp .eql 36 (.slice none 0 0) (.slice none 0 0)).run Tryd.prog w = .ok (.bool true) w := Lib.run_eql_slice_nil w 36 3 none 0 0 0 0 Tryd.underlying36
  go_enter Tryd.func15, Tryd.ntmps15
  go_wp2
  go_ret
  exact ⟨rfl, Below.refl _ _⟩

/-- What is cloned is the call's own. -/
theorem CloneI_own (v : Value) (zs : List Int) (base : Nat) (w : World) (hO : Owns w base v zs) (hl : zs.length ≤ 40) (hwf : ∀ z ∈ zs, -9223372036854775808 ≤ z ∧ z ≤ 9223372036854775807) :
    Calls Tryd.prog 15 #[v] w fun e w' => ∃ v, e = .returned v ∧ Hid (Owns w' w.heap.size v zs) ∧ Hid (Below w.heap.size w w') := by
  rcases hO.2 with ⟨hv, hn⟩ | ⟨g, cap, cur, hv, _⟩
  · have hz : zs = [] := List.eq_nil_of_length_eq_zero hn
    subst hz; subst hv
    refine (CloneI_nil w).mono fun e w' h => ?_
    obtain ⟨rfl, hb⟩ := h
    exact ⟨_, rfl, hid_w ⟨rfl, Or.inl ⟨rfl, rfl⟩⟩, hid_w hb⟩
  · obtain ⟨a, c, hv2, hS⟩ := hO.shows (by omega) hwf
    rw [hv] at hv2
    simp only [Value.slice.injEq] at hv2
    obtain ⟨ha, -, hc⟩ := hv2
    rw [hv]
    rw [← ha] at hS
    refine (CloneI_at _ zs.length cap zs w hS rfl (by omega)).mono fun e w' h => ?_
    obtain ⟨v, e1, h1, h2⟩ := h
    exact ⟨v, e1, hid_w h1, hid_w h2⟩
end Go.Proofs.YtapchcamjeafmaaDoor
