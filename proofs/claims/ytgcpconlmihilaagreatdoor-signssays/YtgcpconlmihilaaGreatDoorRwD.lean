/-
  The contracts of slices.CompareFunc by slices.Compare, of rule.byLetters and of ferref.Less.
-/
import Derived.Test.YtgcpconlmihilaaGreatDoorDSo
import Derived.Test.YtgcpconlmihilaaGreatDoorJMth
import Derived.Test.YtgcpconlmihilaaGreatDoorTTab
namespace Go.Proofs.YtgcpconlmihilaaGreatDoor
open Go.RowKit

/-- Row by row, from row k on. -/
theorem cmpT_drop (s t : List (List Int)) (k : Nat) (h1 : k < s.length) (h2 : k < t.length) : cmpT (s.drop k) (t.drop k) = if cmpL (s.getD k []) (t.getD k []) ≠ 0 then cmpL (s.getD k []) (t.getD k []) else cmpT (s.drop (k + 1)) (t.drop (k + 1)) := by
  rw [List.drop_eq_getElem_cons h1, List.drop_eq_getElem_cons h2, cmpT]
  simp [List.getD, h1, h2]

set_option maxHeartbeats 1000000 in
theorem RLess_c (a b : Option Addr) (n m ca cb : Nat) (c : Int) (w : World) (P : Value → World → Prop) (Q : World → Prop)
    (H1 : Hid (Calls Tryz.prog 52 #[.slice a n ca] w fun e w' => ∃ v, e = .returned v ∧ P v w'))
    (H2 : Hid (∀ v1 w1, P v1 w1 → Calls Tryz.prog 52 #[.slice b m cb] w1 fun e w' => ∃ v2, e = .returned v2 ∧ Hid (∃ a1 n1 c1 a2 n2 c2, v1 = .slice a1 n1 c1 ∧ v2 = .slice a2 n2 c2 ∧ Calls Tryz.prog 51 #[.slice a1 n1 c1, .slice a2 n2 c2] w' fun e w2 => e = .returned (.int .i64 c) ∧ w2 = w' ∧ Q w'))) :
    Calls Tryz.prog 32 #[.slice a n ca, .slice b m cb] w fun e w' => e = .returned (.int .i64 c) ∧ Q w' := by
  go_enter Tryz.func32, Tryz.ntmps32
  go_wp2_with fail
  refine H1.out.mono ?_
  rintro e w1 ⟨v1, rfl, hP⟩
  have H3 : Hid (Calls Tryz.prog 52 #[.slice b m cb] w1 fun e w' => ∃ v2, e = .returned v2 ∧ Hid (∃ a1 n1 c1 a2 n2 c2, v1 = .slice a1 n1 c1 ∧ v2 = .slice a2 n2 c2 ∧ Calls Tryz.prog 51 #[.slice a1 n1 c1, .slice a2 n2 c2] w' fun e w2 => e = .returned (.int .i64 c) ∧ w2 = w' ∧ Q w')) := H2.out v1 w1 hP
  clear hP
  go_wp2_with fail
  refine H3.out.mono ?_
  rintro e w2 ⟨v2, rfl, H4⟩
  obtain ⟨a1, n1, c1, a2, n2, c2, rfl, rfl, h5⟩ := H4.out
  have H5 : Hid (Calls Tryz.prog 51 #[.slice a1 n1 c1, .slice a2 n2 c2] w2 fun e w' => e = .returned (.int .i64 c) ∧ w' = w2 ∧ Q w2) := h5
  clear h5
  go_wp2_with fail
  refine H5.out.mono ?_
  rintro e w3 ⟨rfl, hw3, hQ⟩
  obtain rfl := hw3
  go_wp2
  go_ret
  exact ⟨rfl, hQ⟩
theorem RLess_at (a b : Option Addr) (n m ca cb : Nat) (s t : List (List Int)) (w : World) (hs : Table w a s) (ht : Table w b t) (hn : n = s.length) (hm : m = t.length) (hl1 : s.length ≤ 1000) (hl2 : t.length ≤ 1000) (hf1 : s.flatten.length ≤ 1000000) (hf2 : t.flatten.length ≤ 1000000) (hz1 : ∀ z ∈ s.flatten, -9223372036854775808 ≤ z ∧ z ≤ 9223372036854775807) (hz2 : ∀ z ∈ t.flatten, -9223372036854775808 ≤ z ∧ z ≤ 9223372036854775807) :
    Calls Tryz.prog 32 #[.slice a n ca, .slice b m cb] w fun e w' => e = .returned (.int .i64 (cmpL s.flatten t.flatten)) ∧ Below w.heap.size w w' := by
  refine RLess_c a b n m ca cb _ w (fun v w' => Owns w' w.heap.size v s.flatten ∧ Below w.heap.size w w') _ (Joined_is a n ca s w hs hn (by omega) (by omega)) (fun v1 w1 hP => ?_)
  refine (Joined_is b m cb t w1 (ht.below hP.2) hm (by omega) (by omega)).mono ?_
  rintro e w2 ⟨v2, rfl, ho2, hb2⟩
  have ho1 := hP.1.below hb2
  obtain ⟨a1, c1, e1, hs1⟩ := ho1.shows (by omega) hz1
  obtain ⟨a2, c2, e2, hs2⟩ := ho2.shows (by omega) hz2
  refine ⟨v2, rfl, a1, _, c1, a2, _, c2, e1, e2, ?_⟩
  exact (CompareL_at a1 a2 _ _ c1 c2 s.flatten t.flatten w2 hs1 hs2 rfl rfl).mono (fun e w' h => ⟨h.1, h.2, hP.2.trans (hb2.mono hP.2.size)⟩)

end Go.Proofs.YtgcpconlmihilaaGreatDoor
