/-
  The contracts of slices.CompareFunc by slices.Compare, of rule.byLetters and of ferref.Less.
-/
import Derived.Test.YtmbpcapjldbkbaaGreatDoorRwC
import Derived.Test.YtmbpcapjldbkbaaGreatDoorCRow
import Derived.Test.YtmbpcapjldbkbaaGreatDoorTTab
namespace Go.Proofs.YtmbpcapjldbkbaaGreatDoor
open Go.RowKit

/-- Row by row, from row k on. -/
theorem cmpT_drop (s t : List (List Int)) (k : Nat) (h1 : k < s.length) (h2 : k < t.length) : cmpT (s.drop k) (t.drop k) = if cmpL (s.getD k []) (t.getD k []) ≠ 0 then cmpL (s.getD k []) (t.getD k []) else cmpT (s.drop (k + 1)) (t.drop (k + 1)) := by
  rw [List.drop_eq_getElem_cons h1, List.drop_eq_getElem_cons h2, cmpT]
  simp [List.getD, h1, h2]

set_option maxHeartbeats 4000000 in
theorem CompareF_at (a b : Option Addr) (n m ca cb : Nat) (s t : List (List Int)) (w : World) (hs : Table w a s) (ht : Table w b t) (hn : n = s.length) (hm : m = t.length) (hl1 : s.length ≤ 1000) :
    Calls Tryz.prog 76 #[.slice a n ca, .slice b m cb, .func (.func 77) #[] #[]] w fun e w' => e = .returned (.int .i64 (cmpT s t)) ∧ w' = w := by
  subst hn
  subst hm
  have HS : Hid (Table w a s) := hs
  have HT : Hid (Table w b t) := ht
  clear hs ht
  go_enter Tryz.func76, Tryz.ntmps76
  go_wp2
  go_loopw [13] (fun i wr => ∃ k : Nat, k ≤ s.length ∧ k ≤ t.length ∧ i = .int .i64 k ∧ Hid (cmpT s t = cmpT (s.drop k) (t.drop k)) ∧ wr = w) (fun i _ => s.length - (intOf i).toNat)
  case atStart => exact ⟨0, Nat.zero_le _, Nat.zero_le _, rfl, by show _ = _; simp, rfl⟩
  case round =>
    obtain ⟨k, hk, hk2, rfl, HC, hwr⟩ := hrel
    obtain rfl := hwr
    by_cases hlt : k < s.length
    · have hlt' : (k : Int) < (s.length : Int) := by omega
      obtain ⟨b1, off1, ai, ni, ci, rfl, hc1, HN1, HS1, _, _⟩ := HS.out.elemR hlt
      by_cases hlt2 : k < t.length
      · have hlt2' : ¬ ((k : Int) ≥ (t.length : Int)) := by omega
        have hlt3 : (k : Int) < (t.length : Int) := by omega
        obtain ⟨b2, off2, aj, nj, cj, rfl, hc2, HN2, HS2, _, _⟩ := HT.out.elemR hlt2
        obtain ⟨c, HCC⟩ : ∃ c, Hid (cmpL (s.getD k []) (t.getD k []) = c) := ⟨_, rfl⟩
        have HCL : Hid (Calls Tryz.prog 77 #[.slice ai ni ci, .slice aj nj cj] wr fun e w' => e = .returned (.int .i64 c) ∧ w' = wr) := by
          rw [← HCC.out]; exact CompareL_at ai aj ni nj ci cj _ _ wr HS1.out HS2.out HN1.out HN2.out
        have hd := cmpT_drop s t k hlt hlt2
        rw [HCC.out] at hd
        by_cases h0 : c = 0
        · subst h0
          have HC2 : Hid (cmpT s t = cmpT (s.drop (k + 1)) (t.drop (k + 1))) := by
            have h1 := HC.out
            rw [hd] at h1
            show _ = _
            simpa using h1
          clear hd
          go_wp2_with fail
          refine HCL.out.mono ?_
          rintro e w1 ⟨rfl, hw1⟩
          obtain rfl := hw1
          go_wp2
          go_roundw
          case rel => exact ⟨k + 1, by omega, by omega, by go_num, HC2, trivial⟩
          case measure => simp [intOf]; omega
        · have HC2 : Hid (cmpT s t = c) := by
            have h1 := HC.out
            rw [hd, if_pos h0] at h1
            exact h1
          have h0b : (c != 0) = true := by simpa using h0
          clear hd
          go_wp2_with fail
          refine HCL.out.mono ?_
          rintro e w1 ⟨rfl, hw1⟩
          obtain rfl := hw1
          go_wp2
          go_ret
          exact ⟨by rw [HC2.out]; rfl, rfl⟩
      · obtain rfl : k = t.length := by omega
        have hlt2' : ((t.length : Nat) : Int) ≥ (t.length : Int) := by omega
        have HC2 : Hid (cmpT s t = 1) := by
          have h1 := HC.out
          rw [List.drop_length, List.drop_eq_getElem_cons hlt, cmpT] at h1
          exact h1
        go_wp2
        go_ret
        exact ⟨by rw [HC2.out]; rfl, rfl⟩
    · obtain rfl : k = s.length := by omega
      have hlt' : ¬ ((s.length : Int) < (s.length : Int)) := by omega
      by_cases hlt2 : s.length < t.length
      · have hlt3 : (s.length : Int) < (t.length : Int) := by omega
        have HC2 : Hid (cmpT s t = -1) := by
          have h1 := HC.out
          rw [List.drop_length, List.drop_eq_getElem_cons hlt2, cmpT] at h1
          exact h1
        go_wp2
        go_ret
        exact ⟨by rw [HC2.out]; rfl, rfl⟩
      · have hlt3 : ¬ ((s.length : Int) < (t.length : Int)) := by omega
        have HC2 : Hid (cmpT s t = 0) := by
          have h1 := HC.out
          have e : t.length = s.length := by omega
          rw [List.drop_length, ← e, List.drop_length, cmpT] at h1
          exact h1
        go_wp2
        go_ret
        exact ⟨by rw [HC2.out]; rfl, rfl⟩

set_option maxHeartbeats 1000000 in
theorem fbyLetters_c (a b : Option Addr) (n m ca cb : Nat) (c : Int) (w : World) (H : Hid (Calls Tryz.prog 76 #[.slice a n ca, .slice b m cb, .func (.func 77) #[] #[]] w fun e w' => e = .returned (.int .i64 c) ∧ w' = w)) :
    Calls Tryz.prog 37 #[.slice a n ca, .slice b m cb] w fun e w' => e = .returned (.int .i64 c) ∧ w' = w := by
  go_enter Tryz.func37, Tryz.ntmps37
  go_wp2_with fail
  refine H.out.mono ?_
  rintro e w1 ⟨rfl, hw1⟩
  obtain rfl := hw1
  go_wp2
  go_ret
  exact ⟨rfl, rfl⟩
theorem fbyLetters_at (a b : Option Addr) (n m ca cb : Nat) (s t : List (List Int)) (w : World) (hs : Table w a s) (ht : Table w b t) (hn : n = s.length) (hm : m = t.length) (hl1 : s.length ≤ 1000) :
    Calls Tryz.prog 37 #[.slice a n ca, .slice b m cb] w fun e w' => e = .returned (.int .i64 (cmpT s t)) ∧ w' = w :=
  fbyLetters_c a b n m ca cb _ w (CompareF_at a b n m ca cb s t w hs ht hn hm hl1)
set_option maxHeartbeats 1000000 in
theorem RLess_c (a b : Option Addr) (n m ca cb : Nat) (c : Int) (w : World) (P : Value → World → Prop) (Q : World → Prop)
    (H1 : Hid (Calls Tryz.prog 82 #[.slice a n ca] w fun e w' => ∃ v, e = .returned v ∧ P v w'))
    (H2 : Hid (∀ v1 w1, P v1 w1 → Calls Tryz.prog 82 #[.slice b m cb] w1 fun e w' => ∃ v2, e = .returned v2 ∧ Hid (∃ a1 n1 c1 a2 n2 c2, v1 = .slice a1 n1 c1 ∧ v2 = .slice a2 n2 c2 ∧ Calls Tryz.prog 77 #[.slice a1 n1 c1, .slice a2 n2 c2] w' fun e w2 => e = .returned (.int .i64 c) ∧ w2 = w' ∧ Q w'))) :
    Calls Tryz.prog 41 #[.slice a n ca, .slice b m cb] w fun e w' => e = .returned (.int .i64 c) ∧ Q w' := by
  go_enter Tryz.func41, Tryz.ntmps41
  go_wp2_with fail
  refine H1.out.mono ?_
  rintro e w1 ⟨v1, rfl, hP⟩
  have H3 : Hid (Calls Tryz.prog 82 #[.slice b m cb] w1 fun e w' => ∃ v2, e = .returned v2 ∧ Hid (∃ a1 n1 c1 a2 n2 c2, v1 = .slice a1 n1 c1 ∧ v2 = .slice a2 n2 c2 ∧ Calls Tryz.prog 77 #[.slice a1 n1 c1, .slice a2 n2 c2] w' fun e w2 => e = .returned (.int .i64 c) ∧ w2 = w' ∧ Q w')) := H2.out v1 w1 hP
  clear hP
  go_wp2_with fail
  refine H3.out.mono ?_
  rintro e w2 ⟨v2, rfl, H4⟩
  obtain ⟨a1, n1, c1, a2, n2, c2, rfl, rfl, h5⟩ := H4.out
  have H5 : Hid (Calls Tryz.prog 77 #[.slice a1 n1 c1, .slice a2 n2 c2] w2 fun e w' => e = .returned (.int .i64 c) ∧ w' = w2 ∧ Q w2) := h5
  clear h5
  go_wp2_with fail
  refine H5.out.mono ?_
  rintro e w3 ⟨rfl, hw3, hQ⟩
  obtain rfl := hw3
  go_wp2
  go_ret
  exact ⟨rfl, hQ⟩
theorem RLess_at (a b : Option Addr) (n m ca cb : Nat) (s t : List (List Int)) (w : World) (hs : Table w a s) (ht : Table w b t) (hn : n = s.length) (hm : m = t.length) (hl1 : s.length ≤ 1000) (hl2 : t.length ≤ 1000) (hf1 : s.flatten.length ≤ 1000000) (hf2 : t.flatten.length ≤ 1000000) (hz1 : ∀ z ∈ s.flatten, -9223372036854775808 ≤ z ∧ z ≤ 9223372036854775807) (hz2 : ∀ z ∈ t.flatten, -9223372036854775808 ≤ z ∧ z ≤ 9223372036854775807) :
    Calls Tryz.prog 41 #[.slice a n ca, .slice b m cb] w fun e w' => e = .returned (.int .i64 (cmpL s.flatten t.flatten)) ∧ Below w.heap.size w w' := by
  refine RLess_c a b n m ca cb _ w (fun v w' => Owns w' w.heap.size v s.flatten ∧ Below w.heap.size w w') _ (Joined_is a n ca s w hs hn (by omega) (by omega)) (fun v1 w1 hP => ?_)
  refine (Joined_is b m cb t w1 (ht.below hP.2) hm (by omega) (by omega)).mono ?_
  rintro e w2 ⟨v2, rfl, ho2, hb2⟩
  have ho1 := hP.1.below hb2
  obtain ⟨a1, c1, e1, hs1⟩ := ho1.shows (by omega) hz1
  obtain ⟨a2, c2, e2, hs2⟩ := ho2.shows (by omega) hz2
  refine ⟨v2, rfl, a1, _, c1, a2, _, c2, e1, e2, ?_⟩
  exact (CompareL_at a1 a2 _ _ c1 c2 s.flatten t.flatten w2 hs1 hs2 rfl rfl).mono (fun e w' h => ⟨h.1, h.2, hP.2.trans (hb2.mono hP.2.size)⟩)

end Go.Proofs.YtmbpcapjldbkbaaGreatDoor
