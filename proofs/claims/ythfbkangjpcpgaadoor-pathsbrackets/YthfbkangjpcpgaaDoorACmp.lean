/-
  Numbers that are one compare as such; NewInt, Sign.
-/
import Derived.Test.YthfbkangjpcpgaaDoorABigC
namespace Go.Proofs.YthfbkangjpcpgaaDoor
open Go.RowKit

theorem num_cons {u : Nat} {us : List Nat} {x : Nat} (h : Num (u :: us) x) : Num us (val us) ∧ u < 4294967296 ∧ x = u + 4294967296 * val us := by
  refine ⟨⟨fun z hz => h.wd z (by simp [hz]), rfl, ?_⟩, h.wd u (by simp), h.eq.symm⟩
  have e := h.nm
  rw [norm] at e
  split at e
  · cases e
  · exact (List.cons.inj e).2
theorem num_uniq : ∀ (us us' : List Nat) (x : Nat), Num us x → Num us' x → us = us'
  | [], us', x, h, h' => ((num_zero h').2 ((num_zero h).1 rfl)).symm
  | u :: us, [], x, h, h' => by have := (num_zero h).2 ((num_zero h').1 rfl); cases this
  | u :: us, u' :: us', x, h, h' => by
    obtain ⟨h1, h2, h3⟩ := num_cons h
    obtain ⟨h4, h5, h6⟩ := num_cons h'
    have e : val us = val us' := by omega
    rw [← e] at h4
    rw [num_uniq us us' _ h1 h4, show u = u' by omega]

set_option maxHeartbeats 4000000 in
set_option maxRecDepth 100000 in
theorem bcmp_same (a b : Option Addr) (ca cb n : Nat) (us : List Nat) (w : World) (ha : ShowsW w a ca us) (hb : ShowsW w b cb us) (hn : n = us.length) :
    Calls Tryd.prog 58 #[.slice a n ca, .slice b n cb] w fun e w' => e = .returned (.int .i64 0) ∧ ∃ d, w' = w.drewN d := by
  have HA : Hid (ShowsW w a ca us) := ha
  have HB : Hid (ShowsW w b cb us) := hb
  have HN : Hid (n = us.length) := hn
  have hn6 : n ≤ 1000000 := by rw [hn]; exact ha.few
  clear ha hb hn
  go_enter Tryd.func58, Tryd.ntmps58
  go_wp2
  go_loopw [5] (fun iv wr => ∃ k : Nat, k ≤ n ∧ iv = .int .i64 ((k : Int) - 1) ∧ Hid (∃ d, wr = w.drewN d)) (fun iv _ => ((intOf iv) + 1).toNat)
  case atStart => exact ⟨n, Nat.le_refl _, rfl, ⟨0, rfl⟩⟩
  case round =>
    obtain ⟨k, hk, rfl, HD⟩ := hrel
    rcases Nat.eq_zero_or_pos k with h0 | h0
    · subst h0
      go_wp2
      go_ret
      exact ⟨rfl, HD.out⟩
    · obtain ⟨j, Hj⟩ : ∃ j, Hid (k = j + 1) := ⟨k - 1, by show _ = _; omega⟩
      have hj : (k : Int) - 1 = (j : Int) := by have := Hj.out; omega
      have hjn : j < n := by have := Hj.out; omega
      have hjn' : (j : Int) < (n : Int) := by omega
      have hj0 : (0 : Int) ≤ (j : Int) := by omega
      obtain ⟨d, hd⟩ := HD.out
      obtain ⟨b1, o1, u, hax, HU, hu, -, hc1⟩ := HA.out.elem (k := j) (by rw [← HN.out]; exact hjn)
      obtain ⟨b2, o2, v, hay, HV, hv, -, hc2⟩ := HB.out.elem (k := j) (by rw [← HN.out]; exact hjn)
      subst hax; subst hay
      obtain rfl : v = u := by rw [HU.out, HV.out]
      have hc1' : wr.cell? ⟨b1, o1 + j, none⟩ = some (.int .u32 (v : Int)) := by rw [hd]; exact hc1
      have hc2' : wr.cell? ⟨b2, o2 + j, none⟩ = some (.int .u32 (v : Int)) := by rw [hd]; exact hc2
      have HD2 : Hid (∃ d, wr.drew = w.drewN d) := ⟨d + 1, by rw [hd]; rfl⟩
      clear hc1 hc2 hd
      rw [hj]
      go_wp2_with fail
      go_region
      all_goals go_wp2
      all_goals exact ⟨⟨j, by omega, rfl, HD2⟩, by simp [intOf]⟩

set_option maxHeartbeats 4000000 in
theorem NewInt_at (x : Nat) (w : World) (hx : x < 9223372036854775808) :
    Calls Tryd.prog 17 #[.int .i64 (x : Int)] w fun e w' => ∃ v us, e = .returned (.pointer (some ⟨w.heap.size, 0, none⟩)) ∧ IntAt w' w.heap.size w.heap.size v us x ∧ Below w.heap.size w w' := by
  have HC : Hid (∀ W, W = w.alloc (.cells #[.bool false, .slice none 0 0] 44) → Calls Tryd.prog 33 #[.pointer (some ⟨w.heap.size, 0, none⟩), .int .i64 (x : Int)] W fun e w' => ∃ v us, e = .returned (.pointer (some ⟨w.heap.size, 0, none⟩)) ∧ Hid (IntAt w' w.heap.size w.heap.size v us x ∧ Below w.heap.size w w')) := by
    rintro W rfl
    refine (BSet_at w.heap.size w.heap.size false (.slice none 0 0) x _ (heap_alloc_new _ _) (Nat.le_refl _) hx).mono ?_
    rintro e w' ⟨v, us, rfl, h1, h2, h4⟩
    exact ⟨v, us, rfl, ⟨h1, h2.mono (by simp)⟩, ((Below.refl _ _).alloc (Nat.le_refl _) _).trans h4.below⟩
  go_enter Tryd.func17, Tryd.ntmps17
  go_wp2_with fail
  refine (HC.out _ rfl).mono ?_
  rintro e w1 ⟨v, us, rfl, HT⟩
  go_wp2
  go_ret
  exact ⟨v, us, rfl, HT.out.1, HT.out.2⟩


end Go.Proofs.YthfbkangjpcpgaaDoor
