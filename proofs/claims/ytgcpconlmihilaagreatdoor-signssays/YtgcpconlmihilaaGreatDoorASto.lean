/-
  The contracts of ferrersbig's SetInt64 (of a number that is not below 0) and String.
  Numbers that are one compare as such; NewInt, Sign.
  The contract of ferrersbig's Set (of a number above 0).
-/
import Derived.Test.YtgcpconlmihilaaGreatDoorABig
namespace Go.Proofs.YtgcpconlmihilaaGreatDoor
open Go.RowKit

set_option maxHeartbeats 4000000 in
theorem BSet_at (p lz : Nat) (b : Bool) (v0 : Value) (x : Nat) (w : World) (hz : w.heap[p]? = some (.cells #[.bool b, v0] 46 (0, 0))) (hlz : lz ≤ p) (hx : x < 9223372036854775808) :
    Calls Tryz.prog 42 #[.pointer (some ⟨p, 0, none⟩), .int .i64 (x : Int)] w fun e w' => ∃ v us, e = .returned (.pointer (some ⟨p, 0, none⟩)) ∧ w'.heap[p]? = some (.cells #[.bool false, v] 46 (0, 0)) ∧ OwnsN w' w.heap.size v us x ∧ Put w w' lz p := by
  have HZ : Hid (w.heap[p]? = some (.cells #[.bool b, v0] 46 (0, 0))) := hz
  have HZl : Hid (p < w.heap.size) := (Array.getElem?_eq_some_iff.1 hz).1
  have g0 : decide ((x : Int) < 0) = false := decide_eq_false (by omega)
  have g1 : ¬ (x : Int) < 0 := by omega
  clear hz
  go_enter Tryz.func42, Tryz.ntmps42
  go_wp2_with fail
  refine (words_at x (by omega) _).mono ?_
  rintro e W1 ⟨v, us, rfl, h1, h0, h2⟩
  obtain ⟨a3, c3, rfl, _⟩ := h1.shows (by omega)
  have H1 : Hid (OwnsN W1 w.heap.size (.slice a3 us.length c3) us x) := h1
  have H2 : Hid (Below w.heap.size w W1) := h2
  clear h1 h0 h2
  go_wp2_with fail
  refine (give_at p lz b v0 a3 us.length c3 W1 ((H2.out.block p HZl.out).trans HZ.out) hlz).mono ?_
  rintro e W2 ⟨rfl, h3, h4, h5⟩
  have HT : Hid (∃ v us, W2.heap[p]? = some (.cells #[.bool false, v] 46 (0, 0)) ∧ OwnsN W2 w.heap.size v us x ∧ Put w W2 lz p) := by
    have h1 := H1.out
    have h2 := H2.out
    refine ⟨_, us, h3, ⟨h1.own.blocks (fun k e => h5.block k (h1.own.lt e).2 (fun e2 => ?_)), h1.num, h1.room⟩, ?_, fun k hk hne => ?_⟩
    · have := (h1.own.lt e).1; have := HZl.out; omega
    · exact (h2.mono (by have := HZl.out; omega)).trans h5.below
    · rw [h5.block k (by have := h2.size; omega) hne, h2.block k hk]
  clear h3 h4 h5
  go_wp2
  go_ret
  obtain ⟨v, us, q1, q2, q3⟩ := HT.out
  exact ⟨v, us, rfl, q1, q2, q3⟩

set_option maxHeartbeats 4000000 in
theorem Text_zero (p : Nat) (a : Option Addr) (ca : Nat) (w : World) (hp1 : w.cell? ⟨p, 1, none⟩ = some (.slice a 0 ca)) :
    Calls Tryz.prog 66 #[.pointer (some ⟨p, 0, none⟩), .int .i64 10] w fun e w' => e = .returned (.string ⟨#[48]⟩) ∧ w' = w := by
  go_enter Tryz.func66, Tryz.ntmps66
  go_wp2
  go_ret
  exact ⟨rfl, rfl⟩

set_option maxHeartbeats 4000000 in
theorem BString_at (p lo : Nat) (v : Value) (us : List Nat) (x : Nat) (w : World) (h : IntAt w lo p v us x) (hl : us.length ≤ 1000000) (hd : (dig x).length ≤ 1000000) :
    Calls Tryz.prog 45 #[.pointer (some ⟨p, 0, none⟩)] w fun e w' => e = .returned (.string ⟨(Lib.decDigits x).toArray⟩) ∧ Below w.heap.size w w' := by
  obtain ⟨a, ca, rfl, hS⟩ := h.own.shows hl
  have HT : Hid (Calls Tryz.prog 66 #[.pointer (some ⟨p, 0, none⟩), .int .i64 10] w fun e w' => e = .returned (.string ⟨(Lib.decDigits x).toArray⟩) ∧ Below w.heap.size w w') := by
    rcases Nat.eq_zero_or_pos x with h0 | h0
    · subst h0
      have e := (num_zero h.own.num).2 rfl
      subst e
      refine (Text_zero p a ca w h.cell1).mono ?_
      rintro e w' ⟨rfl, rfl⟩
      exact ⟨by rw [Lib.decDigits, dif_pos (by omega)]; rfl, Below.refl _ _⟩
    · have hu : 0 < us.length := by
        rcases Nat.eq_zero_or_pos us.length with e | e
        · have := (num_zero h.own.num).1 (List.eq_nil_of_length_eq_zero e); omega
        · exact e
      have := Text_pos p a ca us.length us x w h.lt h.cell0 h.cell1 hS rfl hu h.own.num hd
      rw [dig, if_neg (by omega)] at this
      exact this
  clear h hS hl hd
  go_enter Tryz.func45, Tryz.ntmps45
  go_wp2_with fail
  refine HT.out.mono ?_
  rintro e w' ⟨rfl, hb⟩
  go_wp2
  go_ret
  exact ⟨rfl, hb⟩

end Go.Proofs.YtgcpconlmihilaaGreatDoor

namespace Go.Proofs.YtgcpconlmihilaaGreatDoor
open Go.RowKit

theorem num_cons {u : Nat} {us : List Nat} {x : Nat} (h : Num (u :: us) x) : Num us (val us) ∧ u < 4294967296 ∧ x = u + 4294967296 * val us := by
  refine ⟨⟨fun z hz => h.wd z (by simp [hz]), rfl, ?_⟩, h.wd u (by simp), h.eq.symm⟩
  have e := h.nm
  rw [norm] at e
  split at e
  · cases e
  · exact (List.cons.inj e).2
theorem num_uniq : ∀ (us us' : List Nat) (x : Nat), Num us x → Num us' x → us = us'
  | [], us', x, h, h' => ((num_zero h').2 ((num_zero h).1 rfl)).symm
  | u :: us, [], x, h, h' => by have := (num_zero h).2 ((num_zero h').1 rfl); cases this
  | u :: us, u' :: us', x, h, h' => by
    obtain ⟨h1, h2, h3⟩ := num_cons h
    obtain ⟨h4, h5, h6⟩ := num_cons h'
    have e : val us = val us' := by omega
    rw [← e] at h4
    rw [num_uniq us us' _ h1 h4, show u = u' by omega]

set_option maxHeartbeats 4000000 in
set_option maxRecDepth 100000 in
theorem bcmp_same (a b : Option Addr) (ca cb n : Nat) (us : List Nat) (w : World) (ha : ShowsW w a ca us) (hb : ShowsW w b cb us) (hn : n = us.length) :
    Calls Tryz.prog 86 #[.slice a n ca, .slice b n cb] w fun e w' => e = .returned (.int .i64 0) ∧ ∃ d, w' = w.drewN d := by
  have HA : Hid (ShowsW w a ca us) := ha
  have HB : Hid (ShowsW w b cb us) := hb
  have HN : Hid (n = us.length) := hn
  have hn6 : n ≤ 1000000 := by rw [hn]; exact ha.few
  clear ha hb hn
  go_enter Tryz.func86, Tryz.ntmps86
  go_wp2
  go_loopw [5] (fun iv wr => ∃ k : Nat, k ≤ n ∧ iv = .int .i64 ((k : Int) - 1) ∧ Hid (∃ d, wr = w.drewN d)) (fun iv _ => ((intOf iv) + 1).toNat)
  case atStart => exact ⟨n, Nat.le_refl _, rfl, ⟨0, rfl⟩⟩
  case round =>
    obtain ⟨k, hk, rfl, HD⟩ := hrel
    rcases Nat.eq_zero_or_pos k with h0 | h0
    · subst h0
      go_wp2
      go_ret
      exact ⟨rfl, HD.out⟩
    · obtain ⟨j, Hj⟩ : ∃ j, Hid (k = j + 1) := ⟨k - 1, by show _ = _; omega⟩
      have hj : (k : Int) - 1 = (j : Int) := by have := Hj.out; omega
      have hjn : j < n := by have := Hj.out; omega
      have hjn' : (j : Int) < (n : Int) := by omega
      have hj0 : (0 : Int) ≤ (j : Int) := by omega
      obtain ⟨d, hd⟩ := HD.out
      obtain ⟨b1, o1, u, hax, HU, hu, -, hc1⟩ := HA.out.elem (k := j) (by rw [← HN.out]; exact hjn)
      obtain ⟨b2, o2, v, hay, HV, hv, -, hc2⟩ := HB.out.elem (k := j) (by rw [← HN.out]; exact hjn)
      subst hax; subst hay
      obtain rfl : v = u := by rw [HU.out, HV.out]
      have hc1' : wr.cell? ⟨b1, o1 + j, none⟩ = some (.int .u32 (v : Int)) := by rw [hd]; exact hc1
      have hc2' : wr.cell? ⟨b2, o2 + j, none⟩ = some (.int .u32 (v : Int)) := by rw [hd]; exact hc2
      have HD2 : Hid (∃ d, wr.drew = w.drewN d) := ⟨d + 1, by rw [hd]; rfl⟩
      clear hc1 hc2 hd
      rw [hj]
      go_wp2_with fail
      go_region
      all_goals go_wp2
      all_goals exact ⟨⟨j, by omega, rfl, HD2⟩, by simp [intOf]⟩

set_option maxHeartbeats 8000000 in
set_option maxRecDepth 100000 in
theorem BCmp_same (px py lo lo' : Nat) (vx vy : Value) (xs ys : List Nat) (x : Nat) (w : World) (hx : IntAt w lo px vx xs x) (hy : IntAt w lo' py vy ys x) (hl : xs.length ≤ 1000000) :
    Calls Tryz.prog 65 #[.pointer (some ⟨px, 0, none⟩), .pointer (some ⟨py, 0, none⟩)] w fun e w' => e = .returned (.int .i64 0) ∧ Below w.heap.size w w' := by
  obtain rfl : xs = ys := num_uniq _ _ _ hx.own.num hy.own.num
  have hx0 := hx.cell0
  have hx1 := hx.cell1
  have hy0 := hy.cell0
  have hy1 := hy.cell1
  obtain ⟨ax, cx, rfl, hSx⟩ := hx.own.shows hl
  obtain ⟨ay, cy, rfl, hSy⟩ := hy.own.shows hl
  obtain ⟨n, HN⟩ : ∃ n, Hid (n = xs.length) := ⟨_, rfl⟩
  rw [← HN.out] at hx1 hy1
  have HC : Hid (Calls Tryz.prog 86 #[.slice ax n cx, .slice ay n cy] w.drew.drew fun e w2 => e = .returned (.int .i64 0) ∧ w2.cell? ⟨px, 0, none⟩ = some (.bool false) ∧ Hid (Below w.heap.size w w2)) := by
    refine (bcmp_same ax ay cx cy n xs w.drew.drew (hSx.below (below_drewN (Below.refl _ _) 2)) (hSy.below (below_drewN (Below.refl _ _) 2)) HN.out).mono ?_
    rintro e w2 ⟨rfl, d, rfl⟩
    exact ⟨rfl, hx0, below_drewN (below_drewN (Below.refl _ _) 2) d⟩
  clear hx hy hSx hSy
  go_enter Tryz.func65, Tryz.ntmps65
  go_wp2_with fail
  go_region
  all_goals go_wp2_with fail
  all_goals (go_region_with (go_at_call 86; with_reducible (refine HC.out.mono ?_); rintro e W1 ⟨rfl, hw0, HBw⟩))
  all_goals go_wp2
  all_goals go_ret
  all_goals exact ⟨rfl, HBw.out⟩

set_option maxHeartbeats 4000000 in
theorem NewInt_at (x : Nat) (w : World) (hx : x < 9223372036854775808) :
    Calls Tryz.prog 37 #[.int .i64 (x : Int)] w fun e w' => ∃ v us, e = .returned (.pointer (some ⟨w.heap.size, 0, none⟩)) ∧ IntAt w' w.heap.size w.heap.size v us x ∧ Below w.heap.size w w' := by
  have HC : Hid (∀ W, W = w.alloc (.cells #[.bool false, .slice none 0 0] 46) → Calls Tryz.prog 42 #[.pointer (some ⟨w.heap.size, 0, none⟩), .int .i64 (x : Int)] W fun e w' => ∃ v us, e = .returned (.pointer (some ⟨w.heap.size, 0, none⟩)) ∧ Hid (IntAt w' w.heap.size w.heap.size v us x ∧ Below w.heap.size w w')) := by
    rintro W rfl
    refine (BSet_at w.heap.size w.heap.size false (.slice none 0 0) x _ (heap_alloc_new _ _) (Nat.le_refl _) hx).mono ?_
    rintro e w' ⟨v, us, rfl, h1, h2, h4⟩
    exact ⟨v, us, rfl, ⟨h1, h2.mono (by simp)⟩, ((Below.refl _ _).alloc (Nat.le_refl _) _).trans h4.below⟩
  go_enter Tryz.func37, Tryz.ntmps37
  go_wp2_with fail
  refine (HC.out _ rfl).mono ?_
  rintro e w1 ⟨v, us, rfl, HT⟩
  go_wp2
  go_ret
  exact ⟨v, us, rfl, HT.out.1, HT.out.2⟩


end Go.Proofs.YtgcpconlmihilaaGreatDoor

namespace Go.Proofs.YtgcpconlmihilaaGreatDoor
open Go.RowKit

set_option maxHeartbeats 8000000 in
set_option maxRecDepth 100000 in
theorem BSetTo_at (pz px lo lz : Nat) (b : Bool) (v0 vx : Value) (xs : List Nat) (x : Nat) (w : World) (hx : IntAt w lo px vx xs x) (hz : w.heap[pz]? = some (.cells #[.bool b, v0] 46 (0, 0))) (hlz : lz ≤ pz) (hf : xs.length ≤ 900000) (h0 : 0 < x) :
    Calls Tryz.prog 40 #[.pointer (some ⟨pz, 0, none⟩), .pointer (some ⟨px, 0, none⟩)] w fun e w' => ∃ v us, e = .returned (.pointer (some ⟨pz, 0, none⟩)) ∧ w'.heap[pz]? = some (.cells #[.bool false, v] 46 (0, 0)) ∧ OwnsN w' w.heap.size v us x ∧ Put w w' lz pz := by
  have hx0 := hx.cell0
  have hx1 := hx.cell1
  have hlt := hx.lt
  obtain ⟨ax, cx, rfl, hSx⟩ := hx.own.shows (by omega)
  have hne : xs ≠ [] := fun e => by have := (num_zero hx.own.num).1 e; omega
  have hpos : 0 < xs.length := List.length_pos_iff.2 hne
  obtain ⟨n, HN⟩ : ∃ n, Hid (n = xs.length) := ⟨_, rfl⟩
  rw [← HN.out] at hx1 hf hpos
  have HX : Hid (Num xs x) := hx.own.num
  have HSx : Hid (ShowsW w ax cx xs) := hSx
  have HZ : Hid (w.heap[pz]? = some (.cells #[.bool b, v0] 46 (0, 0))) := hz
  have HZl : Hid (pz < w.heap.size) := (Array.getElem?_eq_some_iff.1 hz).1
  have HC : Hid (∀ w', Below w.heap.size w w' → Calls Tryz.prog 59 #[.slice ax n cx] w' fun e w2 => ∃ a3 n3 c3 us, e = .returned (.slice a3 n3 c3) ∧ OwnsN w2 w.heap.size (.slice a3 n3 c3) us x ∧ Below w.heap.size w w2 ∧ w2.cell? ⟨px, 0, none⟩ = some (.bool false)) := fun w' hb => by
    refine (twin_at ax cx n xs x w' (HSx.out.below hb) HN.out hpos HX.out).mono ?_
    rintro e w2 ⟨v, rfl, h1, h3⟩
    obtain ⟨a3, c3, rfl, _⟩ := h1.shows (by have := HN.out; omega)
    have hb2 := hb.trans (h3.mono hb.size)
    exact ⟨_, _, _, xs, rfl, h1.mono hb.size, hb2, (hb2.cell (p := ⟨px, 0, none⟩) hlt).trans hx0⟩
  have HG : Hid (∀ W, Below w.heap.size w W → ∀ a n c, Calls Tryz.prog 57 #[.pointer (some ⟨pz, 0, none⟩), .bool false, .slice a n c] W fun e w' => e = .returned (.pointer (some ⟨pz, 0, none⟩)) ∧ w'.heap[pz]? = some (.cells #[.bool false, .slice a n c] 46 (0, 0)) ∧ w'.heap.size = W.heap.size ∧ Put W w' lz pz) := fun W hb a n c =>
    give_at pz lz b v0 a n c W ((hb.block pz HZl.out).trans HZ.out) hlz
  have HB0 : Hid (Below w.heap.size w w.drew) := below_drewN (Below.refl _ _) 1
  clear hx hSx hz hne
  go_enter Tryz.func40, Tryz.ntmps40
  go_wp2_with fail
  go_region_with (first | (go_at_call 59; with_reducible (refine (HC.out _ HB0.out).mono ?_); rintro e W1 ⟨a3, n3, c3, us, rfl, h1, h2, hq1⟩) | (go_at_call 57; with_reducible (refine (HG.out _ h2 a3 n3 c3).mono ?_); rintro e W2 ⟨rfl, h3, h4, h5⟩))
  all_goals (
    have hT : ∃ v us, W2.heap[pz]? = some (.cells #[.bool false, v] 46 (0, 0)) ∧ OwnsN W2 w.heap.size v us x ∧ Put w W2 lz pz := by
      refine ⟨_, us, h3, ⟨h1.own.blocks (fun k e => h5.block k (h1.own.lt e).2 (fun e2 => ?_)), h1.num, h1.room⟩, ?_, fun k hk hne => ?_⟩
      · have := (h1.own.lt e).1; have := HZl.out; omega
      · exact (h2.mono (by have := HZl.out; omega)).trans h5.below
      · rw [h5.block k (by have := h2.size; omega) hne, h2.block k hk]
    have HT : Hid (∃ v us, W2.heap[pz]? = some (.cells #[.bool false, v] 46 (0, 0)) ∧ OwnsN W2 w.heap.size v us x ∧ Put w W2 lz pz) := hT
    clear hT h1 h2 h3 h4 h5
    go_wp2
    go_ret
    obtain ⟨v, us, q1, q2, q3⟩ := HT.out
    exact ⟨v, us, rfl, q1, q2, q3⟩)

end Go.Proofs.YtgcpconlmihilaaGreatDoor
