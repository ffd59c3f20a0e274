/-
  The contracts of cubes.pilesIn, All.
-/
import Derived.Test.YtbiakncblkjmhaaGreatDoorEPuu
import Derived.Laws.EntriesVeiled
namespace Go.Proofs.YtbiakncblkjmhaaGreatDoor
open Go.RowKit

abbrev pwA (w : World) (r c h : Nat) : World := (((w.alloc (.cells #[.int .i64 (r : Int)] 3)).alloc (.cells #[.int .i64 (c : Int)] 3)).alloc (.cells #[.int .i64 (h : Int)] 3)).alloc (.cells #[.slice none 0 0] 39)
theorem pwA_size (w : World) (r c h : Nat) : (pwA w r c h).heap.size = w.heap.size + 4 := by simp
theorem pwA_below (w : World) (r c h : Nat) : Below w.heap.size w (pwA w r c h) := by
  refine (((((Below.refl _ _).alloc (Nat.le_refl _) _).alloc ?_ _).alloc ?_ _).alloc ?_ _) <;> simp <;> omega
theorem pwA_blk (w : World) (r c h : Nat) : (pwA w r c h).heap[w.heap.size]? = some (.cells #[.int .i64 (r : Int)] 3 (0, 0)) ∧ (pwA w r c h).heap[w.heap.size + 1]? = some (.cells #[.int .i64 (c : Int)] 3 (0, 0)) ∧ (pwA w r c h).heap[w.heap.size + 2]? = some (.cells #[.int .i64 (h : Int)] 3 (0, 0)) ∧ (pwA w r c h).heap[w.heap.size + 3]? = some (.cells #[.slice none 0 0] 39 (0, 0)) := by
  refine ⟨?_, ?_, ?_, ?_⟩
  · rw [Below.heap_alloc _ _ _ (by simp <;> omega), Below.heap_alloc _ _ _ (by simp <;> omega), Below.heap_alloc _ _ _ (by simp)]
    exact heap_alloc_new _ _
  · rw [Below.heap_alloc _ _ _ (by simp <;> omega), Below.heap_alloc _ _ _ (by simp)]
    have := heap_alloc_new (w.alloc (.cells #[.int .i64 (r : Int)] 3)) (.cells #[.int .i64 (c : Int)] 3)
    simpa using this
  · rw [Below.heap_alloc _ _ _ (by simp)]
    have := heap_alloc_new ((w.alloc (.cells #[.int .i64 (r : Int)] 3)).alloc (.cells #[.int .i64 (c : Int)] 3)) (.cells #[.int .i64 (h : Int)] 3)
    simpa using this
  · have := heap_alloc_new (((w.alloc (.cells #[.int .i64 (r : Int)] 3)).alloc (.cells #[.int .i64 (c : Int)] 3)).alloc (.cells #[.int .i64 (h : Int)] 3)) (.cells #[.slice none 0 0] 39)
    simpa using this

theorem Rec.down {w : World} {lo lo' g r c : Nat} {gs : Nat → Nat} {P : Nat → Nat → Nat} (h : Rec w lo g r c gs P) (hl : lo' ≤ lo) : Rec w lo' g r c gs P :=
  ⟨⟨ownsRow_down h.t.own hl, h.t.len, fun i hi => (h.t.rows i hi).mono hl, h.t.apart, h.t.off⟩⟩

abbrev pwB (w2 : World) (g r : Nat) (fv : Value) : World := (w2.alloc (.cells #[.slice (some ⟨g, 0, none⟩) r r] 22)).alloc (.cells #[fv] 86)
theorem pwB_old (w2 : World) (g r : Nat) (fv : Value) (k : Nat) (hk : k < w2.heap.size) : (pwB w2 g r fv).heap[k]? = w2.heap[k]? := by
  rw [Below.heap_alloc _ _ _ (by simp; omega), Below.heap_alloc _ _ _ hk]
theorem pwB_new (w2 : World) (g r : Nat) (fv : Value) : (pwB w2 g r fv).heap[w2.heap.size]? = some (.cells #[.slice (some ⟨g, 0, none⟩) r r] 22 (0, 0)) ∧ (pwB w2 g r fv).heap[w2.heap.size + 1]? = some (.cells #[fv] 86 (0, 0)) := by
  refine ⟨?_, ?_⟩
  · rw [Below.heap_alloc _ _ _ (by simp)]
    exact heap_alloc_new _ _
  · have := heap_alloc_new (w2.alloc (.cells #[.slice (some ⟨g, 0, none⟩) r r] 22)) (.cells #[fv] 86)
    simpa using this
theorem pwB_size (w2 : World) (g r : Nat) (fv : Value) : (pwB w2 g r fv).heap.size = w2.heap.size + 2 := by simp
theorem pwB_below (w2 : World) (g r : Nat) (fv : Value) : Below w2.heap.size w2 (pwB w2 g r fv) := ((Below.refl _ _).alloc (Nat.le_refl _) _).alloc (by simp) _

/-- all piles of a room, or one more than may be listed -/
def plT (r c h : Nat) : List (List Nat) := (sr c h (r * c) []).take 2001
/-- v is the list of these piles -/
def Pls (w : World) (lo r c : Nat) (v : Value) (us : List Value) (L : List (List Nat)) : Prop := w.ownsRow lo 22 1 v us.length us ∧ us.length = L.length ∧ ∀ k, k < L.length → TE w lo r c v (rowv us k) (L.getD k [])

set_option maxHeartbeats 4000000 in
set_option maxRecDepth 100000 in
theorem pilesIn_at (r c h : Nat) (w : World) (r1 : 1 ≤ r) (r8 : r ≤ 8) (c1 : 1 ≤ c) (c8 : c ≤ 8) (h8 : h ≤ 8) :
    Calls Tryz.prog 37 #[.int .i64 (r : Int), .int .i64 (c : Int), .int .i64 (h : Int)] w fun e w' => ∃ v us, e = .returned v ∧ Hid (Pls w' w.heap.size r c v us (plT r c h)) ∧ Hid (Below w.heap.size w w') := by
  obtain ⟨n0, HN0⟩ : ∃ n0, Hid (n0 = w.heap.size) := ⟨_, rfl⟩
  have HC : Hid (∀ w2 gs, Rec w2 (n0 + 4) (n0 + 4) r c gs (fun _ _ => 0) → Below (n0 + 4) (pwA w r c h) w2 → Calls Tryz.prog 75 #[.int .i64 0, bxQ (n0 + 3), bxQ n0, bxQ (n0 + 1), bxQ w2.heap.size, bxQ (n0 + 2), bxQ (w2.heap.size + 1)] (pwB w2 (n0 + 4) r (ptVq (n0 + 3) n0 (n0 + 1) w2.heap.size (n0 + 2) (w2.heap.size + 1))) fun e w' => e = .returned (.tuple #[]) ∧ ∃ v us, w'.cell? ⟨n0 + 3, 0, none⟩ = some v ∧ Hid (Pls w' n0 r c v us (plT r c h)) ∧ Hid (Below n0 w w')) := fun w2 gs hR hB => by
    have hA := pwA_below w r c h
    have hAs : (pwA w r c h).heap.size = n0 + 4 := by rw [pwA_size, HN0.out]
    obtain ⟨a0, a1, a2, a3⟩ := pwA_blk w r c h
    rw [← HN0.out] at a0 a1 a2 a3 hA
    have hsz : n0 + 4 ≤ w2.heap.size := by have := hB.size; omega
    obtain ⟨W, hWd⟩ : ∃ W, W = pwB w2 (n0 + 4) r (ptVq (n0 + 3) n0 (n0 + 1) w2.heap.size (n0 + 2) (w2.heap.size + 1)) := ⟨_, rfl⟩
    have hold : ∀ k, k < w2.heap.size → W.heap[k]? = w2.heap[k]? := fun k hk => by rw [hWd]; exact pwB_old _ _ _ _ k hk
    have hWs : W.heap.size = w2.heap.size + 2 := by rw [hWd, pwB_size]
    obtain ⟨n1, n2⟩ := pwB_new w2 (n0 + 4) r (ptVq (n0 + 3) n0 (n0 + 1) w2.heap.size (n0 + 2) (w2.heap.size + 1))
    rw [← hWd] at n1 n2
    have hgs : ∀ i, i < r → n0 + 4 ≤ gs i ∧ gs i < w2.heap.size := fun i hi => by
      have := hR.box (i := i) (j := 0) hi (by omega)
      exact ⟨this.2.2.1, this.2.2.2⟩
    have hlow : ∀ k, k < n0 + 4 → W.heap[k]? = (pwA w r c h).heap[k]? := fun k hk => by rw [hold k (by omega), hB.block k hk]
    have hE : CE W (n0 + 3) (w2.heap.size + 2) (n0 + 4) r c h gs n0 (n0 + 1) w2.heap.size (n0 + 2) (w2.heap.size + 1) := by
      refine ⟨fun W2 hW2 => ?_, r1, r8, c1, c8, h8⟩
      have hne : ∀ k, k < n0 + 4 ∨ w2.heap.size ≤ k → ∀ i, i < r → k ≠ gs i := fun k hk i hi => by have := hgs i hi; omega
      refine ⟨(cell_oneC (ty := 3) ?_).1, (cell_oneC (ty := 3) ?_).1, (cell_oneC (ty := 22) ?_).1, (cell_oneC (ty := 3) ?_).1, (cell_oneC (ty := 86) ?_).1⟩
      · rw [hW2 n0 (by omega) (by omega) (hne _ (by omega)), hlow _ (by omega)]; exact a0
      · rw [hW2 (n0 + 1) (by omega) (by omega) (hne _ (by omega)), hlow _ (by omega)]; exact a1
      · rw [hW2 w2.heap.size (by omega) (by omega) (hne _ (by omega))]; exact n1
      · rw [hW2 (n0 + 2) (by omega) (by omega) (hne _ (by omega)), hlow _ (by omega)]; exact a2
      · rw [hW2 (w2.heap.size + 1) (by omega) (by omega) (hne _ (by omega))]; exact n2
    have hX : CX W W n0 (n0 + 3) (w2.heap.size + 2) (n0 + 4) r c gs (fun _ _ => 0) (.slice none 0 0) [] [] := by
      refine ⟨fun _ _ _ _ => rfl, by rw [hWs]; exact Nat.le_refl _, by rw [hlow _ (by omega)]; exact a3, World.ownsRow_nil _ _ _ _, (hR.same (fun k _ hk => hold k hk)).down (by omega), ⟨by omega, by omega, by omega, fun i hi => by have := hgs i hi; omega⟩, rfl, fun k hk => absurd hk (by simp), Below.refl _ _, by omega⟩
    have hBW : Below n0 w W := by
      rw [hWd]
      exact (hA.trans (hB.mono (by omega))).trans ((pwB_below w2 _ _ _).mono (by omega))
    rw [← hWd]
    have hc := Put_at (H := n0) hE (r * c) [] W [] (by simp) ⟨_, _, _, hX, fun t ht => absurd ht (by simp), fun _ _ _ _ => by omega⟩ (by simp)
    refine hc.mono ?_
    rintro e w' ⟨rfl, Q, vl, us, x1, _, _⟩
    rw [List.nil_append, List.length_nil, Nat.sub_zero] at x1
    refine ⟨rfl, vl, us, (cell_oneC x1.lb).1, ⟨ownsRow_down x1.li (by omega), x1.ln, fun k hk => ?_⟩, hBW.trans x1.be⟩
    obtain ⟨x, y, b1, b2, b3, b4⟩ := x1.ts k hk
    exact ⟨x, y, by omega, b2, b3, b4⟩
  have HA4 : Hid ((pwA w r c h).heap.size = n0 + 4) := by show _ = _; rw [pwA_size, HN0.out]
  go_enter Tryz.func37, Tryz.ntmps37
  go_wp2_with fail
  refine (empty_at r c _ r1 (by omega) (by omega)).mono ?_
  rintro e w2 ⟨gs, rfl, HR, HB2⟩
  rw [show ((((w.alloc (.cells #[.int .i64 (r : Int)] 3)).alloc (.cells #[.int .i64 (c : Int)] 3)).alloc (.cells #[.int .i64 (h : Int)] 3)).alloc (.cells #[.slice none 0 0] 39)).heap.size = n0 + 4 from HA4.out] at HR HB2 ⊢
  have HCc := hid_w (HC.out w2 gs HR.out HB2.out)
  clear HC HR HB2
  go_wp2_with fail
  rw [← HN0.out, show n0 + 1 + 1 + 1 = n0 + 3 from rfl, show n0 + 1 + 1 = n0 + 2 from rfl]
  refine HCc.out.mono ?_
  rintro e w3 ⟨rfl, v, us, hcv, HP3, HB3⟩
  go_wp2
  go_ret
  exact ⟨v, us, rfl, by rw [← HN0.out]; exact HP3, by rw [← HN0.out]; exact HB3⟩

set_option maxHeartbeats 2000000 in
theorem CbAll_no (a b c : Int) (w : World) (h64 : ∀ z ∈ [a, b, c], -9223372036854775808 ≤ z ∧ z ≤ 9223372036854775807) (hno : ¬ sides [a, b, c]) :
    Calls Tryz.prog 15 #[.int .i64 a, .int .i64 b, .int .i64 c] w fun e w' => e = .returned (.tuple #[.slice none 0 0, .int .i64 1]) ∧ Hid (Below w.heap.size w w') := by
  have HSL : Hid (Shows (w.alloc (.cells #[.int .i64 a, .int .i64 b, .int .i64 c] 3)) (some ⟨w.heap.size, 0, none⟩) [a, b, c]) := shows_lit w [a, b, c] _ rfl (by simp) h64
  have HB : Hid (Below w.heap.size w (w.alloc (.cells #[.int .i64 a, .int .i64 b, .int .i64 c] 3))) := (Below.refl _ _).alloc (Nat.le_refl _) _
  have HA : Hid (decide (sides [a, b, c]) = false) := decide_eq_false hno
  clear h64 hno
  go_enter Tryz.func15, Tryz.ntmps15
  go_wp2_with fail
  refine (areSides_at _ _ _ _ _ HSL.out rfl).mono ?_
  rintro e w1 ⟨rfl, rfl⟩
  rw [HA.out]
  go_wp2
  go_ret2
  exact ⟨rfl, HB⟩

/-- what All answers: the piles, or that there are too many -/
def AlR (r c h lo : Nat) (w' : World) (q : Int) (v : Value) : Prop :=
  (q = 0 ∧ (sr c h (r * c) []).length ≤ 2000 ∧ ∃ a cap us, v = .slice a (sr c h (r * c) []).length cap ∧ Pls w' lo r c v us (sr c h (r * c) [])) ∨ (q = 2 ∧ 2000 < (sr c h (r * c) []).length ∧ v = .slice none 0 0)
set_option maxHeartbeats 2000000 in
theorem CbAll_ok (r c h : Nat) (w : World) (r1 : 1 ≤ r) (r8 : r ≤ 8) (c1 : 1 ≤ c) (c8 : c ≤ 8) (h1 : 1 ≤ h) (h8 : h ≤ 8) :
    Calls Tryz.prog 15 #[.int .i64 (r : Int), .int .i64 (c : Int), .int .i64 (h : Int)] w fun e w' => ∃ v q, e = .returned (.tuple #[v, .int .i64 q]) ∧ Hid (AlR r c h w.heap.size w' q v) ∧ Hid (Below w.heap.size w w') := by
  have HSL : Hid (Shows (w.alloc (.cells #[.int .i64 (r : Int), .int .i64 (c : Int), .int .i64 (h : Int)] 3)) (some ⟨w.heap.size, 0, none⟩) [(r : Int), (c : Int), (h : Int)]) := shows_lit w [(r : Int), (c : Int), (h : Int)] _ rfl (by simp) (by simp; omega)
  have HB : Hid (Below w.heap.size w (w.alloc (.cells #[.int .i64 (r : Int), .int .i64 (c : Int), .int .i64 (h : Int)] 3))) := (Below.refl _ _).alloc (Nat.le_refl _) _
  have HA : Hid (decide (sides [(r : Int), (c : Int), (h : Int)]) = true) := decide_eq_true (by simp [sides]; omega)
  obtain ⟨K, HK⟩ : ∃ K, Hid (K = (plT r c h).length) := ⟨_, rfl⟩
  have HKl : Hid (K = min 2001 (sr c h (r * c) []).length) := by show _ = _; rw [HK.out]; unfold plT; rw [List.length_take]
  have hK : K ≤ 2001 := by rw [HKl.out]; omega
  have HC : Hid (∀ W, Below w.heap.size w W → Calls Tryz.prog 37 #[.int .i64 (r : Int), .int .i64 (c : Int), .int .i64 (h : Int)] W fun e w' => ∃ a cap us, e = .returned (.slice a K cap) ∧ Hid (Pls w' w.heap.size r c (.slice a K cap) us (plT r c h)) ∧ Hid (Below w.heap.size w w')) := fun W hW => by
    refine (pilesIn_at r c h W r1 r8 c1 c8 h8).mono ?_
    rintro e w' ⟨v, us, rfl, H1, H2⟩
    obtain ⟨q1, q2, q3⟩ := H1.out
    obtain ⟨a, cap, hv⟩ := own_shape q1
    rw [q2, ← HK.out] at hv
    subst hv
    refine ⟨a, cap, us, rfl, ⟨ownsRow_down q1 hW.size, q2, fun k hk => ?_⟩, hW.trans (H2.out.mono hW.size)⟩
    obtain ⟨x, y, b1, b2, b3, b4⟩ := q3 k hk
    exact ⟨x, y, Nat.le_trans hW.size b1, b2, b3, b4⟩
  go_enter Tryz.func15, Tryz.ntmps15
  go_wp2_with fail
  refine (areSides_at _ _ _ _ _ HSL.out rfl).mono ?_
  rintro e w1 ⟨rfl, rfl⟩
  rw [HA.out]
  have HCc := hid_w (HC.out _ HB.out)
  clear HC HSL HA
  go_wp2_with fail
  refine HCc.out.mono ?_
  rintro e w2 ⟨a, cap, us, rfl, HP, HB2⟩
  by_cases hk : K ≤ 2000
  · have hgt : ¬ ((K : Int) > 2000) := by omega
    have HF : Hid (AlR r c h w.heap.size w2 0 (.slice a K cap)) := by
      have e : plT r c h = sr c h (r * c) [] := by unfold plT; exact List.take_of_length_le (by have := HKl.out; omega)
      have hp := HP.out
      rw [e] at hp
      have e2 : K = (sr c h (r * c) []).length := by have := HKl.out; omega
      exact Or.inl ⟨rfl, by omega, a, cap, us, by rw [← e2], hp⟩
    clear HCc
    go_wp2
    go_ret2
    exact ⟨_, 0, rfl, HF, HB2⟩
  · have hgt : (K : Int) > 2000 := by omega
    have HF : Hid (AlR r c h w.heap.size w2 2 (.slice none 0 0)) := Or.inr ⟨rfl, by have := HKl.out; omega, rfl⟩
    clear HCc
    go_wp2
    go_ret2
    exact ⟨_, 2, rfl, HF, HB2⟩

end Go.Proofs.YtbiakncblkjmhaaGreatDoor
