/-
  The contract of signs.All: the list with its contents; what is refused.
-/
import Derived.Test.YtgcpconlmihilaaGreatDoorJBlq
import Derived.Test.YtgcpconlmihilaaGreatDoorJCnu
import Derived.Laws.EntriesVeiled
namespace Go.Proofs.YtgcpconlmihilaaGreatDoor
open Go.RowKit

abbrev qwA (w : World) (n : Nat) : World := (w.alloc (.cells #[.int .i64 (n : Int)] 3)).alloc (.cells #[.slice none 0 0] 29)
theorem qwA_size (w : World) (n : Nat) : (qwA w n).heap.size = w.heap.size + 2 := by simp
theorem qwA_below (w : World) (n : Nat) : Below w.heap.size w (qwA w n) := ((Below.refl _ _).alloc (Nat.le_refl _) _).alloc (by simp) _
theorem qwA_blk (w : World) (n : Nat) : (qwA w n).heap[w.heap.size]? = some (.cells #[.int .i64 (n : Int)] 3 (0, 0)) ∧ (qwA w n).heap[w.heap.size + 1]? = some (.cells #[.slice none 0 0] 29 (0, 0)) := by
  refine ⟨?_, ?_⟩
  · rw [Below.heap_alloc _ _ _ (by simp)]
    exact heap_alloc_new _ _
  · have := heap_alloc_new (w.alloc (.cells #[.int .i64 (n : Int)] 3)) (.cells #[.slice none 0 0] 29)
    simpa using this
theorem Rez.down {w : World} {lo lo' g r c : Nat} {gs : Nat → Nat} {P : Nat → Nat → Int} (h : Rez w lo g r c gs P) (hl : lo' ≤ lo) : Rez w lo' g r c gs P :=
  ⟨⟨ownsRow_down h.t.own hl, h.t.len, fun i hi => (h.t.rows i hi).mono hl, h.t.apart, h.t.off⟩⟩

abbrev ar0 : Array Value := #[.int .i64 0, .int .i64 0, .int .i64 0, .int .i64 0, .int .i64 0]
abbrev qwB (w2 : World) (g n : Nat) (fv : Value) : World := (((w2.alloc (.cells #[.slice (some ⟨g, 0, none⟩) n n] 22)).alloc (.cells ar0 54)).alloc (.cells ar0 54)).alloc (.cells #[fv] 55)
theorem qwB_old (w2 : World) (g n : Nat) (fv : Value) (k : Nat) (hk : k < w2.heap.size) : (qwB w2 g n fv).heap[k]? = w2.heap[k]? := by
  rw [Below.heap_alloc _ _ _ (by simp <;> omega), Below.heap_alloc _ _ _ (by simp <;> omega), Below.heap_alloc _ _ _ (by simp <;> omega), Below.heap_alloc _ _ _ hk]
theorem qwB_new (w2 : World) (g n : Nat) (fv : Value) : (qwB w2 g n fv).heap[w2.heap.size]? = some (.cells #[.slice (some ⟨g, 0, none⟩) n n] 22 (0, 0)) ∧ (qwB w2 g n fv).heap[w2.heap.size + 1]? = some (.cells ar0 54 (0, 0)) ∧ (qwB w2 g n fv).heap[w2.heap.size + 2]? = some (.cells ar0 54 (0, 0)) ∧ (qwB w2 g n fv).heap[w2.heap.size + 3]? = some (.cells #[fv] 55 (0, 0)) := by
  refine ⟨?_, ?_, ?_, ?_⟩
  · rw [Below.heap_alloc _ _ _ (by simp <;> omega), Below.heap_alloc _ _ _ (by simp <;> omega), Below.heap_alloc _ _ _ (by simp)]
    exact heap_alloc_new _ _
  · rw [Below.heap_alloc _ _ _ (by simp <;> omega), Below.heap_alloc _ _ _ (by simp <;> omega)]
    have := heap_alloc_new (w2.alloc (.cells #[.slice (some ⟨g, 0, none⟩) n n] 22)) (.cells ar0 54)
    simpa using this
  · rw [Below.heap_alloc _ _ _ (by simp)]
    have := heap_alloc_new ((w2.alloc (.cells #[.slice (some ⟨g, 0, none⟩) n n] 22)).alloc (.cells ar0 54)) (.cells ar0 54)
    simpa using this
  · have := heap_alloc_new (((w2.alloc (.cells #[.slice (some ⟨g, 0, none⟩) n n] 22)).alloc (.cells ar0 54)).alloc (.cells ar0 54)) (.cells #[fv] 55)
    simpa using this
theorem qwB_size (w2 : World) (g n : Nat) (fv : Value) : (qwB w2 g n fv).heap.size = w2.heap.size + 4 := by simp
theorem qwB_below (w2 : World) (g n : Nat) (fv : Value) : Below w2.heap.size w2 (qwB w2 g n fv) := by
  refine (((((Below.refl _ _).alloc (Nat.le_refl _) _).alloc ?_ _).alloc ?_ _).alloc ?_ _) <;> simp <;> omega

/-- v is the list of these matrices -/
def SgLs (w : World) (lo n : Nat) (v : Value) (us : List Value) (L : List (List Int)) : Prop := w.ownsRow lo 22 1 v us.length us ∧ us.length = L.length ∧ TsS w lo n v us L
theorem SgLs.down {w : World} {lo lo' n : Nat} {v : Value} {us : List Value} {L : List (List Int)} (h : SgLs w lo n v us L) (hl : lo' ≤ lo) : SgLs w lo' n v us L :=
  ⟨ownsRow_down h.1 hl, h.2.1, fun k hk => by
    obtain ⟨x, y, b1, b2, b3, b4⟩ := h.2.2 k hk
    exact ⟨x, y, by omega, b2, b3, b4⟩⟩

set_option maxHeartbeats 4000000 in
set_option maxRecDepth 100000 in
theorem SgAll_at (n : Nat) (w : World) (n1 : 1 ≤ n) (n5 : n ≤ 5) :
    Calls Tryz.prog 8 #[.int .i64 (n : Int)] w fun e w' => ∃ a cap, ∃ us, e = .returned (.tuple #[.slice a (srS n (n * n) []).length cap, .int .i64 0]) ∧ Hid (SgLs w' w.heap.size n (.slice a (srS n (n * n) []).length cap) us (srS n (n * n) [])) ∧ Hid (Below w.heap.size w w') := by
  obtain ⟨n0, HN0⟩ : ∃ n0, Hid (n0 = w.heap.size) := ⟨_, rfl⟩
  obtain ⟨K, HK⟩ : ∃ K, Hid (K = (srS n (n * n) []).length) := ⟨_, rfl⟩
  have hK : K ≤ 1000 := by
    rw [HK.out, asm_list n (by omega) n1]
    rcases (show n = 1 ∨ n = 2 ∨ n = 3 ∨ n = 4 ∨ n = 5 by omega) with rfl | rfl | rfl | rfl | rfl <;> decide
  rw [← HK.out]
  have HC : Hid (∀ w2 gs, Rez w2 (n0 + 2) (n0 + 2) n n gs (fun _ _ => 0) → Below (n0 + 2) (qwA w n) w2 → Calls Tryz.prog 24 #[.int .i64 0, bxS n0, bxS (n0 + 1), bxS w2.heap.size, bxS (w2.heap.size + 1), bxS (w2.heap.size + 2), bxS (w2.heap.size + 3)] (qwB w2 (n0 + 2) n (ptS n0 (n0 + 1) w2.heap.size (w2.heap.size + 1) (w2.heap.size + 2) (w2.heap.size + 3))) fun e w' => e = .returned (.tuple #[]) ∧ ∃ a cap, ∃ us, w'.cell? ⟨n0 + 1, 0, none⟩ = some (.slice a K cap) ∧ Hid (SgLs w' n0 n (.slice a K cap) us (srS n (n * n) [])) ∧ Hid (Below n0 w w')) := fun w2 gs hR hB => by
    have hA := qwA_below w n
    have hAs : (qwA w n).heap.size = n0 + 2 := by rw [qwA_size, HN0.out]
    obtain ⟨a0, a3⟩ := qwA_blk w n
    rw [← HN0.out] at a0 a3 hA
    have hsz : n0 + 2 ≤ w2.heap.size := by have := hB.size; omega
    obtain ⟨W, hWd⟩ : ∃ W, W = qwB w2 (n0 + 2) n (ptS n0 (n0 + 1) w2.heap.size (w2.heap.size + 1) (w2.heap.size + 2) (w2.heap.size + 3)) := ⟨_, rfl⟩
    have hold : ∀ k, k < w2.heap.size → W.heap[k]? = w2.heap[k]? := fun k hk => by rw [hWd]; exact qwB_old _ _ _ _ k hk
    have hWs : W.heap.size = w2.heap.size + 4 := by rw [hWd, qwB_size]
    obtain ⟨m1, m2, m3, m4⟩ := qwB_new w2 (n0 + 2) n (ptS n0 (n0 + 1) w2.heap.size (w2.heap.size + 1) (w2.heap.size + 2) (w2.heap.size + 3))
    rw [← hWd] at m1 m2 m3 m4
    have hgs : ∀ i, i < n → n0 + 2 ≤ gs i ∧ gs i < w2.heap.size := fun i hi => by
      have := hR.box (i := i) (j := 0) hi (by omega)
      exact ⟨this.2.2.1, this.2.2.2⟩
    have hgg : n0 + 2 < w2.heap.size := by have := hgs 0 (by omega); have := hR.off (i := 0) (by omega); omega
    have hlow : ∀ k, k < n0 + 2 → W.heap[k]? = (qwA w n).heap[k]? := fun k hk => by rw [hold k (by omega), hB.block k hk]
    have hE : SE W (n0 + 1) (w2.heap.size + 4) (n0 + 2) n n0 w2.heap.size (w2.heap.size + 1) (w2.heap.size + 2) (w2.heap.size + 3) gs := by
      refine ⟨fun W2 hW2 => ?_, n1, n5⟩
      have hne : ∀ k, k < n0 + 2 ∨ w2.heap.size ≤ k → ∀ i, i < n → k ≠ gs i := fun k hk i hi => by have := hgs i hi; omega
      refine ⟨(cell_oneS (ty := 3) ?_).1, (cell_oneS (ty := 22) ?_).1, (cell_oneS (ty := 55) ?_).1⟩
      · rw [hW2 n0 (by omega) (by omega) (by omega) (by omega) (hne _ (by omega)), hlow _ (by omega)]; exact a0
      · rw [hW2 w2.heap.size (by omega) (by omega) (by omega) (by omega) (hne _ (by omega))]; exact m1
      · rw [hW2 (w2.heap.size + 3) (by omega) (by omega) (by omega) (by omega) (hne _ (by omega))]; exact m4
    have hX : SX W W n0 (n0 + 1) (w2.heap.size + 4) (n0 + 2) n (w2.heap.size + 1) (w2.heap.size + 2) gs (fun _ _ => 0) (fun _ => 0) (fun _ => 0) (.slice none 0 0) [] ([] : List (List Int)).length := by
      refine ⟨fun _ _ _ _ _ _ => rfl, by rw [hWs]; exact Nat.le_refl _, by rw [hlow _ (by omega)]; exact a3, World.ownsRow_nil _ _ _ _, (hR.same (fun k _ hk => hold k hk)).down (by omega), m2, m3, ⟨by omega, by omega, by omega, by omega, fun i hi => by have := hgs i hi; omega⟩, ⟨by omega, by omega, by omega, by omega, by omega, by omega⟩, fun i hi => by have := hgs i hi; omega, rfl, Below.refl _ _, ⟨by omega, by omega, by omega⟩⟩
    have hBW : Below n0 w W := by
      rw [hWd]
      exact (hA.trans (hB.mono (by omega))).trans ((qwB_below w2 _ _ _).mono (by omega))
    have h0 : ∀ i, i < 5 → (0 : Int) = rwT n [] i := fun i _ => by simp [rwT, sum]
    have h0c : ∀ a j, clS n [] a j = 0 := fun a j => by
      induction a with
      | zero => rfl
      | succ a ih => show clS n [] a j + _ = 0; rw [ih]; simp
    rw [← hWd]
    have hc := PutC_at (H := n0) hE (n * n) [] W [] (by simp) (fun z hz => absurd hz (by simp)) ⟨_, _, _, hX.congr h0 (fun i _ => by unfold clT; rw [h0c]; split <;> rfl), fun _ _ _ _ => by omega, fun t ht => absurd ht (by simp), fun k hk => absurd hk (by simp)⟩ (by rw [List.nil_append, ← HK.out]; omega)
    refine hc.mono ?_
    rintro e w' ⟨rfl, Q, vl, us, x1, _, _, x2⟩
    rw [List.nil_append] at x1 x2
    obtain ⟨a, cap, hv⟩ := own_shapeS x1.li
    have hl : us.length = K := by rw [x1.ln, HK.out]
    rw [hl] at hv
    refine ⟨rfl, a, cap, us, ?_, ?_, hBW.trans x1.be⟩
    · rw [← hv]
      exact (cell_oneS x1.lb).1
    · rw [← hv]
      exact SgLs.down ⟨x1.li, x1.ln, x2⟩ (by omega)
  have HA4 : Hid ((qwA w n).heap.size = n0 + 2) := by show _ = _; rw [qwA_size, HN0.out]
  have h1' : ¬ (n : Int) < 1 := by omega
  have h5' : ¬ (5 : Int) < (n : Int) := by omega
  go_enter Tryz.func8, Tryz.ntmps8
  go_wp2_with fail
  refine (noughts_at n _ n1 (by omega)).mono ?_
  rintro e w2 ⟨gs, rfl, HR, HB2⟩
  rw [show ((w.alloc (.cells #[.int .i64 (n : Int)] 3)).alloc (.cells #[.slice none 0 0] 29)).heap.size = n0 + 2 from HA4.out] at HR HB2 ⊢
  have HCc := hid_w (HC.out w2 gs HR.out HB2.out)
  clear HC HR HB2
  go_wp2_with fail
  rw [← HN0.out]
  refine HCc.out.mono ?_
  rintro e w3 ⟨rfl, a, cap, us, hcv, HS3, HB3⟩
  go_wp2
  go_ret2
  exact ⟨a, cap, us, rfl, by rw [← HN0.out]; exact HS3, by rw [← HN0.out]; exact HB3⟩

set_option maxHeartbeats 2000000 in
theorem SgAll_no (n : Int) (w : World) (hn : n < 1 ∨ 5 < n) :
    Calls Tryz.prog 8 #[.int .i64 n] w fun e w' => e = .returned (.tuple #[.slice none 0 0, .int .i64 1]) ∧ Hid (Below w.heap.size w w') := by
  by_cases h1 : n < 1
  · clear hn
    go_enter Tryz.func8, Tryz.ntmps8
    go_wp2_with fail
    go_ret2
    exact ⟨rfl, (Below.refl _ _).alloc (Nat.le_refl _) _⟩
  · have h5 : 5 < n := by omega
    clear hn
    go_enter Tryz.func8, Tryz.ntmps8
    go_wp2_with fail
    go_ret2
    exact ⟨rfl, (Below.refl _ _).alloc (Nat.le_refl _) _⟩

set_option maxHeartbeats 2000000 in
theorem SgCount_no (n : Int) (w : World) (hn : n < 1 ∨ 30 < n) :
    Calls Tryz.prog 6 #[.int .i64 n] w fun e w' => e = .returned (.tuple #[.string ⟨#[]⟩, .int .i64 1]) ∧ w' = w := by
  by_cases h1 : n < 1
  · clear hn
    go_enter Tryz.func6, Tryz.ntmps6
    go_wp2_with fail
    go_ret2
    exact ⟨rfl, rfl⟩
  · have h30 : 30 < n := by omega
    clear hn
    go_enter Tryz.func6, Tryz.ntmps6
    go_wp2_with fail
    go_ret2
    exact ⟨rfl, rfl⟩

end Go.Proofs.YtgcpconlmihilaaGreatDoor
