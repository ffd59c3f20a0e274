/-
  The contract of parking.Count.
-/
import Derived.Test.YtlghldfolfmoeaaDoorZRep
import Derived.Test.YtlghldfolfmoeaaDoorWQuo
import Derived.Test.YtlghldfolfmoeaaDoorZDec
import Derived.Test.YtlghldfolfmoeaaDoorZLst
namespace Go.Proofs.YtlghldfolfmoeaaDoor
open Go.RowKit

theorem pL_rep (x : Nat) : ∀ c, pL (List.replicate c x) = x ^ c
  | 0 => rfl
  | c + 1 => by rw [List.replicate_succ, pL, pL_rep x c, Nat.pow_succ, Nat.mul_comm]
theorem castL_rep (x c : Nat) : castL (List.replicate c x) = List.replicate c (x : Int) := by simp [castL]

set_option maxHeartbeats 4000000 in
set_option maxRecDepth 100000 in
theorem PkCount_ok (n : Nat) (w : World) (hn : n ≤ 60) (htab : Lib.TabIs Tryd.prog w "internal/strconv.uint64pow10" .u64 Lib.pow10Tab) :
    Calls Tryd.prog 9 #[.int .i64 (n : Int)] w fun e w' => e = .returned (.tuple #[.string ⟨(Lib.decDigits (pw n)).toArray⟩, .int .i64 0]) ∧ Hid (Below w.heap.size w w') := by
  have HTab : Hid (∀ W, Below w.heap.size w W → Lib.TabIs Tryd.prog W "internal/strconv.uint64pow10" .u64 Lib.pow10Tab) := fun W hW => Lib.tabBelow_of_tabIs htab W hW
  obtain ⟨s, HSs⟩ : ∃ s : ByteArray, Hid (s = ⟨(Lib.decDigits (pw n)).toArray⟩) := ⟨_, rfl⟩
  rw [← HSs.out]
  clear htab
  have h1 : decide ((n : Int) < 0) = false := decide_eq_false (by omega)
  have h1' : ¬ (n : Int) < 0 := by omega
  have h2 : decide ((n : Int) > 60) = false := decide_eq_false (by omega)
  have h2' : ¬ (60 : Int) < (n : Int) := by omega
  obtain ⟨x, HX⟩ : ∃ x : Nat, Hid (x = n + 1) := ⟨_, rfl⟩
  have hx : (n : Int) + 1 = (x : Int) := by rw [HX.out]; omega
  have hx61 : x ≤ 61 := by rw [HX.out]; omega
  have HSh : Hid (Shows (w.alloc (.cells #[.int .i64 (x : Int)] 3)) (some ⟨w.heap.size, 0, none⟩) [(x : Int)]) := shows_lit w [(x : Int)] _ rfl (by simp) (by simp; omega)
  have HBa : Hid (Below w.heap.size w (w.alloc (.cells #[.int .i64 (x : Int)] 3))) := (Below.refl _ _).alloc (Nat.le_refl _) _
  have HQ : Hid (∀ W v, Below w.heap.size w W → Owns W (w.heap.size + 1) v (castL (List.replicate (n - 1) x)) → ∃ a c, v = .slice a (n - 1) c ∧ Calls Tryd.prog 17 #[.slice a (n - 1) c, .slice none 0 0] W fun e w' => e = .returned (.string s) ∧ Hid (Below w.heap.size w w')) := fun W v hW ho => by
    have hmem : ∀ z ∈ List.replicate (n - 1) x, z ≤ 1000 := fun z hz => by rw [(List.mem_replicate.1 hz).2]; omega
    obtain ⟨a, c, hv, hs⟩ := ho.shows (by rw [castL_rep, List.length_replicate]; omega) (fun z hz => by rw [castL_rep] at hz; rw [(List.mem_replicate.1 hz).2]; omega)
    rw [castL_rep, List.length_replicate] at hv
    refine ⟨a, c, hv, ?_⟩
    refine (Quotient_at a none (n - 1) c 0 0 (List.replicate (n - 1) x) [] W hs ⟨by simp [castL], by simp [castL], fun h => absurd rfl h⟩ (by simp) rfl (by simp; omega) (by simp) hmem (by simp) (HTab.out W hW)).mono ?_
    rintro e w' ⟨rfl, hb⟩
    refine ⟨?_, hW.trans (hb.mono hW.size)⟩
    rw [HSs.out, numT_dec]
    show Ending.returned (.string ⟨(Lib.decDigits (pL (List.replicate (n - 1) x))).toArray⟩) = _
    rw [pL_rep, HX.out]; rfl
  have HZr : Hid (n ≤ 1 → Calls Tryd.prog 18 #[.slice (some ⟨w.heap.size, 0, none⟩) 1 1, .int .i64 0] (w.alloc (.cells #[.int .i64 (x : Int)] 3)) fun e w' => ∃ v, e = .returned v ∧ Hid (Owns w' (w.heap.size + 1) v (castL (List.replicate (n - 1) x))) ∧ Hid (Below w.heap.size w w')) := fun h => by
    refine (Repeat_zero _ _ (x : Int) _ HSh.out).mono ?_
    rintro e w' ⟨v, rfl, h1, h2⟩
    refine ⟨v, rfl, ?_, HBa.out.trans (h2.mono (by simp))⟩
    rw [show n - 1 = 0 by omega]
    have h3 := h1
    rw [show (w.alloc (.cells #[.int .i64 (x : Int)] 3)).heap.size = w.heap.size + 1 by simp] at h3
    exact h3
  have HZs : Hid (1 < n → Calls Tryd.prog 18 #[.slice (some ⟨w.heap.size, 0, none⟩) 1 1, .int .i64 ((n - 1 : Nat) : Int)] (w.alloc (.cells #[.int .i64 (x : Int)] 3)) fun e w' => ∃ v, e = .returned v ∧ Hid (Owns w' (w.heap.size + 1) v (castL (List.replicate (n - 1) x))) ∧ Hid (Below w.heap.size w w')) := fun h => by
    refine (Repeat_at _ _ (x : Int) (n - 1) _ HSh.out (by omega) (by omega)).mono ?_
    rintro e w' ⟨v, rfl, h1, h2⟩
    refine ⟨v, rfl, ?_, HBa.out.trans (h2.mono (by simp))⟩
    rw [castL_rep]
    have h3 := h1
    rw [show (w.alloc (.cells #[.int .i64 (x : Int)] 3)).heap.size = w.heap.size + 1 by simp] at h3
    exact h3
  clear HSh HBa
  by_cases h0 : n ≤ 1
  · have HR := HZr.out h0
    by_cases h00 : n = 0
    · have hm : (n : Int) - 1 = -1 := by omega
      clear h0 h00 HZr HZs h1 h2
      go_enter Tryd.func9, Tryd.ntmps9
      go_wp2_with fail
      refine HR.mono ?_
      rintro e w2 ⟨v, rfl, HO, HB⟩
      obtain ⟨a, c, rfl, HC⟩ := HQ.out w2 v HB.out HO.out
      go_wp2_with fail
      refine HC.mono ?_
      rintro e w3 ⟨rfl, HB3⟩
      go_wp2
      go_ret2
      exact ⟨rfl, HB3⟩
    · have hm : (n : Int) - 1 = 0 := by omega
      clear h0 h00 HZr HZs h1 h2
      go_enter Tryd.func9, Tryd.ntmps9
      go_wp2_with fail
      refine HR.mono ?_
      rintro e w2 ⟨v, rfl, HO, HB⟩
      obtain ⟨a, c, rfl, HC⟩ := HQ.out w2 v HB.out HO.out
      go_wp2_with fail
      refine HC.mono ?_
      rintro e w3 ⟨rfl, HB3⟩
      go_wp2
      go_ret2
      exact ⟨rfl, HB3⟩
  · have HR := HZs.out (by omega)
    obtain ⟨c0, Hc0⟩ : ∃ c0 : Nat, Hid (c0 = n - 1) := ⟨_, rfl⟩
    have hm : (n : Int) - 1 = (c0 : Int) := by rw [Hc0.out]; omega
    have hc1 : ¬ (c0 : Int) < 0 := by omega
    rw [← Hc0.out] at HR HQ
    clear h0 HZr HZs h1 h2
    go_enter Tryd.func9, Tryd.ntmps9
    go_wp2_with fail
    refine HR.mono ?_
    rintro e w2 ⟨v, rfl, HO, HB⟩
    obtain ⟨a, c, rfl, HC⟩ := HQ.out w2 v HB.out HO.out
    go_wp2_with fail
    refine HC.mono ?_
    rintro e w3 ⟨rfl, HB3⟩
    go_wp2
    go_ret2
    exact ⟨rfl, HB3⟩

set_option maxHeartbeats 2000000 in
set_option maxRecDepth 100000 in
theorem PkCount_no (n : Int) (w : World) (hn : n < 0 ∨ 60 < n) :
    Calls Tryd.prog 9 #[.int .i64 n] w fun e w' => e = .returned (.tuple #[.string ⟨#[]⟩, .int .i64 1]) ∧ w' = w := by
  by_cases h : n < 0
  · clear hn
    go_enter Tryd.func9, Tryd.ntmps9
    go_wp2
    go_ret2
    exact ⟨rfl, rfl⟩
  · have h2 : 60 < n := by omega
    clear hn
    go_enter Tryd.func9, Tryd.ntmps9
    go_wp2
    go_ret2
    exact ⟨rfl, rfl⟩
end Go.Proofs.YtlghldfolfmoeaaDoor
