/-
  The contracts of slices.Grow of nothing and of slices.Concat, at rows of numbers.
-/
import Derived.Test.YtmbpcapjldbkbaaDoorCRow
import Derived.Test.YtmbpcapjldbkbaaDoorBApp
import Derived.Test.YtmbpcapjldbkbaaDoorGShelf
namespace Go.Proofs.YtmbpcapjldbkbaaDoor
open Go.RowKit

theorem hid_g2 {p : Prop} (h : p) : Hid p := h
theorem Grow_at (n : Nat) (w : World) (hn : n ≤ 1000000) :
    Calls Tryd.prog 25 #[.slice none 0 0, .int .i64 (n : Int)] w fun e w' => ∃ v, e = .returned v ∧ Owns w' w.heap.size v [] ∧ Below w.heap.size w w' := by
  rcases Nat.eq_zero_or_pos n with h0 | h0
  · subst h0
    refine Calls.mono (Any8.slices_Grow_room Go.Proofs.Tryd.growI none 0 0 0 w (Nat.le_refl _) (by omega) (by omega) (Nat.le_refl _)) ?_
    rintro e w' ⟨rfl, rfl⟩
    exact ⟨_, rfl, World.ownsRow_nil _ _ _ _, Below.refl _ _⟩
  · obtain ⟨i0, hi, hz0, hz1, hz2⟩ := info_parts Tryd.info3
    refine Calls.mono (Any8.slices_Grow_grow Go.Proofs.Tryd.growI i0 (.int .i64 0) hi hz0 (by rw [hz1]; exact Nat.one_pos) none 0 0 n [] w (Nat.le_refl _) (by omega) (by rw [hz2]; omega) (by omega) (by simp) (fun _ => rfl) (fun a h => by cases h)) ?_
    rintro e w' ⟨rfl, rfl⟩
    refine ⟨_, rfl, ⟨rfl, Or.inr ⟨w.heap.size, _, _, rfl, Nat.le_refl _, heap_alloc_new _ _, Nat.zero_le _, grownCap_le_maxLen _ _ _ _ (by unfold maxLen; omega), ?_, rfl⟩⟩, ?_⟩
    · rw [Array.size_append, Array.size_append, size_zeroCells, size_zeroCells]
      have h1 := grownCap_ge w (0 + n) 0 (Go.Proofs.Tryd.growI_ren.t 25)
      generalize grownCap w (0 + n) 0 (Go.Proofs.Tryd.growI_ren.t 25) = C at h1 ⊢
      have e : (Value.int .i64 0).cells.size = 1 := rfl
      rw [e]
      simp only [List.size_toArray, List.length_nil, Nat.mul_one]
      omega
    · exact Below.alloc (below_drewN (Below.refl _ _) 1) (Nat.le_refl _) _

set_option maxHeartbeats 4000000 in
theorem Concat_at (a : Option Addr) (n cap : Nat) (ls : List (List Int)) (w : World) (ht : Table w a ls) (hn : n = ls.length) (hl : ls.length ≤ 1000) (hr : ∀ l ∈ ls, l.length ≤ 1000) :
    Calls Tryd.prog 17 #[.slice a n cap] w fun e w' => ∃ v, e = .returned v ∧ Owns w' w.heap.size v ls.flatten ∧ Below w.heap.size w w' := by
  subst hn
  have HT : Hid (Table w a ls) := ht
  have HR : Hid (∀ l ∈ ls, l.length ≤ 1000) := hr
  have HF : Hid (∀ k, k ≤ ls.length → (ls.take k).flatten.length ≤ 1000 * k) := fun k => by
    induction k with
    | zero => intro _; simp
    | succ k ih =>
      intro hk
      have h1 := ih (by omega)
      rw [take_flat ls k (by omega), List.length_append]
      have := hr (ls.getD k []) (by simp [List.getD, show k < ls.length by omega])
      omega
  have HG : Hid (∀ (q : Nat) W, q ≤ 1000000 → Calls Tryd.prog 25 #[.slice none 0 0, .int .i64 (q : Int)] W fun e w' => ∃ v, e = .returned v ∧ Hid (Owns w' W.heap.size v []) ∧ Hid (Below W.heap.size W w')) := fun q W hq => Grow_at q W hq
  clear ht hr
  go_enter Tryd.func17, Tryd.ntmps17
  go_wp2
  go_loopw [3, 11] (fun sv kv wr => ∃ k q : Nat, k ≤ ls.length ∧ kv = .int .i64 (k : Int) ∧ sv = .int .i64 (q : Int) ∧ Hid (q = (ls.take k).flatten.length) ∧ wr = w) (fun _ kv _ => ls.length - (intOf kv).toNat)
  case atStart => exact ⟨0, 0, Nat.zero_le _, rfl, rfl, by show _ = _; simp, rfl⟩
  case round =>
    obtain ⟨k, q, hk, rfl, rfl, HQ, hwr⟩ := hrel
    obtain rfl := hwr
    obtain ⟨w0, hw0⟩ : ∃ w0, w0 = wr := ⟨_, rfl⟩
    subst hw0
    have hqb : q ≤ 1000000 := by rw [HQ.out]; have := HF.out k hk; omega
    by_cases hlt : k < ls.length
    · have hlt' : (k : Int) < (ls.length : Int) := by omega
      obtain ⟨b1, o1, ai, m, ci, rfl, hc1, HM1, HS1, HN1, hmb⟩ := HT.out.elemR hlt
      have hm1 : m ≤ 1000 := by rw [HM1.out]; exact HR.out _ (by simp [List.getD, hlt])
      have HQ2 : Hid (q + m = (ls.take (k + 1)).flatten.length) := by show _ = _; rw [take_flat ls k hlt, List.length_append, ← HM1.out, HQ.out]
      have hneg : ¬ ((q : Int) + (m : Int) < 0) := by omega
      go_wp2
      go_roundw
      case rel => exact ⟨k + 1, q + m, by omega, by go_num, by go_num, HQ2, by first | rfl | trivial⟩
      case measure => simp [intOf]; omega
    · obtain rfl : k = ls.length := by omega
      have HGq := hid_g2 (HG.out q w0 hqb)
      clear HG
      go_wp2_with fail
      refine HGq.out.mono ?_
      rintro e w1 ⟨v6, rfl, HO1, HB1⟩
      go_wp2_with fail
      go_loopw [6, 27] (fun v jv wz => ∃ j : Nat, j ≤ ls.length ∧ jv = .int .i64 (j : Int) ∧ Hid (Owns wz w0.heap.size v (ls.take j).flatten) ∧ Hid (Below w0.heap.size w0 wz)) (fun _ jv _ => ls.length - (intOf jv).toNat)
      case atStart => exact ⟨0, Nat.zero_le _, rfl, by simpa [Hid] using HO1, HB1⟩
      case round =>
        clear HO1 HB1
        obtain ⟨j, hj, rfl, HO, HB⟩ := hrel
        by_cases hltj : j < ls.length
        · have hltj' : (j : Int) < (ls.length : Int) := by omega
          obtain ⟨b1, o1, ai, m, ci, rfl, hc1, HM1, HS1, HN1, hmb⟩ := (HT.out.below HB.out).elemR hltj
          obtain ⟨row, HRow⟩ : ∃ row, Hid (row = ls.getD j []) := ⟨_, rfl⟩
          obtain ⟨pre, HPre⟩ : ∃ pre, Hid (pre = (ls.take j).flatten) := ⟨_, rfl⟩
          have hm1 : (ls.getD j []).length ≤ 1000 := HR.out _ (by simp [List.getD, hltj])
          have HLl : Hid ((ls.take j).flatten.length + (ls.getD j []).length ≤ 17592186044414) := by show _ ≤ _; have := HF.out j (by omega); omega
          have HTf : Hid ((ls.take j).flatten ++ ls.getD j [] = (ls.take (j + 1)).flatten) := (take_flat ls j hltj).symm
          rw [← HRow.out] at HM1 HS1 HN1 HLl HTf
          rw [← HPre.out] at HO HLl HTf
          clear hm1
          go_wp2_with (at_builtin; refine append_src (ys := row) (ad := ai) (m := m) (c := ci) rfl _ _ rfl rfl rfl HO.out HS1.out HM1.out HN1.out HLl.out HB.out.size ?_)
          intro v2 w3 hO3 hb3 _
          have HO3 : Hid (Owns w3 w0.heap.size v2 (ls.take (j + 1)).flatten) := by show Owns _ _ _ _; rw [← HTf.out]; exact hO3
          have HB3 : Hid (Below w0.heap.size w0 w3) := HB.out.trans hb3
          clear hO3 hb3
          go_wp2
          go_roundw
          case rel => exact ⟨j + 1, by omega, by go_num, HO3, HB3⟩
          case measure => simp [intOf]; omega
        · obtain rfl : j = ls.length := by omega
          have HOe : Hid (Owns wr w0.heap.size u6 ls.flatten) := by
            have h := HO.out
            rw [List.take_length] at h
            exact h
          go_wp2
          go_ret
          exact ⟨_, rfl, HOe.out, HB.out⟩

end Go.Proofs.YtmbpcapjldbkbaaDoor
