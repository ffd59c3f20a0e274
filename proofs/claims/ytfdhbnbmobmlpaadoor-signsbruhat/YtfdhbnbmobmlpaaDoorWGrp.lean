/-
  The contracts of wide.groupsOf, trimmed.
-/
import Derived.Test.YtfdhbnbmobmlpaaDoorCOwv
import Derived.Test.YtfdhbnbmobmlpaaDoorHGrp
import Derived.BigQuiet
import Derived.Deep.DeepCutAuto
import Derived.Deep.LoopGhost
namespace Go.Proofs.YtfdhbnbmobmlpaaDoor
open Go.RowKit

theorem elem_grp : Elem 47 57 (.int .u64 0) 8 := ⟨by kernel_rfl, Tryd.infoV, rfl⟩
/-- A slice of n groups, at the front of a block. -/
def GrV (w : World) (lo : Nat) (v : Value) (n : Nat) (f : Nat → Nat) : Prop := ∃ a cap, v = .slice a n cap ∧ (0 < n → ∃ g, a = some ⟨g, 0, none⟩ ∧ lo ≤ g ∧ g < w.heap.size ∧ ∀ j, j < n → w.cell? ⟨g, j, none⟩ = some (.int .u64 (f j : Int)))
theorem GrV.below {w w' : World} {lo : Nat} {v : Value} {n : Nat} {f : Nat → Nat} (h : GrV w lo v n f) (hb : Below w.heap.size w w') : GrV w' lo v n f := by
  obtain ⟨a, cap, rfl, h1⟩ := h
  refine ⟨a, cap, rfl, fun hn => ?_⟩
  obtain ⟨g, e, hl, hg, hc⟩ := h1 hn
  exact ⟨g, e, hl, Nat.lt_of_lt_of_le hg hb.size, fun j hj => (hb.cell (p := ⟨g, j, none⟩) hg).trans (hc j hj)⟩
theorem GrV.store {w : World} {lo b k : Nat} {v x : Value} {n : Nat} {f : Nat → Nat} (h : GrV w lo v n f) (hb : b < lo) : GrV (w.setCell ⟨b, k, none⟩ x) lo v n f := by
  obtain ⟨a, cap, rfl, h1⟩ := h
  refine ⟨a, cap, rfl, fun hn => ?_⟩
  obtain ⟨g, e, hl, hg, hc⟩ := h1 hn
  exact ⟨g, e, hl, by simpa using hg, fun j hj => by rw [World.cell?_of_block (heap_setCell_other _ _ _ _ (by show g ≠ b; omega))]; exact hc j hj⟩
theorem GrV.mono {w : World} {lo lo' : Nat} {v : Value} {n : Nat} {f : Nat → Nat} (h : GrV w lo v n f) (hl : lo' ≤ lo) : GrV w lo' v n f := by
  obtain ⟨a, cap, rfl, h1⟩ := h
  refine ⟨a, cap, rfl, fun hn => ?_⟩
  obtain ⟨g, e, h2, hg, hc⟩ := h1 hn
  exact ⟨g, e, by omega, hg, hc⟩
theorem OwnsV.grv {w : World} {base n : Nat} {v : Value} {f : Nat → Nat} (h : OwnsV w base v n f) : GrV w base v n f := by
  have h0 := h
  unfold OwnsV at h
  rcases h.2 with ⟨h2, h3⟩ | ⟨g, cap, cur, hv, hg, hh, _⟩
  · exact ⟨none, 0, by rw [h2, h3], fun hn => by omega⟩
  · refine ⟨_, cap, hv, fun hn => ⟨g, rfl, hg, (Array.getElem?_eq_some_iff.1 hh).1, fun j hj => ?_⟩⟩
    subst hv
    exact (h0.at hj).2

/-- The groups of x, at most N. -/
def GrC (w : World) (lo : Nat) (v : Value) (x N : Nat) : Prop := ∃ n f, GrV w lo v n f ∧ Can n f x ∧ n ≤ N
theorem GrC.below {w w' : World} {lo : Nat} {v : Value} {x N : Nat} (h : GrC w lo v x N) (hb : Below w.heap.size w w') : GrC w' lo v x N := by
  obtain ⟨n, f, h1, h2, h3⟩ := h
  exact ⟨n, f, h1.below hb, h2, h3⟩
theorem GrC.store {w : World} {lo b k : Nat} {v y : Value} {x N : Nat} (h : GrC w lo v x N) (hb : b < lo) : GrC (w.setCell ⟨b, k, none⟩ y) lo v x N := by
  obtain ⟨n, f, h1, h2, h3⟩ := h
  exact ⟨n, f, h1.store hb, h2, h3⟩
theorem GrC.mono {w : World} {lo lo' : Nat} {v : Value} {x N N' : Nat} (h : GrC w lo v x N) (hl : lo' ≤ lo) (hN : N ≤ N') : GrC w lo' v x N' := by
  obtain ⟨n, f, h1, h2, h3⟩ := h
  exact ⟨n, f, h1.mono hl, h2, by omega⟩
theorem GrC.shape {w : World} {lo : Nat} {v : Value} {x N : Nat} (h : GrC w lo v x N) : ∃ a n cap, v = .slice a n cap := by
  obtain ⟨n, f, ⟨a, cap, rfl, _⟩, _, _⟩ := h
  exact ⟨a, n, cap, rfl⟩

set_option maxHeartbeats 2000000 in
theorem groupsOf_at (x : Nat) (w : World) (hx : x ≤ 9223372036854775807) :
    Calls Tryd.prog 28 #[.int .u64 (x : Int)] w fun e w' => ∃ v, e = .returned v ∧ GrC w' w.heap.size v x 3 ∧ Below w.heap.size w w' := by
  have HX : Hid (x ≤ 9223372036854775807) := hx
  clear hx
  go_enter Tryd.func28, Tryd.ntmps28
  go_wp2
  go_loopw [0, 3] (fun xv v wr => ∃ (y n : Nat) (f : Nat → Nat), y ≤ 9223372036854775807 ∧ n ≤ 1000 ∧ xv = .int .u64 (y : Int) ∧ Hid (OwnsV wr w.heap.size v n f) ∧ Hid (valF f n + y * 1000000000 ^ n = x ∧ (∀ j, j < n → f j < 1000000000) ∧ (y = 0 → 0 < n → f (n - 1) ≠ 0)) ∧ Hid (n + 1 ≤ 3 ∨ y = 0 ∧ n ≤ 3) ∧ Hid (Below w.heap.size w wr)) (fun xv _ _ => (intOf xv).toNat)
  case atStart => exact ⟨x, 0, fun _ => 0, HX.out, by omega, rfl, World.ownsRow_nil _ _ _ _, by show _ ∧ _; exact ⟨by simp [valF], fun j hj => by omega, fun _ h => by omega⟩, Or.inl (by omega), Below.refl _ _⟩
  case round =>
    obtain ⟨y, n, f, hy, hn, rfl, HO, HV, HN, HB⟩ := hrel
    by_cases h0 : y = 0
    · subst h0
      have HG := hid_w (OwnsV.grv HO.out)
      go_wp2
      go_ret
      have hv := HV.out
      exact ⟨_, rfl, ⟨n, f, HG.out, ⟨hv.2.1, hv.2.2 (by trivial), by have := hv.1; omega⟩, by rcases HN.out with q | q <;> omega⟩, HB.out⟩
    · have hgt : (y : Int) > 0 := by omega
      obtain ⟨r, HR⟩ : ∃ r, Hid (r = y % 1000000000) := ⟨_, rfl⟩
      obtain ⟨z, HZ⟩ : ∃ z, Hid (z = y / 1000000000) := ⟨_, rfl⟩
      have hr : r < 1000000000 := by rw [HR.out]; exact Nat.mod_lt _ (by omega)
      have hz : z < y := by rw [HZ.out]; exact Nat.div_lt_self (by omega) (by omega)
      have hm : Int.tmod (y : Int) 1000000000 = (r : Int) := by rw [HR.out]; rfl
      have hd : Int.tdiv (y : Int) 1000000000 = (z : Int) := by rw [HZ.out]; rfl
      have hdw : IntKind.u64.wrap (Int.tdiv (y : Int) 1000000000) = (z : Int) := by rw [hd, IntKind.wrap_u64]; omega
      have HN2 : Hid (n + 1 + 1 ≤ 3 ∨ z = 0 ∧ n + 1 ≤ 3) := by
        have hv := HV.out.1
        have hx2 := HX.out
        rcases HN.out with q | q
        · by_cases e : n = 2
          · right
            rw [e] at hv ⊢
            have : y * 1000000000 ^ 2 ≤ 9223372036854775807 := by omega
            have : y < 1000000000 := by
              rcases Nat.lt_or_ge y 1000000000 with q | q
              · exact q
              · have := Nat.mul_le_mul_right (1000000000 ^ 2) q
                omega
            rw [HZ.out, Nat.div_eq_of_lt this]; exact ⟨rfl, by omega⟩
          · left; omega
        · omega
      have HOw : Hid (wr.ownsRow w.heap.size 57 1 u3 ((List.range n).map fun j => Value.int .u64 (f j : Int)).length ((List.range n).map fun j => Value.int .u64 (f j : Int))) := by
        have := HO.out
        unfold OwnsV at this
        rw [List.length_map, List.length_range]; exact this
      have HLn : Hid (((List.range n).map fun j => Value.int .u64 (f j : Int)).length ≤ 1000) := by show _ ≤ _; rw [List.length_map, List.length_range]; exact hn
      go_wp2_with (at_builtin; refine append_one elem_grp (x := .int .u64 (r : Int)) rfl _ _ rfl rfl rfl (by first | rfl | simp) HOw.out rfl ?c3 ?c4 ?c5 ?_)
      case c3 => have := HLn.out; unfold maxLen; omega
      case c4 => have := HLn.out; omega
      case c5 => exact HB.out.size
      intro v2 w3 hO3 hb3 hk3
      have HO3 : Hid (OwnsV w3 w.heap.size v2 (n + 1) (upN f n r)) := by
        show OwnsV _ _ _ _ _
        unfold OwnsV
        have e : (List.range (n + 1)).map (fun j => Value.int .u64 ((upN f n r j : Nat) : Int)) = (List.range n).map (fun j => Value.int .u64 (f j : Int)) ++ [Value.int .u64 (r : Int)] := by
          rw [List.range_succ, List.map_append]
          congr 1
          · exact List.map_congr_left fun j hj => by rw [upN_ne f (by have := List.mem_range.1 hj; omega)]
          · simp [upN_self]
        rw [e]; simpa using hO3
      have HB3 : Hid (Below w.heap.size w w3) := HB.out.trans hb3
      have HV3 : Hid (valF (upN f n r) (n + 1) + z * 1000000000 ^ (n + 1) = x ∧ (∀ j, j < n + 1 → upN f n r j < 1000000000) ∧ (z = 0 → 0 < n + 1 → upN f n r (n + 1 - 1) ≠ 0)) := by
        have hv := HV.out
        refine ⟨?_, fun j hj => ?_, fun hz0 _ => ?_⟩
        · rw [valF, upN_self, valF_congr n (f := upN f n r) (g := f) (fun j hj => upN_ne f (by omega)), Nat.pow_succ, Nat.mul_comm (1000000000 ^ n), ← Nat.mul_assoc, Nat.add_assoc, ← Nat.add_mul]
          have : r + z * 1000000000 = y := by rw [HR.out, HZ.out]; have := Nat.mod_add_div y 1000000000; omega
          rw [this]; exact hv.1
        · by_cases e : j = n
          · subst e; rw [upN_self]; exact hr
          · rw [upN_ne f e]; exact hv.2.1 j (by omega)
        · rw [show n + 1 - 1 = n by omega, upN_self]
          intro hr0
          have h1 := Nat.mod_add_div y 1000000000
          rw [← HR.out, ← HZ.out, hr0, hz0] at h1
          omega
      clear hO3 hb3 hk3 HOw HO
      go_wp2
      go_roundw
      case rel => exact ⟨z, n + 1, _, by omega, by rcases HN.out with q | q <;> omega, by first | rfl | (simp [hdw]; done) | (simp [hd]; done), HO3, HV3, HN2, HB3⟩
      case measure => first | (simp [intOf]; omega) | (simp [intOf, hd]; omega)

set_option maxHeartbeats 2000000 in
theorem trimmed_at (g n cap : Nat) (f : Nat → Nat) (w : World) (hc : ∀ j, j < n → w.cell? ⟨g, j, none⟩ = some (.int .u64 (f j : Int))) (hn : n ≤ 1000000) (hcap : n ≤ cap) :
    Calls Tryd.prog 39 #[.slice (some ⟨g, 0, none⟩) n cap] w fun e w' => e = .returned (.slice (some ⟨g, 0, none⟩) (tlG f n) cap) ∧ w' = w := by
  obtain ⟨t, HT⟩ : ∃ t, Hid (t = tlG f n) := ⟨_, rfl⟩
  rw [← HT.out]
  have HC : Hid (∀ j, j < n → w.cell? ⟨g, j, none⟩ = some (.int .u64 (f j : Int))) := hc
  clear hc
  go_enter Tryd.func39, Tryd.ntmps39
  go_wp2
  go_loopw [0] (fun v wr => ∃ k : Nat, k ≤ n ∧ v = .slice (some ⟨g, 0, none⟩) k cap ∧ Hid (t = tlG f k) ∧ wr = w) (fun v _ => match v with | .slice _ k _ => k | _ => 0)
  case atStart => exact ⟨n, Nat.le_refl _, rfl, HT, rfl⟩
  case round =>
    obtain ⟨k, hk, rfl, HK, hwr⟩ := hrel
    obtain rfl := hwr
    rcases Nat.eq_zero_or_pos k with h0 | h0
    · subst h0
      have HE : Hid (t = 0) := HK.out
      go_wp2
      go_ret
      exact ⟨by rw [HE.out]; rfl, rfl⟩
    · obtain ⟨m, rfl⟩ : ∃ m, k = m + 1 := ⟨k - 1, by omega⟩
      have hgt : ((m + 1 : Nat) : Int) > 0 := by omega
      have hck := HC.out m (by omega)
      have hsub : IntKind.i64.wrap (((m + 1 : Nat) : Int) - 1) = (m : Int) := by rw [IntWalk.i64_left, IntWalk.wrap64_in _ (by omega)]; omega
      by_cases hf : f m = 0
      · have HK2 : Hid (t = tlG f m) := by show _ = _; rw [HK.out, tlG, if_pos hf]
        rw [hf] at hck
        go_wp2
        go_roundw
        case rel => exact ⟨m, by omega, by first | rfl | simp, HK2, by first | rfl | trivial⟩
        case measure => first | (simp; done) | (simp; omega) | skip
      · have HE : Hid (t = m + 1) := by show _ = _; rw [HK.out, tlG, if_neg hf]
        have hfn : ¬ ((f m : Int) = 0) := by omega
        go_wp2
        go_ret
        exact ⟨by rw [HE.out]; rfl, rfl⟩

end Go.Proofs.YtfdhbnbmobmlpaaDoor
