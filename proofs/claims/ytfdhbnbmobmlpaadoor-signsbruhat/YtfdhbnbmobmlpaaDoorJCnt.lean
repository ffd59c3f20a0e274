/-
  The contracts of signs.appendSpan, Count.
-/
import Derived.Test.YtfdhbnbmobmlpaaDoorWQuo
namespace Go.Proofs.YtfdhbnbmobmlpaaDoor
open Go.RowKit

theorem KeepB.refl (v : Value) (w : World) : KeepB v v w w := ⟨Nat.le_refl _, fun _ _ _ => rfl, fun _ h => Or.inl h⟩
theorem KeepB.trans {v v1 v2 : Value} {w w1 w2 : World} (h : KeepB v v1 w w1) (k : KeepB v1 v2 w1 w2) : KeepB v v2 w w2 := by
  refine ⟨Nat.le_trans h.size k.size, fun b hb hn => ?_, fun g hg => ?_⟩
  · rw [k.block b (Nat.lt_of_lt_of_le hb h.size) (fun e => by
      rcases h.lies b e with q | q
      · exact hn q
      · omega)]
    exact h.block b hb hn
  · rcases k.lies g hg with q | q
    · exact h.lies g q
    · exact Or.inr (Nat.le_trans h.size q)

def sp (f k : Nat) : List Nat := (List.range k).map fun i => f + i
theorem sp_succ (f k : Nat) : sp f (k + 1) = sp f k ++ [f + k] := by simp [sp, List.range_succ]
theorem sp_len (f k : Nat) : (sp f k).length = k := by simp [sp]
theorem sp_mem {f k z : Nat} (h : z ∈ sp f k) : f ≤ z ∧ z < f + k := by
  obtain ⟨i, hi, rfl⟩ := List.mem_map.1 h
  have := List.mem_range.1 hi
  omega
theorem castL_one (a : Nat) : castL [a] = [(a : Int)] := rfl

set_option maxHeartbeats 2000000 in
theorem appendSpan_at (v : Value) (lo f l : Nat) (zs : List Nat) (w : World) (ho : Owns w lo v (castL zs)) (hz : zs.length ≤ 10000) (hf : f ≤ 1000) (hl : l ≤ 1000) (hlo : lo ≤ w.heap.size) :
    Calls Tryd.prog 15 #[v, .int .i64 (f : Int), .int .i64 (l : Int)] w fun e w' => ∃ v', e = .returned v' ∧ Hid (Owns w' lo v' (castL (zs ++ sp f (l + 1 - f)))) ∧ Hid (KeepB v v' w w') ∧ Hid (Below lo w w') := by
  have HO : Hid (Owns w lo v (castL zs)) := ho
  obtain ⟨c, HC⟩ : ∃ c, Hid (c = l + 1 - f) := ⟨_, rfl⟩
  have hc : c ≤ 1001 := by rw [HC.out]; omega
  rw [← HC.out]
  clear ho
  go_enter Tryd.func15, Tryd.ntmps15
  go_wp2
  go_loopw [0, 7] (fun u q wr => ∃ k : Nat, k ≤ c ∧ q = .int .i64 ((f : Int) + k) ∧ Hid (Owns wr lo u (castL (zs ++ sp f k))) ∧ Hid (KeepB v u w wr) ∧ Hid (Below lo w wr)) (fun _ q _ => f + c - (intOf q).toNat)
  case atStart => exact ⟨0, Nat.zero_le _, by simp, by show Owns _ _ _ _; simp only [sp, List.range_zero, List.map_nil, List.append_nil]; exact HO.out, KeepB.refl _ _, Below.refl _ _⟩
  case round =>
    obtain ⟨k, hk, rfl, HK, HKe, HB⟩ := hrel
    by_cases hkl : k < c
    · have hle : (f : Int) + (k : Int) ≤ (l : Int) := by have := HC.out; omega
      have hlen : Hid ((castL (zs ++ sp f k)).length = zs.length + k) := by show _ = _; simp [castL, sp]
      go_wp2_with (at_builtin; refine append_one elem_int (x := .int .i64 ((f : Int) + (k : Int))) rfl _ _ rfl rfl rfl rfl (vals_of_owns HK.out) rfl ?c3 ?c4 ?c5 ?_)
      case c3 => first | (rw [List.length_map, hlen.out]; unfold maxLen; omega) | (have := hlen.out; unfold maxLen; simp at *; omega)
      case c4 => first | (rw [List.length_map, hlen.out]; omega) | (have := hlen.out; simp at *; omega)
      case c5 => exact Nat.le_trans hlo HB.out.size
      intro v' w3 hO3 hb3 hk3
      have HO3 : Hid (Owns w3 lo v' (castL (zs ++ sp f (k + 1)))) := by
        have h1 : Owns w3 lo v' (castL (zs ++ sp f k) ++ [(f : Int) + (k : Int)]) := owns_of_vals (by simpa using hO3)
        show Owns _ _ _ _
        rw [sp_succ, ← List.append_assoc, castL_app, castL_one, show ((f + k : Nat) : Int) = (f : Int) + (k : Int) by omega]
        exact h1
      have HK3 : Hid (KeepB v v' w w3) := HKe.out.trans hk3
      have HB3 : Hid (Below lo w w3) := HB.out.trans hb3
      clear hO3 hb3 hk3
      go_wp2
      go_roundw
      case rel => exact ⟨k + 1, by omega, by first | go_num | (simp; omega), HO3, HK3, HB3⟩
      case measure => simp [intOf]; omega
    · obtain rfl : k = c := by omega
      have hle : ¬ (f : Int) + (k : Int) ≤ (l : Int) := by have := HC.out; omega
      go_wp2
      go_ret
      exact ⟨_, rfl, HK, HKe, HB⟩

end Go.Proofs.YtfdhbnbmobmlpaaDoor
