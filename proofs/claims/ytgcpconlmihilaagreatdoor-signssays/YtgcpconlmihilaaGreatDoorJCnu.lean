/-
  The contracts of signs.appendSpan, Count.
  The contract of signs.Count.
-/
import Derived.Test.YtgcpconlmihilaaGreatDoorWQuo
namespace Go.Proofs.YtgcpconlmihilaaGreatDoor
open Go.RowKit

theorem KeepB.refl (v : Value) (w : World) : KeepB v v w w := ⟨Nat.le_refl _, fun _ _ _ => rfl, fun _ h => Or.inl h⟩
theorem KeepB.trans {v v1 v2 : Value} {w w1 w2 : World} (h : KeepB v v1 w w1) (k : KeepB v1 v2 w1 w2) : KeepB v v2 w w2 := by
  refine ⟨Nat.le_trans h.size k.size, fun b hb hn => ?_, fun g hg => ?_⟩
  · rw [k.block b (Nat.lt_of_lt_of_le hb h.size) (fun e => by
      rcases h.lies b e with q | q
      · exact hn q
      · omega)]
    exact h.block b hb hn
  · rcases k.lies g hg with q | q
    · exact h.lies g q
    · exact Or.inr (Nat.le_trans h.size q)

def sp (f k : Nat) : List Nat := (List.range k).map fun i => f + i
theorem sp_succ (f k : Nat) : sp f (k + 1) = sp f k ++ [f + k] := by simp [sp, List.range_succ]
theorem sp_len (f k : Nat) : (sp f k).length = k := by simp [sp]
theorem sp_mem {f k z : Nat} (h : z ∈ sp f k) : f ≤ z ∧ z < f + k := by
  obtain ⟨i, hi, rfl⟩ := List.mem_map.1 h
  have := List.mem_range.1 hi
  omega
theorem castL_one (a : Nat) : castL [a] = [(a : Int)] := rfl

set_option maxHeartbeats 2000000 in
theorem appendSpan_at (v : Value) (lo f l : Nat) (zs : List Nat) (w : World) (ho : Owns w lo v (castL zs)) (hz : zs.length ≤ 10000) (hf : f ≤ 1000) (hl : l ≤ 1000) (hlo : lo ≤ w.heap.size) :
    Calls Tryz.prog 16 #[v, .int .i64 (f : Int), .int .i64 (l : Int)] w fun e w' => ∃ v', e = .returned v' ∧ Hid (Owns w' lo v' (castL (zs ++ sp f (l + 1 - f)))) ∧ Hid (KeepB v v' w w') ∧ Hid (Below lo w w') := by
  have HO : Hid (Owns w lo v (castL zs)) := ho
  obtain ⟨c, HC⟩ : ∃ c, Hid (c = l + 1 - f) := ⟨_, rfl⟩
  have hc : c ≤ 1001 := by rw [HC.out]; omega
  rw [← HC.out]
  clear ho
  go_enter Tryz.func16, Tryz.ntmps16
  go_wp2
  go_loopw [0, 7] (fun u q wr => ∃ k : Nat, k ≤ c ∧ q = .int .i64 ((f : Int) + k) ∧ Hid (Owns wr lo u (castL (zs ++ sp f k))) ∧ Hid (KeepB v u w wr) ∧ Hid (Below lo w wr)) (fun _ q _ => f + c - (intOf q).toNat)
  case atStart => exact ⟨0, Nat.zero_le _, by simp, by show Owns _ _ _ _; simp only [sp, List.range_zero, List.map_nil, List.append_nil]; exact HO.out, KeepB.refl _ _, Below.refl _ _⟩
  case round =>
    obtain ⟨k, hk, rfl, HK, HKe, HB⟩ := hrel
    by_cases hkl : k < c
    · have hle : (f : Int) + (k : Int) ≤ (l : Int) := by have := HC.out; omega
      have hlen : Hid ((castL (zs ++ sp f k)).length = zs.length + k) := by show _ = _; simp [castL, sp]
      go_wp2_with (at_builtin; refine append_one elem_int (x := .int .i64 ((f : Int) + (k : Int))) rfl _ _ rfl rfl rfl rfl (vals_of_owns HK.out) rfl ?c3 ?c4 ?c5 ?_)
      case c3 => first | (rw [List.length_map, hlen.out]; unfold maxLen; omega) | (have := hlen.out; unfold maxLen; simp at *; omega)
      case c4 => first | (rw [List.length_map, hlen.out]; omega) | (have := hlen.out; simp at *; omega)
      case c5 => exact Nat.le_trans hlo HB.out.size
      intro v' w3 hO3 hb3 hk3
      have HO3 : Hid (Owns w3 lo v' (castL (zs ++ sp f (k + 1)))) := by
        have h1 : Owns w3 lo v' (castL (zs ++ sp f k) ++ [(f : Int) + (k : Int)]) := owns_of_vals (by simpa using hO3)
        show Owns _ _ _ _
        rw [sp_succ, ← List.append_assoc, castL_app, castL_one, show ((f + k : Nat) : Int) = (f : Int) + (k : Int) by omega]
        exact h1
      have HK3 : Hid (KeepB v v' w w3) := HKe.out.trans hk3
      have HB3 : Hid (Below lo w w3) := HB.out.trans hb3
      clear hO3 hb3 hk3
      go_wp2
      go_roundw
      case rel => exact ⟨k + 1, by omega, by first | go_num | (simp; omega), HO3, HK3, HB3⟩
      case measure => simp [intOf]; omega
    · obtain rfl : k = c := by omega
      have hle : ¬ (f : Int) + (k : Int) ≤ (l : Int) := by have := HC.out; omega
      go_wp2
      go_ret
      exact ⟨_, rfl, HK, HKe, HB⟩

end Go.Proofs.YtgcpconlmihilaaGreatDoor

namespace Go.Proofs.YtgcpconlmihilaaGreatDoor
open Go.RowKit

def ovN (n : Nat) : Nat → List Nat
  | 0 => []
  | k + 1 => ovN n k ++ sp (n + k + 1) (3 * k + 1 + 1 - (n + k + 1))
def unN (n : Nat) : Nat → List Nat
  | 0 => []
  | k + 1 => unN n k ++ sp (3 * k + 2) (n + k + 1 - (3 * k + 2))
theorem ovN_len (n : Nat) : ∀ k, k ≤ 30 → (ovN n k).length ≤ 100 * k
  | 0, _ => by simp [ovN]
  | k + 1, hk => by have := ovN_len n k (by omega); rw [ovN, List.length_append, sp_len]; omega
theorem unN_len (n : Nat) (hn : n ≤ 30) : ∀ k, k ≤ 30 → (unN n k).length ≤ 100 * k
  | 0, _ => by simp [unN]
  | k + 1, hk => by have := unN_len n hn k (by omega); rw [unN, List.length_append, sp_len]; omega
theorem ovN_mem (n : Nat) (hn : n ≤ 30) : ∀ k, k ≤ 30 → ∀ z ∈ ovN n k, z ≤ 1000
  | 0, _, z, hz => by simp [ovN] at hz
  | k + 1, hk, z, hz => by
    rw [ovN, List.mem_append] at hz
    rcases hz with hz | hz
    · exact ovN_mem n hn k (by omega) z hz
    · have := sp_mem hz; omega
theorem unN_mem (n : Nat) (hn : n ≤ 30) : ∀ k, k ≤ 30 → ∀ z ∈ unN n k, 0 < z ∧ z ≤ 1000
  | 0, _, z, hz => by simp [unN] at hz
  | k + 1, hk, z, hz => by
    rw [unN, List.mem_append] at hz
    rcases hz with hz | hz
    · exact unN_mem n hn k (by omega) z hz
    · have := sp_mem hz; omega
theorem Owns.aside {w w' : World} {lo : Nat} {v v' u : Value} {zs : List Int} (h : Owns w lo u zs) (hk : KeepB v v' w w') (ha : Apart v u) : Owns w' lo u zs ∧ Apart v' u := by
  refine ⟨ownsRow_blocks h (fun k e => hk.block k (h.lt e).2 (fun e2 => ha k e2 e)), fun k e e2 => ?_⟩
  rcases hk.lies k e with q | q
  · exact ha k q e2
  · have := (h.lt e2).2; omega
theorem castL_wf {l : List Nat} (h : ∀ z ∈ l, z ≤ 1000) : ∀ z ∈ castL l, -9223372036854775808 ≤ z ∧ z ≤ 9223372036854775807 := fun z hz => by have := castL_lt h z hz; omega

set_option maxHeartbeats 4000000 in
set_option maxRecDepth 100000 in
theorem SgCount_ok (n : Nat) (w : World) (n1 : 1 ≤ n) (n30 : n ≤ 30) (htab : Lib.TabIs Tryz.prog w "internal/strconv.uint64pow10" .u64 Lib.pow10Tab) :
    Calls Tryz.prog 6 #[.int .i64 (n : Int)] w fun e w' => e = .returned (.tuple #[.string ⟨(numT (pL (lows (unN n n) (ovN n n)))).toArray⟩, .int .i64 0]) ∧ Hid (Below w.heap.size w w') := by
  have HTab : Hid (∀ W, Below w.heap.size w W → Lib.TabIs Tryz.prog W "internal/strconv.uint64pow10" .u64 Lib.pow10Tab) := fun W hW => Lib.tabBelow_of_tabIs htab W hW
  obtain ⟨s, HSs⟩ : ∃ s : ByteArray, Hid (s = ⟨(numT (pL (lows (unN n n) (ovN n n)))).toArray⟩) := ⟨_, rfl⟩
  rw [← HSs.out]
  clear htab
  have h1' : ¬ (n : Int) < 1 := by omega
  have h30' : ¬ (30 : Int) < (n : Int) := by omega
  go_enter Tryz.func6, Tryz.ntmps6
  go_wp2
  go_loopw [4, 5, 14] (fun u v q wr => ∃ k : Nat, k ≤ n ∧ q = .int .i64 k ∧ Hid (Owns wr w.heap.size u (castL (ovN n k))) ∧ Hid (Owns wr w.heap.size v (castL (unN n k))) ∧ Hid (Apart u v) ∧ Hid (Below w.heap.size w wr)) (fun _ _ q _ => n - (intOf q).toNat)
  case atStart => exact ⟨0, Nat.zero_le _, rfl, World.ownsRow_nil _ _ _ _, World.ownsRow_nil _ _ _ _, apart_nil _, Below.refl _ _⟩
  case round =>
    obtain ⟨k, hk, rfl, HU, HV, HA, HB⟩ := hrel
    by_cases hkl : k < n
    · have hkl' : (k : Int) < (n : Int) := by omega
      obtain ⟨s1, hs1⟩ : ∃ s1, s1 = n + k := ⟨_, rfl⟩
      obtain ⟨f1, hf1⟩ : ∃ s1, s1 = n + k + 1 := ⟨_, rfl⟩
      obtain ⟨t1, ht1⟩ : ∃ s1, s1 = 3 * k := ⟨_, rfl⟩
      obtain ⟨l1, hl1⟩ : ∃ s1, s1 = 3 * k + 1 := ⟨_, rfl⟩
      obtain ⟨f2, hf2⟩ : ∃ s1, s1 = 3 * k + 2 := ⟨_, rfl⟩
      have w1 : IntKind.i64.wrap ((n : Int) + (k : Int)) = (s1 : Int) := by rw [IntKind.wrap_i64]; omega
      have w2 : IntKind.i64.wrap ((s1 : Int) + 1) = (f1 : Int) := by rw [IntKind.wrap_i64]; omega
      have w3 : IntKind.i64.wrap (3 * (k : Int)) = (t1 : Int) := by rw [IntKind.wrap_i64]; omega
      have w4 : IntKind.i64.wrap ((t1 : Int) + 1) = (l1 : Int) := by rw [IntKind.wrap_i64]; omega
      have w5 : IntKind.i64.wrap ((t1 : Int) + 2) = (f2 : Int) := by rw [IntKind.wrap_i64]; omega
      have HC1 : Hid (Calls Tryz.prog 16 #[u4, .int .i64 (f1 : Int), .int .i64 (l1 : Int)] wr fun e w' => ∃ v', e = .returned v' ∧ Hid (Owns w' w.heap.size v' (castL (ovN n (k + 1)))) ∧ Hid (KeepB u4 v' wr w') ∧ Hid (Below w.heap.size wr w')) := by
        have h := appendSpan_at u4 w.heap.size f1 l1 (ovN n k) wr HU.out (by have := ovN_len n k (by omega); omega) (by omega) (by omega) HB.out.size
        rw [hf1, hl1] at h
        rw [hf1, hl1]
        exact h
      have HC2 : Hid (∀ W v0, Owns W w.heap.size v0 (castL (unN n k)) → w.heap.size ≤ W.heap.size → Calls Tryz.prog 16 #[v0, .int .i64 (f2 : Int), .int .i64 (s1 : Int)] W fun e w' => ∃ v', e = .returned v' ∧ Hid (Owns w' w.heap.size v' (castL (unN n (k + 1)))) ∧ Hid (KeepB v0 v' W w') ∧ Hid (Below w.heap.size W w')) := fun W v0 ho hsz => by
        have h := appendSpan_at v0 w.heap.size f2 s1 (unN n k) W ho (by have := unN_len n n30 k (by omega); omega) (by omega) (by omega) hsz
        rw [hf2, hs1] at h
        rw [hf2, hs1]
        exact h
      clear hs1 hf1 ht1 hl1 hf2
      go_wp2_with fail
      refine HC1.out.mono ?_
      rintro e w6 ⟨v6, rfl, HO6, HK6, Hb6⟩
      obtain ⟨a6, c6, hv6⟩ := HO6.out.shape
      obtain ⟨hV6, hA6⟩ := HV.out.aside HK6.out HA.out
      have HV6 : Hid (Owns w6 w.heap.size u5 (castL (unN n k))) := hV6
      have HA6 : Hid (Apart v6 u5) := hA6
      have HB6 : Hid (Below w.heap.size w w6) := HB.out.trans Hb6.out
      have HC3 := hid_w (HC2.out w6 u5 HV6.out HB6.out.size)
      clear HC1 HC2 hV6 hA6 hv6 HK6 Hb6
      go_wp2_with fail
      refine HC3.out.mono ?_
      rintro e w7 ⟨v7, rfl, HO7, HK7, Hb7⟩
      have h7 := HO6.out.aside HK7.out (fun g h1 h2 => HA6.out g h2 h1)
      have HU7 : Hid (Owns w7 w.heap.size v6 (castL (ovN n (k + 1)))) := h7.1
      have HA7 : Hid (Apart v6 v7) := fun g h1 h2 => h7.2 g h2 h1
      have HB7 : Hid (Below w.heap.size w w7) := HB6.out.trans Hb7.out
      clear h7 HC3
      go_wp2
      go_roundw
      case rel => exact ⟨k + 1, by omega, by go_num, HU7, HO7, HA7, HB7⟩
      case measure => simp [intOf]; omega
    · obtain rfl : k = n := by omega
      obtain ⟨a0, c0, e0, hs0⟩ := HU.out.shows (by rw [castL_len]; have := ovN_len k k n30; omega) (castL_wf (ovN_mem k n30 k n30))
      obtain ⟨a1, c1, e1, hs1⟩ := HV.out.shows (by rw [castL_len]; have := unN_len k n30 k n30; omega) (castL_wf (fun z hz => (unN_mem k n30 k n30 z hz).2))
      obtain ⟨x0, hx0⟩ : ∃ x, x = (castL (ovN k k)).length := ⟨_, rfl⟩
      obtain ⟨x1, hx1⟩ : ∃ x, x = (castL (unN k k)).length := ⟨_, rfl⟩
      rw [← hx0] at e0
      rw [← hx1] at e1
      subst e0
      subst e1
      have HQ : Hid (Calls Tryz.prog 17 #[.slice a0 x0 c0, .slice a1 x1 c1] wr fun e w' => e = .returned (.string s) ∧ Below wr.heap.size wr w') := by
        rw [HSs.out]
        exact Quotient_at a0 a1 x0 c0 x1 c1 (ovN k k) (unN k k) wr hs0 hs1 (by rw [hx0, castL_len]) (by rw [hx1, castL_len]) (by have := ovN_len k k n30; omega) (by have := unN_len k n30 k n30; omega) (ovN_mem k n30 k n30) (unN_mem k n30 k n30) (HTab.out wr HB.out)
      clear hs0 hs1 hx0 hx1 HU HV
      go_wp2_with fail
      refine HQ.out.mono ?_
      rintro e w6 ⟨rfl, hb6⟩
      have HB6 : Hid (Below w.heap.size w w6) := HB.out.trans (hb6.mono HB.out.size)
      clear hb6 HQ
      go_wp2
      go_ret2
      exact ⟨rfl, HB6⟩

theorem asm_count : ∀ n, n < 6 → pL (lows (unN n n) (ovN n n)) = [1, 1, 2, 7, 42, 429].getD n 0 := by decide +kernel

end Go.Proofs.YtgcpconlmihilaaGreatDoor
