/-
  What domino.read keeps while it reads: plain.
  A sheet by value: made, kept, fetched.
-/
import Derived.Test.YtcnmndbckjmliaaDoorNIsf
import Derived.Laws.ResultCell
import Derived.Deep.WholeRow
namespace Go.Proofs.YtcnmndbckjmliaaDoor
open Go.RowKit

/-- The rows read so far. -/
def cek (l : List (List UInt8)) (k i : Nat) : UInt8 := if i / 8 < k then cef l i else 0
theorem cek_zero (l : List (List UInt8)) : cek l 0 = fun _ => 0 := by
  funext i; unfold cek; rw [if_neg (by omega)]
theorem cek_all (l : List (List UInt8)) : cek l l.length = cef l := by
  funext i
  unfold cek
  by_cases h : i / 8 < l.length
  · rw [if_pos h]
  · rw [if_neg h]
    unfold cef
    simp [List.getD, List.getElem?_eq_none (Nat.le_of_not_lt h)]
/-- A row written over the others. -/
def rowF (f : Nat → UInt8) (k : Nat) (x : List UInt8) (i : Nat) : UInt8 := if i / 8 = k ∧ i % 8 < x.length then x.getD (i % 8) 0 else f i
theorem cek_succ (l : List (List UInt8)) (k : Nat) (_hk : k < l.length) : rowF (cek l k) k (l.getD k []) = cek l (k + 1) := by
  funext i
  unfold rowF cek cef
  by_cases h : i / 8 = k
  · rw [h]
    by_cases h2 : i % 8 < (l.getD k []).length
    · rw [if_pos ⟨rfl, h2⟩, if_pos (by omega)]
    · rw [if_neg (fun q => h2 q.2), if_neg (by omega), if_pos (by omega)]
      rw [List.getD_eq_getElem?_getD (l := l.getD k []), List.getElem?_eq_none (by omega)]; rfl
  · rw [if_neg (fun q => h q.1)]
    by_cases h3 : i / 8 < k
    · rw [if_pos h3, if_pos (by omega)]
    · rw [if_neg h3, if_neg (by omega)]
theorem shC_row (r c : Nat) (f : Nat → UInt8) (k : Nat) (x : List UInt8) (hk : k < 8) (hx : x.length ≤ 8) :
    ((shC r c f).toList.take (2 + k * 8) ++ Lib.byteCells x ++ (shC r c f).toList.drop (2 + k * 8 + x.length)).toArray = shC r c (rowF f k x) := by
  apply Array.ext_getElem?
  intro i
  have hlen : (shC r c f).toList.length = 66 := by simp [shC]
  have hg : ∀ g j, (shC r c g).toList[j]? = (shC r c g)[j]? := fun g j => Array.getElem?_toList
  have hbl : (Lib.byteCells x).length = x.length := Lib.byteCells_length x
  rw [List.getElem?_toArray]
  by_cases h1 : i < 2 + k * 8
  · rw [List.append_assoc, List.getElem?_append_left (by rw [List.length_take, hlen]; omega), List.getElem?_take_of_lt h1, hg, shC_get _ _ _ _ (by omega), shC_get _ _ _ _ (by omega)]
    unfold shF rowF
    by_cases h0 : i = 0
    · rw [if_pos h0, if_pos h0]
    · by_cases h2 : i = 1
      · rw [if_neg h0, if_neg h0, if_pos h2, if_pos h2]
      · rw [if_neg h0, if_neg h0, if_neg h2, if_neg h2, if_neg (by omega)]
  · by_cases h2 : i < 2 + k * 8 + x.length
    · rw [List.getElem?_append_left (by rw [List.length_append, List.length_take, hlen, hbl]; omega), List.getElem?_append_right (by rw [List.length_take, hlen]; omega), List.length_take, hlen, shC_get _ _ _ _ (by omega)]
      unfold shF rowF
      rw [if_neg (by omega), if_neg (by omega), if_pos (by omega)]
      have hm : i - min (2 + k * 8) 66 = (i - 2) % 8 := by omega
      have hj : (i - 2) % 8 < x.length := by omega
      rw [hm]
      unfold Lib.byteCells
      rw [List.getElem?_map, List.getElem?_eq_getElem hj]
      simp [List.getD, List.getElem?_eq_getElem hj]
    · rw [List.getElem?_append_right (by rw [List.length_append, List.length_take, hlen, hbl]; omega), List.length_append, List.length_take, hlen, hbl, List.getElem?_drop]
      have e : 2 + k * 8 + x.length + (i - (min (2 + k * 8) 66 + x.length)) = i := by omega
      rw [e, hg]
      by_cases h3 : i < 66
      · rw [shC_get _ _ _ _ h3, shC_get _ _ _ _ h3]
        unfold shF rowF
        rw [if_neg (by omega), if_neg (by omega), if_neg (by omega), if_neg (by omega), if_neg (by omega)]
      · rw [Array.getElem?_eq_none (by rw [shC_size]; omega), Array.getElem?_eq_none (by rw [shC_size]; omega)]
theorem shC_one (r c : Nat) (f : Nat → UInt8) : (shC r c f).all (·.oneCell') = true := by
  rw [Array.all_eq_true_iff_forall_mem]
  intro x hx
  unfold shC at hx
  rw [List.mem_toArray, List.mem_map] at hx
  obtain ⟨k, _, rfl⟩ := hx
  unfold shF
  split
  · rfl
  · split <;> rfl
/-- What domino.read answers. -/
def RdP (lt s : List UInt8) (v : Value) : Prop := (∃ r c, Shz lt r c (pz s) ∧ v = .tuple #[.agg (shC r c (cef (pz s))), .int .i64 0]) ∨ ((∀ r c, ¬ Shz lt r c (pz s)) ∧ v = .tuple #[.agg (shC 0 0 fun _ => 0), .int .i64 1])
theorem shz_len {lt : List UInt8} {r c : Nat} {s : List UInt8} (h : Shz lt r c (pz s)) : s.length ≤ 71 := by
  have e := tx_cef h
  obtain ⟨h1, h2, h3, h4, h5, _⟩ := h
  obtain ⟨r', rfl⟩ : ∃ r', r = r' + 1 := ⟨r - 1, by omega⟩
  rw [← e, tx_length]
  have : (r' + 1) * (c + 1) ≤ 8 * 9 := Nat.mul_le_mul (by omega) (by omega)
  omega
theorem shz_eq {lt : List UInt8} {r c : Nat} {l : List (List UInt8)} (h : Shz lt r c l) : r = l.length ∧ c = (l.getD 0 []).length := by
  obtain ⟨h1, h2, h3, h4, h5, h6⟩ := h
  refine ⟨h1.symm, ?_⟩
  have h0 : 0 < l.length := by omega
  have := (h6 (l.getD 0 []) (by rw [List.getD_eq_getElem?_getD, List.getElem?_eq_getElem h0, Option.getD_some]; exact List.getElem_mem h0)).1
  exact this.symm
theorem shz_of {lt : List UInt8} {l : List (List UInt8)} (h1 : 1 ≤ l.length) (h2 : l.length ≤ 8) (h3 : 1 ≤ (l.getD 0 []).length) (h4 : (l.getD 0 []).length ≤ 8) (h : ∀ k, k < l.length → (l.getD k []).length = (l.getD 0 []).length ∧ isL lt (l.getD k []) = true) : Shz lt l.length (l.getD 0 []).length l := by
  refine ⟨rfl, h1, h2, h3, h4, fun x hx => ?_⟩
  obtain ⟨k, hk, rfl⟩ := List.mem_iff_getElem.1 hx
  have := h k hk
  rw [List.getD_eq_getElem?_getD (l := l) (i := k), List.getElem?_eq_getElem hk, Option.getD_some] at this
  exact ⟨this.1, isL_iff.1 this.2⟩
theorem shz_no {lt : List UInt8} {l : List (List UInt8)} {k : Nat} (hk : k < l.length) (h : (l.getD k []).length ≠ (l.getD 0 []).length ∨ isL lt (l.getD k []) = false) : ∀ r c, ¬ Shz lt r c l := by
  intro r c q
  have e := shz_eq q
  obtain ⟨h1, h2, h3, h4, h5, h6⟩ := q
  have hm : l.getD k [] ∈ l := by rw [List.getD_eq_getElem?_getD, List.getElem?_eq_getElem hk, Option.getD_some]; exact List.getElem_mem hk
  have := h6 _ hm
  rcases h with h | h
  · exact h (this.1.trans e.2)
  · rw [isL_iff.2 this.2] at h; cases h

end Go.Proofs.YtcnmndbckjmliaaDoor

namespace Go.Proofs.YtcnmndbckjmliaaDoor
open Go.RowKit

theorem infoS : (Tryd.prog.info? 62).map (·.size) = some 66 := by kernel_rfl
theorem zeroS : (Tryd.prog.info? 62).map (fun i => (i.zero, i.size)) = some (some (.agg (shC 0 0 fun _ => 0)), 66) := by kernel_rfl
theorem builtS0 : Tryd.prog.built 62 [] = some (shC 0 0 fun _ => 0) := by kernel_rfl
theorem builtS2 (r c : Nat) : Tryd.prog.built 62 [(0, .int .i64 (r : Int)), (1, .int .i64 (c : Int))] = some (shC r c fun _ => 0) := by kernel_rfl
/-- 66 cells, one value each. -/
def C66 (cs : Array Value) : Prop := cs.size = 66 ∧ cs.all (·.oneCell') = true
theorem shC_66 (r c : Nat) (f : Nat → UInt8) : C66 (shC r c f) := ⟨shC_size r c f, shC_one r c f⟩
theorem wpList_store66 {ops : Array Oper} {rest : List Oper} {o : Oper} {a : Act} {w : World} {Q : Exit → Act → World → Prop} (hgd : o.guard = none) (x y : Operand) (ho : o.op = .store 62 x y)
    (g : Nat) (cs old : Array Value) (hx : a.eval x = .pointer (some ⟨g, 0, none⟩)) (hy : a.eval y = .agg cs) (hg : w.heap[g]? = some (.cells old 62 (0, 0))) (h1 : C66 cs) (h2 : C66 old)
    (h : wpList Tryd.prog ops Q rest (a.put o.dst undef) (w.setRow g cs)) : wpList Tryd.prog ops Q (o :: rest) a w :=
  wpList_store_row hgd 62 x y ho g cs hx hy 62 old hg (by rw [infoS, h1.1]) (by rw [h1.1, h2.1]) h1.2 h
theorem wpList_load66 {ops : Array Oper} {rest : List Oper} {o : Oper} {a : Act} {w : World} {Q : Exit → Act → World → Prop} (hgd : o.guard = none) (x : Operand) (ho : o.op = .load 62 x)
    (g : Nat) (cs : Array Value) (hx : a.eval x = .pointer (some ⟨g, 0, none⟩)) (hg : w.heap[g]? = some (.cells cs 62 (0, 0))) (h1 : C66 cs)
    (h : wpList Tryd.prog ops Q rest (a.put o.dst (.agg cs)) w) : wpList Tryd.prog ops Q (o :: rest) a w :=
  wpList_load_row hgd 62 x ho g hx 62 cs (0, 0) _ hg Tryd.underlying62 rfl (by rw [infoS, h1.1]) h
theorem wpList_build66 {ops : Array Oper} {rest : List Oper} {o : Oper} {a : Act} {w : World} {Q : Exit → Act → World → Prop} (hg : o.guard = none) (ho : o.op = .build 62 #[]) (Z : Array Value) (hZ : Z = shC 0 0 fun _ => 0)
    (h : wpList Tryd.prog ops Q rest (a.put o.dst (.agg Z)) w) : wpList Tryd.prog ops Q (o :: rest) a w := by
  subst hZ
  exact wpList_plain hg fun _ hK => wp_build 62 #[] ho (by simp [builtS0]) (by simpa [builtS0] using hK _ _ h)
theorem wpList_build2 {ops : Array Oper} {rest : List Oper} {o : Oper} {a : Act} {w : World} {Q : Exit → Act → World → Prop} (hg : o.guard = none) (x y : Operand) (ho : o.op = .build 62 #[(0, x), (1, y)]) (r c : Nat) (hx : a.eval x = .int .i64 (r : Int)) (hy : a.eval y = .int .i64 (c : Int)) (Z : Array Value) (hZ : Z = shC r c fun _ => 0)
    (h : wpList Tryd.prog ops Q rest (a.put o.dst (.agg Z)) w) : wpList Tryd.prog ops Q (o :: rest) a w := by
  subst hZ
  have hb := builtS2 r c
  exact wpList_plain hg fun _ hK => wp_build 62 #[(0, x), (1, y)] ho (by simp [hx, hy, hb]) (by simpa [hx, hy, hb] using hK _ _ h)
theorem load_66 (w : World) (g : Nat) (cs : Array Value) (h1 : C66 cs) (h : w.heap[g]? = some (.cells cs 62 (0, 0))) : (loadVar 62 ⟨g, 0, none⟩).run Tryd.prog w = .ok (.agg cs) w :=
  run_loadVar_row w g 62 62 _ (0, 0) _ h Tryd.underlying62 rfl (by rw [infoS, h1.1])
theorem below_setRowN {B : Nat} {a w : World} (h : Below B a w) (g : Nat) (hg : B ≤ g) (cs : Array Value) : Below B a (w.setRow g cs) :=
  h.trans ⟨rfl, rfl, rfl, by simp [World.setRow], fun k hk => setRow_other _ _ _ _ (by omega)⟩
theorem lt_someN {w : World} {k : Nat} {o} (h : w.heap[k]? = some o) : k < w.heap.size := (Array.getElem?_eq_some_iff.1 h).1

theorem RdP.parts {lt s : List UInt8} {v : Value} (h : RdP lt s v) : ∃ (Y : Array Value) (er : Int), v = .tuple #[.agg Y, .int .i64 er] ∧ Hid (C66 Y) ∧ Hid ((er = 0 ∧ ∃ r c, Shz lt r c (pz s) ∧ Y = shC r c (cef (pz s))) ∨ (er = 1 ∧ Y = (shC 0 0 fun _ => 0) ∧ ∀ r c, ¬ Shz lt r c (pz s))) := by
  rcases h with ⟨r, c, h, rfl⟩ | ⟨h, rfl⟩
  · exact ⟨_, 0, rfl, shC_66 _ _ _, Or.inl ⟨rfl, r, c, h, rfl⟩⟩
  · exact ⟨_, 1, rfl, shC_66 _ _ _, Or.inr ⟨rfl, rfl, h⟩⟩

end Go.Proofs.YtcnmndbckjmliaaDoor
