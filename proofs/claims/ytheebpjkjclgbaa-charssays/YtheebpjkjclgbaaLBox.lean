/-
  A slice of pairs ([][2]int) that the call itself made; the contract of ferref.Boxes.
-/
import Derived.Test.YtheebpjkjclgbaaBApp
import Derived.Test.YtheebpjkjclgbaaICnj
namespace Go.Proofs.Ytheebpjkjclgbaa
open Go.RowKit

theorem Try.infoA2 : (Try.prog.info? 59).map (fun i => (i.zero, i.size, i.bytes)) = some (some (.agg #[.int .i64 0, .int .i64 0]), 2, 16) := by kernel_rfl

def flat : List (Int × Int) → List Value
  | [] => []
  | p :: l => .int .i64 p.1 :: .int .i64 p.2 :: flat l
theorem flat_length (l : List (Int × Int)) : (flat l).length = l.length * 2 := by
  induction l with
  | nil => rfl
  | cons p l ih => simp [flat, ih]; omega
theorem flat_append (a b : List (Int × Int)) : flat (a ++ b) = flat a ++ flat b := by
  induction a with
  | nil => rfl
  | cons p a ih => simp [flat, ih]
theorem flat_get (l : List (Int × Int)) : ∀ j, j < l.length → (flat l)[j * 2]? = some (.int .i64 (l.getD j (0, 0)).1) ∧ (flat l)[j * 2 + 1]? = some (.int .i64 (l.getD j (0, 0)).2) := by
  induction l with
  | nil => intro j hj; simp at hj
  | cons p l ih =>
    intro j hj
    cases j with
    | zero => exact ⟨rfl, rfl⟩
    | succ j =>
      have := ih j (by simp at hj; omega)
      rw [show (j + 1) * 2 = j * 2 + 1 + 1 by omega]
      simp only [flat, List.getElem?_cons_succ, List.getD_cons_succ]
      exact this

/-- The value v owns the pairs ps, in a block from base on. -/
def Owns2 (w : World) (base : Nat) (v : Value) (ps : List (Int × Int)) : Prop := w.ownsRow base 59 2 v ps.length (flat ps)

theorem Owns2.mono {w : World} {base base' : Nat} {v : Value} {ps : List (Int × Int)} (h : Owns2 w base v ps) (hb : base' ≤ base) : Owns2 w base' v ps := by
  obtain ⟨h1, h2⟩ := h
  refine ⟨h1, ?_⟩
  rcases h2 with h2 | ⟨g, cap, cur, hv, hg, r⟩
  · exact Or.inl h2
  · exact Or.inr ⟨g, cap, cur, hv, by omega, r⟩
theorem Owns2.below {w w' : World} {base : Nat} {v : Value} {ps : List (Int × Int)} (h : Owns2 w base v ps) (hb : Below w.heap.size w w') : Owns2 w' base v ps := by
  obtain ⟨h1, h2⟩ := h
  refine ⟨h1, ?_⟩
  rcases h2 with h2 | ⟨g, cap, cur, hv, hg, hh, r⟩
  · exact Or.inl h2
  · refine Or.inr ⟨g, cap, cur, hv, hg, ?_, r⟩
    rw [hb.block g (by rcases Nat.lt_or_ge g w.heap.size with h | h; exact h; rw [Array.getElem?_eq_none h] at hh; cases hh)]; exact hh
theorem Owns2.shape {w : World} {base : Nat} {v : Value} {ps : List (Int × Int)} (h : Owns2 w base v ps) : ∃ a cap, v = .slice a ps.length cap := by
  rcases h.2 with ⟨h2, h3⟩ | ⟨g, cap, cur, hv, _⟩
  · exact ⟨none, 0, by rw [h2, h3]⟩
  · exact ⟨_, cap, hv⟩
theorem Owns2.head {w : World} {base : Nat} {v : Value} {ps : List (Int × Int)} (h : Owns2 w base v ps) (hne : 0 < ps.length) :
    ∃ g cap, v = .slice (some ⟨g, 0, none⟩) ps.length cap ∧ base ≤ g ∧ g < w.heap.size ∧ (∀ j, w.frozen? ⟨g, j, none⟩ = false) ∧
      ∀ j, j < ps.length → w.cell? ⟨g, j * 2, none⟩ = some (.int .i64 (ps.getD j (0, 0)).1) ∧ w.cell? ⟨g, j * 2 + 1, none⟩ = some (.int .i64 (ps.getD j (0, 0)).2) := by
  have h0 := h
  rcases h.2 with ⟨h2, h3⟩ | ⟨g, cap, cur, hv, hg, hh, _⟩
  · omega
  · subst hv
    have hlt : g < w.heap.size := by
      rcases Nat.lt_or_ge g w.heap.size with h | h
      · exact h
      · rw [Array.getElem?_eq_none h] at hh; cases hh
    refine ⟨g, cap, rfl, hg, hlt, fun j => World.ownsRow.frozenAt h0 j, fun j hj => ?_⟩
    rw [World.ownsRow.cellAt h0 (j * 2) (by omega), World.ownsRow.cellAt h0 (j * 2 + 1) (by omega)]
    exact flat_get ps j hj

theorem append_pair2 {w : World} {base : Nat} {v : Value} {ps : List (Int × Int)} {x y : Int} {ops : Array Oper} {rest : List Oper} {o : Oper} {a : Act} {Q : Exit → Act → World → Prop} (hgd : o.guard = none) (s t : Operand)
    (ho : o.op = .call { callee := .builtin .append, args := #[s, t], argTypes := #[57, 57] }) (hs : a.eval s = v) (hown : Owns2 w base v ps) (hx : a.eval t = .slice (some ⟨w.heap.size, 0, none⟩) 1 1)
    (hl : ps.length ≤ 1000000) (hbase : base ≤ w.heap.size)
    (h : ∀ v' w', Owns2 w' base v' (ps ++ [(x, y)]) → Below base w w' → wpList Try.prog ops Q rest (a.put o.dst v') w') :
    wpList Try.prog ops Q (o :: rest) a (w.alloc (.cells #[.int .i64 x, .int .i64 y] 59)) := by
  obtain ⟨i0, hi, hz0, hz1, hz2⟩ := info_parts Try.infoA2
  have hown0 := hown
  refine wpList_append_own _ hgd s t 57 ho base 59 i0 (.agg #[.int .i64 0, .int .i64 0]) 2 16 Try.underlying57 hi hz0 hz1 hz2 rfl (by decide) v ps.length (flat ps) hs (World.ownsRow.alloc hown _) ⟨w.heap.size, 0, none⟩ 1 1 [.int .i64 x, .int .i64 y] hx rfl
    (fun j u hj => ?_) (fun u hu => ?_) (by unfold maxLen; omega) (by omega) (by simp; omega) (fun v' w' ho' hg' _ => h v' w' ?_ ?_)
  · match j, hj with
    | 0, hj => simp at hj; subst hj; rw [Addr.add_lit, World.cell?_alloc_at _ _ _ _ rfl]; rfl
    | 1, hj => simp at hj; subst hj; rw [Addr.add_lit, World.cell?_alloc_at _ _ _ _ rfl]; rfl
  · simp at hu; rcases hu with hu | hu <;> subst hu <;> rfl
  · unfold Owns2
    rw [flat_append, List.length_append]
    exact ho'
  · refine (((Below.refl base w).alloc hbase _).grown hg' (by simp; omega) (fun k hk => ?_))
    rcases hown0.2 with ⟨h2, _⟩ | ⟨g, cap, cur, hv, hg, _⟩
    · subst h2; cases hk
    · subst hv; simp [Value.ownBlock] at hk; omega

/-- The boxes of row i, m of them. -/
def rowOf (i m : Nat) : List (Int × Int) := (List.range m).map fun (j : Nat) => ((i : Int), (j : Int))
def boxesTo (zs : List Int) : Nat → List (Int × Int)
  | 0 => []
  | k + 1 => boxesTo zs k ++ rowOf k (zs.getD k 0).toNat
def boxes (zs : List Int) : List (Int × Int) := boxesTo zs zs.length
theorem rowOf_succ (i m : Nat) : rowOf i (m + 1) = rowOf i m ++ [((i : Int), (m : Int))] := by simp [rowOf, List.range_succ]
theorem rowOf_length (i m : Nat) : (rowOf i m).length = m := by simp [rowOf]
theorem boxesTo_length {zs : List Int} (h : ∀ z ∈ zs, 0 ≤ z ∧ z ≤ 40) : ∀ k, k ≤ zs.length → (boxesTo zs k).length ≤ 40 * k := by
  intro k
  induction k with
  | zero => intro _; simp [boxesTo]
  | succ k ih =>
    intro hk
    have h1 := ih (by omega)
    have h2 := h _ (getD_mem (show k < zs.length by omega))
    rw [boxesTo, List.length_append, rowOf_length]; omega

set_option maxHeartbeats 2000000 in
theorem Boxes_any (a : Option Addr) (cap : Nat) (zs : List Int) (w : World) (hs : Shows w a zs) (h40 : ∀ z ∈ zs, 0 ≤ z ∧ z ≤ 40) (hl : zs.length ≤ 40) :
    Calls Try.prog 36 #[.slice a zs.length cap] w fun e w' => ∃ v, e = .returned v ∧ Owns2 w' w.heap.size v (boxes zs) ∧ Below w.heap.size w w' := by
  have H40 : Hid (∀ z ∈ zs, 0 ≤ z ∧ z ≤ 40) := h40
  clear h40
  go_enter Try.func36, Try.ntmps36
  go_wp2
  go_loopw [3, 4] (fun v i wr => ∃ k : Nat, k ≤ zs.length ∧ i = .int .i64 k ∧ Hid (Owns2 wr w.heap.size v (boxesTo zs k)) ∧ Hid (Below w.heap.size w wr)) (fun _ i _ => zs.length - (intOf i).toNat)
  case atStart => exact ⟨0, Nat.zero_le _, rfl, World.ownsRow_nil _ _ _ _, Below.refl _ _⟩
  case round =>
    obtain ⟨k, hk, rfl, HO, HB⟩ := hrel
    by_cases hlt : k < zs.length
    · have hltI : (k : Int) < (zs.length : Int) := by omega
      have hz0 := H40.out _ (getD_mem hlt)
      obtain ⟨m, HM⟩ : ∃ m : Nat, Hid (zs.getD k 0 = m) := ⟨(zs.getD k 0).toNat, by show _ = _; omega⟩
      rw [HM.out] at hz0
      have hm40 : m ≤ 40 := by omega
      have hbl := boxesTo_length H40.out k (by omega)
      go_wp2
      go_loopw [3, 5] (fun v i wq => ∃ j : Nat, j ≤ m ∧ i = .int .i64 j ∧ Hid (Owns2 wq w.heap.size v (boxesTo zs k ++ rowOf k j)) ∧ Hid (Below w.heap.size w wq)) (fun _ i _ => m - (intOf i).toNat)
      case atStart => exact ⟨0, Nat.zero_le _, rfl, by simpa [Hid, rowOf] using HO.out, HB⟩
      case round =>
        obtain ⟨j, hj, rfl, HOj, HBj⟩ := hrel
        obtain ⟨b, off, z, rfl, HZ, -, -, hc⟩ := (hs.below HBj.out).elem hlt
        obtain rfl : z = m := by rw [HZ.out, HM.out]
        by_cases hjm : j < m
        · have hsz := HBj.out.size
          have hjI : (j : Int) < (m : Int) := by omega
          go_wp2_with (at_builtin; refine append_pair2 (x := (k : Int)) (y := (j : Int)) rfl _ _ rfl rfl HOj.out rfl ?c1 ?c2 ?_)
          case c1 => rw [List.length_append, rowOf_length]; omega
          case c2 => exact hsz
          intro v' w2 hown hb2
          have HS : Hid (Owns2 w2 w.heap.size v' (boxesTo zs k ++ rowOf k (j + 1))) := by
            show Owns2 _ _ _ _
            rw [rowOf_succ]; simpa using hown
          have HB2 : Hid (Below w.heap.size w w2) := HBj.out.trans hb2
          clear hown hb2
          go_wp2
          go_roundw
          case rel => exact ⟨j + 1, by omega, by go_num, HS, HB2⟩
          case measure => simp [intOf] <;> omega
        · obtain rfl : j = m := by omega
          have HS : Hid (Owns2 wr w.heap.size u3 (boxesTo zs (k + 1))) := by
            show Owns2 _ _ _ _
            rw [boxesTo, HM.out, Int.toNat_natCast]; exact HOj.out
          go_wp2
          go_roundw
          case rel => exact ⟨k + 1, by omega, by go_num, HS, HBj⟩
          case measure => simp [intOf] <;> omega
    · obtain rfl : k = zs.length := by omega
      go_wp2
      go_ret
      exact ⟨_, rfl, HO.out, HB.out⟩

end Go.Proofs.Ytheebpjkjclgbaa
