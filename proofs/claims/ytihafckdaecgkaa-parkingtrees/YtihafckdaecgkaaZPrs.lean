/-
  Lists of pairs: of the call's own, and as an address shows them; append of one; ferlaw.Same of pairs (split off IPrs, IMkp, IUnd, IBlw).
-/
import Derived.Test.YtihafckdaecgkaaTApp
namespace Go.Proofs.Ytihafckdaecgkaa
open Go.RowKit

/-- The cells of pairs. -/
def pc (l : List (Int × Int)) : List Value := (l.map (fun c => [Value.int .i64 c.1, Value.int .i64 c.2])).flatten
theorem pc_cons (c : Int × Int) (l : List (Int × Int)) : pc (c :: l) = .int .i64 c.1 :: .int .i64 c.2 :: pc l := rfl
theorem pc_length (l : List (Int × Int)) : (pc l).length = l.length * 2 := by
  induction l with
  | nil => rfl
  | cons c l ih => rw [pc_cons, List.length_cons, List.length_cons, List.length_cons, ih]; omega
theorem pc_get : ∀ (l : List (Int × Int)) (i : Nat), i < l.length → (pc l)[i * 2]? = some (.int .i64 (l.getD i (0, 0)).1) ∧ (pc l)[i * 2 + 1]? = some (.int .i64 (l.getD i (0, 0)).2) := by
  intro l
  induction l with
  | nil => intro i h; simp at h
  | cons c l ih =>
    intro i hi
    rw [pc_cons]
    cases i with
    | zero => simp
    | succ i =>
      have := ih i (by simpa using hi)
      rw [show (i + 1) * 2 = i * 2 + 1 + 1 by omega, show i * 2 + 1 + 1 + 1 = i * 2 + 1 + 1 + 1 from rfl]
      simpa using this
theorem pc_set1 : ∀ (l : List (Int × Int)) (i : Nat) (x : Int), (pc l).set (i * 2) (.int .i64 x) = pc (l.set i (x, (l.getD i (0, 0)).2)) := by
  intro l
  induction l with
  | nil => intro i x; simp [pc]
  | cons c l ih =>
    intro i x
    cases i with
    | zero => rfl
    | succ i =>
      rw [show (i + 1) * 2 = i * 2 + 1 + 1 by omega, pc_cons, List.set_cons_succ, List.set_cons_succ, ih]
      rfl
theorem pc_set2 : ∀ (l : List (Int × Int)) (i : Nat) (x : Int), (pc l).set (i * 2 + 1) (.int .i64 x) = pc (l.set i ((l.getD i (0, 0)).1, x)) := by
  intro l
  induction l with
  | nil => intro i x; simp [pc]
  | cons c l ih =>
    intro i x
    cases i with
    | zero => rfl
    | succ i =>
      rw [show (i + 1) * 2 + 1 = i * 2 + 1 + 1 + 1 by omega, pc_cons, List.set_cons_succ, List.set_cons_succ, ih]
      rfl
def OwnsP (w : World) (lo : Nat) (v : Value) (l : List (Int × Int)) : Prop := w.ownsRow lo 34 2 v l.length (pc l)
theorem pc_made (n : Nat) : (madeCells #[Value.int .i64 0, Value.int .i64 0] (n * 2)).toList = pc (List.replicate n (0, 0)) := by
  have h1 : ∀ n, pc (List.replicate n (0, 0)) = List.replicate (n * 2) (.int .i64 0) := by
    intro n
    induction n with
    | zero => rfl
    | succ n ih => rw [List.replicate_succ, pc_cons, ih, show (n + 1) * 2 = n * 2 + 1 + 1 by omega]; rfl
  rw [h1]
  refine List.ext_getElem? (fun i => ?_)
  unfold madeCells
  simp only [Array.toList_map, Array.toList_range, List.getElem?_map, List.getElem?_replicate]
  by_cases h : i < n * 2
  · rw [if_pos h, List.getElem?_range h]
    simp only [Option.map_some, Option.some.injEq]
    have : i % 2 = 0 ∨ i % 2 = 1 := by omega
    rcases this with e | e <;> simp [e]
  · rw [if_neg h, List.getElem?_eq_none (by simpa using h)]; rfl
theorem OwnsP.mono {w : World} {lo lo' : Nat} {v : Value} {l : List (Int × Int)} (h : OwnsP w lo v l) (hl : lo' ≤ lo) : OwnsP w lo' v l := ownsRow_down h hl
theorem OwnsP.below {w w' : World} {lo : Nat} {v : Value} {l : List (Int × Int)} (h : OwnsP w lo v l) (hb : Below w.heap.size w w') : OwnsP w' lo v l := ownsRow_blocks h (fun k e => hb.block k (h.lt k e).2)

theorem Try.infoP : (Try.prog.info? 34).map (fun i => (i.zero, i.size, i.bytes)) = some (some (.agg #[.int .i64 0, .int .i64 0]), 2, 16) := by kernel_rfl
theorem Try.underlyingP : Try.prog.underlying 22 = some (.slice 34) := by kernel_rfl

theorem drop_set_pair {l : List (Int × Int)} {k : Nat} (hk : k < l.length) (c : Int × Int) : (l.set k c).drop k = c :: l.drop (k + 1) := by
  rw [List.drop_set, if_neg (by omega), Nat.sub_self, List.drop_eq_getElem_cons hk]; rfl

structure ShowsP (w : World) (a : Option Addr) (l : List (Int × Int)) : Prop where
  len : l.length ≤ 8796093022208
  cells : l ≠ [] → ∃ b off, a = some ⟨b, off, none⟩ ∧ b < w.heap.size ∧ ∀ i, i < l.length → w.cell? ⟨b, off + i * 2, none⟩ = some (.int .i64 (l.getD i (0, 0)).1) ∧ w.cell? ⟨b, off + i * 2 + 1, none⟩ = some (.int .i64 (l.getD i (0, 0)).2)
theorem ShowsP.below {w w' : World} {a : Option Addr} {l : List (Int × Int)} (h : ShowsP w a l) (hb : Below w.heap.size w w') : ShowsP w' a l := by
  refine ⟨h.len, fun hne => ?_⟩
  obtain ⟨b, off, ha, hlt, hc⟩ := h.cells hne
  exact ⟨b, off, ha, Nat.lt_of_lt_of_le hlt hb.size, fun i hi => ⟨(hb.cell (p := ⟨b, off + i * 2, none⟩) hlt).trans (hc i hi).1, (hb.cell (p := ⟨b, off + i * 2 + 1, none⟩) hlt).trans (hc i hi).2⟩⟩
theorem ShowsP.elem {w : World} {a : Option Addr} {l : List (Int × Int)} (h : ShowsP w a l) {k : Nat} (hk : k < l.length) :
    ∃ (b off : Nat) (x y : Int), a = some ⟨b, off, none⟩ ∧ b < w.heap.size ∧ Hid ((x, y) = l.getD k (0, 0)) ∧ w.cell? ⟨b, off + k * 2, none⟩ = some (.int .i64 x) ∧ w.cell? ⟨b, off + k * 2 + 1, none⟩ = some (.int .i64 y) := by
  obtain ⟨b, off, ha, hlt, hc⟩ := h.cells (fun e => by subst e; simp at hk)
  exact ⟨b, off, _, _, ha, hlt, rfl, (hc k hk).1, (hc k hk).2⟩
theorem OwnsP.shows {w : World} {lo : Nat} {v : Value} {l : List (Int × Int)} (h : OwnsP w lo v l) (hl : l.length ≤ 8796093022208) : ∃ a c, v = .slice a l.length c ∧ ShowsP w a l := by
  have h1 : w.ownsRow lo 34 2 v l.length (pc l) := h
  rcases h1.2 with ⟨h2, h3⟩ | ⟨g, cap, cur, hv, hg, hh, _⟩
  · exact ⟨none, 0, by rw [h2, h3], hl, fun hne => absurd (List.eq_nil_of_length_eq_zero h3) hne⟩
  · subst hv
    refine ⟨_, _, rfl, hl, fun _ => ⟨g, 0, rfl, (Array.getElem?_eq_some_iff.1 hh).1, fun i hi => ?_⟩⟩
    rw [Nat.zero_add, World.ownsRow.cellAt h1 (i * 2) (by omega), World.ownsRow.cellAt h1 (i * 2 + 1) (by omega)]
    exact pc_get l i hi

theorem pc_snoc (l : List (Int × Int)) (x y : Int) : pc (l ++ [(x, y)]) = pc l ++ [.int .i64 x, .int .i64 y] := by
  unfold pc; rw [List.map_append, List.flatten_append]; rfl
theorem run_append_pair {w : World} {base N : Nat} {v : Value} {x y : Int} {l : List (Int × Int)} (ty : TypeId) (hown : OwnsP w base v l) (hN : N = w.heap.size) (h63 : l.length + 1 ≤ 1000) (hbase : base ≤ w.heap.size) :
    ∃ v' w', (Builtin.append_ #[22, 22] ty #[v, .slice (some ⟨N, 0, none⟩) 1 1]).run Try.prog (w.alloc (.cells #[.int .i64 x, .int .i64 y] 34)) = .ok v' w' ∧ OwnsP w' base v' (l ++ [(x, y)]) ∧ Below base w w' := by
  subst hN
  obtain ⟨i0, hi, hz0, hz1, hz2⟩ := info_parts Try.infoP
  have hb : Below w.heap.size w (w.alloc (.cells #[.int .i64 x, .int .i64 y] 34)) := (Below.refl _ _).alloc (Nat.le_refl _) _
  have hown2 : (w.alloc (.cells #[.int .i64 x, .int .i64 y] 34)).ownsRow base 34 2 v l.length (pc l) := hown.below hb
  obtain ⟨v', w', hrun, r1, r2, _⟩ := run_append_own (P := Try.prog) (w.alloc (.cells #[.int .i64 x, .int .i64 y] 34)) base 22 ty 34 i0 (.agg #[.int .i64 0, .int .i64 0]) 2 16 Try.underlyingP hi hz0 hz1 hz2 rfl (by decide) v l.length (pc l) hown2 ⟨w.heap.size, 0, none⟩ 1 1 [.int .i64 x, .int .i64 y] rfl
    (fun j u hj => by
      match j, hj with
      | 0, hj => simp at hj; subst hj; rw [Addr.add_lit, World.cell?_alloc_at _ _ _ _ rfl]; rfl
      | 1, hj => simp at hj; subst hj; rw [Addr.add_lit, World.cell?_alloc_at _ _ _ _ rfl]; rfl) (fun u hu => by simp at hu; rcases hu with rfl | rfl <;> rfl) (by unfold maxLen; omega) (by omega) (by simp; omega)
  refine ⟨v', w', hrun, ?_, (hb.mono hbase).trans ((Below.refl base _).grown r2 (by simp; omega) (fun k hk => (hown.lt k hk).1))⟩
  unfold OwnsP
  rw [pc_snoc, List.length_append, List.length_singleton]; exact r1
theorem append_pair {w : World} {base N : Nat} {v : Value} {x y : Int} {l : List (Int × Int)} {ops : Array Oper} {rest : List Oper} {o : Oper} {a : Act} {Q : Exit → Act → World → Prop} (hgd : o.guard = none) (s z : Operand)
    (ho : o.op = .call { callee := .builtin .append, args := #[s, z], argTypes := #[22, 22] }) (hs : a.eval s = v) (hx : a.eval z = .slice (some ⟨N, 0, none⟩) 1 1) (hN : N = w.heap.size) (hown : OwnsP w base v l) (h63 : l.length + 1 ≤ 1000) (hbase : base ≤ w.heap.size)
    (h : ∀ v' w', OwnsP w' base v' (l ++ [(x, y)]) → Below base w w' → wpList Try.prog ops Q rest (a.put o.dst v') w') :
    wpList Try.prog ops Q (o :: rest) a (w.alloc (.cells #[.int .i64 x, .int .i64 y] 34)) := by
  refine wpList_plain hgd fun K hK => ?_
  obtain ⟨v', w', hrun, r1, r2⟩ := run_append_pair (x := x) (y := y) o.type hown hN h63 hbase
  unfold Oper.wp
  simp [execOp, ho, resolve, invoke, builtin, hs, hx, hrun, Result.andThen]
  exact hK _ _ (h v' w' r1 r2)

set_option maxHeartbeats 4000000 in
set_option maxRecDepth 100000 in
theorem SameP_same (a b : Option Addr) (n m ca cb : Nat) (l : List (Int × Int)) (w : World) (hs : ShowsP w a l) (ht : ShowsP w b l) (hn : n = l.length) (hm : m = l.length) :
    Calls Try.prog 10 #[.slice a n ca, .slice b m cb] w fun e w' => e = .returned (.bool true) ∧ ∃ n, w' = w.drewN n := by
  subst hn; subst hm
  have hl := hs.len
  have HS : Hid (ShowsP w a l) := hs
  have HT : Hid (ShowsP w b l) := ht
  have hb : ((l.length : Int) != (l.length : Int)) = false := by simp
  clear hs ht
  go_enter Try.func10, Try.ntmps10
  go_wp2
  go_loopw [13] (fun i wr => ∃ k : Nat, k ≤ l.length ∧ i = .int .i64 k ∧ ∃ n, wr = w.drewN n) (fun i _ => l.length - (intOf i).toNat)
  case atStart => exact ⟨0, Nat.zero_le _, rfl, 0, rfl⟩
  case round =>
    obtain ⟨k, hk, rfl, n, rfl⟩ := hrel
    by_cases hlt : k < l.length
    · have hlt' : (k : Int) < (l.length : Int) := by omega
      obtain ⟨b1, o1, x, y, rfl, -, HE, hc0, hc1⟩ := HS.out.elem hlt
      obtain ⟨b2, o2, x', y', rfl, -, HE', hd0, hd1⟩ := HT.out.elem hlt
      obtain ⟨rfl, rfl⟩ : x' = x ∧ y' = y := by have := HE.out.trans HE'.out.symm; simp only [Prod.mk.injEq] at this; exact ⟨this.1.symm, this.2.symm⟩
      go_wp2_with fail
      go_quiet (fail)
      go_wp2
      go_roundw
      case rel => exact ⟨k + 1, by omega, by go_num, _, by first | exact rfl | exact drewN_two _ _ _⟩
      case measure => simp [intOf]; omega
    · obtain rfl : k = l.length := by omega
      go_wp2
      go_ret
      exact ⟨rfl, n, rfl⟩
/-- By the first number, then by the second. -/
def ltP (c d : Int × Int) : Prop := c.1 < d.1 ∨ c.1 = d.1 ∧ c.2 < d.2
end Go.Proofs.Ytihafckdaecgkaa
