/-
  The reference's bars, in a slice of the call's own: append.
  The reference's bars of a tiling: which of them meet, and what the others come to (plain).
-/
import Derived.Test.YtcnmndbckjmliaaDoorNFs
import Derived.Test.YtcnmndbckjmliaaDoorNSpr
namespace Go.Proofs.YtcnmndbckjmliaaDoor
open Go.RowKit

/-- A bar: row, column, does it stand, its way down, its way to the right. -/
structure Bar where
  i : Nat
  j : Nat
  st : Bool
  di : Int
  dj : Int
def brZ : Bar := ⟨0, 0, false, 0, 0⟩
def brC (b : Bar) : List Value := [.int .i64 (b.i : Int), .int .i64 (b.j : Int), .bool b.st, .int .i64 b.di, .int .i64 b.dj]
def brI (l : List Bar) : List Value := (l.map brC).flatten
theorem brI_cons (b : Bar) (l : List Bar) : brI (b :: l) = brC b ++ brI l := rfl
theorem brI_app (l k : List Bar) : brI (l ++ k) = brI l ++ brI k := by unfold brI; rw [List.map_append, List.flatten_append]
theorem brI_length (l : List Bar) : (brI l).length = l.length * 5 := by
  induction l with
  | nil => rfl
  | cons c l ih => rw [brI_cons, List.length_append, List.length_cons, ih]; show 5 + _ = _; omega
theorem brI_get : ∀ (l : List Bar) (i k : Nat), i < l.length → k < 5 → (brI l)[i * 5 + k]? = (brC (l.getD i brZ))[k]? := by
  intro l
  induction l with
  | nil => intro i k h; simp at h
  | cons c l ih =>
    intro i k hi hk
    rw [brI_cons]
    cases i with
    | zero => rw [List.getElem?_append_left (by show _ < 5; omega)]; simp
    | succ i =>
      rw [List.getElem?_append_right (by show 5 ≤ _; omega), show (i + 1) * 5 + k - (brC c).length = i * 5 + k by show _ - 5 = _; omega, ih i k (by simpa using hi) hk]
      simp
theorem brC_one (b : Bar) : ∀ u ∈ brC b, u.oneCell' = true := fun u hu => by
  unfold brC at hu
  simp only [List.mem_cons, List.not_mem_nil, or_false] at hu
  rcases hu with e | e | e | e | e <;> subst e <;> rfl
theorem brI_one (l : List Bar) : ∀ u ∈ brI l, u.oneCell' = true := by
  induction l with
  | nil => intro u hu; cases hu
  | cons c l ih =>
    intro u hu
    rw [brI_cons] at hu
    rcases List.mem_append.1 hu with h | h
    · exact brC_one c u h
    · exact ih u h
theorem infoBr : (Tryd.prog.info? 88).map (fun i => (i.zero, i.size, i.bytes)) = some (some (.agg #[.int .i64 0, .int .i64 0, .bool false, .int .i64 0, .int .i64 0]), 5, 40) := by kernel_rfl
/-- Bars as they are read. -/
def BrI (w : World) (a : Option Addr) (l : List Bar) : Prop := ∀ j, j < l.length → ∃ b off, a = some ⟨b, off, none⟩ ∧ b < w.heap.size ∧ ∀ k, k < 5 → w.cell? ⟨b, off + j * 5 + k, none⟩ = (brC (l.getD j brZ))[k]?
theorem BrI.below {w w' : World} {a : Option Addr} {l : List Bar} (h : BrI w a l) (hb : Below w.heap.size w w') : BrI w' a l := fun j hj => by
  obtain ⟨b, off, h1, h2, h3⟩ := h j hj
  exact ⟨b, off, h1, Nat.lt_of_lt_of_le h2 hb.size, fun k hk => (hb.cell (p := ⟨b, off + j * 5 + k, none⟩) h2).trans (h3 k hk)⟩
def OwBr (w : World) (lo : Nat) (v : Value) (l : List Bar) : Prop := w.ownsRow lo 88 5 v l.length (brI l)
theorem OwBr.below {w w' : World} {lo : Nat} {v : Value} {l : List Bar} (h : OwBr w lo v l) (hb : Below w.heap.size w w') : OwBr w' lo v l := ownsRow_blocks h (fun k e => hb.block k (h.lt k e).2)
theorem OwBr.open {w : World} {lo : Nat} {v : Value} {l : List Bar} (h : OwBr w lo v l) : ∃ a c, v = .slice a l.length c ∧ BrI w a l ∧ l.length ≤ c := by
  rcases h.2 with ⟨hv, hn⟩ | ⟨g, cap, cur, hv, hg, hh, hn, hc, hcs, htk⟩
  · have hl : l = [] := List.length_eq_zero_iff.1 hn
    subst hl
    exact ⟨none, 0, hv, fun j hj => by simp at hj, Nat.le_refl _⟩
  · refine ⟨some ⟨g, 0, none⟩, cap, hv, fun j hj => ⟨g, 0, rfl, lt_someN hh, fun k hk => ?_⟩, hn⟩
    have g1 := brI_get l j k hj hk
    rw [Nat.zero_add, cell_of_row w g _ _ _ _ hh]
    rw [← htk, List.getElem?_take_of_lt (by omega)] at g1
    simpa using g1
theorem br_cells {w : World} {x : Bar} {ad : Addr} (h : ∀ k, k < 5 → w.cell? (ad.add k) = (brC x)[k]?) : ∀ j u, (brI [x])[j]? = some u → w.cell? (ad.add j) = some u := fun j u hj => by
  have hjl : j < (brI [x]).length := by
    rcases Nat.lt_or_ge j (brI [x]).length with q | q
    · exact q
    · rw [List.getElem?_eq_none q] at hj; cases hj
  rw [brI_length] at hjl
  rw [h j (by simpa using hjl), ← hj]
  have := brI_get [x] 0 j (by simp) (by simpa using hjl)
  simpa using this.symm
theorem run_append_br {w : World} {base : Nat} {v : Value} {l : List Bar} {x : Bar} {ad : Addr} {c : Nat} (ty : TypeId) (hown : OwBr w base v l) (hsrc : ∀ k, k < 5 → w.cell? (ad.add k) = (brC x)[k]?) (h63 : l.length + 1 ≤ 1001) (hbase : base ≤ w.heap.size) :
    ∃ v' w', (Builtin.append_ #[86, 86] ty #[v, .slice (some ad) 1 c]).run Tryd.prog w = .ok v' w' ∧ OwBr w' base v' (l ++ [x]) ∧ Below base w w' ∧ KeepB v v' w w' := by
  obtain ⟨i0, hi, hz0, hz1, hz2⟩ := info_parts infoBr
  have hM : l.length + 1 ≤ maxLen := by unfold maxLen; omega
  have hc := br_cells hsrc
  have h1l : (brI [x]).length = 1 * 5 := brI_length [x]
  unfold OwBr at hown ⊢
  rw [brI_app, List.length_append]
  show ∃ (v' : Value) (w' : World), _ ∧ w'.ownsRow base 88 5 v' (l.length + 1) _ ∧ _
  rcases hown.2 with ⟨hv, h0⟩ | ⟨g, cap, cur, hv, hg, hh, hnc, hcm, hcs', htk⟩
  · obtain rfl : l = [] := List.eq_nil_of_length_eq_zero h0
    obtain ⟨v', w', hrun, r1, r2, _⟩ := run_append_own (P := Tryd.prog) w w.heap.size 86 ty 88 i0 (.agg #[.int .i64 0, .int .i64 0, .bool false, .int .i64 0, .int .i64 0]) 5 40 Tryd.underlying86 hi hz0 hz1 hz2 rfl (by decide) v 0 [] (by rw [hv]; exact World.ownsRow_nil _ _ _ _) ad 1 c (brI [x]) h1l hc (brI_one [x]) (by simpa using hM) (by simp) (Nat.le_refl _)
    have r1' : w'.ownsRow w.heap.size 88 5 v' (([] : List Bar).length + 1) (brI [] ++ brI [x]) := r1
    exact ⟨v', w', hrun, ownsRow_down r1' hbase, (Below.refl base w).grown r2 hbase (fun k hk => by rw [hv] at hk; cases hk), keepB_of r2 (Or.inr rfl) (fun g hg => Or.inr (r1'.lt g hg).1)⟩
  · by_cases hroom : l.length + 1 ≤ cap
    · rw [hv] at hown
      obtain ⟨w', hrun, r1, r2⟩ := run_append_fits (P := Tryd.prog) w base 86 ty 88 i0 5 Tryd.underlying86 hi hz1 g l.length cap (brI l) hown ad 1 c (brI [x]) h1l hc (brI_one [x]) hroom
      exact ⟨_, w', by rw [hv]; exact hrun, r1, (Below.refl base w).grown r2 hbase (fun k hk => by cases hk; exact hg), keepB_of r2 (Or.inr (by rw [hv]; rfl)) (fun g' hg' => Or.inl (by rw [hv]; exact hg'))⟩
    · have hown' := hown
      rw [hv] at hown'
      obtain ⟨v', w', hrun, r1, r2⟩ := run_append_arg_grows (P := Tryd.prog) w 86 ty 88 i0 (.agg #[.int .i64 0, .int .i64 0, .bool false, .int .i64 0, .int .i64 0]) 5 40 Tryd.underlying86 hi hz0 hz1 hz2 rfl (by decide) ⟨g, 0, none⟩ l.length cap (brI l) (brI_length l)
        (fun j u hj => by
          have hj' : j < (brI l).length := (List.getElem?_eq_some_iff.1 hj).1
          rw [brI_length] at hj'
          rw [Addr.add_lit, Nat.zero_add, World.ownsRow.cellAt hown' j (by omega)]; exact hj)
        ad 1 c (brI [x]) h1l hc (by omega) hM (by omega)
      exact ⟨v', w', by rw [hv]; exact hrun, ownsRow_down r1 hbase, (Below.refl base w).grown r2 hbase (fun k hk => by cases hk), keepB_of r2 (Or.inl rfl) (fun g hg => Or.inr (r1.lt g hg).1)⟩
theorem append_br1 {w : World} {base : Nat} {v : Value} {l : List Bar} (x : Bar) {ops : Array Oper} {rest : List Oper} {o : Oper} {a : Act} {Q : Exit → Act → World → Prop} (hgd : o.guard = none) (s z : Operand)
    (ho : o.op = .call { callee := .builtin .append, args := #[s, z], argTypes := #[86, 86] }) (hs : a.eval s = v) (hx : a.eval z = .slice (some ⟨w.heap.size, 0, none⟩) 1 1) (hown : OwBr w base v l) (hl : l.length ≤ 1000) (hbase : base ≤ w.heap.size) (C : Array Value) (hC : C = (brC x).toArray)
    (h : ∀ v' w', Hid (OwBr w' base v' (l ++ [x])) → Hid (Below base w w') → wpList Tryd.prog ops Q rest (a.put o.dst v') w') :
    wpList Tryd.prog ops Q (o :: rest) a (w.alloc (.cells C 88)) := by
  subst hC
  have hal : Below w.heap.size w (w.alloc (.cells (brC x).toArray 88)) := (Below.refl _ _).alloc (Nat.le_refl _) _
  have hh : (w.alloc (.cells (brC x).toArray 88)).heap[w.heap.size]? = some (.cells (brC x).toArray 88 (0, 0)) := heap_alloc_last _ _
  refine wpList_plain hgd fun K hK => ?_
  obtain ⟨v', w', hrun, r1, r2, r3⟩ := run_append_br (x := x) (ad := ⟨w.heap.size, 0, none⟩) (c := 1) o.type (hown.below hal) (fun k hk => by rw [Addr.add_lit, cell_of_row _ _ _ _ _ _ hh]; simp) (by omega) (Nat.le_trans hbase hal.size)
  unfold Oper.wp
  simp [execOp, ho, resolve, invoke, builtin, hs, hx, hrun, Result.andThen]
  exact hK _ _ (h v' w' r1 ((hal.mono hbase).trans r2))

end Go.Proofs.YtcnmndbckjmliaaDoor

namespace Go.Proofs.YtcnmndbckjmliaaDoor
open Go.RowKit

def dirB (n i j : Nat) : Int := if fwd n i j = true then 1 else -1
theorem dirB_lo (n i j : Nat) : -1 ≤ dirB n i j ∧ dirB n i j ≤ 1 := by unfold dirB; split <;> omega
theorem fwd_flip {n i j i' j' : Nat} (h : i' + j' = i + j + 1 ∨ i' + j' + 1 = i + j) : fwd n i' j' = !fwd n i j := by
  unfold fwd
  by_cases e : (i + j) % 2 = (n - 1) % 2
  · rw [decide_eq_true e, decide_eq_false (by omega)]; rfl
  · rw [decide_eq_false e, decide_eq_true (by omega)]; rfl
theorem dirB_flip {n i j i' j' : Nat} (h : i' + j' = i + j + 1 ∨ i' + j' + 1 = i + j) : dirB n i' j' = -dirB n i j := by
  unfold dirB
  rw [fwd_flip h]
  cases fwd n i j <;> rfl
def barOf (n : Nat) (F : Nat → UInt8) (i j : Nat) : List Bar :=
  if F (i * 8 + j) = 108 then [⟨i, j, false, dirB n i j, 0⟩] else if F (i * 8 + j) = 117 then [⟨i, j, true, 0, dirB n i j⟩] else []
def barJ (n : Nat) (F : Nat → UInt8) (i : Nat) : Nat → List Bar
  | 0 => []
  | j + 1 => barJ n F i j ++ barOf n F i j
def barR (c n : Nat) (F : Nat → UInt8) : Nat → List Bar
  | 0 => []
  | i + 1 => barR c n F i ++ barJ n F i c
theorem mem_barJ {n : Nat} {F : Nat → UInt8} {i : Nat} {b : Bar} : ∀ c, b ∈ barJ n F i c ↔ ∃ j, j < c ∧ b ∈ barOf n F i j
  | 0 => by simp [barJ]
  | c + 1 => by
    show b ∈ barJ n F i c ++ barOf n F i c ↔ _
    rw [List.mem_append, mem_barJ c]
    constructor
    · rintro (⟨j, h1, h2⟩ | h)
      · exact ⟨j, by omega, h2⟩
      · exact ⟨c, by omega, h⟩
    · rintro ⟨j, h1, h2⟩
      by_cases e : j = c
      · subst e; exact Or.inr h2
      · exact Or.inl ⟨j, by omega, h2⟩
theorem mem_barR {c n : Nat} {F : Nat → UInt8} {b : Bar} : ∀ r, b ∈ barR c n F r ↔ ∃ i j, i < r ∧ j < c ∧ b ∈ barOf n F i j
  | 0 => by simp [barR]
  | r + 1 => by
    show b ∈ barR c n F r ++ barJ n F r c ↔ _
    rw [List.mem_append, mem_barR r, mem_barJ]
    constructor
    · rintro (⟨i, j, h1, h2, h3⟩ | ⟨j, h1, h2⟩)
      · exact ⟨i, j, by omega, h2, h3⟩
      · exact ⟨r, j, by omega, h1, h2⟩
    · rintro ⟨i, j, h1, h2, h3⟩
      by_cases e : i = r
      · subst e; exact Or.inr ⟨j, h2, h3⟩
      · exact Or.inl ⟨i, j, by omega, h2, h3⟩
theorem barOf_len (n : Nat) (F : Nat → UInt8) (i j : Nat) : (barOf n F i j).length ≤ 1 := by unfold barOf; split <;> (try split) <;> simp
theorem barJ_len (n : Nat) (F : Nat → UInt8) (i : Nat) : ∀ c, (barJ n F i c).length ≤ c
  | 0 => Nat.le_refl _
  | c + 1 => by
    show (barJ n F i c ++ barOf n F i c).length ≤ _
    have h1 := barJ_len n F i c
    have h2 := barOf_len n F i c
    rw [List.length_append]; omega
theorem barR_len (c n : Nat) (F : Nat → UInt8) : ∀ r, (barR c n F r).length ≤ r * c
  | 0 => Nat.zero_le _
  | r + 1 => by
    show (barR c n F r ++ barJ n F r c).length ≤ _
    have h1 := barR_len c n F r
    have h2 := barJ_len n F r c
    rw [List.length_append, Nat.succ_mul]; omega
/-- The other one stands where this one would go, and comes this way. -/
def mts (p q : Bar) : Bool := (p.st == q.st) && decide ((q.i : Int) = (p.i : Int) + p.di) && decide ((q.j : Int) = (p.j : Int) + p.dj) && decide (q.di = -p.di) && decide (q.dj = -p.dj)
theorem barOf_lie {n : Nat} {F : Nat → UInt8} {i j : Nat} (h : F (i * 8 + j) = 108) : barOf n F i j = [⟨i, j, false, dirB n i j, 0⟩] := by unfold barOf; rw [if_pos h]
theorem barOf_std {n : Nat} {F : Nat → UInt8} {i j : Nat} (h : F (i * 8 + j) = 117) : barOf n F i j = [⟨i, j, true, 0, dirB n i j⟩] := by unfold barOf; rw [if_neg (by rw [h]; decide), if_pos h]
theorem barOf_none {n : Nat} {F : Nat → UInt8} {i j : Nat} (h1 : F (i * 8 + j) ≠ 108) (h : F (i * 8 + j) ≠ 117) : barOf n F i j = [] := by unfold barOf; rw [if_neg h1, if_neg h]
theorem barOf_any {n : Nat} {F : Nat → UInt8} {i j : Nat} {b : Bar} (h : b ∈ barOf n F i j) : (F (i * 8 + j) = 108 ∧ b = ⟨i, j, false, dirB n i j, 0⟩) ∨ (F (i * 8 + j) = 117 ∧ b = ⟨i, j, true, 0, dirB n i j⟩) := by
  by_cases h1 : F (i * 8 + j) = 108
  · rw [barOf_lie h1] at h; exact Or.inl ⟨h1, by simpa using h⟩
  · by_cases h2 : F (i * 8 + j) = 117
    · rw [barOf_std h2] at h; exact Or.inr ⟨h2, by simpa using h⟩
    · rw [barOf_none h1 h2] at h; cases h
theorem atB_inW {r c : Nat} {f : Nat → UInt8} {i j : Int} {x : UInt8} (hx : x ≠ 46) (h : atB r c f i j = x) : ∃ i' j' : Nat, i = (i' : Int) ∧ j = (j' : Int) ∧ i' < r ∧ j' < c ∧ f (i' * 8 + j') = x := by
  unfold atB at h
  split at h
  · next q => exact ⟨i.toNat, j.toNat, by omega, by omega, by omega, by omega, h⟩
  · exact absurd h.symm hx
theorem atB_of {r c : Nat} {f : Nat → UInt8} {i j : Int} {i' j' : Nat} (hi : i = (i' : Int)) (hj : j = (j' : Int)) (h1 : i' < r) (h2 : j' < c) : atB r c f i j = f (i' * 8 + j') := by
  subst hi hj
  unfold atB
  rw [if_pos (by omega)]; rfl
theorem meets_lie {r c n : Nat} {F : Nat → UInt8} {i j : Nat} (p : Bar) (hp : p = ⟨i, j, false, dirB n i j, 0⟩) : (barR c n F r).any (mts p) = decide (atB r c F ((i : Int) + dirB n i j) (j : Int) = 108) := by
  subst hp
  rw [Bool.eq_iff_iff, List.any_eq_true, decide_eq_true_iff]
  have hd := dirB_lo n i j
  constructor
  · rintro ⟨q, hq, hm⟩
    obtain ⟨i', j', h1, h2, h3⟩ := (mem_barR r).1 hq
    unfold mts at hm
    simp only [Bool.and_eq_true, beq_iff_eq, decide_eq_true_eq] at hm
    obtain ⟨⟨⟨⟨m1, m2⟩, m3⟩, m4⟩, m5⟩ := hm
    rcases barOf_any h3 with ⟨e, rfl⟩ | ⟨e, rfl⟩
    · rw [atB_of (i' := i') (j' := j') m2.symm (by have := m3; simp only [Int.add_zero] at this; exact this.symm) h1 h2]; exact e
    · cases m1
  · intro h
    obtain ⟨i', j', e1, e2, h1, h2, h3⟩ := atB_inW (by decide) h
    obtain rfl : j = j' := by omega
    have hs : i' + j = i + j + 1 ∨ i' + j + 1 = i + j := by
      unfold dirB at e1; split at e1 <;> omega
    refine ⟨⟨i', j, false, dirB n i' j, 0⟩, (mem_barR r).2 ⟨i', j, h1, h2, by rw [barOf_lie h3]; exact List.mem_singleton.2 rfl⟩, ?_⟩
    unfold mts
    simp only [Bool.and_eq_true, beq_iff_eq, decide_eq_true_eq]
    exact ⟨⟨⟨⟨trivial, e1.symm⟩, by omega⟩, dirB_flip hs⟩, by omega⟩
theorem meets_std {r c n : Nat} {F : Nat → UInt8} {i j : Nat} (p : Bar) (hp : p = ⟨i, j, true, 0, dirB n i j⟩) : (barR c n F r).any (mts p) = decide (atB r c F (i : Int) ((j : Int) + dirB n i j) = 117) := by
  subst hp
  rw [Bool.eq_iff_iff, List.any_eq_true, decide_eq_true_iff]
  have hd := dirB_lo n i j
  constructor
  · rintro ⟨q, hq, hm⟩
    obtain ⟨i', j', h1, h2, h3⟩ := (mem_barR r).1 hq
    unfold mts at hm
    simp only [Bool.and_eq_true, beq_iff_eq, decide_eq_true_eq] at hm
    obtain ⟨⟨⟨⟨m1, m2⟩, m3⟩, m4⟩, m5⟩ := hm
    rcases barOf_any h3 with ⟨e, rfl⟩ | ⟨e, rfl⟩
    · cases m1
    · rw [atB_of (i' := i') (j' := j') (by have := m2; simp only [Int.add_zero] at this; exact this.symm) m3.symm h1 h2]; exact e
  · intro h
    obtain ⟨i', j', e1, e2, h1, h2, h3⟩ := atB_inW (by decide) h
    obtain rfl : i = i' := by omega
    have hs : i + j' = i + j + 1 ∨ i + j' + 1 = i + j := by
      unfold dirB at e2; split at e2 <;> omega
    refine ⟨⟨i, j', true, 0, dirB n i j'⟩, (mem_barR r).2 ⟨i, j', h1, h2, by rw [barOf_std h3]; exact List.mem_singleton.2 rfl⟩, ?_⟩
    unfold mts
    simp only [Bool.and_eq_true, beq_iff_eq, decide_eq_true_eq]
    exact ⟨⟨⟨⟨trivial, by omega⟩, e2.symm⟩, by omega⟩, dirB_flip hs⟩
/-- The cell where the bar comes to lie. -/
def rwB (p : Bar) : Nat := ((p.i : Int) + 1 + p.di).toNat
def clB (p : Bar) : Nat := ((p.j : Int) + 1 + p.dj).toNat
def layB (p : Bar) (g : Nat → UInt8) : Nat → UInt8 := if p.st = true then up2 g (rwB p * 8 + clB p) 117 ((rwB p + 1) * 8 + clB p) 100 else up2 g (rwB p * 8 + clB p) 108 (rwB p * 8 + (clB p + 1)) 114
def goB (bs : List Bar) (g : Nat → UInt8) (p : Bar) : Nat → UInt8 := if bs.any (mts p) = true then g else layB p g
theorem go_cell {r c n : Nat} {F : Nat → UInt8} {i j : Nat} (g : Nat → UInt8) : (barOf n F i j).foldl (goB (barR c n F r)) g = spS r c n F i j g := by
  unfold spS
  by_cases h1 : F (i * 8 + j) = 108
  · rw [barOf_lie h1, if_pos h1]
    show goB _ g _ = _
    unfold goB
    rw [meets_lie _ rfl]
    unfold layB rwB clB dirB
    by_cases f : fwd n i j = true
    · rw [if_pos f, if_pos f]
      simp only [decide_eq_true_eq]
      rw [if_neg (show ¬ (false = true) by decide)]
      simp only [Int.add_zero]
      rw [show ((i : Int) + 1 + 1).toNat = i + 2 by omega, show ((j : Int) + 1).toNat = j + 1 by omega]
    · rw [if_neg f, if_neg f]
      simp only [decide_eq_true_eq]
      rw [if_neg (show ¬ (false = true) by decide)]
      simp only [Int.add_zero]
      rw [show ((i : Int) + 1 + -1).toNat = i by omega, show ((j : Int) + 1).toNat = j + 1 by omega]
  · rw [if_neg h1]
    by_cases h2 : F (i * 8 + j) = 117
    · rw [barOf_std h2, if_pos h2]
      show goB _ g _ = _
      unfold goB
      rw [meets_std _ rfl]
      unfold layB rwB clB dirB
      by_cases f : fwd n i j = true
      · rw [if_pos f, if_pos f]
        simp only [decide_eq_true_eq]
        simp only [Int.add_zero]
        rw [show ((j : Int) + 1 + 1).toNat = j + 2 by omega, show ((i : Int) + 1).toNat = i + 1 by omega, if_pos trivial]
      · rw [if_neg f, if_neg f]
        simp only [decide_eq_true_eq]
        simp only [Int.add_zero]
        rw [show ((j : Int) + 1 + -1).toNat = j by omega, show ((i : Int) + 1).toNat = i + 1 by omega, if_pos trivial]
    · rw [barOf_none h1 h2, if_neg h2]; rfl
theorem go_row {r c n : Nat} {F : Nat → UInt8} {i : Nat} (g : Nat → UInt8) : ∀ j, (barJ n F i j).foldl (goB (barR c n F r)) g = spJ r c n F i g j
  | 0 => rfl
  | j + 1 => by
    show (barJ n F i j ++ barOf n F i j).foldl _ g = spS r c n F i j _
    rw [List.foldl_append, go_row g j, go_cell]
/-- What the reference comes to is what the program comes to. -/
theorem go_all {r c n : Nat} {F : Nat → UInt8} : ∀ i, (barR c n F i).foldl (goB (barR c n F r)) (dmF (n + 1)) = spI r c n F i
  | 0 => rfl
  | i + 1 => by
    show (barR c n F i ++ barJ n F i c).foldl _ _ = spJ r c n F i _ c
    rw [List.foldl_append, go_all i, go_row]
/-- Where a bar lies. -/
theorem barR_at {r c n : Nat} {F : Nat → UInt8} {p : Bar} (h : p ∈ barR c n F r) : p.i < r ∧ p.j < c ∧ -1 ≤ p.di ∧ p.di ≤ 1 ∧ -1 ≤ p.dj ∧ p.dj ≤ 1 ∧ (p.st = true → p.di = 0) ∧ (p.st = false → p.dj = 0) := by
  obtain ⟨i, j, h1, h2, h3⟩ := (mem_barR r).1 h
  have hd := dirB_lo n i j
  rcases barOf_any h3 with ⟨_, rfl⟩ | ⟨_, rfl⟩
  · exact ⟨h1, h2, hd.1, hd.2, (by decide : (-1 : Int) ≤ 0), (by decide : (0 : Int) ≤ 1), (fun e => by cases e), fun _ => rfl⟩
  · exact ⟨h1, h2, (by decide : (-1 : Int) ≤ 0), (by decide : (0 : Int) ≤ 1), hd.1, hd.2, fun _ => rfl, (fun e => by cases e)⟩

end Go.Proofs.YtcnmndbckjmliaaDoor
