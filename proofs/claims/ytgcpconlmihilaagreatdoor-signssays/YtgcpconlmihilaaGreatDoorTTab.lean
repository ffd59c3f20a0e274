/-
  'append' on a slice of ints that the call itself made.
  Tables of ints as an address shows them; the contract of ferref.Joined.
  'append' with all that it leaves as it was, block by block.
  'append' with all that it leaves as it was, block by block; tables of ints of the call's own, their rows apart.
-/
import Derived.Test.YtgcpconlmihilaaGreatDoorBOwn
import Derived.ArgAppend
namespace Go.Proofs.YtgcpconlmihilaaGreatDoor
open Go.RowKit

theorem append_int {w : World} {base : Nat} {v : Value} {zs : List Int} {x : Int} {ops : Array Oper} {rest : List Oper} {o : Oper} {a : Act} {Q : Exit → Act → World → Prop} (hgd : o.guard = none) (s y : Operand)
    (ho : o.op = .call { callee := .builtin .append, args := #[s, y], argTypes := #[36, 36] }) (hs : a.eval s = v) (hown : Owns w base v zs) (hx : a.eval y = .slice (some ⟨w.heap.size, 0, none⟩) 1 1)
    (hl : zs.length ≤ 17592186044414) (hbase : base ≤ w.heap.size)
    (h : ∀ v' w', Owns w' base v' (zs ++ [x]) → Below base w w' → wpList Tryz.prog ops Q rest (a.put o.dst v') w') :
    wpList Tryz.prog ops Q (o :: rest) a (w.alloc (.cells #[.int .i64 x] 3)) := by
  obtain ⟨i0, hi, hz0, hz1, hz2⟩ := info_parts Tryz.info3
  have hown0 := hown
  refine wpList_append_own _ hgd s y 36 ho base 3 i0 (.int .i64 0) 1 8 Tryz.underlying36 hi hz0 hz1 hz2 rfl (by decide) v zs.length (zs.map (Value.int .i64)) hs (World.ownsRow.alloc hown _) ⟨w.heap.size, 0, none⟩ 1 1 [.int .i64 x] hx rfl
    (fun j u hj => ?_) (fun u hu => ?_) (by unfold maxLen; omega) (by omega) (by simp; omega) (fun v' w' ho' hg' _ => h v' w' ?_ ?_)
  · match j, hj with
    | 0, hj => simp at hj; subst hj; rw [Addr.add_lit, World.cell?_alloc_at _ _ _ _ rfl]; rfl
  · simp at hu; subst hu; rfl
  · unfold Owns
    simp only [List.length_append, List.map_append, List.length_singleton, List.map_cons, List.map_nil]
    exact ho'
  · refine (((Below.refl base w).alloc hbase _).grown hg' (by simp; omega) (fun k hk => ?_))
    rcases hown0.2 with ⟨h2, _⟩ | ⟨g, cap, cur, hv, hg, _⟩
    · subst h2; cases hk
    · subst hv; simp [Value.ownBlock] at hk; omega

/-- Two slices that lie in no block together. -/
def Apart (v u : Value) : Prop := ∀ g, v.ownBlock = some g → u.ownBlock ≠ some g

theorem Apart.symm {v u : Value} (h : Apart v u) : Apart u v := fun g h1 h2 => h g h2 h1

theorem apart_nil (u : Value) : Apart (.slice none 0 0) u := fun g h => by cases h

theorem Owns.lt {w : World} {base : Nat} {v : Value} {zs : List Int} (h : Owns w base v zs) {g : Nat} (hg : v.ownBlock = some g) : base ≤ g ∧ g < w.heap.size := World.ownsRow.lt h g hg

/-- What behind an append may be said of any other slice of the call's own. -/
def Keeps (base : Nat) (v v' : Value) (w w' : World) : Prop := ∀ u ys, Owns w base u ys → Apart v u → Owns w' base u ys ∧ Apart v' u

theorem keeps_of {base : Nat} {v v' : Value} {w w' : World} {row : Option Nat} (hg : w.grownBy w' row) (hrow : row = none ∨ row = v.ownBlock) (hv : ∀ g, v'.ownBlock = some g → v.ownBlock = some g ∨ w.heap.size ≤ g) : Keeps base v v' w w' := by
  intro u ys hu ha
  constructor
  · refine World.ownsRow.kept hu hg ?_
    cases e : u.ownBlock with
    | none => exact Or.inl rfl
    | some g =>
      right
      rcases hrow with h | h
      · rw [h]; simp
      · rw [h]; exact fun e2 => ha g e2.symm e
  · intro g h1 h2
    rcases hv g h1 with h | h
    · exact ha g h h2
    · have := (hu.lt h2).2; omega

theorem append_int_own {w : World} {base : Nat} {v : Value} {zs : List Int} {x : Int} {ops : Array Oper} {rest : List Oper} {o : Oper} {a : Act} {Q : Exit → Act → World → Prop} (hgd : o.guard = none) (s y : Operand)
    (ho : o.op = .call { callee := .builtin .append, args := #[s, y], argTypes := #[36, 36] }) (hs : a.eval s = v) (hown : Owns w base v zs) (hx : a.eval y = .slice (some ⟨w.heap.size, 0, none⟩) 1 1)
    (hl : zs.length ≤ 17592186044414) (hbase : base ≤ w.heap.size)
    (h : ∀ v' w', Owns w' base v' (zs ++ [x]) → Below base w w' → Keeps base v v' w w' → wpList Tryz.prog ops Q rest (a.put o.dst v') w') :
    wpList Tryz.prog ops Q (o :: rest) a (w.alloc (.cells #[.int .i64 x] 3)) := by
  obtain ⟨i0, hi, hz0, hz1, hz2⟩ := info_parts Tryz.info3
  have hnew : ∀ j u, [Value.int .i64 x][j]? = some u → (w.alloc (.cells #[.int .i64 x] 3)).cell? ((⟨w.heap.size, 0, none⟩ : Addr).add j) = some u := by
    intro j u hj
    match j, hj with
    | 0, hj => simp at hj; subst hj; rw [Addr.add_lit, World.cell?_alloc_at _ _ _ _ rfl]; rfl
  have hone : ∀ u ∈ [Value.int .i64 x], u.oneCell' = true := fun u hu => by simp at hu; subst hu; rfl
  have hal : w.grownBy (w.alloc (.cells #[.int .i64 x] 3)) none := World.grownBy_alloc _ _ _
  have htr : ∀ (w' : World) (row : Option Nat), (w.alloc (.cells #[.int .i64 x] 3)).grownBy w' row → w.grownBy w' row := fun w' row hg =>
    ⟨hg.os, hg.tape, hg.output, by have := hg.size; simp at this; omega, fun k hk hne => (hg.block k (by simp; omega) hne).trans (hal.block k hk (by simp))⟩
  rcases hown.2 with ⟨hv, h0⟩ | ⟨g, cap, cur, hv, hg, hh, hnc, hcm, hcs, htk⟩
  · obtain rfl : zs = [] := List.eq_nil_of_length_eq_zero h0
    refine wpList_append_own _ hgd s y 36 ho w.heap.size 3 i0 (.int .i64 0) 1 8 Tryz.underlying36 hi hz0 hz1 hz2 rfl (by decide) v 0 [] hs (by rw [hv]; exact World.ownsRow_nil _ _ _ _) ⟨w.heap.size, 0, none⟩ 1 1 [.int .i64 x] hx rfl
      hnew hone (by unfold maxLen; omega) (by omega) (by simp) (fun v' w' ho' hg' _ => ?_)
    have hg2 := htr _ _ hg'
    have hO : Owns w' w.heap.size v' ([] ++ [x]) := ho'
    refine h v' w' (hO.mono hbase) ((Below.refl base w).grown hg2 hbase (fun k hk => by rw [hv] at hk; cases hk)) (keeps_of hg2 (Or.inr rfl) (fun g hg => Or.inr ((hO.lt hg).1)))
  · have hlt : g < w.heap.size := (hown.lt (g := g) (by rw [hv]; rfl)).2
    by_cases hroom : zs.length + 1 ≤ cap
    · refine wpList_append_fits _ hgd s y 36 ho base 3 i0 1 Tryz.underlying36 hi hz1 g zs.length cap (zs.map (Value.int .i64)) (by rw [hs, hv]) (by rw [← hv]; exact World.ownsRow.alloc hown _) ⟨w.heap.size, 0, none⟩ 1 1 [.int .i64 x] hx rfl
        hnew hone hroom (fun w' ho' hg' => ?_)
      have hg2 := htr _ _ hg'
      refine h _ w' ?_ ((Below.refl base w).grown hg2 hbase (fun k hk => by cases hk; exact hg)) (keeps_of hg2 (Or.inr (by rw [hv]; rfl)) (fun g' hg' => Or.inl (by rw [hv]; exact hg')))
      unfold Owns
      simp only [List.length_append, List.map_append, List.length_singleton, List.map_cons, List.map_nil]
      exact ho'
    · refine wpList_append_grows _ hgd s y 36 ho 3 i0 (.int .i64 0) 1 8 Tryz.underlying36 hi hz0 hz1 hz2 rfl (by decide) (some ⟨g, 0, none⟩) zs.length cap (zs.map (Value.int .i64)) (by rw [hs, hv]) (fun e => by cases e) (by simp)
        (fun b hb j u hj => ?_) ⟨w.heap.size, 0, none⟩ 1 1 [.int .i64 x] hx rfl hnew hone (by omega) (by unfold maxLen; omega) (by omega) (fun v' w' ho' hg' => ?_)
      · cases hb
        have hj' : j < zs.length := by have := (List.getElem?_eq_some_iff.1 hj).1; simpa using this
        have hown' := hown
        rw [hv] at hown'
        rw [Addr.add_lit, Nat.zero_add, World.cell?_alloc_past _ _ _ hlt, World.ownsRow.cellAt hown' j (by omega)]
        exact hj
      · have hg2 := htr _ _ hg'
        have hO : Owns w' (w.heap.size + 1) v' (zs ++ [x]) := by
          unfold Owns
          simp only [List.length_append, List.map_append, List.length_singleton, List.map_cons, List.map_nil]
          simpa using ho'
        exact h v' w' (hO.mono (by omega)) ((Below.refl base w).grown hg2 hbase (fun k hk => by cases hk)) (keeps_of hg2 (Or.inl rfl) (fun g hg => Or.inr (by have := (hO.lt hg).1; omega)))

theorem src_cells {w : World} {a : Addr} {ys : List Int} (h : Shows w (some a) ys) : ∀ j u, (ys.map (Value.int .i64))[j]? = some u → w.cell? (a.add j) = some u := by
  intro j u hj
  have hj' : j < ys.length := by have := (List.getElem?_eq_some_iff.1 hj).1; simpa using this
  obtain ⟨b, off, ha, _, hc⟩ := h.cells (fun e => by subst e; simp at hj')
  cases ha
  rw [Addr.add_lit, hc j hj', ← hj]; simp [List.getD, List.getElem?_eq_getElem hj']

theorem run_append_src {w : World} {base : Nat} {v : Value} {zs ys : List Int} {a : Option Addr} {c : Nat} (ty : TypeId) (hown : Owns w base v zs) (hsrc : Shows w a ys) (hn : a = none → ys = [] ∧ c = 0) (hl : zs.length + ys.length ≤ 17592186044414) (hbase : base ≤ w.heap.size) :
    ∃ v' w', (Builtin.append_ #[36, 36] ty #[v, .slice a ys.length c]).run Tryz.prog w = .ok v' w' ∧ Owns w' base v' (zs ++ ys) ∧ Below base w w' ∧ Keeps base v v' w w' := by
  obtain ⟨i0, hi, hz0, hz1, hz2⟩ := info_parts Tryz.info3
  have mk : ∀ {b v' w'}, w'.ownsRow b 3 1 v' (zs.length + ys.length) (zs.map (Value.int .i64) ++ ys.map (Value.int .i64)) → Owns w' b v' (zs ++ ys) := fun {b v' w'} h => by
    unfold Owns; rw [List.length_append, List.map_append]; exact h
  cases a with
  | none =>
    obtain ⟨rfl, rfl⟩ := hn rfl
    refine ⟨v, w, run_append_owned_none (P := Tryz.prog) w base 36 ty 3 i0 1 Tryz.underlying36 hi v zs.length _ hown, by simpa using hown, Below.refl _ _, fun u ys hu ha => ⟨hu, ha⟩⟩
  | some ad =>
    have hcs := src_cells hsrc
    rcases hown.2 with ⟨hv, h0⟩ | ⟨g, cap, cur, hv, hg, hh, hnc, hcm, hcs', htk⟩
    · obtain rfl : zs = [] := List.eq_nil_of_length_eq_zero h0
      obtain ⟨v', w', hrun, r1, r2, _⟩ := run_append_own (P := Tryz.prog) w w.heap.size 36 ty 3 i0 (.int .i64 0) 1 8 Tryz.underlying36 hi hz0 hz1 hz2 rfl (by decide) v 0 [] (by rw [hv]; exact World.ownsRow_nil _ _ _ _) ad ys.length c (ys.map (Value.int .i64)) (by simp) hcs (ints_oneCell _ _) (by unfold maxLen; omega) (by simp at hl; omega) (Nat.le_refl _)
      have hO : Owns w' w.heap.size v' ([] ++ ys) := mk (by simpa using r1)
      exact ⟨v', w', hrun, hO.mono hbase, (Below.refl base w).grown r2 hbase (fun k hk => by rw [hv] at hk; cases hk), keeps_of r2 (Or.inr rfl) (fun g hg => Or.inr (hO.lt hg).1)⟩
    · by_cases hroom : zs.length + ys.length ≤ cap
      · rw [hv] at hown
        obtain ⟨w', hrun, r1, r2⟩ := run_append_fits (P := Tryz.prog) w base 36 ty 3 i0 1 Tryz.underlying36 hi hz1 g zs.length cap (zs.map (Value.int .i64)) hown ad ys.length c (ys.map (Value.int .i64)) (by simp) hcs (ints_oneCell _ _) hroom
        exact ⟨_, w', by rw [hv]; exact hrun, mk r1, (Below.refl base w).grown r2 hbase (fun k hk => by cases hk; exact hg), keeps_of r2 (Or.inr (by rw [hv]; rfl)) (fun g' hg' => Or.inl (by rw [hv]; exact hg'))⟩
      · have hown' := hown
        rw [hv] at hown'
        obtain ⟨v', w', hrun, r1, r2⟩ := run_append_arg_grows (P := Tryz.prog) w 36 ty 3 i0 (.int .i64 0) 1 8 Tryz.underlying36 hi hz0 hz1 hz2 rfl (by decide) ⟨g, 0, none⟩ zs.length cap (zs.map (Value.int .i64)) (by simp)
          (fun j u hj => by
            have hj' : j < zs.length := by have := (List.getElem?_eq_some_iff.1 hj).1; simpa using this
            rw [Addr.add_lit, Nat.zero_add, World.ownsRow.cellAt hown' j (by omega)]; exact hj)
          ad ys.length c (ys.map (Value.int .i64)) (by simp) hcs (by omega) (by unfold maxLen; omega) (by omega)
        have hO : Owns w' w.heap.size v' (zs ++ ys) := mk r1
        exact ⟨v', w', by rw [hv]; exact hrun, hO.mono hbase, (Below.refl base w).grown r2 hbase (fun k hk => by cases hk), keeps_of r2 (Or.inl rfl) (fun g hg => Or.inr (hO.lt hg).1)⟩

/-- The law in the walk. -/
theorem append_src {w : World} {base : Nat} {v : Value} {zs ys : List Int} {ad : Option Addr} {m c : Nat} {ops : Array Oper} {rest : List Oper} {o : Oper} {a : Act} {Q : Exit → Act → World → Prop} (hgd : o.guard = none) (s y : Operand)
    (ho : o.op = .call { callee := .builtin .append, args := #[s, y], argTypes := #[36, 36] }) (hs : a.eval s = v) (hx : a.eval y = .slice ad m c) (hown : Owns w base v zs) (hsrc : Shows w ad ys) (hm : m = ys.length) (hn : ad = none → ys = [] ∧ c = 0)
    (hl : zs.length + ys.length ≤ 17592186044414) (hbase : base ≤ w.heap.size)
    (h : ∀ v' w', Owns w' base v' (zs ++ ys) → Below base w w' → Keeps base v v' w w' → wpList Tryz.prog ops Q rest (a.put o.dst v') w') :
    wpList Tryz.prog ops Q (o :: rest) a w := by
  subst hm
  refine wpList_plain hgd fun K hK => ?_
  obtain ⟨v', w', hrun, r1, r2, r3⟩ := run_append_src o.type hown hsrc hn hl hbase
  unfold Oper.wp
  simp [execOp, ho, resolve, invoke, builtin, hs, hx, hrun, Result.andThen]
  exact hK _ _ (h v' w' r1 r2 r3)

/-- The law in a region that draws its order. -/
theorem step_src {w : World} {base : Nat} {v : Value} {zs ys : List Int} {ad : Option Addr} {m c : Nat} {ops : Array Oper} {o : Oper} {a : Act} {K : Act → World → Prop} {Q : Exit → Act → World → Prop} {E : Prop} (hgd : o.guard = none) (s y : Operand)
    (ho : o.op = .call { callee := .builtin .append, args := #[s, y], argTypes := #[36, 36] }) (hs : a.eval s = v) (hx : a.eval y = .slice ad m c) (hown : Owns w base v zs) (hsrc : Shows w ad ys) (hm : m = ys.length) (hn : ad = none → ys = [] ∧ c = 0)
    (hl : zs.length + ys.length ≤ 17592186044414) (hbase : base ≤ w.heap.size)
    (h : ∀ v' w', Owns w' base v' (zs ++ ys) → Below base w w' → Keeps base v v' w w' → K (a.put o.dst v') w') :
    if Region.wanted o (yielded ops a.tmps) = true then Oper.wp Tryz.prog o a w K Q else E := by
  subst hm
  have hw : Region.wanted o (yielded ops a.tmps) = true := by simp [Region.wanted, hgd]
  rw [if_pos hw]
  obtain ⟨v', w', hrun, r1, r2, r3⟩ := run_append_src o.type hown hsrc hn hl hbase
  unfold Oper.wp
  simp [execOp, ho, resolve, invoke, builtin, hs, hx, hrun, Result.andThen]
  exact h v' w' r1 r2 r3

/-- 'append(out, x)', the new block's number said by the caller. -/
theorem append_int_at {w : World} {base N : Nat} {v : Value} {zs : List Int} {x : Int} {ops : Array Oper} {rest : List Oper} {o : Oper} {a : Act} {Q : Exit → Act → World → Prop} (hgd : o.guard = none) (s y : Operand)
    (ho : o.op = .call { callee := .builtin .append, args := #[s, y], argTypes := #[36, 36] }) (hs : a.eval s = v) (hx : a.eval y = .slice (some ⟨N, 0, none⟩) 1 1) (hN : N = w.heap.size) (hown : Owns w base v zs)
    (hl : zs.length ≤ 17592186044414) (hbase : base ≤ w.heap.size)
    (h : ∀ v' w', Owns w' base v' (zs ++ [x]) → Below base w w' → Keeps base v v' w w' → wpList Tryz.prog ops Q rest (a.put o.dst v') w') :
    wpList Tryz.prog ops Q (o :: rest) a (w.alloc (.cells #[.int .i64 x] 3)) := by
  subst hN
  exact append_int_own hgd s y ho hs hown hx hl hbase h

end Go.Proofs.YtgcpconlmihilaaGreatDoor

namespace Go.Proofs.YtgcpconlmihilaaGreatDoor
open Go.RowKit

/-- The address a shows the rows ls. -/
def Table (w : World) (a : Option Addr) (ls : List (List Int)) : Prop := ∀ i, i < ls.length → ∃ b off ai ci, a = some ⟨b, off, none⟩ ∧ b < w.heap.size ∧ w.cell? ⟨b, off + i, none⟩ = some (.slice ai (ls.getD i []).length ci) ∧ Shows w ai (ls.getD i []) ∧ (ai = none → ls.getD i [] = [] ∧ ci = 0)

theorem Table.below {w w' : World} {a : Option Addr} {ls : List (List Int)} (h : Table w a ls) (hb : Below w.heap.size w w') : Table w' a ls := fun i hi => by
  obtain ⟨b, off, ai, ci, h1, h2, h3, h4, h5⟩ := h i hi
  exact ⟨b, off, ai, ci, h1, Nat.lt_of_lt_of_le h2 hb.size, (hb.cell h2).trans h3, h4.below hb, h5⟩

theorem take_flat (ls : List (List Int)) (k : Nat) (hk : k < ls.length) : (ls.take (k + 1)).flatten = (ls.take k).flatten ++ ls.getD k [] := by
  rw [List.take_succ_eq_append_getElem hk, List.flatten_append]
  simp [List.getD, List.getElem?_eq_getElem hk]
theorem take_flat_le (ls : List (List Int)) (k : Nat) : (ls.take k).flatten.length ≤ ls.flatten.length := by
  conv => rhs; rw [← List.take_append_drop k ls]
  rw [List.flatten_append, List.length_append]; omega

set_option maxHeartbeats 2000000 in
theorem Joined_any (a : Option Addr) (cap : Nat) (ls : List (List Int)) (w : World) (hs : Table w a ls) (hl : ls.length ≤ 2000000) (hf : ls.flatten.length ≤ 2000000) :
    Calls Tryz.prog 52 #[.slice a ls.length cap] w fun e w' => ∃ v, e = .returned v ∧ Owns w' w.heap.size v ls.flatten ∧ Below w.heap.size w w' := by
  have HF : Hid (ls.flatten.length ≤ 2000000) := hf
  have HS : Hid (Table w a ls) := hs
  clear hf hs
  go_enter Tryz.func52, Tryz.ntmps52
  go_wp2
  go_loopw [3, 4] (fun v i wr => ∃ k : Nat, k ≤ ls.length ∧ i = .int .i64 k ∧ Hid (Owns wr w.heap.size v (ls.take k).flatten) ∧ Hid (Below w.heap.size w wr)) (fun _ i _ => ls.length - (intOf i).toNat)
  case atStart => exact ⟨0, Nat.zero_le _, rfl, World.ownsRow_nil _ _ _ _, Below.refl _ _⟩
  case round =>
    obtain ⟨k, hk, rfl, HO, HB⟩ := hrel
    by_cases hlt : k < ls.length
    · have hlt' : (k : Int) < (ls.length : Int) := by omega
      obtain ⟨b, off, ai, ci, rfl, -, hc, hS, hN⟩ := (HS.out.below HB.out) k hlt
      have hT := take_flat ls k hlt
      obtain ⟨r, hr⟩ : ∃ r, r = ls.getD k [] := ⟨_, rfl⟩
      rw [← hr] at hc hS hN hT
      clear hr
      have HSk : Hid (Shows wr ai r) := hS
      have HNk : Hid (ai = none → r = [] ∧ ci = 0) := hN
      obtain ⟨m, HM⟩ : ∃ m, Hid (m = r.length) := ⟨_, rfl⟩
      rw [← HM.out] at hc
      have HT : Hid ((ls.take (k + 1)).flatten = (ls.take k).flatten ++ r) := hT
      clear hT
      clear hS hN
      go_wp2_with (at_builtin; refine append_src rfl _ _ rfl rfl rfl HO.out HSk.out HM.out HNk.out ?c1 ?c2 ?_)
      case c1 =>
        have h1 := take_flat_le ls (k + 1)
        rw [HT.out, List.length_append] at h1
        have := HF.out; omega
      case c2 => exact HB.out.size
      intro v' w' hO hb _
      have HO' : Hid (Owns w' w.heap.size v' (ls.take (k + 1)).flatten) := by show Owns _ _ _ _; rw [HT.out]; exact hO
      have HB' : Hid (Below w.heap.size w w') := HB.out.trans hb
      clear hO hb
      go_wp2
      go_roundw
      case rel => exact ⟨k + 1, by omega, by go_num, HO', HB'⟩
      case measure => simp [intOf]; omega
    · obtain rfl : k = ls.length := by omega
      have HE : Hid (Owns wr w.heap.size u3 ls.flatten) := by have := HO.out; rw [List.take_length] at this; exact this
      go_wp2
      go_ret
      exact ⟨_, rfl, HE.out, HB.out⟩

theorem Joined_ok (a : Option Addr) (cap : Nat) (ls : List (List Int)) (w : World) (hs : Table w a ls) (hl : ls.length ≤ 1000000) (hf : ls.flatten.length ≤ 1000000) :
    Calls Tryz.prog 52 #[.slice a ls.length cap] w fun e w' => ∃ v, e = .returned v ∧ Owns w' w.heap.size v ls.flatten ∧ Below w.heap.size w w' := Joined_any a cap ls w hs (by omega) (by omega)
theorem Joined_is (a : Option Addr) (n cap : Nat) (ls : List (List Int)) (w : World) (hs : Table w a ls) (hn : n = ls.length) (hl : ls.length ≤ 2000000) (hf : ls.flatten.length ≤ 2000000) :
    Calls Tryz.prog 52 #[.slice a n cap] w fun e w' => ∃ v, e = .returned v ∧ Owns w' w.heap.size v ls.flatten ∧ Below w.heap.size w w' := by
  subst hn; exact Joined_any a cap ls w hs hl hf

end Go.Proofs.YtgcpconlmihilaaGreatDoor

namespace Go.Proofs.YtgcpconlmihilaaGreatDoor
open Go.RowKit


theorem ownsRow_down {w : World} {lo lo' : Nat} {e : TypeId} {s n : Nat} {v : Value} {xs : List Value} (h : w.ownsRow lo e s v n xs) (hl : lo' ≤ lo) : w.ownsRow lo' e s v n xs := by
  obtain ⟨h1, h2⟩ := h
  refine ⟨h1, ?_⟩
  rcases h2 with h2 | ⟨g, cap, cur, hv, hg, r⟩
  · exact Or.inl h2
  · exact Or.inr ⟨g, cap, cur, hv, by omega, r⟩

/-- What an append leaves as it was, block by block, and where the new slice lies. -/
structure KeepB (v v' : Value) (w w' : World) : Prop where
  size : w.heap.size ≤ w'.heap.size
  block : ∀ k, k < w.heap.size → v.ownBlock ≠ some k → w'.heap[k]? = w.heap[k]?
  lies : ∀ g, v'.ownBlock = some g → v.ownBlock = some g ∨ w.heap.size ≤ g

theorem keepB_of {v v' : Value} {w w' : World} {r : Option Nat} (hg : w.grownBy w' r) (hrow : r = none ∨ r = v.ownBlock) (hv : ∀ g, v'.ownBlock = some g → v.ownBlock = some g ∨ w.heap.size ≤ g) : KeepB v v' w w' := by
  refine ⟨hg.size, fun k hk hn => hg.block k hk ?_, hv⟩
  rcases hrow with h | h
  · rw [h]; simp
  · rw [h]; exact fun e => hn e.symm

/-- The facts of an element type of one cell. -/
structure Elem (T E : TypeId) (z : Value) (bytes : Nat) : Prop where
  under : Tryz.prog.underlying T = some (.slice E)
  info : (Tryz.prog.info? E).map (fun i => (i.zero, i.size, i.bytes)) = some (some z, 1, bytes)
  cells : z.cells.size = 1
theorem elem_int : Elem 36 3 (.int .i64 0) 8 := ⟨Tryz.underlying36, Tryz.info3, rfl⟩

theorem run_append_kb {T E : TypeId} {z : Value} {bytes : Nat} (he : Elem T E z bytes) {w : World} {base : Nat} {v : Value} {xs news : List Value} (ty : TypeId) (hown : w.ownsRow base E 1 v xs.length xs) (ad : Addr) (c : Nat)
    (hnews : ∀ j u, news[j]? = some u → w.cell? (ad.add j) = some u) (hone : ∀ u ∈ news, u.oneCell' = true) (h63 : xs.length + news.length ≤ maxLen) (hl : (xs.length + news.length) * bytes ≤ 140737488355328) (hbase : base ≤ w.heap.size) :
    ∃ v' w', (Builtin.append_ #[T, T] ty #[v, .slice (some ad) news.length c]).run Tryz.prog w = .ok v' w' ∧ w'.ownsRow base E 1 v' (xs ++ news).length (xs ++ news) ∧ Below base w w' ∧ KeepB v v' w w' := by
  obtain ⟨i0, hi, hz0, hz1, hz2⟩ := info_parts he.info
  rcases hown.2 with ⟨hv, h0⟩ | ⟨g, cap, cur, hv, hg, hh, hnc, hcm, hcs', htk⟩
  · obtain rfl : xs = [] := List.eq_nil_of_length_eq_zero h0
    obtain ⟨v', w', hrun, r1, r2, _⟩ := run_append_own (P := Tryz.prog) w w.heap.size T ty E i0 z 1 bytes he.under hi hz0 hz1 hz2 he.cells (by decide) v 0 [] (by rw [hv]; exact World.ownsRow_nil _ _ _ _) ad news.length c news (by simp) hnews hone (by simpa using h63) (by simpa using hl) (Nat.le_refl _)
    have r1' : w'.ownsRow w.heap.size E 1 v' ([] ++ news).length ([] ++ news) := by simpa using r1
    exact ⟨v', w', hrun, ownsRow_down r1' hbase, (Below.refl base w).grown r2 hbase (fun k hk => by rw [hv] at hk; cases hk), keepB_of r2 (Or.inr rfl) (fun g hg => Or.inr (r1'.lt g hg).1)⟩
  · by_cases hroom : xs.length + news.length ≤ cap
    · rw [hv] at hown
      obtain ⟨w', hrun, r1, r2⟩ := run_append_fits (P := Tryz.prog) w base T ty E i0 1 he.under hi hz1 g xs.length cap xs hown ad news.length c news (by simp) hnews hone hroom
      exact ⟨_, w', by rw [hv]; exact hrun, by rw [List.length_append]; exact r1, (Below.refl base w).grown r2 hbase (fun k hk => by cases hk; exact hg), keepB_of r2 (Or.inr (by rw [hv]; rfl)) (fun g' hg' => Or.inl (by rw [hv]; exact hg'))⟩
    · have hown' := hown
      rw [hv] at hown'
      obtain ⟨v', w', hrun, r1, r2⟩ := run_append_arg_grows (P := Tryz.prog) w T ty E i0 z 1 bytes he.under hi hz0 hz1 hz2 he.cells (by decide) ⟨g, 0, none⟩ xs.length cap xs (by simp)
        (fun j u hj => by
          have hj' : j < xs.length := (List.getElem?_eq_some_iff.1 hj).1
          rw [Addr.add_lit, Nat.zero_add, World.ownsRow.cellAt hown' j (by omega)]; exact hj)
        ad news.length c news (by simp) hnews (by omega) h63 hl
      have r1' : w'.ownsRow w.heap.size E 1 v' (xs ++ news).length (xs ++ news) := by rw [List.length_append]; exact r1
      exact ⟨v', w', by rw [hv]; exact hrun, ownsRow_down r1' hbase, (Below.refl base w).grown r2 hbase (fun k hk => by cases hk), keepB_of r2 (Or.inl rfl) (fun g hg => Or.inr (r1'.lt g hg).1)⟩

/-- One element, laid into a new block just before. -/
theorem run_append_one {T E : TypeId} {z : Value} {bytes : Nat} (he : Elem T E z bytes) {w : World} {base N : Nat} {v x : Value} {xs : List Value} (ty : TypeId) (hown : w.ownsRow base E 1 v xs.length xs) (hN : N = w.heap.size)
    (hx : x.oneCell' = true) (h63 : xs.length + 1 ≤ maxLen) (hl : (xs.length + 1) * bytes ≤ 140737488355328) (hbase : base ≤ w.heap.size) :
    ∃ v' w', (Builtin.append_ #[T, T] ty #[v, .slice (some ⟨N, 0, none⟩) 1 1]).run Tryz.prog (w.alloc (.cells #[x] E)) = .ok v' w' ∧ w'.ownsRow base E 1 v' (xs ++ [x]).length (xs ++ [x]) ∧ Below base w w' ∧ KeepB v v' w w' := by
  subst hN
  have hnew : ∀ j u, [x][j]? = some u → (w.alloc (.cells #[x] E)).cell? ((⟨w.heap.size, 0, none⟩ : Addr).add j) = some u := by
    intro j u hj
    match j, hj with
    | 0, hj => simp at hj; subst hj; rw [Addr.add_lit, World.cell?_alloc_at _ _ _ _ rfl]; rfl
  obtain ⟨v', w', hrun, r1, r2, r3⟩ := run_append_kb he ty (hown.alloc (.cells #[x] E)) ⟨w.heap.size, 0, none⟩ 1 hnew (fun u hu => by simp at hu; subst hu; exact hx) h63 hl (by simp; omega)
  refine ⟨v', w', hrun, r1, ((Below.refl base w).alloc hbase _).trans r2, ⟨?_, fun k hk hn => ?_, fun g hg => ?_⟩⟩
  · have := r3.size; simp at this; omega
  · rw [r3.block k (by simp; omega) hn]; exact Below.heap_alloc w _ k hk
  · rcases r3.lies g hg with h | h
    · exact Or.inl h
    · right; simp at h; omega

theorem append_one {T E : TypeId} {z : Value} {bytes : Nat} (he : Elem T E z bytes) {w : World} {base N : Nat} {v x : Value} {xs : List Value} {ops : Array Oper} {rest : List Oper} {o : Oper} {a : Act} {Q : Exit → Act → World → Prop} (hgd : o.guard = none) (s y : Operand)
    (ho : o.op = .call { callee := .builtin .append, args := #[s, y], argTypes := #[T, T] }) (hs : a.eval s = v) (hx : a.eval y = .slice (some ⟨N, 0, none⟩) 1 1) (hN : N = w.heap.size) (hown : w.ownsRow base E 1 v xs.length xs) (hx1 : x.oneCell' = true)
    (h63 : xs.length + 1 ≤ maxLen) (hl : (xs.length + 1) * bytes ≤ 140737488355328) (hbase : base ≤ w.heap.size)
    (h : ∀ v' w', w'.ownsRow base E 1 v' (xs ++ [x]).length (xs ++ [x]) → Below base w w' → KeepB v v' w w' → wpList Tryz.prog ops Q rest (a.put o.dst v') w') :
    wpList Tryz.prog ops Q (o :: rest) a (w.alloc (.cells #[x] E)) := by
  refine wpList_plain hgd fun K hK => ?_
  obtain ⟨v', w', hrun, r1, r2, r3⟩ := run_append_one he o.type hown hN hx1 h63 hl hbase
  unfold Oper.wp
  simp [execOp, ho, resolve, invoke, builtin, hs, hx, hrun, Result.andThen]
  exact hK _ _ (h v' w' r1 r2 r3)

/-- The same in a region that draws its order. -/
theorem step_one {T E : TypeId} {z : Value} {bytes : Nat} (he : Elem T E z bytes) {w : World} {base N : Nat} {v x : Value} {xs : List Value} {ops : Array Oper} {o : Oper} {a : Act} {K : Act → World → Prop} {Q : Exit → Act → World → Prop} {EE : Prop} (hgd : o.guard = none) (s y : Operand)
    (ho : o.op = .call { callee := .builtin .append, args := #[s, y], argTypes := #[T, T] }) (hs : a.eval s = v) (hx : a.eval y = .slice (some ⟨N, 0, none⟩) 1 1) (hN : N = w.heap.size) (hown : w.ownsRow base E 1 v xs.length xs) (hx1 : x.oneCell' = true)
    (h63 : xs.length + 1 ≤ maxLen) (hl : (xs.length + 1) * bytes ≤ 140737488355328) (hbase : base ≤ w.heap.size)
    (h : ∀ v' w', w'.ownsRow base E 1 v' (xs ++ [x]).length (xs ++ [x]) → Below base w w' → KeepB v v' w w' → K (a.put o.dst v') w') :
    if Region.wanted o (yielded ops a.tmps) = true then Oper.wp Tryz.prog o a (w.alloc (.cells #[x] E)) K Q else EE := by
  have hw : Region.wanted o (yielded ops a.tmps) = true := by simp [Region.wanted, hgd]
  rw [if_pos hw]
  obtain ⟨v', w', hrun, r1, r2, r3⟩ := run_append_one he o.type hown hN hx1 h63 hl hbase
  unfold Oper.wp
  simp [execOp, ho, resolve, invoke, builtin, hs, hx, hrun, Result.andThen]
  exact h v' w' r1 r2 r3

theorem owns_of_vals {w : World} {base : Nat} {v : Value} {zs : List Int} {x : Int} (h : w.ownsRow base 3 1 v (zs.map (Value.int .i64) ++ [Value.int .i64 x]).length (zs.map (Value.int .i64) ++ [Value.int .i64 x])) : Owns w base v (zs ++ [x]) := by
  unfold Owns
  rw [List.map_append, List.length_append]
  simpa using h
theorem vals_of_owns {w : World} {base : Nat} {v : Value} {zs : List Int} (h : Owns w base v zs) : w.ownsRow base 3 1 v (zs.map (Value.int .i64)).length (zs.map (Value.int .i64)) := by
  rw [List.length_map]; exact h

theorem ownsRow_blocks {w w' : World} {lo : Nat} {e : TypeId} {s n : Nat} {v : Value} {xs : List Value} (h : w.ownsRow lo e s v n xs) (hk : ∀ k, v.ownBlock = some k → w'.heap[k]? = w.heap[k]?) : w'.ownsRow lo e s v n xs := by
  obtain ⟨h1, h2⟩ := h
  refine ⟨h1, ?_⟩
  rcases h2 with h2 | ⟨g, cap, cur, hv, hg, hh, r⟩
  · exact Or.inl h2
  · exact Or.inr ⟨g, cap, cur, hv, hg, by rw [hk g (by rw [hv]; rfl)]; exact hh, r⟩

end Go.Proofs.YtgcpconlmihilaaGreatDoor

namespace Go.Proofs.YtgcpconlmihilaaGreatDoor
open Go.RowKit


theorem Tryz.info22 : (Tryz.prog.info? 36).map (fun i => (i.zero, i.size, i.bytes)) = some (some (.slice none 0 0), 1, 24) := by kernel_rfl
theorem elem_row : Elem 22 36 (.slice none 0 0) 24 := ⟨Tryz.underlying22, Tryz.info22, rfl⟩

/-- The value of row i. -/
def rowv (vs : List Value) (i : Nat) : Value := vs.getD i (.slice none 0 0)

/-- v owns the rows ls, in blocks from lo on, no two in one block; vs are the rows' values. -/
structure TblV (w : World) (lo : Nat) (v : Value) (vs : List Value) (ls : List (List Int)) : Prop where
  own : w.ownsRow lo 36 1 v vs.length vs
  len : vs.length = ls.length
  rows : ∀ i, i < ls.length → Owns w lo (rowv vs i) (ls.getD i [])
  apart : ∀ i j, i < ls.length → j < ls.length → i ≠ j → Apart (rowv vs i) (rowv vs j)
  off : ∀ i, i < ls.length → Apart v (rowv vs i)
def Tbl (w : World) (lo : Nat) (v : Value) (ls : List (List Int)) : Prop := ∃ vs, TblV w lo v vs ls

theorem Tbl.nil (w : World) (lo : Nat) : Tbl w lo (.slice none 0 0) [] := ⟨[], World.ownsRow_nil _ _ _ _, rfl, fun i h => absurd h (by simp), fun i _ h => absurd h (by simp), fun i h => absurd h (by simp)⟩
theorem TblV.same {w w' : World} {lo : Nat} {v : Value} {vs : List Value} {ls : List (List Int)} (h : TblV w lo v vs ls) (hk : ∀ k, lo ≤ k → k < w.heap.size → w'.heap[k]? = w.heap[k]?) : TblV w' lo v vs ls :=
  ⟨ownsRow_blocks h.own (fun k e => by have := h.own.lt k e; exact hk k this.1 this.2), h.len, fun i hi => ownsRow_blocks (h.rows i hi) (fun k e => by have := (h.rows i hi).lt e; exact hk k this.1 this.2), h.apart, h.off⟩
theorem Tbl.same {w w' : World} {lo : Nat} {v : Value} {ls : List (List Int)} (h : Tbl w lo v ls) (hk : ∀ k, lo ≤ k → k < w.heap.size → w'.heap[k]? = w.heap[k]?) : Tbl w' lo v ls := by
  obtain ⟨vs, h⟩ := h; exact ⟨vs, h.same hk⟩
theorem Tbl.below {w w' : World} {lo : Nat} {v : Value} {ls : List (List Int)} (h : Tbl w lo v ls) (hb : Below w.heap.size w w') : Tbl w' lo v ls := h.same (fun k _ hk => hb.block k hk)
theorem Tbl.drewN {w : World} {lo : Nat} {v : Value} {ls : List (List Int)} (h : Tbl w lo v ls) (n : Nat) : Tbl (w.drewN n) lo v ls := h.same (fun _ _ _ => rfl)
theorem Tbl.mono {w : World} {lo lo' : Nat} {v : Value} {ls : List (List Int)} (h : Tbl w lo v ls) (hl : lo' ≤ lo) : Tbl w lo' v ls := by
  obtain ⟨vs, h⟩ := h
  exact ⟨vs, ownsRow_down h.own hl, h.len, fun i hi => (h.rows i hi).mono hl, h.apart, h.off⟩

theorem rowv_get {vs : List Value} {i : Nat} (h : i < vs.length) : vs[i]? = some (rowv vs i) := by simp [rowv, List.getD, List.getElem?_eq_getElem h]
theorem owns_one {w : World} {base : Nat} {v : Value} {zs : List Int} (h : Owns w base v zs) : v.oneCell' = true := by
  obtain ⟨a, cap, rfl⟩ := h.shape; rfl

/-- As an argument it is a table. -/
theorem Tbl.table {w : World} {lo : Nat} {v : Value} {ls : List (List Int)} (h : Tbl w lo v ls) (hl : ∀ l ∈ ls, l.length ≤ 17592186044416 ∧ ∀ z ∈ l, -9223372036854775808 ≤ z ∧ z ≤ 9223372036854775807) :
    ∃ a n cap, v = .slice a n cap ∧ Table w a ls ∧ Hid (n = ls.length) := by
  obtain ⟨vs, h⟩ := h
  have h0 := h.own
  rcases h.own.2 with ⟨hv, hn⟩ | ⟨g, cap, cur, hv, hg, hh, _⟩
  · exact ⟨none, 0, 0, hv, fun i hi => by have := h.len; omega, by show _ = _; have := h.len; omega⟩
  · rw [hv] at h0
    refine ⟨_, _, cap, hv, fun i hi => ?_, h.len⟩
    have ho := h.rows i hi
    have hm : ls.getD i [] ∈ ls := by simp [List.getD, List.getElem?_eq_getElem hi]
    obtain ⟨ai, ci, hui, hS⟩ := ho.shows (hl _ hm).1 (hl _ hm).2
    refine ⟨g, 0, ai, ci, rfl, (Array.getElem?_eq_some_iff.1 hh).1, ?_, hS, fun hn => ?_⟩
    · rw [Nat.zero_add, World.ownsRow.cellAt h0 i (by have := h.len; omega), rowv_get (by have := h.len; omega), hui]
    · subst hn
      rcases ho.2 with ⟨h3, h4⟩ | ⟨g3, cap3, cur3, h3, _⟩
      · rw [hui] at h3
        simp only [Value.slice.injEq] at h3
        exact ⟨List.eq_nil_of_length_eq_zero h4, h3.2.2⟩
      · rw [hui] at h3; simp at h3

/-- Opened: its block, and each row's cell. -/
theorem TblV.head {w : World} {lo : Nat} {v : Value} {vs : List Value} {ls : List (List Int)} (h : TblV w lo v vs ls) (h0 : 0 < ls.length) :
    ∃ g n cap, v = .slice (some ⟨g, 0, none⟩) n cap ∧ Hid (n = ls.length) ∧ lo ≤ g ∧ g < w.heap.size ∧ (∀ j, w.frozen? ⟨g, j, none⟩ = false) ∧ ∀ i, i < ls.length → w.cell? ⟨g, i, none⟩ = some (rowv vs i) := by
  have h1 := h.own
  rcases h.own.2 with ⟨hv, hn⟩ | ⟨g, cap, cur, hv, hg, hh, _⟩
  · have := h.len; omega
  · rw [hv] at h1
    refine ⟨g, _, cap, hv, h.len, hg, (Array.getElem?_eq_some_iff.1 hh).1, fun j => World.ownsRow.frozenAt h1 j, fun i hi => ?_⟩
    rw [World.ownsRow.cellAt h1 i (by have := h.len; omega), rowv_get (by have := h.len; omega)]

theorem getD_set_rows (ls : List (List Int)) (i : Nat) (zs : List Int) (j : Nat) (hj : j < ls.length) : (ls.set i zs).getD j [] = if j = i then zs else ls.getD j [] := by
  simp only [List.getD, List.getElem?_set]
  by_cases h : i = j
  · subst h; simp [hj]
  · rw [if_neg h, if_neg (fun e => h e.symm)]
theorem rowv_set (vs : List Value) (i : Nat) (u : Value) (j : Nat) (hj : j < vs.length) : rowv (vs.set i u) j = if j = i then u else rowv vs j := by
  simp only [rowv, List.getD, List.getElem?_set]
  by_cases h : i = j
  · subst h; simp [hj]
  · rw [if_neg h, if_neg (fun e => h e.symm)]

theorem Apart.of_block {v u : Value} (h : ∀ g k, v.ownBlock = some g → u.ownBlock = some k → g ≠ k) : Apart v u := fun g h1 h2 => h g g h1 h2 rfl

/-- Row i becomes u, which was made out of row i's old value (or is new). -/
theorem TblV.setRow {w w' : World} {lo g n cap i : Nat} {vs : List Value} {ls : List (List Int)} {u : Value} {zs : List Int} (h : TblV w lo (.slice (some ⟨g, 0, none⟩) n cap) vs ls) (hi : i < ls.length) (hu : Owns w' lo u zs) (hk : KeepB (rowv vs i) u w w') :
    TblV (w'.setCell ⟨g, i, none⟩ u) lo (.slice (some ⟨g, 0, none⟩) n cap) (vs.set i u) (ls.set i zs) := by
  have hg := h.own.lt g rfl
  have hlen := h.len
  have hoff : (rowv vs i).ownBlock ≠ some g := fun e => h.off i hi g rfl e
  have hown' : w'.ownsRow lo 36 1 (.slice (some ⟨g, 0, none⟩) n cap) vs.length vs := ownsRow_blocks h.own (fun k e => by cases e; exact hk.block g hg.2 hoff)
  have hnn : vs.length = n := by
    rcases h.own.2 with ⟨hv, _⟩ | ⟨g', cap', cur, hv, _⟩
    · cases hv
    · simp only [Value.slice.injEq] at hv; exact hv.2.1.symm
  have hug : ∀ k, u.ownBlock = some k → k ≠ g := fun k e e2 => by
    subst e2
    rcases hk.lies k e with h1 | h1
    · exact hoff h1
    · omega
  have hrow : ∀ j, j < ls.length → j ≠ i → Owns w' lo (rowv vs j) (ls.getD j []) := fun j hj hji =>
    ownsRow_blocks (h.rows j hj) (fun k e => hk.block k ((h.rows j hj).lt e).2 (fun e2 => h.apart j i hj hi hji k e e2))
  have hua : ∀ j, j < ls.length → j ≠ i → Apart u (rowv vs j) := fun j hj hji k e e2 => by
    rcases hk.lies k e with h1 | h1
    · exact h.apart i j hi hj (fun e => hji e.symm) k h1 e2
    · have := ((h.rows j hj).lt e2).2; omega
  have hset : ∀ (x : Value) (l : List Int), Owns w' lo x l → (∀ k, x.ownBlock = some k → k ≠ g) → Owns (w'.setCell ⟨g, i, none⟩ u) lo x l := fun x l hx hne =>
    ownsRow_blocks hx (fun k e => heap_setCell_other _ _ _ _ (hne k e))
  refine ⟨?_, by simp [hlen], fun j hj => ?_, fun j k hj hkk hjk => ?_, fun j hj => ?_⟩
  · subst hnn
    have := (World.ownsRow.stored hown' i u).1
    simpa using this
  · rw [List.length_set] at hj
    rw [getD_set_rows _ _ _ _ hj, rowv_set _ _ _ _ (by omega)]
    by_cases e : j = i
    · rw [if_pos e, if_pos e]; exact hset u zs hu hug
    · rw [if_neg e, if_neg e]; exact hset _ _ (hrow j hj e) (fun k ek e2 => by subst e2; exact h.off j hj k rfl ek)
  · rw [List.length_set] at hj hkk
    rw [rowv_set _ _ _ _ (by omega), rowv_set _ _ _ _ (by omega)]
    by_cases e : j = i
    · rw [if_pos e, if_neg (by omega)]; exact hua k hkk (by omega)
    · rw [if_neg e]
      by_cases e2 : k = i
      · rw [if_pos e2]; exact (hua j hj e).symm
      · rw [if_neg e2]; exact h.apart j k hj hkk hjk
  · rw [List.length_set] at hj
    rw [rowv_set _ _ _ _ (by omega)]
    by_cases e : j = i
    · rw [if_pos e]; intro k h1 h2; cases h1; exact hug _ h2 rfl
    · rw [if_neg e]; exact h.off j hj

/-- Row i's own block holds something else. -/
theorem TblV.refill {w w' : World} {lo i : Nat} {v : Value} {vs : List Value} {ls : List (List Int)} {zs : List Int} (ht : TblV w lo v vs ls) (hi : i < ls.length) (hk : ∀ q, (rowv vs i).ownBlock ≠ some q → q < w.heap.size → w'.heap[q]? = w.heap[q]?) (ho : Owns w' lo (rowv vs i) zs) : TblV w' lo v vs (ls.set i zs) := by
  refine ⟨ownsRow_blocks ht.own (fun k e => hk k (fun e2 => ht.off i hi k e e2) (ht.own.lt k e).2), by simp [ht.len], fun k hk' => ?_, fun a b ha hb hab => ?_, fun a ha => ?_⟩
  · rw [List.length_set] at hk'
    rw [getD_set_rows _ _ _ _ hk']
    by_cases e : k = i
    · subst e; rw [if_pos rfl]; exact ho
    · rw [if_neg e]
      exact ownsRow_blocks (ht.rows k hk') (fun q eq => hk q (fun e2 => ht.apart k i hk' hi e q eq e2) ((ht.rows k hk').lt eq).2)
  · rw [List.length_set] at ha hb; exact ht.apart a b ha hb hab
  · rw [List.length_set] at ha; exact ht.off a ha

/-- A store into row i. -/
theorem TblV.storeBox {w : World} {lo i h c m : Nat} {v : Value} {vs : List Value} {ls : List (List Int)} (ht : TblV w lo v vs ls) (hi : i < ls.length) (hv : rowv vs i = .slice (some ⟨h, 0, none⟩) m c) (hm : m = (ls.getD i []).length) (j : Nat) (x : Int) :
    TblV (w.setCell ⟨h, j, none⟩ (.int .i64 x)) lo v vs (ls.set i ((ls.getD i []).set j x)) := by
  have hr := ht.rows i hi
  rw [hv] at hr
  refine ⟨ownsRow_blocks ht.own (fun k e => heap_setCell_other _ _ _ _ (fun e2 => by subst e2; exact ht.off i hi _ e (by rw [hv]; rfl))), by simp [ht.len], fun k hk => ?_, fun a b ha hb hab => ?_, fun a ha => ?_⟩
  · rw [List.length_set] at hk
    rw [getD_set_rows _ _ _ _ hk]
    by_cases e : k = i
    · subst e
      rw [if_pos rfl, hv]; exact hr.store hm j x
    · rw [if_neg e]
      exact ownsRow_blocks (ht.rows k hk) (fun q eq => heap_setCell_other _ _ _ _ (fun e2 => by subst e2; exact ht.apart k i hk hi e _ eq (by rw [hv]; rfl)))
  · rw [List.length_set] at ha hb; exact ht.apart a b ha hb hab
  · rw [List.length_set] at ha; exact ht.off a ha

theorem rowv_push (vs : List Value) (u : Value) (j : Nat) : rowv (vs ++ [u]) j = if j < vs.length then rowv vs j else if j = vs.length then u else .slice none 0 0 := by
  simp only [rowv, List.getD, List.getElem?_append]
  by_cases h : j < vs.length
  · rw [if_pos h, if_pos h]
  · rw [if_neg h, if_neg h]
    by_cases e : j = vs.length
    · subst e; simp
    · rw [if_neg e, List.getElem?_eq_none (by simp; omega)]; rfl
theorem getD_push (ls : List (List Int)) (zs : List Int) (j : Nat) (hj : j < ls.length + 1) : (ls ++ [zs]).getD j [] = if j < ls.length then ls.getD j [] else zs := by
  simp only [List.getD, List.getElem?_append]
  by_cases h : j < ls.length
  · rw [if_pos h, if_pos h]
  · rw [if_neg h, if_neg h, show j - ls.length = 0 by omega]; rfl

/-- A row behind the others. -/
theorem TblV.push {w w' : World} {lo : Nat} {v v' u : Value} {vs : List Value} {ls : List (List Int)} {zs : List Int} (h : TblV w lo v vs ls) (hu : Owns w lo u zs) (hua : ∀ i, i < ls.length → Apart u (rowv vs i)) (huv : Apart v u)
    (hown : w'.ownsRow lo 36 1 v' (vs ++ [u]).length (vs ++ [u])) (hk : KeepB v v' w w') : TblV w' lo v' (vs ++ [u]) (ls ++ [zs]) := by
  have hlen := h.len
  have hrow : ∀ j, j < ls.length → Owns w' lo (rowv vs j) (ls.getD j []) := fun j hj =>
    ownsRow_blocks (h.rows j hj) (fun k e => hk.block k ((h.rows j hj).lt e).2 (fun e2 => h.off j hj k e2 e))
  have hu' : Owns w' lo u zs := ownsRow_blocks hu (fun k e => hk.block k (hu.lt e).2 (fun e2 => huv k e2 e))
  have hoff : ∀ j, j < ls.length → Apart v' (rowv vs j) := fun j hj k e e2 => by
    rcases hk.lies k e with h1 | h1
    · exact h.off j hj k h1 e2
    · have := ((h.rows j hj).lt e2).2; omega
  have hoff' : Apart v' u := fun k e e2 => by
    rcases hk.lies k e with h1 | h1
    · exact huv k h1 e2
    · have := (hu.lt e2).2; omega
  refine ⟨hown, by simp [hlen], fun j hj => ?_, fun a b ha hb hab => ?_, fun j hj => ?_⟩
  · rw [List.length_append] at hj
    simp only [List.length_singleton] at hj
    rw [rowv_push, getD_push _ _ _ hj]
    by_cases e : j < ls.length
    · rw [if_pos (by omega), if_pos e]; exact hrow j e
    · rw [if_neg (by omega), if_pos (by omega), if_neg e]; exact hu'
  · rw [List.length_append] at ha hb
    simp only [List.length_singleton] at ha hb
    rw [rowv_push, rowv_push]
    by_cases e : a < ls.length
    · rw [if_pos (by omega)]
      by_cases e2 : b < ls.length
      · rw [if_pos (by omega)]; exact h.apart a b e e2 hab
      · rw [if_neg (by omega), if_pos (by omega)]; exact (hua a e).symm
    · rw [if_neg (by omega), if_pos (by omega), if_pos (by omega)]; exact hua b (by omega)
  · rw [List.length_append] at hj
    simp only [List.length_singleton] at hj
    rw [rowv_push]
    by_cases e : j < ls.length
    · rw [if_pos (by omega)]; exact hoff j e
    · rw [if_neg (by omega), if_pos (by omega)]; exact hoff'

/-- A row that lies in blocks from H on, where the table lies under H. -/
theorem Tbl.push {w w' : World} {lo H : Nat} {v v' u : Value} {vs : List Value} {ls : List (List Int)} {zs : List Int} {w0 : World} (h0 : TblV w0 lo v vs ls) (h : TblV w lo v vs ls) (hH : w0.heap.size ≤ H) (hlo : lo ≤ H) (hu : Owns w H u zs)
    (hown : w'.ownsRow lo 36 1 v' (vs ++ [u]).length (vs ++ [u])) (hk : KeepB v v' w w') : Tbl w' lo v' (ls ++ [zs]) := by
  refine ⟨_, h.push (hu.mono hlo) (fun i hi k e e2 => ?_) (fun k e e2 => ?_) hown hk⟩
  · have := (hu.lt e).1
    have := ((h0.rows i hi).lt e2).2
    omega
  · have := (hu.lt e2).1
    have := (h0.own.lt k e).2
    omega

/-- 'make([][]int, n)'. -/
theorem tbl_made {w : World} {lo g n : Nat} (h : w.ownsRow lo 36 1 (.slice (some ⟨g, 0, none⟩) n n) n (madeCells #[Value.slice none 0 0] n).toList) : TblV w lo (.slice (some ⟨g, 0, none⟩) n n) (List.replicate n (.slice none 0 0)) (List.replicate n []) := by
  have er : ∀ i, rowv (List.replicate n (Value.slice none 0 0)) i = .slice none 0 0 := fun i => by
    unfold rowv
    simp only [List.getD, List.getElem?_replicate]
    split <;> rfl
  have el : ∀ i, (List.replicate n ([] : List Int)).getD i [] = [] := fun i => by
    simp only [List.getD, List.getElem?_replicate]
    split <;> rfl
  refine ⟨?_, by simp, fun i _ => ?_, fun i j _ _ _ => ?_, fun i _ => ?_⟩
  · rw [toList_madeCells_one] at h; simpa using h
  · rw [er, el]; exact World.ownsRow_nil _ _ _ _
  · rw [er]; exact apart_nil _
  · rw [er]; exact (apart_nil _).symm

end Go.Proofs.YtgcpconlmihilaaGreatDoor
