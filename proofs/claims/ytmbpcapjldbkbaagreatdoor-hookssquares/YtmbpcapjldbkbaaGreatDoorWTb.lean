/-
  The closure in fill.tableauxOf: how many tables it lists.
-/
import Derived.Test.YtmbpcapjldbkbaaGreatDoorWTx
import Derived.Test.YtmbpcapjldbkbaaGreatDoorHPar
import Derived.BigQuiet
import Derived.Deep.RegionLaw
namespace Go.Proofs.YtmbpcapjldbkbaaGreatDoor
open Go.RowKit

abbrev bxP (g : Nat) : Value := .pointer (some ⟨g, 0, none⟩)
/-- The closure itself. -/
abbrev tbV (l0 bp bs bf bm bh : Nat) : Value := .func (.func 78) #[] #[bxP l0, bxP bp, bxP bs, bxP bf, bxP bm, bxP bh]
theorem hid_t {p : Prop} (h : p) : Hid p := h
def hiT (zs : List Int) (M i j : Nat) : Nat := M + 1 + i - htF zs j
/-- What does not change while the closure runs. -/
structure TE (w0 : World) (l0 R lo m bp bs bf bm bh : Nat) (zs : List Int) (M : Nat) (ap ah : Option Addr) (np cp nh ch : Nat) : Prop where
  pt : IsPt zs
  hm : m = zs.length
  hM : M ≤ 99
  hn : np = m ∧ nh = pF zs 0
  cs : ∀ W : World, (∀ k, k < lo → k ≠ l0 → k ≠ R → W.heap[k]? = w0.heap[k]?) → W.cell? ⟨bp, 0, none⟩ = some (.slice ap np cp) ∧ W.cell? ⟨bm, 0, none⟩ = some (.int .i64 (M : Int)) ∧ W.cell? ⟨bh, 0, none⟩ = some (.slice ah nh ch) ∧ W.cell? ⟨bs, 0, none⟩ = some (.slice (some ⟨R, 0, none⟩) m m) ∧ W.cell? ⟨bf, 0, none⟩ = some (tbV l0 bp bs bf bm bh)
  ps : ∀ W : World, (∀ k, k < lo → k ≠ l0 → k ≠ R → W.heap[k]? = w0.heap[k]?) → ∀ i, i < m → ∃ b o, ap = some ⟨b, o, none⟩ ∧ W.cell? ⟨b, o + i, none⟩ = some (.int .i64 (pF zs i : Int))
  hs : ∀ W : World, (∀ k, k < lo → k ≠ l0 → k ≠ R → W.heap[k]? = w0.heap[k]?) → ∀ j, j < pF zs 0 → ∃ b o, ah = some ⟨b, o, none⟩ ∧ W.cell? ⟨b, o + j, none⟩ = some (.int .i64 (htF zs j : Int))
theorem TX.shape {H : Nat} {w0 w : World} {l0 R lo m : Nat} {vl : Value} {us vs : List Value} {rows : List (List Nat)} (h : TX H w0 w l0 R lo m vl us vs rows) : ∃ a c, vl = .slice a us.length c := by
  rcases h.li.2 with ⟨q, h0⟩ | ⟨g, cp, cur, q, _⟩
  · exact ⟨none, 0, by rw [q, h0]⟩
  · exact ⟨_, _, q⟩
/-- The list has k tables. -/
def TEnd (H : Nat) (w0 : World) (l0 R lo m : Nat) (rows : List (List Nat)) (k : Nat) (w' : World) : Prop := ∃ vl' us' vs', TX H w0 w' l0 R lo m vl' us' vs' rows ∧ us'.length = k
/-- What a call of the closure does. -/
def TS (H : Nat) (w0 : World) (l0 R lo m bp bs bf bm bh : Nat) (zs : List Int) (M f : Nat) : Prop :=
  ∀ (i j : Nat) (g : Nat → Nat → Nat) (us vs : List Value) (vl : Value) (w : World), i ≤ m → (i < m → j ≤ pF zs i) → (i = m → j = 0) → (rb (pF zs) m i j).length + (m - i) ≤ f → TX H w0 w l0 R lo m vl us vs (rS (pF zs) g m i j) → us.length ≤ 2001 → (∀ r q, g r q ≤ 1000) → (∀ q, q < j → 1 ≤ g i q) →
    Calls Tryz.prog 78 #[.int .i64 (i : Int), .int .i64 (j : Int), bxP l0, bxP bp, bxP bs, bxP bf, bxP bm, bxP bh] w fun e w' => e = .returned (.tuple #[]) ∧ TEnd H w0 l0 R lo m (rS (pF zs) g m i j) (min 2001 (us.length + (tsr (hiT zs M) (pF zs) m (rb (pF zs) m i j) g).length)) w'

set_option maxHeartbeats 2000000 in
/-- There are too many already. -/
theorem Tb_many {H : Nat} {w0 w : World} {l0 R lo m : Nat} {vl : Value} {us vs : List Value} {rows : List (List Nat)} (bp bs bf bm bh : Nat) (x y : Value) (h : TX H w0 w l0 R lo m vl us vs rows) (hu : us.length = 2001) :
    Calls Tryz.prog 78 #[x, y, bxP l0, bxP bp, bxP bs, bxP bf, bxP bm, bxP bh] w fun e w' => e = .returned (.tuple #[]) ∧ w' = w := by
  obtain ⟨a, c, rfl⟩ := h.shape
  have c0 := (cell_oneX h.lb).1
  rw [hu] at c0
  clear h
  go_enter Tryz.func78, Tryz.ntmps78
  go_wp2
  first | go_end0 | (refine bodyPost_ret (results_none rfl _ _ _) rfl ?_)
  exact ⟨rfl, rfl⟩

/-- A call of copied, in a region that draws its order. -/
theorem step_fcop {w : World} {x : Value} {P : Value → World → Prop} {ops : Array Oper} {o : Oper} {a : Act} {K : Act → World → Prop} {Q : Exit → Act → World → Prop} {EE : Prop} (hgd : o.guard = none) (y : Operand)
    (ho : o.op = .call { callee := .value (.func 73), args := #[y], argTypes := #[34] }) (hx : a.eval y = x) (hc : Calls Tryz.prog 73 #[x] w fun e w' => ∃ v, e = .returned v ∧ P v w') (h : ∀ v w', P v w' → K (a.put o.dst v) w') :
    if Region.wanted o (yielded ops a.tmps) = true then Oper.wp Tryz.prog o a w K Q else EE := by
  have hw : Region.wanted o (yielded ops a.tmps) = true := by simp [Region.wanted, hgd]
  rw [if_pos hw]
  unfold Oper.wp
  simp [execOp, ho, resolve, invoke, hx]
  simp [Act.eval, Deferred.ofValue, callFunc, Tryz.func73]
  refine hc.mono ?_
  rintro e w' ⟨v, rfl, hP⟩
  exact h v w' hP

set_option maxHeartbeats 4000000 in
set_option maxRecDepth 100000 in
/-- All boxes are filled. -/
theorem Tb_leaf {H : Nat} {w0 w : World} {l0 R lo m bp bs bf bm bh M np cp nh ch : Nat} {zs : List Int} {ap ah : Option Addr} {vl : Value} {us vs : List Value} (g : Nat → Nat → Nat) (E : TE w0 l0 R lo m bp bs bf bm bh zs M ap ah np cp nh ch) (h : TX H w0 w l0 R lo m vl us vs (rS (pF zs) g m m 0)) (hu : us.length ≤ 2000) (hg : ∀ r q, g r q ≤ 1000) :
    Calls Tryz.prog 78 #[.int .i64 (m : Int), .int .i64 0, bxP l0, bxP bp, bxP bs, bxP bf, bxP bm, bxP bh] w fun e w' => e = .returned (.tuple #[]) ∧ TEnd H w0 l0 R lo m (rS (pF zs) g m m 0) (us.length + 1) w' := by
  obtain ⟨av, cv, hvl⟩ := h.shape
  obtain ⟨n, HN⟩ : ∃ n, Hid (n = us.length) := ⟨_, rfl⟩
  rw [← HN.out] at hvl
  have hn : n ≤ 2000 := by rw [HN.out]; exact hu
  subst hvl
  have c0 := (cell_oneX h.lb).1
  obtain ⟨s1, s2, s3, s4, s5⟩ := E.cs w h.st
  have hnp := E.hn.1
  subst hnp
  have hm40 : np ≤ 40 := by rw [E.hm]; exact E.pt.len
  have hbd := castT_bdX (rS_bd (c := pF zs) (m := np) (i := np) (j := 0) (fun r => by have := pF_le E.pt r; omega) (by omega) hg)
  obtain ⟨at', nt, ct, et, hT, HNt⟩ := (show Tbl w R _ _ from ⟨vs, h.tb⟩).table (fun l hl => (hbd l hl).2)
  simp only [Value.slice.injEq] at et
  obtain ⟨rfl, rfl, rfl⟩ := et
  have HX : Hid (TX H w0 w l0 R lo np (.slice av n cv) us vs (rS (pF zs) g np np 0)) := h
  have HC : Hid (∀ W, Below w.heap.size w W → Calls Tryz.prog 73 #[.slice (some ⟨R, 0, none⟩) np np] W fun e w' => ∃ v, e = .returned v ∧ ∃ a1 m1 k1, v = .slice a1 m1 k1 ∧ w'.cell? ⟨l0, 0, none⟩ = some (.slice av n cv) ∧ w'.cell? ⟨bs, 0, none⟩ = some (.slice (some ⟨R, 0, none⟩) np np) ∧ (w'.alloc (.cells #[.slice a1 m1 k1] 34)).cell? ⟨l0, 0, none⟩ = some (.slice av n cv) ∧ Hid (Below w.heap.size w w')) := fun W hW => by
    refine (fcopied_at (some ⟨R, 0, none⟩) np np _ W (hT.below hW) HNt.out (by rw [castT_len, rS_len]; omega) (fun l hl => (hbd l hl).1)).mono ?_
    rintro e w' ⟨v, rfl, ht, hb⟩
    have hb2 := hW.trans (hb.mono hW.size)
    have hx := HX.out.below hb2
    obtain ⟨a1, m1, k1, e1, _, _⟩ := ht.table (fun l hl => (hbd l hl).2)
    subst e1
    have hl0 : l0 < w'.heap.size := Nat.lt_of_lt_of_le hx.lt.1 hx.sz
    exact ⟨_, rfl, a1, m1, k1, rfl, (cell_oneX hx.lb).1, (E.cs w' hx.st).2.2.2.1, by rw [World.cell?_of_block (Below.heap_alloc w' _ l0 hl0)]; exact (cell_oneX hx.lb).1, hb2⟩
  have HE : Hid (∀ w1 v1 v2 w2, Below w.heap.size w w1 → w2.ownsRow lo 34 1 v2 (us ++ [v1]).length (us ++ [v1]) → Below lo w1 w2 → KeepB (.slice av n cv) v2 w1 w2 → w2.cell? ⟨l0, 0, none⟩ = some (.slice av n cv) ∧ w2.frozen? ⟨l0, 0, none⟩ = false ∧ Hid (TX H w0 (w2.setCell ⟨l0, 0, none⟩ v2) l0 R lo np v2 (us ++ [v1]) vs (rS (pF zs) g np np 0)) ∧ ∃ a2 m2 k2, v2 = .slice a2 m2 k2) := fun w1 v1 v2 w2 h1 h2 h3 h4 => by
    have hx := HX.out.below h1
    have hb0 : (Value.slice av n cv).ownBlock ≠ some l0 := fun e => by have := (hx.li.lt l0 e).1; have := hx.lt.1; omega
    have e0 : w2.heap[l0]? = some (.cells #[.slice av n cv] 23 (0, 0)) := by rw [h4.block l0 (Nat.lt_of_lt_of_le hx.lt.1 hx.sz) hb0]; exact hx.lb
    refine ⟨(cell_oneX e0).1, (cell_oneX e0).2, hx.push h2 h3 h4, ?_⟩
    rcases h2.2 with ⟨q, _⟩ | ⟨g, cp, cur, q, _⟩
    · exact ⟨_, _, _, q⟩
    · exact ⟨_, _, _, q⟩
  have HLi : Hid (∀ w1, Below w.heap.size w w1 → w1.ownsRow lo 34 1 (.slice av n cv) us.length us) := fun w1 h1 => (HX.out.below h1).li
  have HSz : Hid (∀ w1, Below w.heap.size w w1 → lo ≤ w1.heap.size) := fun w1 h1 => (HX.out.below h1).sz
  have HUl : Hid (us.length ≤ 2000) := hu
  have hgt : ¬ ((n : Int) > 2000) := by omega
  clear h hT hu hbd HNt
  go_enter Tryz.func78, Tryz.ntmps78
  go_upto_region 2 with fail
  go_region_law (first | (refine step_fcop (x := .slice (some ⟨R, 0, none⟩) np np) rfl (.tmp 20) rfl (by first | (simp [Act.eval]; done) | (simp [Act.eval, Act.put]; done)) (HC.out _ (by first | exact Below.refl _ _ | exact below_drewN (Below.refl _ _) 1)) ?_; rintro v1 w1 ⟨a1, m1, k1, rfl, g0, g1, g5, g2⟩) | (refine step_one elem_cub (x := .slice a1 m1 k1) rfl (.tmp 19) (.tmp 22) rfl (by first | (simp [Act.eval]; done) | (simp [Act.eval, Act.put]; done)) (by first | (simp [Act.eval]; done) | (simp [Act.eval, Act.put]; done)) rfl (HLi.out w1 g2.out) rfl (by have := HUl.out; unfold maxLen; omega) (by have := HUl.out; omega) (HSz.out w1 g2.out) ?_; intro v2 w2 hO2 hb2 hk2; obtain ⟨e0, e1, e2, a2, m2, k2, rfl⟩ := HE.out w1 _ v2 w2 g2.out hO2 hb2 hk2; clear hO2 hb2 hk2))
  all_goals go_wp2
  all_goals (first | go_end0 | (refine bodyPost_ret (results_none rfl _ _ _) rfl ?_))
  all_goals exact ⟨rfl, ⟨_, _, _, e2.out, by simp⟩⟩

set_option maxHeartbeats 2000000 in
/-- A row is full. -/
theorem Tb_next {H : Nat} {w0 w : World} {l0 R lo m bp bs bf bm bh M np cp nh ch i : Nat} {zs : List Int} {ap ah : Option Addr} {vl : Value} {us vs : List Value} {rows : List (List Nat)} {Post : World → Prop} (E : TE w0 l0 R lo m bp bs bf bm bh zs M ap ah np cp nh ch) (h : TX H w0 w l0 R lo m vl us vs rows) (hu : us.length ≤ 2000) (hi : i < m)
    (HC : Hid (Calls Tryz.prog 78 #[.int .i64 ((i : Int) + 1), .int .i64 0, bxP l0, bxP bp, bxP bs, bxP bf, bxP bm, bxP bh] w fun e w' => e = .returned (.tuple #[]) ∧ Hid (Post w'))) :
    Calls Tryz.prog 78 #[.int .i64 (i : Int), .int .i64 (pF zs i : Int), bxP l0, bxP bp, bxP bs, bxP bf, bxP bm, bxP bh] w fun e w' => e = .returned (.tuple #[]) ∧ Post w' := by
  obtain ⟨av, cv, hvl⟩ := h.shape
  obtain ⟨n, HN⟩ : ∃ n, Hid (n = us.length) := ⟨_, rfl⟩
  rw [← HN.out] at hvl
  have hn : n ≤ 2000 := by rw [HN.out]; exact hu
  subst hvl
  have c0 := (cell_oneX h.lb).1
  obtain ⟨s1, s2, s3, s4, s5⟩ := E.cs w h.st
  obtain ⟨b1, o1, hap, hpi⟩ := E.ps w h.st i hi
  subst hap
  have hnp := E.hn.1
  subst hnp
  have hm40 : np ≤ 40 := by rw [E.hm]; exact E.pt.len
  obtain ⟨p, HP⟩ : ∃ p, Hid (p = pF zs i) := ⟨_, rfl⟩
  rw [← HP.out] at hpi ⊢
  have hgt : ¬ ((n : Int) > 2000) := by omega
  have hne : ((i : Int) == (np : Int)) = false := by simp; omega
  have hilt : (i : Int) < (np : Int) := by omega
  clear h hu E
  go_enter Tryz.func78, Tryz.ntmps78
  go_wp2_with fail
  refine HC.out.mono ?_
  rintro e w1 ⟨rfl, HPo⟩
  go_wp2
  first | go_end0 | (refine bodyPost_ret (results_none rfl _ _ _) rfl ?_)
  exact ⟨rfl, HPo.out⟩

end Go.Proofs.YtmbpcapjldbkbaaGreatDoor
