/-
  The memory of the closure in ferref.AllSigns; a triangle that is done.
  The closure in ferref.AllSigns: a triangle that is done is put into the list.
  The rows below a row, as lists: how many, how long, between what bounds.
-/
import Derived.Test.YtgcpconlmihilaaGreatDoorJFrd
import Derived.Test.YtgcpconlmihilaaGreatDoorRwE
namespace Go.Proofs.YtgcpconlmihilaaGreatDoor
open Go.RowKit

/-- All old blocks stay, but the list's own and the box that holds it. -/
structure KeepF (l0 : Nat) (v v' : Value) (w w' : World) : Prop where
  size : w.heap.size ≤ w'.heap.size
  block : ∀ k, k < w.heap.size → k ≠ l0 → v.ownBlock ≠ some k → w'.heap[k]? = w.heap[k]?
  lies : ∀ g, v'.ownBlock = some g → v.ownBlock = some g ∨ w.heap.size ≤ g
  io : w'.os = w.os ∧ w'.tape = w.tape ∧ w'.output = w.output
theorem KeepF.refl (l0 : Nat) (v : Value) (w : World) : KeepF l0 v v w w := ⟨Nat.le_refl _, fun _ _ _ _ => rfl, fun _ h => Or.inl h, rfl, rfl, rfl⟩
theorem KeepF.below {l0 : Nat} {v : Value} {w w' : World} (h : Below w.heap.size w w') : KeepF l0 v v w w' := ⟨h.size, fun k hk _ _ => h.block k hk, fun _ h => Or.inl h, h.os, h.tape, h.output⟩
theorem KeepF.trans {l0 : Nat} {v v' v2 : Value} {w w' w2 : World} (h : KeepF l0 v v' w w') (h2 : KeepF l0 v' v2 w' w2) : KeepF l0 v v2 w w2 := by
  have hs := h.size
  refine ⟨Nat.le_trans hs h2.size, fun k hk e1 e2 => ?_, fun g hg => ?_, h2.io.1.trans h.io.1, h2.io.2.1.trans h.io.2.1, h2.io.2.2.trans h.io.2.2⟩
  · rw [h2.block k (by omega) e1 (fun q => by rcases h.lies k q with z | z
                                              · exact e2 z
                                              · omega), h.block k hk e1 e2]
  · rcases h2.lies g hg with z | z
    · exact h.lies g z
    · exact Or.inr (by omega)

/-- t is the rows ls, in blocks that are neither the list's nor its box. -/
structure TW (w : World) (l0 : Nat) (v t : Value) (vs : List Value) (ls : List (List Int)) : Prop where
  own : w.ownsRow 0 36 1 t vs.length vs
  len : vs.length = ls.length
  rows : ∀ i, i < ls.length → Owns w 0 (rowv vs i) (ls.getD i [])
  aw : ∀ k, t.ownBlock = some k → k ≠ l0 ∧ v.ownBlock ≠ some k
  awr : ∀ i, i < ls.length → ∀ k, (rowv vs i).ownBlock = some k → k ≠ l0 ∧ v.ownBlock ≠ some k
theorem TW.keep {w w' : World} {l0 : Nat} {v v' t : Value} {vs : List Value} {ls : List (List Int)} (h : TW w l0 v t vs ls) (hk : KeepF l0 v v' w w') : TW w' l0 v' t vs ls := by
  have key : ∀ k, k < w.heap.size → v.ownBlock ≠ some k → v'.ownBlock ≠ some k := fun k k1 k2 e => by
    rcases hk.lies k e with z | z
    · exact k2 z
    · omega
  refine ⟨ownsRow_blocks h.own (fun k e => hk.block k (h.own.lt k e).2 (h.aw k e).1 (h.aw k e).2), h.len, fun i hi => ownsRow_blocks (h.rows i hi) (fun k e => hk.block k ((h.rows i hi).lt e).2 (h.awr i hi k e).1 (h.awr i hi k e).2), fun k e => ⟨(h.aw k e).1, key k (h.own.lt k e).2 (h.aw k e).2⟩, fun i hi k e => ⟨(h.awr i hi k e).1, key k ((h.rows i hi).lt e).2 (h.awr i hi k e).2⟩⟩
def wfL (ls : List (List Int)) : Prop := ∀ l ∈ ls, l.length ≤ 1000 ∧ ∀ z ∈ l, -9223372036854775808 ≤ z ∧ z ≤ 9223372036854775807
/-- As an argument. -/
theorem TW.table {w : World} {l0 : Nat} {v t : Value} {vs : List Value} {ls : List (List Int)} (h : TW w l0 v t vs ls) (hl : wfL ls) : ∃ a cap, t = .slice a ls.length cap ∧ Table w a ls := by
  have h0 := h.own
  rcases h.own.2 with ⟨hv, hn⟩ | ⟨g, cap, cur, hv, hg, hh, _⟩
  · have := h.len
    refine ⟨none, 0, by rw [hv, show ls.length = 0 by omega], fun i hi => by omega⟩
  · rw [hv] at h0
    refine ⟨_, cap, by rw [hv, h.len], fun i hi => ?_⟩
    have ho := h.rows i hi
    have hm : ls.getD i [] ∈ ls := by simp [List.getD, List.getElem?_eq_getElem hi]
    obtain ⟨ai, ci, hui, hS⟩ := ho.shows (by have := (hl _ hm).1; omega) (hl _ hm).2
    refine ⟨g, 0, ai, ci, rfl, (Array.getElem?_eq_some_iff.1 hh).1, ?_, hS, fun hn => ?_⟩
    · rw [Nat.zero_add, World.ownsRow.cellAt h0 i (by have := h.len; omega), rowv_get (by have := h.len; omega), hui]
    · subst hn
      rcases ho.2 with ⟨h3, h4⟩ | ⟨g3, cap3, cur3, h3, _⟩
      · rw [hui] at h3
        simp only [Value.slice.injEq] at h3
        exact ⟨List.eq_nil_of_length_eq_zero h4, h3.2.2⟩
      · rw [hui] at h3; simp at h3

/-- the closure's memory -/
abbrev frV (l0 bF : Nat) : Value := .func (.func 28) #[] #[bxS l0, bxS bF]
structure FX (w : World) (l0 bF lo : Nat) (vl : Value) (us : List Value) (L : List (List (List Int))) : Prop where
  lb : w.heap[l0]? = some (.cells #[vl] 29 (0, 0))
  fb : w.heap[bF]? = some (.cells #[frV l0 bF] 58 (0, 0))
  cu : Cub (fun k => k = l0) w lo vl us L
  lt : l0 < lo ∧ bF < lo ∧ bF ≠ l0 ∧ lo ≤ w.heap.size
theorem FX.off {w : World} {l0 bF lo : Nat} {vl : Value} {us : List Value} {L : List (List (List Int))} (h : FX w l0 bF lo vl us L) {k : Nat} (hk : k < lo) : vl.ownBlock ≠ some k := fun e => by have := (h.cu.own.lt k e).1; omega
theorem FX.below {w w' : World} {l0 bF lo : Nat} {vl : Value} {us : List Value} {L : List (List (List Int))} (h : FX w l0 bF lo vl us L) (hb : Below w.heap.size w w') : FX w' l0 bF lo vl us L := by
  have hs := hb.size
  obtain ⟨q1, q2, q3, q4⟩ := h.lt
  refine ⟨by rw [hb.block _ (by omega)]; exact h.lb, by rw [hb.block _ (by omega)]; exact h.fb, ⟨ownsRow_blocks h.cu.own (fun k e => hb.block k (h.cu.own.lt k e).2), h.cu.len, fun k hkk => ?_⟩, q1, q2, q3, by omega⟩
  obtain ⟨a, c, e1, e2⟩ := h.cu.el k hkk
  exact ⟨a, c, e1, fun w3 h3 h4 => e2 w3 (fun j a1 a2 a3 => by rw [h3 j (by omega) a2 a3, hb.block j a1]) (by omega)⟩
/-- a table more, and the list back in its box -/
theorem FX.push {w w1 w2 : World} {l0 bF lo : Nat} {vl v2 u : Value} {us : List Value} {L : List (List (List Int))} {t : List (List Int)} (h : FX w l0 bF lo vl us L) (hb : Below w.heap.size w w1) (hT : Tbl w1 w.heap.size u t) (ht : ∀ r ∈ t, r.length ≤ 17592186044416 ∧ ∀ z ∈ r, -9223372036854775808 ≤ z ∧ z ≤ 9223372036854775807)
    (ho : w2.ownsRow lo 22 1 v2 (us ++ [u]).length (us ++ [u])) (hb2 : Below lo w1 w2) (hk : KeepB vl v2 w1 w2) : FX (w2.setCell ⟨l0, 0, none⟩ v2) l0 bF lo v2 (us ++ [u]) (L ++ [t]) ∧ KeepF l0 vl v2 w (w2.setCell ⟨l0, 0, none⟩ v2) := by
  have hs1 := hb.size
  have hs2 := hk.size
  obtain ⟨q1, q2, q3, q4⟩ := h.lt
  have hsz : (w2.setCell ⟨l0, 0, none⟩ v2).heap.size = w2.heap.size := by simp
  have hne : ∀ k, k ≠ l0 → (w2.setCell ⟨l0, 0, none⟩ v2).heap[k]? = w2.heap[k]? := fun k e => heap_setCell_other _ _ _ _ e
  have hk2 : ∀ k, k < w1.heap.size → vl.ownBlock ≠ some k → w2.heap[k]? = w1.heap[k]? := hk.block
  have hli : ∀ g, v2.ownBlock = some g → vl.ownBlock = some g ∨ w1.heap.size ≤ g := hk.lies
  have hl0 : w2.heap[l0]? = some (.cells #[vl] 29 (0, 0)) := by rw [hk2 l0 (by omega) (h.off q1), hb.block l0 (by omega)]; exact h.lb
  refine ⟨⟨?_, ?_, ⟨?_, by simp [h.cu.len], fun k hkk => ?_⟩, q1, q2, q3, by omega⟩, by omega, fun k a1 a2 a3 => ?_, fun g hg => ?_, hb2.os.trans hb.os, hb2.tape.trans hb.tape, hb2.output.trans hb.output⟩
  · have := heap_setCell_same w2 l0 0 _ _ v2 hl0
    simpa using this
  · rw [hne bF q3, hk2 bF (by omega) (h.off q2), hb.block bF (by omega)]; exact h.fb
  · refine ownsRow_blocks ho (fun k e => hne k ?_)
    have := (ho.lt k e).1
    omega
  · rw [List.length_append] at hkk
    rw [rowv_push]
    by_cases e : k < L.length
    · rw [if_pos (by rw [h.cu.len]; exact e)]
      have eg : (L ++ [t]).getD k [] = L.getD k [] := by simp only [List.getD]; rw [List.getElem?_append_left e]
      rw [eg]
      obtain ⟨a, c, e1, e2⟩ := h.cu.el k e
      refine ⟨a, c, e1, fun w3 h3 h4 => e2 w3 (fun j a1 a2 a4 => ?_) (by omega)⟩
      rw [h3 j (by omega) a2 (fun q => (hli j q).elim a4 (fun q2 => by omega)), hne j a2, hk2 j (by omega) a4, hb.block j a1]
    · obtain rfl : k = L.length := by simp at hkk; omega
      rw [if_neg (by rw [h.cu.len]; omega), if_pos h.cu.len.symm]
      have eg : (L ++ [t]).getD L.length [] = t := by simp [List.getD]
      rw [eg]
      obtain ⟨a, m1, c, e1, _, hm1⟩ := hT.table ht
      rw [hm1.out] at e1
      refine ⟨a, c, e1, fun w3 h3 h4 => ?_⟩
      have hT3 : Tbl w3 w.heap.size u t := hT.same (fun j a1 a2 => by
        have ho1 : vl.ownBlock ≠ some j := fun q => by have := (h.cu.own.lt j q).2; omega
        rw [h3 j (by omega) (by omega) (fun q => (hli j q).elim ho1 (fun q2 => by omega)), hne j (by omega), hk2 j a2 ho1])
      obtain ⟨a5, m5, c5, e5, h5, _⟩ := hT3.table ht
      rw [e5] at e1
      simp only [Value.slice.injEq] at e1
      rw [← e1.1]; exact h5
  · rw [hne k a2, hk2 k (by omega) a3, hb.block k a1]
  · rcases hli g hg with z | z
    · exact Or.inl z
    · exact Or.inr (by omega)
end Go.Proofs.YtgcpconlmihilaaGreatDoor

namespace Go.Proofs.YtgcpconlmihilaaGreatDoor
open Go.RowKit

theorem step_otri {w : World} {x : Value} {P : Value → World → Prop} {ops : Array Oper} {o : Oper} {a : Act} {K : Act → World → Prop} {Q : Exit → Act → World → Prop} {EE : Prop} (hgd : o.guard = none) (y : Operand)
    (ho : o.op = .call { callee := .value (.func 29), args := #[y], argTypes := #[22] }) (hx : a.eval y = x) (hc : Calls Tryz.prog 29 #[x] w fun e w' => ∃ v, e = .returned v ∧ P v w') (h : ∀ v w', P v w' → K (a.put o.dst v) w') :
    if Region.wanted o (yielded ops a.tmps) = true then Oper.wp Tryz.prog o a w K Q else EE := by
  have hw : Region.wanted o (yielded ops a.tmps) = true := by simp [Region.wanted, hgd]
  rw [if_pos hw]
  unfold Oper.wp
  simp [execOp, ho, resolve, invoke, hx]
  simp [Act.eval, Deferred.ofValue, callFunc, Tryz.func29]
  refine hc.mono ?_
  rintro e w' ⟨v, rfl, hP⟩
  exact h v w' hP

theorem otr_wf (ls : List (List Int)) {n : Nat} (hn : n ≤ 7) : ∀ r ∈ tz n n (otr ls), r.length ≤ 17592186044416 ∧ ∀ z ∈ r, -9223372036854775808 ≤ z ∧ z ≤ 9223372036854775807 :=
  tz_wf (by omega) (fun i _ j _ => by have := otr_bd ls i j; omega)

set_option maxHeartbeats 8000000 in
set_option maxRecDepth 100000 in
theorem Fr_leaf {w : World} {l0 bF lo : Nat} {vl t : Value} {us vs : List Value} {L : List (List (List Int))} {ls : List (List Int)} (hX : FX w l0 bF lo vl us L) (hT : TW w l0 vl t vs ls) (hwf : wfL ls) (h1 : 1 ≤ ls.length) (h7 : ls.length ≤ 5) (hr : (row ls 0).length = 1) (hc : L.length ≤ 1000000) :
    Calls Tryz.prog 28 #[t, bxS l0, bxS bF] w fun e w' => e = .returned (.tuple #[]) ∧ ∃ vl' us', FX w' l0 bF lo vl' us' (L ++ [tz ls.length ls.length (otr ls)]) ∧ KeepF l0 vl vl' w w' := by
  obtain ⟨av, cv, hvl⟩ := own_shapeS hX.cu.own
  obtain ⟨m, HM⟩ : ∃ m, Hid (m = us.length) := ⟨_, rfl⟩
  rw [← HM.out] at hvl
  subst hvl
  obtain ⟨ta, tc, ht, htab⟩ := hT.table hwf
  obtain ⟨n, HN⟩ : ∃ n, Hid (n = ls.length) := ⟨_, rfl⟩
  rw [← HN.out] at ht
  subst ht
  obtain ⟨b0, o0, a0, k0, q1, q2, q3, q4, _⟩ := htab 0 h1
  subst q1
  have hr' : (ls.getD 0 []).length = 1 := hr
  rw [hr'] at q3
  have q3' : w.cell? ⟨b0, o0, none⟩ = some (.slice a0 1 k0) := by rw [← q3]; rfl
  have c0 := (cell_oneS hX.lb).1
  have hn0 : (0 : Int) < (n : Int) := by have := HN.out; omega
  have HX : Hid (FX w l0 bF lo (.slice av m cv) us L) := hX
  have HC : Hid (∀ W, Below w.heap.size w W → Calls Tryz.prog 29 #[.slice (some ⟨b0, o0, none⟩) n tc] W fun e w' => ∃ v, e = .returned v ∧ ∃ a1 m1 k1, v = .slice a1 m1 k1 ∧ w'.cell? ⟨l0, 0, none⟩ = some (.slice av m cv) ∧ (w'.alloc (.cells #[.slice a1 m1 k1] 22)).cell? ⟨l0, 0, none⟩ = some (.slice av m cv) ∧ Hid (Below w.heap.size w w' ∧ Tbl w' w.heap.size (.slice a1 m1 k1) (tz ls.length ls.length (otr ls)))) := fun W hW => by
    refine (OfTriangle_at _ n tc ls W (htab.below hW) HN.out (by have := HN.out; omega) (by have := HN.out; omega)).mono ?_
    rintro e w' ⟨v, rfl, ht, hb⟩
    have hb2 := hW.trans (hb.out.mono hW.size)
    have hx := HX.out.below hb2
    obtain ⟨a1, m1, k1, e1, _, _⟩ := ht.out.table (otr_wf ls (by have := HN.out; omega))
    subst e1
    have hl0 : l0 < w'.heap.size := Nat.lt_of_lt_of_le hx.lt.1 hx.lt.2.2.2
    have ht2 := ht.out.mono hW.size
    rw [HN.out] at ht2
    exact ⟨_, rfl, a1, m1, k1, rfl, (cell_oneS hx.lb).1, by rw [World.cell?_of_block (Below.heap_alloc w' _ l0 hl0)]; exact (cell_oneS hx.lb).1, hb2, ht2⟩
  have HWf : Hid (∀ r ∈ tz ls.length ls.length (otr ls), r.length ≤ 17592186044416 ∧ ∀ z ∈ r, -9223372036854775808 ≤ z ∧ z ≤ 9223372036854775807) := otr_wf ls (by omega)
  have HE : Hid (∀ w1 v1 v2 w2, (Below w.heap.size w w1 ∧ Tbl w1 w.heap.size v1 (tz ls.length ls.length (otr ls))) → w2.ownsRow lo 22 1 v2 (us ++ [v1]).length (us ++ [v1]) → Below lo w1 w2 → KeepB (.slice av m cv) v2 w1 w2 → w2.cell? ⟨l0, 0, none⟩ = some (.slice av m cv) ∧ w2.frozen? ⟨l0, 0, none⟩ = false ∧ Hid (FX (w2.setCell ⟨l0, 0, none⟩ v2) l0 bF lo v2 (us ++ [v1]) (L ++ [tz ls.length ls.length (otr ls)]) ∧ KeepF l0 (.slice av m cv) v2 w (w2.setCell ⟨l0, 0, none⟩ v2)) ∧ ∃ a2 m2 k2, v2 = .slice a2 m2 k2) := fun w1 v1 v2 w2 ⟨h1, h1t⟩ h2 h3 h4 => by
    have hx := HX.out.below h1
    have hb0 := hx.off hx.lt.1
    have e0 : w2.heap[l0]? = some (.cells #[.slice av m cv] 29 (0, 0)) := by rw [h4.block l0 (Nat.lt_of_lt_of_le hx.lt.1 hx.lt.2.2.2) hb0]; exact hx.lb
    refine ⟨(cell_oneS e0).1, (cell_oneS e0).2, HX.out.push h1 h1t HWf.out h2 h3 h4, ?_⟩
    obtain ⟨a2, k2, q⟩ := own_shapeS h2
    exact ⟨_, _, _, q⟩
  have HLi : Hid (∀ w1, Below w.heap.size w w1 → w1.ownsRow lo 22 1 (.slice av m cv) us.length us) := fun w1 h1 => (HX.out.below h1).cu.own
  have HSz : Hid (∀ w1, Below w.heap.size w w1 → lo ≤ w1.heap.size) := fun w1 h1 => (HX.out.below h1).lt.2.2.2
  have HUl : Hid (us.length ≤ 1000000) := by show _ ≤ _; rw [HX.out.cu.len]; exact hc
  clear hX hT hc h1 h7 hr hr' q2 q3 q4 htab hwf
  go_enter Tryz.func28, Tryz.ntmps28
  go_upto_region 2 with fail
  go_region_law (first | (refine step_otri (x := .slice (some ⟨b0, o0, none⟩) n tc) rfl (.tmp 18) rfl (by first | (simp [Act.eval]; done) | (simp [Act.eval, Act.put]; done)) (HC.out _ (by first | exact Below.refl _ _ | exact below_drewN (Below.refl _ _) 1)) ?_; rintro v1 w1 ⟨a1, m1, k1, rfl, g0, g5, g2⟩) | (refine step_one elem_cs (x := .slice a1 m1 k1) rfl (.tmp 17) (.tmp 20) rfl (by first | (simp [Act.eval]; done) | (simp [Act.eval, Act.put]; done)) (by first | (simp [Act.eval]; done) | (simp [Act.eval, Act.put]; done)) rfl (HLi.out w1 g2.out.1) rfl (by have := HUl.out; unfold maxLen; omega) (by have := HUl.out; omega) (HSz.out w1 g2.out.1) ?_; intro v2 w2 hO2 hb2 hk2; obtain ⟨e0, e1, e2, a2, m2, k2, rfl⟩ := HE.out w1 _ v2 w2 g2.out hO2 hb2 hk2; clear hO2 hb2 hk2))
  all_goals go_wp2
  all_goals (first | go_end0 | (refine bodyPost_ret (results_none rfl _ _ _) rfl ?_))
  all_goals exact ⟨rfl, _, _, e2.out.1, e2.out.2⟩
end Go.Proofs.YtgcpconlmihilaaGreatDoor

namespace Go.Proofs.YtgcpconlmihilaaGreatDoor
open Go.RowKit

def BdI (l : List Int) : Prop := ∀ z ∈ l, 0 ≤ z ∧ z ≤ 5
def BdF (ls : List (List Int)) : Prop := ∀ l ∈ ls, l.length ≤ 5 ∧ BdI l
theorem BdF.wf {ls : List (List Int)} (h : BdF ls) : wfL ls := fun l hl => ⟨by have := (h l hl).1; omega, fun z hz => by have := (h l hl).2 z hz; omega⟩
theorem BdI.get {l : List Int} (h : BdI l) (j : Nat) : 0 ≤ l.getD j 0 ∧ l.getD j 0 ≤ 5 := by
  by_cases e : j < l.length
  · exact h _ (getD_mem e)
  · simp [List.getD, show l.length ≤ j by omega]
abbrev okF (j : Nat) (y : List Int) (x : Int) : Prop := j = 0 ∨ y.getD (j - 1) 0 < x

/-- y, one longer, by the first i numbers -/
def stpI (a : Int) (j : Nat) (y : List Int) : Nat → List (List Int)
  | 0 => []
  | i + 1 => stpI a j y i ++ if okF j y (a + (i : Int)) then [y ++ [a + (i : Int)]] else []
theorem stpI_eq (a : Int) (j : Nat) (y : List Int) : ∀ i, stpI a j y i = (((List.range i).map fun i : Nat => a + (i : Int)).filter fun x => decide (okF j y x)).map fun x => y ++ [x]
  | 0 => rfl
  | i + 1 => by
    rw [stpI, stpI_eq a j y i, List.range_succ, List.map_append, List.filter_append, List.map_append]
    congr 1
    simp only [List.map_cons, List.map_nil, List.filter_cons, List.filter_nil]
    by_cases h : okF j y (a + (i : Int))
    · rw [if_pos h, if_pos (decide_eq_true h)]; rfl
    · rw [if_neg h, if_neg (fun q => h (of_decide_eq_true q))]; rfl
theorem stpF_eq (r : List Int) (j : Nat) (y : List Int) : stpF r j y = stpI (r.getD j 0) j y (r.getD (j + 1) 0 + 1 - r.getD j 0).toNat := by
  rw [stpI_eq]; rfl
theorem stpI_len (a : Int) (j : Nat) (y : List Int) : ∀ i, (stpI a j y i).length ≤ i
  | 0 => Nat.le_refl _
  | i + 1 => by
    rw [stpI, List.length_append]
    have := stpI_len a j y i
    split <;> simp <;> omega
theorem stpI_mem (a : Int) (j : Nat) (y : List Int) : ∀ i l, l ∈ stpI a j y i → ∃ x : Int, l = y ++ [x] ∧ a ≤ x ∧ x < a + (i : Int)
  | 0, l, h => by simp [stpI] at h
  | i + 1, l, h => by
    rw [stpI, List.mem_append] at h
    rcases h with h | h
    · obtain ⟨x, e, h1, h2⟩ := stpI_mem a j y i l h
      exact ⟨x, e, h1, by omega⟩
    · split at h
      · rw [List.mem_singleton] at h
        exact ⟨_, h, by omega, by omega⟩
      · simp at h
theorem stpF_len {r : List Int} (hr : BdI r) (j : Nat) (y : List Int) : (stpF r j y).length ≤ 6 := by
  rw [stpF_eq]
  have h1 := hr.get j
  have h2 := hr.get (j + 1)
  exact Nat.le_trans (stpI_len _ _ _ _) (by omega)
theorem lwF_mem {r : List Int} (hr : BdI r) : ∀ j y, y ∈ lwF r j → y.length = j ∧ BdI y
  | 0, y, h => by
    rw [lwF, List.mem_singleton] at h
    subst h
    exact ⟨rfl, fun z hz => by simp at hz⟩
  | j + 1, y, h => by
    rw [lwF, List.mem_flatMap] at h
    obtain ⟨q, hq, hy⟩ := h
    obtain ⟨e1, e2⟩ := lwF_mem hr j q hq
    rw [stpF_eq] at hy
    obtain ⟨x, rfl, h1, h2⟩ := stpI_mem _ _ _ _ _ hy
    have b1 := hr.get j
    have b2 := hr.get (j + 1)
    refine ⟨by simp [e1], fun z hz => ?_⟩
    rcases List.mem_append.1 hz with hz | hz
    · exact e2 z hz
    · rw [List.mem_singleton] at hz; omega
theorem flat_leF {α β : Type} {f : α → List β} {c : Nat} (h : ∀ a, (f a).length ≤ c) : ∀ l : List α, (l.flatMap f).length ≤ c * l.length
  | [] => by simp
  | a :: l => by
    rw [List.flatMap_cons, List.length_append, List.length_cons, Nat.mul_succ]
    have h1 := h a
    have h2 := flat_leF h l
    omega
theorem lwF_len {r : List Int} (hr : BdI r) : ∀ j, (lwF r j).length ≤ 6 ^ j
  | 0 => by simp [lwF]
  | j + 1 => by
    rw [lwF, Nat.pow_succ, Nat.mul_comm]
    exact Nat.le_trans (flat_leF (stpF_len hr j) _) (Nat.mul_le_mul_left _ (lwF_len hr j))
theorem take_getF {α : Type} (l : List α) (d : α) {k : Nat} (hk : k < l.length) : l.take (k + 1) = l.take k ++ [l.getD k d] := by
  rw [List.take_succ_eq_append_getElem hk]; simp [List.getD, hk]
/-- what came of the first k -/
def nxF {α β : Type} (f : α → List β) (l : List α) (k : Nat) : List β := (l.take k).flatMap f
theorem nxF_succ {α β : Type} (f : α → List β) (l : List α) (d : α) {k : Nat} (hk : k < l.length) : nxF f l (k + 1) = nxF f l k ++ f (l.getD k d) := by
  unfold nxF; rw [take_getF l d hk, List.flatMap_append]; simp
theorem nxF_all {α β : Type} (f : α → List β) (l : List α) : nxF f l l.length = l.flatMap f := by unfold nxF; rw [List.take_length]
theorem nxF_le {α β : Type} (f : α → List β) (l : List α) (k : Nat) : (nxF f l k).length ≤ (l.flatMap f).length := by
  unfold nxF
  conv => rhs; rw [← List.take_append_drop k l]
  rw [List.flatMap_append, List.length_append]; omega
theorem row_below {w : World} (v : Value) (hv : v = .slice (some ⟨w.heap.size, 0, none⟩) 1 1) : TblV (w.alloc (.cells #[.slice none 0 0] 36)) w.heap.size v [.slice none 0 0] [[]] := by
  subst hv
  refine ⟨⟨by simp, Or.inr ⟨w.heap.size, 1, #[.slice none 0 0], rfl, Nat.le_refl _, heap_alloc_new _ _, Nat.le_refl _, by unfold maxLen; omega, rfl, rfl⟩⟩, rfl, fun i hi => ?_, fun i j hi hj hij => ?_, fun i hi => ?_⟩
  · obtain rfl : i = 0 := by simpa using hi
    exact World.ownsRow_nil _ _ _ _
  · simp at hi hj; omega
  · obtain rfl : i = 0 := by simpa using hi
    exact fun k _ e => by simp [rowv, Value.ownBlock] at e
end Go.Proofs.YtgcpconlmihilaaGreatDoor
