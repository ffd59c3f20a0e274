/-
  Lists of tables in the making; the contract of the closure in rule.Fillings, and of the search behind it.
-/
import Derived.Test.YtncokoimbpkapaaRvN
import Derived.Test.YtncokoimbpkapaaRvP
import Derived.Deep.RegionLaw
namespace Go.Proofs.Ytncokoimbpkapaa
open Go.RowKit

theorem Try.info35 : (Try.prog.info? 35).map (fun i => (i.zero, i.size, i.bytes)) = some (some (.slice none 0 0), 1, 24) := by kernel_rfl
theorem elem_cube : Elem 26 35 (.slice none 0 0) 24 := ⟨Try.underlying26, Try.info35, rfl⟩
/-- Box fb holds a list of the tables acc; D are blocks that it has nothing to do with. -/
structure FCv (fb : Nat) (D : Nat → Prop) (acc : List (List (List Nat))) (w : World) (v : Value) (us : List Value) : Prop where
  bx : w.heap[fb]? = some (.cells #[v] 26 (0, 0))
  own : w.ownsRow (fb + 1) 35 1 v us.length us
  len : us.length = acc.length
  el : ∀ k, k < acc.length → ∃ a c, rowv us k = .slice a (acc.getD k []).length c ∧ ∀ w', (∀ j, j < w.heap.size → ¬ D j → j ≠ fb → v.ownBlock ≠ some j → w'.heap[j]? = w.heap[j]?) → w.heap.size ≤ w'.heap.size → Table w' a (castT (acc.getD k []))
  nd : ¬ D fb
  nv : ∀ j, v.ownBlock = some j → ¬ D j
def FC (fb : Nat) (D : Nat → Prop) (acc : List (List (List Nat))) (w : World) : Prop := ∃ v us, FCv fb D acc w v us
theorem FC.takes (fb : Nat) : Takes (FC fb) := by
  refine ⟨fun D acc w w' h hk hs => ?_, fun D acc w o h => ?_, fun D D' acc w hs h => ?_⟩
  · obtain ⟨v, us, h⟩ := h
    have hl := (Array.getElem?_eq_some_iff.1 h.bx).1
    refine ⟨v, us, by rw [hk fb hl h.nd]; exact h.bx, ownsRow_blocks h.own (fun k e => hk k (h.own.lt k e).2 (h.nv k e)), h.len, fun k hkk => ?_, h.nd, h.nv⟩
    obtain ⟨a, c, e1, e2⟩ := h.el k hkk
    refine ⟨a, c, e1, fun w2 h2 h3 => e2 w2 (fun j a1 a2 a3 a4 => ?_) (Nat.le_trans hs h3)⟩
    rw [h2 j (Nat.lt_of_lt_of_le a1 hs) a2 a3 a4, hk j a1 a2]
  · obtain ⟨v, us, h⟩ := h
    have hl := (Array.getElem?_eq_some_iff.1 h.bx).1
    have hb := Below.heap_alloc w o
    refine ⟨v, us, by rw [hb fb hl]; exact h.bx, ownsRow_blocks h.own (fun k e => hb k (h.own.lt k e).2), h.len, fun k hkk => ?_, fun hd => hd.elim h.nd (fun e => by omega), fun j e hd => hd.elim (h.nv j e) (fun e2 => by have := (h.own.lt j e).2; omega)⟩
    obtain ⟨a, c, e1, e2⟩ := h.el k hkk
    refine ⟨a, c, e1, fun w2 h2 h3 => e2 w2 (fun j a1 a2 a3 a4 => ?_) (by simp at h3; omega)⟩
    rw [h2 j (by simp; omega) (fun q => q.elim a2 (fun e => by omega)) a3 a4, hb j a1]
  · obtain ⟨v, us, h⟩ := h
    exact ⟨v, us, h.bx, h.own, h.len, fun k hkk => by
      obtain ⟨a, c, e1, e2⟩ := h.el k hkk
      exact ⟨a, c, e1, fun w2 h2 h3 => e2 w2 (fun j a1 a2 a3 a4 => h2 j a1 (fun q => a2 (hs j q)) a3 a4) h3⟩, fun q => h.nd (hs _ q), fun j e q => h.nv j e (hs _ q)⟩

/-- The same, and the blocks it has nothing to do with are there. -/
def FCb (fb : Nat) (D : Nat → Prop) (acc : List (List (List Nat))) (w : World) : Prop := FC fb D acc w ∧ ∀ k, D k → k < w.heap.size
theorem FCb.takes (fb : Nat) : Takes (FCb fb) := by
  have h0 := FC.takes fb
  refine ⟨fun D acc w w' h hk hs => ⟨h0.step D acc w w' h.1 hk hs, fun k hd => Nat.lt_of_lt_of_le (h.2 k hd) hs⟩, fun D acc w o h => ⟨h0.more D acc w o h.1, fun k hd => ?_⟩, fun D D' acc w hs h => ⟨h0.less D D' acc w hs h.1, fun k hd => h.2 k (hs k hd)⟩⟩
  rcases hd with hd | hd
  · have := h.2 k hd; simp; omega
  · simp; omega
/-- A table more. -/
theorem FCv.push {fb : Nat} {D : Nat → Prop} {acc : List (List (List Nat))} {w w1 w2 : World} {v v2 u : Value} {us : List Value} {t : List (List Nat)} (h : FCv fb D acc w v us) (hb1 : Below w.heap.size w w1) (hT : Tbl w1 w.heap.size u (castT t)) (ht : t.length ≤ 1000 ∧ ∀ r ∈ t, r.length ≤ 1000 ∧ ∀ z ∈ r, z ≤ 1000)
    (ho : w2.ownsRow (fb + 1) 35 1 v2 (us ++ [u]).length (us ++ [u])) (hk : KeepB v v2 w1 w2) (hDl : ∀ k, D k → k < w.heap.size) :
    FCv fb D (acc ++ [t]) (w2.setCell ⟨fb, 0, none⟩ v2) v2 (us ++ [u]) ∧ ∀ k, D k → (w2.setCell ⟨fb, 0, none⟩ v2).heap[k]? = w.heap[k]? := by
  have hl := (Array.getElem?_eq_some_iff.1 h.bx).1
  have hvfb : v.ownBlock ≠ some fb := fun e => by have := (h.own.lt fb e).1; omega
  have hs1 := hb1.size
  have hsame : ∀ j, j < w.heap.size → j ≠ fb → v.ownBlock ≠ some j → (w2.setCell ⟨fb, 0, none⟩ v2).heap[j]? = w.heap[j]? := fun j a1 a2 a3 => by
    rw [heap_setCell_other _ _ _ _ a2, hk.block j (by omega) a3, hb1.block j a1]
  have hv2 : ∀ j, v2.ownBlock = some j → v.ownBlock = some j ∨ w1.heap.size ≤ j := hk.lies
  have hbx2 : w2.heap[fb]? = some (.cells #[v] 26 (0, 0)) := by rw [hk.block fb (by omega) hvfb, hb1.block fb hl]; exact h.bx
  refine ⟨⟨?_, ownsRow_blocks ho (fun k e => heap_setCell_other _ _ _ _ (show k ≠ fb from fun e2 => by have := (ho.lt k e).1; omega)), by simp [h.len], fun k hkk => ?_, h.nd, fun j e => ?_⟩, fun k hd => hsame k (hDl k hd) (fun e => h.nd (by rw [← e]; exact hd)) (fun e => h.nv k e hd)⟩
  · have := heap_setCell_same w2 fb 0 _ _ v2 hbx2
    rw [this]; rfl
  · rw [List.length_append] at hkk
    rw [rowv_push]
    by_cases e : k < acc.length
    · rw [if_pos (by rw [h.len]; exact e)]
      have eg : (acc ++ [t]).getD k [] = acc.getD k [] := by simp only [List.getD]; rw [List.getElem?_append_left e]
      rw [eg]
      obtain ⟨a, c, e1, e2⟩ := h.el k e
      refine ⟨a, c, e1, fun w3 h3 h4 => e2 w3 (fun j a1 a2 a3 a4 => ?_) ?_⟩
      · rw [h3 j (by simp; have := hk.size; omega) a2 a3 (fun q => (hv2 j q).elim a4 (fun q2 => by omega))]
        exact hsame j a1 a3 a4
      · simp at h4; have := hk.size; omega
    · obtain rfl : k = acc.length := by simp at hkk; omega
      rw [if_neg (by rw [h.len]; omega), if_pos h.len.symm]
      have eg : (acc ++ [t]).getD acc.length [] = t := by simp [List.getD]
      rw [eg]
      obtain ⟨vs, hV⟩ := hT
      have hbd : ∀ l ∈ castT t, l.length ≤ 17592186044416 ∧ ∀ z ∈ l, -9223372036854775808 ≤ z ∧ z ≤ 9223372036854775807 := fun l hl => by
        unfold castT at hl
        obtain ⟨r, hr, rfl⟩ := List.mem_map.1 hl
        have := ht.2 r hr
        refine ⟨by rw [castL_len]; omega, fun z hz => ?_⟩
        unfold castL at hz
        obtain ⟨q, hq, rfl⟩ := List.mem_map.1 hz
        have := this.2 q hq
        omega
      obtain ⟨a, n, c, e1, _, HN⟩ := Tbl.table ⟨vs, hV⟩ hbd
      refine ⟨a, c, by rw [e1, HN.out, castT_len], fun w3 h3 h4 => ?_⟩
      have hsm : ∀ j, w.heap.size ≤ j → j < w1.heap.size → w3.heap[j]? = w1.heap[j]? := fun j a1 a2 => by
        have hvj : v.ownBlock ≠ some j := fun e => by have := (h.own.lt j e).2; omega
        rw [h3 j (by simp; have := hk.size; omega) (fun hd => by have := hDl j hd; omega) (by omega) (fun q => (hv2 j q).elim hvj (fun q2 => by omega)), heap_setCell_other _ _ _ _ (show j ≠ fb by omega), hk.block j a2 hvj]
      have hV3 := hV.same (w' := w3) hsm
      obtain ⟨a', n', c', e1', ht', _⟩ := Tbl.table ⟨vs, hV3⟩ hbd
      rw [e1] at e1'
      cases e1'
      exact ht'
  · rcases hv2 j e with q | q
    · exact h.nv j q
    · intro hd; have := hDl j hd; omega

/-- A call of rule.copied, in a region that draws its order. -/
theorem step_ucopied {w : World} {x : Value} {P : Value → World → Prop} {ops : Array Oper} {o : Oper} {a : Act} {K : Act → World → Prop} {Q : Exit → Act → World → Prop} {EE : Prop} (hgd : o.guard = none) (y : Operand)
    (ho : o.op = .call { callee := .value (.func 13), args := #[y], argTypes := #[35] }) (hx : a.eval y = x) (hc : Calls Try.prog 13 #[x] w fun e w' => ∃ v, e = .returned v ∧ P v w') (h : ∀ v w', P v w' → K (a.put o.dst v) w') :
    if Region.wanted o (yielded ops a.tmps) = true then Oper.wp Try.prog o a w K Q else EE := by
  have hw : Region.wanted o (yielded ops a.tmps) = true := by simp [Region.wanted, hgd]
  rw [if_pos hw]
  unfold Oper.wp
  simp [execOp, ho, resolve, invoke, hx]
  simp [Act.eval, Deferred.ofValue, callFunc, Try.func13]
  refine hc.mono ?_
  rintro e w' ⟨v, rfl, hP⟩
  exact h v w' hP

set_option maxHeartbeats 4000000 in
set_option maxRecDepth 100000 in
theorem fillings1_at (fb lo : Nat) (vr : Value) (vs : List Value) (D : Nat → Prop) (acc : List (List (List Nat))) (t : List (List Nat)) (w : World) (hF : FC fb D acc w) (hR : TblV w lo vr vs (castT t)) (ht : ∀ r ∈ t, r.length ≤ 1000 ∧ ∀ z ∈ r, z ≤ 1000) (htl : t.length ≤ 1000) (hl : acc.length + 1 ≤ 2821109907456) (hDl : ∀ k, D k → k < w.heap.size) :
    Calls Try.prog 12 #[vr, ptr fb] w fun e w' => e = .returned (.tuple #[]) ∧ FC fb D (acc ++ [t]) w' ∧ (∀ k, D k → k < w.heap.size → w'.heap[k]? = w.heap[k]?) ∧ Below fb w w' := by
  obtain ⟨v, us, hF⟩ := hF
  have hbd : ∀ l ∈ castT t, l.length ≤ 17592186044416 ∧ ∀ z ∈ l, -9223372036854775808 ≤ z ∧ z ≤ 9223372036854775807 := fun l hl => by
    unfold castT at hl
    obtain ⟨r, hr, rfl⟩ := List.mem_map.1 hl
    have := ht r hr
    refine ⟨by rw [castL_len]; omega, fun z hz => ?_⟩
    unfold castL at hz
    obtain ⟨q, hq, rfl⟩ := List.mem_map.1 hz
    have := this.2 q hq
    omega
  obtain ⟨a, n, c, rfl, hT, HN⟩ := Tbl.table ⟨vs, hR⟩ hbd
  have HT : Hid (Table w a (castT t)) := hT
  have HF : Hid (FCv fb D acc w v us) := hF
  have HLv : Hid (us.length + 1 ≤ 2821109907456) := by show _ ≤ _; rw [hF.len]; exact hl
  have c0 := cell_of_one hF.bx
  have f0 := free_of_one hF.bx
  have hfl : fb < w.heap.size := (Array.getElem?_eq_some_iff.1 hF.bx).1
  have HC : Hid (∀ W, Below w.heap.size w W → Calls Try.prog 13 #[.slice a n c] W fun e w' => ∃ v, e = .returned v ∧ (Tbl w' W.heap.size v (castT t) ∧ Below W.heap.size W w')) := fun W hW => ucopied_at a n c (castT t) W (HT.out.below hW) HN.out (by rw [castT_len]; exact htl) (fun r hr => by
    unfold castT at hr
    obtain ⟨q, hq, rfl⟩ := List.mem_map.1 hr
    rw [castL_len]; exact (ht q hq).1)
  have HEnd : Hid (∀ v1 w1, Tbl w1 w.drew.heap.size v1 (castT t) ∧ Below w.drew.heap.size w.drew w1 → w1.cell? ⟨fb, 0, none⟩ = some v ∧ w1.frozen? ⟨fb, 0, none⟩ = false ∧ Hid (Below w.heap.size w w1) ∧ Hid (Tbl w1 w.heap.size v1 (castT t)) ∧ Hid (w1.ownsRow (fb + 1) 35 1 v us.length us) ∧ (w1.alloc (.cells #[v1] 35)).cell? ⟨fb, 0, none⟩ = some v ∧ ∃ a1 m1 c1, v1 = .slice a1 m1 c1) := fun v1 w1 h => by
    have hb : Below w.heap.size w w1 := (below_drewN (Below.refl _ _) 1).trans h.2
    have e0 : w1.heap[fb]? = some (.cells #[v] 26 (0, 0)) := by rw [hb.block fb hfl]; exact HF.out.bx
    obtain ⟨a1, n1, c1, e1, _, _⟩ := h.1.table hbd
    exact ⟨cell_of_one e0, free_of_one e0, hb, h.1, ownsRow_blocks HF.out.own (fun k q => hb.block k (HF.out.own.lt k q).2), by rw [World.cell?_of_block (show (w1.alloc _).heap[fb]? = w1.heap[fb]? from Below.heap_alloc w1 _ fb (by have := hb.size; omega))]; exact cell_of_one e0, a1, n1, c1, e1⟩
  have HEnd2 : Hid (∀ v1 w1 v2 w2, Below w.heap.size w w1 → Tbl w1 w.heap.size v1 (castT t) → w2.ownsRow (fb + 1) 35 1 v2 (us ++ [v1]).length (us ++ [v1]) → Below (fb + 1) w1 w2 → KeepB v v2 w1 w2 → w2.cell? ⟨fb, 0, none⟩ = some v ∧ w2.frozen? ⟨fb, 0, none⟩ = false ∧ Hid (FC fb D (acc ++ [t]) (w2.setCell ⟨fb, 0, none⟩ v2) ∧ (∀ k, D k → k < w.heap.size → (w2.setCell ⟨fb, 0, none⟩ v2).heap[k]? = w.heap[k]?) ∧ Below fb w (w2.setCell ⟨fb, 0, none⟩ v2)) ∧ ∃ a2 m2 k2, v2 = .slice a2 m2 k2) := fun v1 w1 v2 w2 h1 h2 h3 h4 h5 => by
    obtain ⟨p1, p2⟩ := HF.out.push h1 h2 ⟨htl, ht⟩ h3 h5 hDl
    have hvfb : v.ownBlock ≠ some fb := fun e => by have := (HF.out.own.lt fb e).1; omega
    have e0 : w2.heap[fb]? = some (.cells #[v] 26 (0, 0)) := by rw [h5.block fb (by have := h1.size; omega) hvfb, h1.block fb hfl]; exact HF.out.bx
    refine ⟨cell_of_one e0, free_of_one e0, ⟨⟨v2, _, p1⟩, fun k a1 _ => p2 k a1, (show Below fb w w2 from (h1.mono (by omega)).trans (h4.mono (by omega))).setCell (p := ⟨fb, 0, none⟩) (Nat.le_refl _) _⟩, ?_⟩
    rcases h3.2 with ⟨q, _⟩ | ⟨g, cp, cur, q, _⟩
    · exact ⟨_, _, _, q⟩
    · exact ⟨_, _, _, q⟩
  obtain ⟨av, nv, cv, rfl⟩ : ∃ av nv cv, v = .slice av nv cv := by
    rcases hF.own.2 with ⟨q, _⟩ | ⟨g, cp, cur, q, _⟩
    · exact ⟨_, _, _, q⟩
    · exact ⟨_, _, _, q⟩
  have hfs : fb + 1 ≤ w.heap.size := by omega
  clear hF hR hT ht hl hbd
  go_enter Try.func12, Try.ntmps12
  go_wp2_with fail
  go_region_law (first | (refine step_ucopied rfl (.tmp 4) rfl (by first | (simp [Act.eval]; done) | (simp [Act.eval, Act.put]; done)) (HC.out _ (by first | exact Below.refl _ _ | exact below_drewN (Below.refl _ _) 1)) ?_; intro v1 w1 hP1; obtain ⟨g0, g1, g2, g3, g4, g5, a1, m1, k1, rfl⟩ := HEnd.out v1 w1 hP1; clear hP1) | (refine step_one elem_cube (x := .slice a1 m1 k1) rfl (.tmp 3) (.tmp 6) rfl (by first | (simp [Act.eval]; done) | (simp [Act.eval, Act.put]; done)) (by first | (simp [Act.eval]; done) | (simp [Act.eval, Act.put]; done)) rfl g4.out rfl (by have := HLv.out; unfold maxLen; omega) (by have := HLv.out; omega) (Nat.le_trans hfs g2.out.size) ?_; intro v2 w2 hO2 hb2 hk2; obtain ⟨e0, e1, e2, a2, m2, k2, rfl⟩ := HEnd2.out _ w1 v2 w2 g2.out g3.out hO2 hb2 hk2; clear hO2 hb2 hk2))
  all_goals go_wp2
  all_goals (first | go_end0 | (refine bodyPost_ret (results_none rfl _ _ _) rfl ?_))
  all_goals exact ⟨rfl, e2.out⟩

/-- From the search laid to all that is found: the list. -/
theorem fil_from {w wx : World} {al bl cl : List Nat} (T : Tri al bl cl) (h16 : cl.sum ≤ 16) (hm : cl.length ≤ 1000) (hn : bl.length ≤ 1000) (fb q R U Wb cw : Nat) (vb : Value) (vs : List Value) (hfb : fb < w.heap.size) (hw : w.heap[fb]? = some (.cells #[.slice none 0 0] 26 (0, 0)))
    (h : BS w wx w.heap.size q R U (bl.length + 1) Wb cw vb (.func (.func 12) #[] #[ptr fb]) vs (bxs (fun r => al.getD r 0) (fun r => cl.getD r 0) cl.length) bl.length cl.length (castT (tabN (fun r => cl.getD r 0) cl.length fun _ _ => 0)) bl) :
    Calls Try.prog 30 #[.pointer (some ⟨q, 0, none⟩), .int .i64 0] wx fun e w' => e = .returned (.tuple #[]) ∧ (FC fb (fun _ => False) (rgt al bl cl) w' ∧ Below fb w w') := by
  have hsum := T.sum
  have hbx := T.boxes
  have hF0 : FC fb (fun k => w.heap.size ≤ k ∧ k < wx.heap.size) [] wx := ⟨.slice none 0 0, [], by rw [h.bel.block fb hfb]; exact hw, World.ownsRow_nil _ _ _ _, rfl, fun k hk => by simp at hk, by omega, fun j e => by cases e⟩
  have TF : Takes (FCb fb) := FCb.takes fb
  have key := from_fil TF 2821109907456 w.heap.size wx.heap.size q U (bl.length + 1) Wb cw fb vb (.slice (some ⟨R, 0, none⟩) cl.length cl.length) vs _ bl.length cl.length (bOf bl) (fun r => cl.getD r 0)
    (fun D acc t w h1 _ h3 h4 h5 _ h2 => by
      obtain ⟨h1, hD⟩ := h1
      refine (fillings1_at fb _ _ vs D acc t w h1 h3 h4 h5 h2 hD).mono ?_
      rintro e w' ⟨rfl, k1, k2, k3⟩
      refine ⟨rfl, ⟨k1, fun k hk => ?_⟩, k2, k3⟩
      have hh := k2 k hk (hD k hk)
      rcases Nat.lt_or_ge k w'.heap.size with q | q
      · exact q
      · rw [Array.getElem?_eq_none q, Array.getElem?_eq_getElem (hD k hk)] at hh; cases hh)
    (fun p hp => by obtain ⟨r, j⟩ := p; have := mem_bxs.1 hp; exact ⟨this.1, this.2.2⟩) T.cd hn hm (cl_le (by omega)) (bOf_le (by omega)) (by rw [hbx]; omega) (by omega) h.bel.size
    _ 0 (fun _ _ => 0) (fun _ => 0) [] (fun k => w.heap.size ≤ k ∧ k < wx.heap.size) wx (List.drop_zero) (Nat.zero_le _) (ord_bxs _ _ _) h.done ⟨hF0, fun k hk => hk.2⟩ (fun k h1 h2 => ⟨h1, h2⟩) (by have := rgt_len T h16; unfold rgt at this; simpa using this)
  refine key.mono ?_
  rintro e w' ⟨rfl, g', _, _, h3, _, h5⟩
  refine ⟨rfl, ?_, (h.bel.mono (by omega)).trans h5⟩
  have := (FC.takes fb).less (fun _ => False) _ _ _ (fun k hk => hk.elim) h3.1
  rw [List.nil_append] at this
  exact this

end Go.Proofs.Ytncokoimbpkapaa
