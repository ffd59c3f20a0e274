/-
  The closure in cubes.pilesIn.
-/
import Derived.Test.YtpdlhnniibjfaaiDoorEAll
namespace Go.Proofs.YtpdlhnniibjfaaiDoor
open Go.RowKit

abbrev bxQ (g : Nat) : Value := .pointer (some ⟨g, 0, none⟩)
abbrev ptV (l0 bR bC bS bH bF : Nat) : Value := .func (.func 58) #[] #[bxQ l0, bxQ bR, bxQ bC, bxQ bS, bxQ bH, bxQ bF]
/-- what does not change while the closure runs -/
structure CE (w0 : World) (l0 lo g r c h : Nat) (gs : Nat → Nat) (bR bC bS bH bF : Nat) : Prop where
  cs : ∀ W : World, (∀ k, k < lo → k ≠ l0 → (∀ i, i < r → k ≠ gs i) → W.heap[k]? = w0.heap[k]?) → W.cell? ⟨bR, 0, none⟩ = some (.int .i64 (r : Int)) ∧ W.cell? ⟨bC, 0, none⟩ = some (.int .i64 (c : Int)) ∧ W.cell? ⟨bS, 0, none⟩ = some (.slice (some ⟨g, 0, none⟩) r r) ∧ W.cell? ⟨bH, 0, none⟩ = some (.int .i64 (h : Int)) ∧ W.cell? ⟨bF, 0, none⟩ = some (ptV l0 bR bC bS bH bF)
  r1 : 1 ≤ r
  r8 : r ≤ 8
  c1 : 1 ≤ c
  c8 : c ≤ 8
  h8 : h ≤ 8

/-- the table begins as X -/
def Agr (c : Nat) (Q : Nat → Nat → Nat) (X : List Nat) : Prop := ∀ t, t < X.length → Q (t / c) (t % c) = X.getD t 0

theorem take_more {α : Type} (A B : List α) (k : Nat) : A.take k ++ B.take (k - (A.take k).length) = (A ++ B).take k := by
  rw [List.take_append, List.length_take]
  by_cases h : A.length ≤ k
  · rw [Nat.min_eq_right h]
  · rw [Nat.min_eq_left (by omega), show k - k = 0 by omega, show k - A.length = 0 by omega]

theorem own_shape {w : World} {lo : Nat} {e : TypeId} {v : Value} {us : List Value} (h : w.ownsRow lo e 1 v us.length us) : ∃ a c, v = .slice a us.length c := by
  rcases h.2 with ⟨hv, hn⟩ | ⟨g, cap, cur, hv, _⟩
  · exact ⟨none, 0, by rw [hv, hn]⟩
  · exact ⟨_, _, hv⟩

theorem step_ccop {w : World} {x : Value} {P : Value → World → Prop} {ops : Array Oper} {o : Oper} {a : Act} {K : Act → World → Prop} {Q : Exit → Act → World → Prop} {EE : Prop} (hgd : o.guard = none) (y : Operand)
    (ho : o.op = .call { callee := .value (.func 59), args := #[y], argTypes := #[22] }) (hx : a.eval y = x) (hc : Calls Tryd.prog 59 #[x] w fun e w' => ∃ v, e = .returned v ∧ P v w') (h : ∀ v w', P v w' → K (a.put o.dst v) w') :
    if Region.wanted o (yielded ops a.tmps) = true then Oper.wp Tryd.prog o a w K Q else EE := by
  have hw : Region.wanted o (yielded ops a.tmps) = true := by simp [Region.wanted, hgd]
  rw [if_pos hw]
  unfold Oper.wp
  simp [execOp, ho, resolve, invoke, hx]
  simp [Act.eval, Deferred.ofValue, callFunc, Tryd.func59]
  refine hc.mono ?_
  rintro e w' ⟨v, rfl, hP⟩
  exact h v w' hP

section
variable {w0 : World} {H l0 lo g r c h : Nat} {gs : Nat → Nat} {bR bC bS bH bF : Nat}

set_option maxHeartbeats 2000000 in
theorem Put_many {w : World} {Q : Nat → Nat → Nat} {vl : Value} {us : List Value} {L : List (List Nat)} (x : Value) (hX : CX w0 w H l0 lo g r c gs Q vl us L) (hL : L.length = 2001) :
    Calls Tryd.prog 58 #[x, bxQ l0, bxQ bR, bxQ bC, bxQ bS, bxQ bH, bxQ bF] w fun e w' => e = .returned (.tuple #[]) ∧ w' = w := by
  obtain ⟨a, cc, rfl⟩ := own_shape hX.li
  have c0 := (cell_oneC hX.lb).1
  rw [hX.ln, hL] at c0
  clear hX
  go_enter Tryd.func58, Tryd.ntmps58
  go_wp2
  first | go_end0 | (refine bodyPost_ret (results_none rfl _ _ _) rfl ?_)
  exact ⟨rfl, rfl⟩

theorem agr_full {Q : Nat → Nat → Nat} {X : List Nat} (hc : 1 ≤ c) (hA : Agr c Q X) (hl : X.length = r * c) : ∀ i, i < r → ∀ j, j < c → Q i j = fX c X i j := fun i hi j hj => by
  have hq : i * c + j < r * c := by
    have : (i + 1) * c ≤ r * c := Nat.mul_le_mul_right _ hi
    rw [Nat.succ_mul] at this; omega
  have := hA (i * c + j) (by omega)
  have e1 : (i * c + j) / c = i := by rw [Nat.mul_comm, Nat.mul_add_div (by omega), Nat.div_eq_of_lt hj, Nat.add_zero]
  have e2 : (i * c + j) % c = j := by rw [Nat.mul_comm, Nat.mul_add_mod, Nat.mod_eq_of_lt hj]
  rw [e1, e2] at this
  exact this

set_option maxHeartbeats 8000000 in
set_option maxRecDepth 100000 in
theorem Put_leaf {w : World} {Q : Nat → Nat → Nat} {vl : Value} {us : List Value} {L : List (List Nat)} {X : List Nat} {B : Nat} (E : CE w0 l0 lo g r c h gs bR bC bS bH bF) (hX : CX w0 w H l0 lo g r c gs Q vl us L) (hL : L.length ≤ 2000) (hA : Agr c Q X) (hl : X.length = r * c) (hQ : ∀ i, i < r → ∀ j, j < c → Q i j ≤ B) (hB : B ≤ 1000) :
    Calls Tryd.prog 58 #[.int .i64 (X.length : Int), bxQ l0, bxQ bR, bxQ bC, bxQ bS, bxQ bH, bxQ bF] w fun e w' => e = .returned (.tuple #[]) ∧ ∃ vl' us', CX w0 w' H l0 lo g r c gs Q vl' us' (L ++ [X]) := by
  obtain ⟨av, cv, hvl⟩ := own_shape hX.li
  obtain ⟨n, HN⟩ : ∃ n, Hid (n = us.length) := ⟨_, rfl⟩
  rw [← HN.out] at hvl
  have hn : n ≤ 2000 := by rw [HN.out, hX.ln]; exact hL
  subst hvl
  have c0 := (cell_oneC hX.lb).1
  obtain ⟨s1, s2, s3, s4, s5⟩ := E.cs w hX.st
  have r1 := E.r1; have r8 := E.r8; have c1 := E.c1; have c8 := E.c8
  obtain ⟨at', nt, ct, et, hT, HNt⟩ := hX.rc.tbl.table (tb_wf (by omega) hB hQ)
  simp only [Value.slice.injEq] at et
  obtain ⟨rfl, rfl, rfl⟩ := et
  have HX : Hid (CX w0 w H l0 lo g r c gs Q (.slice av n cv) us L) := hX
  have HE0 : Hid (CE w0 l0 lo g r c h gs bR bC bS bH bF) := E
  have HQe : Hid (tb r c Q = tb r c (fX c X)) := tb_congr (agr_full c1 hA hl)
  have HC : Hid (∀ W, Below w.heap.size w W → Calls Tryd.prog 59 #[.slice (some ⟨g, 0, none⟩) r r] W fun e w' => ∃ v, e = .returned v ∧ ∃ a1 m1 k1, v = .slice a1 m1 k1 ∧ w'.cell? ⟨l0, 0, none⟩ = some (.slice av n cv) ∧ w'.cell? ⟨bS, 0, none⟩ = some (.slice (some ⟨g, 0, none⟩) r r) ∧ (w'.alloc (.cells #[.slice a1 m1 k1] 22)).cell? ⟨l0, 0, none⟩ = some (.slice av n cv) ∧ Hid (Below w.heap.size w w' ∧ Tbl w' w.heap.size (.slice a1 m1 k1) (tb r c (fX c X)))) := fun W hW => by
    refine (ccopied_at (some ⟨g, 0, none⟩) r r r c Q W (hT.below hW) rfl r1 r8 c1 c8).mono ?_
    rintro e w' ⟨v, rfl, ht, hb⟩
    have hb2 := hW.trans (hb.mono hW.size)
    have hx := HX.out.below hb2
    obtain ⟨a1, m1, k1, e1, _, _⟩ := ht.table (tb_wf (by omega) hB hQ)
    subst e1
    have hl0 : l0 < w'.heap.size := Nat.lt_of_lt_of_le hx.lt.1 hx.sz
    rw [HQe.out] at ht
    exact ⟨_, rfl, a1, m1, k1, rfl, (cell_oneC hx.lb).1, (HE0.out.cs w' hx.st).2.2.1, by rw [World.cell?_of_block (Below.heap_alloc w' _ l0 hl0)]; exact (cell_oneC hx.lb).1, hb2, ht.mono hW.size⟩
  have HE : Hid (∀ w1 v1 v2 w2, (Below w.heap.size w w1 ∧ Tbl w1 w.heap.size v1 (tb r c (fX c X))) → w2.ownsRow lo 22 1 v2 (us ++ [v1]).length (us ++ [v1]) → Below lo w1 w2 → KeepB (.slice av n cv) v2 w1 w2 → w2.cell? ⟨l0, 0, none⟩ = some (.slice av n cv) ∧ w2.frozen? ⟨l0, 0, none⟩ = false ∧ Hid (CX w0 (w2.setCell ⟨l0, 0, none⟩ v2) H l0 lo g r c gs Q v2 (us ++ [v1]) (L ++ [X])) ∧ ∃ a2 m2 k2, v2 = .slice a2 m2 k2) := fun w1 v1 v2 w2 ⟨h1, h1t⟩ h2 h3 h4 => by
    have hx := HX.out.below h1
    have hb0 : (Value.slice av n cv).ownBlock ≠ some l0 := fun e => by have := (hx.li.lt l0 e).1; have := hx.lt.1; omega
    have e0 : w2.heap[l0]? = some (.cells #[.slice av n cv] 40 (0, 0)) := by rw [h4.block l0 (Nat.lt_of_lt_of_le hx.lt.1 hx.sz) hb0]; exact hx.lb
    refine ⟨(cell_oneC e0).1, (cell_oneC e0).2, HX.out.push h1 h1t h2 h3 h4, ?_⟩
    obtain ⟨a2, k2, q⟩ := own_shape h2
    exact ⟨_, _, _, q⟩
  have HLi : Hid (∀ w1, Below w.heap.size w w1 → w1.ownsRow lo 22 1 (.slice av n cv) us.length us) := fun w1 h1 => (HX.out.below h1).li
  have HSz : Hid (∀ w1, Below w.heap.size w w1 → lo ≤ w1.heap.size) := fun w1 h1 => (HX.out.below h1).sz
  have HUl : Hid (us.length ≤ 2000) := by show _ ≤ _; rw [HX.out.ln]; exact hL
  have hgt : ¬ ((n : Int) > 2000) := by omega
  obtain ⟨pp, HPp⟩ : ∃ pp, Hid (pp = r * c) := ⟨_, rfl⟩
  have hpp : pp ≤ 64 := by rw [HPp.out]; exact Nat.mul_le_mul r8 c8
  have e1 : (r : Int) * (c : Int) = (pp : Int) := by rw [HPp.out, Int.natCast_mul]
  have hXl : X.length = pp := by rw [hl, HPp.out]
  rw [hXl]
  have hqq : ((pp : Int) == (pp : Int)) = true := by simp
  clear hX hT hL E hA hl hQ s4 s5 HNt hXl
  go_enter Tryd.func58, Tryd.ntmps58
  go_upto_region 2 with fail
  go_region_law (first | (refine step_ccop (x := .slice (some ⟨g, 0, none⟩) r r) rfl (.tmp 20) rfl (by first | (simp [Act.eval]; done) | (simp [Act.eval, Act.put]; done)) (HC.out _ (by first | exact Below.refl _ _ | exact below_drewN (Below.refl _ _) 1)) ?_; rintro v1 w1 ⟨a1, m1, k1, rfl, g0, g1, g5, g2⟩) | (refine step_one elem_cb (x := .slice a1 m1 k1) rfl (.tmp 19) (.tmp 22) rfl (by first | (simp [Act.eval]; done) | (simp [Act.eval, Act.put]; done)) (by first | (simp [Act.eval]; done) | (simp [Act.eval, Act.put]; done)) rfl (HLi.out w1 g2.out.1) rfl (by have := HUl.out; unfold maxLen; omega) (by have := HUl.out; omega) (HSz.out w1 g2.out.1) ?_; intro v2 w2 hO2 hb2 hk2; obtain ⟨e0, e1, e2, a2, m2, k2, rfl⟩ := HE.out w1 _ v2 w2 g2.out hO2 hb2 hk2; clear hO2 hb2 hk2))
  all_goals go_wp2
  all_goals (first | go_end0 | (refine bodyPost_ret (results_none rfl _ _ _) rfl ?_))
  all_goals exact ⟨rfl, _, _, e2.out⟩

end

end Go.Proofs.YtpdlhnniibjfaaiDoor
