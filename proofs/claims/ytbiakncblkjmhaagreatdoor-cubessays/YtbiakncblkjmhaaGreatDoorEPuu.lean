/-
  The closure in cubes.pilesIn.
  The closure in cubes.pilesIn, place by place.
-/
import Derived.Test.YtbiakncblkjmhaaGreatDoorEAll
namespace Go.Proofs.YtbiakncblkjmhaaGreatDoor
open Go.RowKit

abbrev bxQ (g : Nat) : Value := .pointer (some ⟨g, 0, none⟩)
abbrev ptVq (l0 bR bC bS bH bF : Nat) : Value := .func (.func 75) #[] #[bxQ l0, bxQ bR, bxQ bC, bxQ bS, bxQ bH, bxQ bF]
/-- what does not change while the closure runs -/
structure CE (w0 : World) (l0 lo g r c h : Nat) (gs : Nat → Nat) (bR bC bS bH bF : Nat) : Prop where
  cs : ∀ W : World, (∀ k, k < lo → k ≠ l0 → (∀ i, i < r → k ≠ gs i) → W.heap[k]? = w0.heap[k]?) → W.cell? ⟨bR, 0, none⟩ = some (.int .i64 (r : Int)) ∧ W.cell? ⟨bC, 0, none⟩ = some (.int .i64 (c : Int)) ∧ W.cell? ⟨bS, 0, none⟩ = some (.slice (some ⟨g, 0, none⟩) r r) ∧ W.cell? ⟨bH, 0, none⟩ = some (.int .i64 (h : Int)) ∧ W.cell? ⟨bF, 0, none⟩ = some (ptVq l0 bR bC bS bH bF)
  r1 : 1 ≤ r
  r8 : r ≤ 8
  c1 : 1 ≤ c
  c8 : c ≤ 8
  h8 : h ≤ 8

/-- the table begins as X -/
def Agr (c : Nat) (Q : Nat → Nat → Nat) (X : List Nat) : Prop := ∀ t, t < X.length → Q (t / c) (t % c) = X.getD t 0

theorem take_more {α : Type} (A B : List α) (k : Nat) : A.take k ++ B.take (k - (A.take k).length) = (A ++ B).take k := by
  rw [List.take_append, List.length_take]
  by_cases h : A.length ≤ k
  · rw [Nat.min_eq_right h]
  · rw [Nat.min_eq_left (by omega), show k - k = 0 by omega, show k - A.length = 0 by omega]

theorem own_shape {w : World} {lo : Nat} {e : TypeId} {v : Value} {us : List Value} (h : w.ownsRow lo e 1 v us.length us) : ∃ a c, v = .slice a us.length c := by
  rcases h.2 with ⟨hv, hn⟩ | ⟨g, cap, cur, hv, _⟩
  · exact ⟨none, 0, by rw [hv, hn]⟩
  · exact ⟨_, _, hv⟩

theorem step_ccop {w : World} {x : Value} {P : Value → World → Prop} {ops : Array Oper} {o : Oper} {a : Act} {K : Act → World → Prop} {Q : Exit → Act → World → Prop} {EE : Prop} (hgd : o.guard = none) (y : Operand)
    (ho : o.op = .call { callee := .value (.func 76), args := #[y], argTypes := #[22] }) (hx : a.eval y = x) (hc : Calls Tryz.prog 76 #[x] w fun e w' => ∃ v, e = .returned v ∧ P v w') (h : ∀ v w', P v w' → K (a.put o.dst v) w') :
    if Region.wanted o (yielded ops a.tmps) = true then Oper.wp Tryz.prog o a w K Q else EE := by
  have hw : Region.wanted o (yielded ops a.tmps) = true := by simp [Region.wanted, hgd]
  rw [if_pos hw]
  unfold Oper.wp
  simp [execOp, ho, resolve, invoke, hx]
  simp [Act.eval, Deferred.ofValue, callFunc, Tryz.func76]
  refine hc.mono ?_
  rintro e w' ⟨v, rfl, hP⟩
  exact h v w' hP

section
variable {w0 : World} {H l0 lo g r c h : Nat} {gs : Nat → Nat} {bR bC bS bH bF : Nat}

set_option maxHeartbeats 2000000 in
theorem Put_many {w : World} {Q : Nat → Nat → Nat} {vl : Value} {us : List Value} {L : List (List Nat)} (x : Value) (hX : CX w0 w H l0 lo g r c gs Q vl us L) (hL : L.length = 2001) :
    Calls Tryz.prog 75 #[x, bxQ l0, bxQ bR, bxQ bC, bxQ bS, bxQ bH, bxQ bF] w fun e w' => e = .returned (.tuple #[]) ∧ w' = w := by
  obtain ⟨a, cc, rfl⟩ := own_shape hX.li
  have c0 := (cell_oneC hX.lb).1
  rw [hX.ln, hL] at c0
  clear hX
  go_enter Tryz.func75, Tryz.ntmps75
  go_wp2
  first | go_end0 | (refine bodyPost_ret (results_none rfl _ _ _) rfl ?_)
  exact ⟨rfl, rfl⟩

theorem agr_full {Q : Nat → Nat → Nat} {X : List Nat} (hc : 1 ≤ c) (hA : Agr c Q X) (hl : X.length = r * c) : ∀ i, i < r → ∀ j, j < c → Q i j = fX c X i j := fun i hi j hj => by
  have hq : i * c + j < r * c := by
    have : (i + 1) * c ≤ r * c := Nat.mul_le_mul_right _ hi
    rw [Nat.succ_mul] at this; omega
  have := hA (i * c + j) (by omega)
  have e1 : (i * c + j) / c = i := by rw [Nat.mul_comm, Nat.mul_add_div (by omega), Nat.div_eq_of_lt hj, Nat.add_zero]
  have e2 : (i * c + j) % c = j := by rw [Nat.mul_comm, Nat.mul_add_mod, Nat.mod_eq_of_lt hj]
  rw [e1, e2] at this
  exact this

set_option maxHeartbeats 8000000 in
set_option maxRecDepth 100000 in
theorem Put_leaf {w : World} {Q : Nat → Nat → Nat} {vl : Value} {us : List Value} {L : List (List Nat)} {X : List Nat} {B : Nat} (E : CE w0 l0 lo g r c h gs bR bC bS bH bF) (hX : CX w0 w H l0 lo g r c gs Q vl us L) (hL : L.length ≤ 2000) (hA : Agr c Q X) (hl : X.length = r * c) (hQ : ∀ i, i < r → ∀ j, j < c → Q i j ≤ B) (hB : B ≤ 1000) :
    Calls Tryz.prog 75 #[.int .i64 (X.length : Int), bxQ l0, bxQ bR, bxQ bC, bxQ bS, bxQ bH, bxQ bF] w fun e w' => e = .returned (.tuple #[]) ∧ ∃ vl' us', CX w0 w' H l0 lo g r c gs Q vl' us' (L ++ [X]) := by
  obtain ⟨av, cv, hvl⟩ := own_shape hX.li
  obtain ⟨n, HN⟩ : ∃ n, Hid (n = us.length) := ⟨_, rfl⟩
  rw [← HN.out] at hvl
  have hn : n ≤ 2000 := by rw [HN.out, hX.ln]; exact hL
  subst hvl
  have c0 := (cell_oneC hX.lb).1
  obtain ⟨s1, s2, s3, s4, s5⟩ := E.cs w hX.st
  have r1 := E.r1; have r8 := E.r8; have c1 := E.c1; have c8 := E.c8
  obtain ⟨at', nt, ct, et, hT, HNt⟩ := hX.rc.tbl.table (tb_wf (by omega) hB hQ)
  simp only [Value.slice.injEq] at et
  obtain ⟨rfl, rfl, rfl⟩ := et
  have HX : Hid (CX w0 w H l0 lo g r c gs Q (.slice av n cv) us L) := hX
  have HE0 : Hid (CE w0 l0 lo g r c h gs bR bC bS bH bF) := E
  have HQe : Hid (tb r c Q = tb r c (fX c X)) := tb_congr (agr_full c1 hA hl)
  have HC : Hid (∀ W, Below w.heap.size w W → Calls Tryz.prog 76 #[.slice (some ⟨g, 0, none⟩) r r] W fun e w' => ∃ v, e = .returned v ∧ ∃ a1 m1 k1, v = .slice a1 m1 k1 ∧ w'.cell? ⟨l0, 0, none⟩ = some (.slice av n cv) ∧ w'.cell? ⟨bS, 0, none⟩ = some (.slice (some ⟨g, 0, none⟩) r r) ∧ (w'.alloc (.cells #[.slice a1 m1 k1] 22)).cell? ⟨l0, 0, none⟩ = some (.slice av n cv) ∧ Hid (Below w.heap.size w w' ∧ Tbl w' w.heap.size (.slice a1 m1 k1) (tb r c (fX c X)))) := fun W hW => by
    refine (ccopied_at (some ⟨g, 0, none⟩) r r r c Q W (hT.below hW) rfl r1 r8 c1 c8).mono ?_
    rintro e w' ⟨v, rfl, ht, hb⟩
    have hb2 := hW.trans (hb.mono hW.size)
    have hx := HX.out.below hb2
    obtain ⟨a1, m1, k1, e1, _, _⟩ := ht.table (tb_wf (by omega) hB hQ)
    subst e1
    have hl0 : l0 < w'.heap.size := Nat.lt_of_lt_of_le hx.lt.1 hx.sz
    rw [HQe.out] at ht
    exact ⟨_, rfl, a1, m1, k1, rfl, (cell_oneC hx.lb).1, (HE0.out.cs w' hx.st).2.2.1, by rw [World.cell?_of_block (Below.heap_alloc w' _ l0 hl0)]; exact (cell_oneC hx.lb).1, hb2, ht.mono hW.size⟩
  have HE : Hid (∀ w1 v1 v2 w2, (Below w.heap.size w w1 ∧ Tbl w1 w.heap.size v1 (tb r c (fX c X))) → w2.ownsRow lo 22 1 v2 (us ++ [v1]).length (us ++ [v1]) → Below lo w1 w2 → KeepB (.slice av n cv) v2 w1 w2 → w2.cell? ⟨l0, 0, none⟩ = some (.slice av n cv) ∧ w2.frozen? ⟨l0, 0, none⟩ = false ∧ Hid (CX w0 (w2.setCell ⟨l0, 0, none⟩ v2) H l0 lo g r c gs Q v2 (us ++ [v1]) (L ++ [X])) ∧ ∃ a2 m2 k2, v2 = .slice a2 m2 k2) := fun w1 v1 v2 w2 ⟨h1, h1t⟩ h2 h3 h4 => by
    have hx := HX.out.below h1
    have hb0 : (Value.slice av n cv).ownBlock ≠ some l0 := fun e => by have := (hx.li.lt l0 e).1; have := hx.lt.1; omega
    have e0 : w2.heap[l0]? = some (.cells #[.slice av n cv] 39 (0, 0)) := by rw [h4.block l0 (Nat.lt_of_lt_of_le hx.lt.1 hx.sz) hb0]; exact hx.lb
    refine ⟨(cell_oneC e0).1, (cell_oneC e0).2, HX.out.push h1 h1t h2 h3 h4, ?_⟩
    obtain ⟨a2, k2, q⟩ := own_shape h2
    exact ⟨_, _, _, q⟩
  have HLi : Hid (∀ w1, Below w.heap.size w w1 → w1.ownsRow lo 22 1 (.slice av n cv) us.length us) := fun w1 h1 => (HX.out.below h1).li
  have HSz : Hid (∀ w1, Below w.heap.size w w1 → lo ≤ w1.heap.size) := fun w1 h1 => (HX.out.below h1).sz
  have HUl : Hid (us.length ≤ 2000) := by show _ ≤ _; rw [HX.out.ln]; exact hL
  have hgt : ¬ ((n : Int) > 2000) := by omega
  obtain ⟨pp, HPp⟩ : ∃ pp, Hid (pp = r * c) := ⟨_, rfl⟩
  have hpp : pp ≤ 64 := by rw [HPp.out]; exact Nat.mul_le_mul r8 c8
  have e1 : (r : Int) * (c : Int) = (pp : Int) := by rw [HPp.out, Int.natCast_mul]
  have hXl : X.length = pp := by rw [hl, HPp.out]
  rw [hXl]
  have hqq : ((pp : Int) == (pp : Int)) = true := by simp
  clear hX hT hL E hA hl hQ s4 s5 HNt hXl
  go_enter Tryz.func75, Tryz.ntmps75
  go_upto_region 2 with fail
  go_region_law (first | (refine step_ccop (x := .slice (some ⟨g, 0, none⟩) r r) rfl (.tmp 20) rfl (by first | (simp [Act.eval]; done) | (simp [Act.eval, Act.put]; done)) (HC.out _ (by first | exact Below.refl _ _ | exact below_drewN (Below.refl _ _) 1)) ?_; rintro v1 w1 ⟨a1, m1, k1, rfl, g0, g1, g5, g2⟩) | (refine step_one elem_cb (x := .slice a1 m1 k1) rfl (.tmp 19) (.tmp 22) rfl (by first | (simp [Act.eval]; done) | (simp [Act.eval, Act.put]; done)) (by first | (simp [Act.eval]; done) | (simp [Act.eval, Act.put]; done)) rfl (HLi.out w1 g2.out.1) rfl (by have := HUl.out; unfold maxLen; omega) (by have := HUl.out; omega) (HSz.out w1 g2.out.1) ?_; intro v2 w2 hO2 hb2 hk2; obtain ⟨e0, e1, e2, a2, m2, k2, rfl⟩ := HE.out w1 _ v2 w2 g2.out hO2 hb2 hk2; clear hO2 hb2 hk2))
  all_goals go_wp2
  all_goals (first | go_end0 | (refine bodyPost_ret (results_none rfl _ _ _) rfl ?_))
  all_goals exact ⟨rfl, _, _, e2.out⟩

end

end Go.Proofs.YtbiakncblkjmhaaGreatDoor

namespace Go.Proofs.YtbiakncblkjmhaaGreatDoor
open Go.RowKit

/-- what a call of the closure leaves -/
def PEnd (w0 : World) (H l0 lo g r c : Nat) (gs : Nat → Nat) (L : List (List Nat)) (X : List Nat) (w' : World) : Prop :=
  ∃ Q vl us, CX w0 w' H l0 lo g r c gs Q vl us L ∧ Agr c Q X ∧ ∀ i, i < r → ∀ j, j < c → Q i j ≤ 8

theorem agr_less {c : Nat} {Q : Nat → Nat → Nat} {X : List Nat} {n : Nat} (h : Agr c Q (X ++ [n])) : Agr c Q X := fun t ht => by
  rw [h t (by simp; omega), getD_app ht]
theorem agr_more {c : Nat} {Q : Nat → Nat → Nat} {X : List Nat} (h : Agr c Q X) (n : Nat) : Agr c (upd Q (X.length / c) (X.length % c) n) (X ++ [n]) := fun t ht => by
  rw [List.length_append, List.length_singleton] at ht
  unfold upd
  by_cases e : t = X.length
  · subst e
    rw [if_pos ⟨rfl, rfl⟩]; simp [List.getD]
  · rw [if_neg (fun e2 => e (by rw [← Nat.div_add_mod t c, e2.1, e2.2, Nat.div_add_mod])), getD_app (by omega)]
    exact h t (by omega)

theorem most_moX {r c h : Nat} {Q : Nat → Nat → Nat} {X : List Nat} (hc : 1 ≤ c) (hA : Agr c Q X) (hl : X.length < r * c) : most (tb r c Q) (X.length / c) (X.length % c) (h : Int) = (moX c h X X.length : Nat) := by
  have hi : X.length / c < r := Nat.div_lt_of_lt_mul (by rw [Nat.mul_comm]; exact hl)
  have hj : X.length % c < c := Nat.mod_lt _ hc
  have hq : c * (X.length / c) + X.length % c = X.length := Nat.div_add_mod X.length c
  obtain ⟨i, hi'⟩ : ∃ i, i = X.length / c := ⟨_, rfl⟩
  obtain ⟨j, hj'⟩ : ∃ j, j = X.length % c := ⟨_, rfl⟩
  rw [← hi', ← hj'] at hq
  rw [← hi'] at hi
  rw [← hj'] at hj
  have e2 : c ≤ X.length ↔ 0 < i := by
    constructor
    · intro h
      rcases Nat.eq_zero_or_pos i with e | e
      · subst e; omega
      · exact e
    · intro h
      have : c * 1 ≤ c * i := Nat.mul_le_mul_left _ h
      omega
  have hleft : 0 < j → box (tb r c Q) i (j - 1) = (X.getD (X.length - 1) 0 : Nat) := fun h0 => by
    rw [box_tb hi (by omega)]
    have := hA (X.length - 1) (by omega)
    have e3 : (X.length - 1) / c = i := by
      rw [show X.length - 1 = c * i + (j - 1) by omega, Nat.mul_add_div (by omega), Nat.div_eq_of_lt (by omega), Nat.add_zero]
    have e4 : (X.length - 1) % c = j - 1 := by
      rw [show X.length - 1 = c * i + (j - 1) by omega, Nat.mul_add_mod, Nat.mod_eq_of_lt (by omega)]
    rw [e3, e4] at this
    rw [this]
  have hup : 0 < i → box (tb r c Q) (i - 1) j = (X.getD (X.length - c) 0 : Nat) := fun h0 => by
    rw [box_tb (by omega) hj]
    have hm : c * i = c * (i - 1) + c := by
      obtain ⟨k, rfl⟩ : ∃ k, i = k + 1 := ⟨i - 1, by omega⟩
      rw [Nat.add_sub_cancel, Nat.mul_succ]
    have := hA (X.length - c) (by omega)
    have e3 : (X.length - c) / c = i - 1 := by
      rw [show X.length - c = c * (i - 1) + j by omega, Nat.mul_add_div (by omega), Nat.div_eq_of_lt hj, Nat.add_zero]
    have e4 : (X.length - c) % c = j := by
      rw [show X.length - c = c * (i - 1) + j by omega, Nat.mul_add_mod, Nat.mod_eq_of_lt hj]
    rw [e3, e4] at this
    rw [this]
  rw [← hi', ← hj']
  unfold most moX
  simp only []
  rw [← hj']
  by_cases h1 : 0 < j
  · rw [if_pos h1, if_pos h1, hleft h1]
    by_cases h2 : 0 < i
    · rw [if_pos h2, if_pos (e2.2 h2), hup h2]; omega
    · rw [if_neg h2, if_neg (fun x => h2 (e2.1 x))]; omega
  · rw [if_neg h1, if_neg h1]
    by_cases h2 : 0 < i
    · rw [if_pos h2, if_pos (e2.2 h2), hup h2]; omega
    · rw [if_neg h2, if_neg (fun x => h2 (e2.1 x))]
theorem moX_le (C H : Nat) (X : List Nat) (q : Nat) : moX C H X q ≤ H := by unfold moX; simp only []; split <;> split <;> omega

section
variable {w0 : World} {H l0 lo g r c h : Nat} {gs : Nat → Nat} {bR bC bS bH bF : Nat}

set_option maxHeartbeats 8000000 in
set_option maxRecDepth 100000 in
theorem Put_at (E : CE w0 l0 lo g r c h gs bR bC bS bH bF) : ∀ (d : Nat) (X : List Nat) (w : World) (L : List (List Nat)), X.length + d = r * c → PEnd w0 H l0 lo g r c gs L X w → L.length ≤ 2001 →
    Calls Tryz.prog 75 #[.int .i64 (X.length : Int), bxQ l0, bxQ bR, bxQ bC, bxQ bS, bxQ bH, bxQ bF] w fun e w' => e = .returned (.tuple #[]) ∧ PEnd w0 H l0 lo g r c gs (L ++ (sr c h d X).take (2001 - L.length)) X w' := by
  intro d
  induction d with
  | zero =>
    intro X w L hd ⟨Q, vl, us, hX, hA, hQ⟩ hL
    by_cases hm : L.length = 2001
    · refine (Put_many _ hX hm).mono ?_
      rintro e w' ⟨rfl, rfl⟩
      rw [hm, Nat.sub_self, List.take_zero, List.append_nil]
      exact ⟨rfl, Q, vl, us, hX, hA, hQ⟩
    · refine (Put_leaf E hX (by omega) hA (by omega) hQ (by omega)).mono ?_
      rintro e w' ⟨rfl, vl', us', hX'⟩
      refine ⟨rfl, Q, vl', us', ?_, hA, hQ⟩
      rw [sr, List.take_of_length_le (by simp; omega)]
      exact hX'
  | succ d ih =>
    intro X w L hd ⟨Q, vl, us, hX, hA, hQ⟩ hL
    by_cases hm : L.length = 2001
    · refine (Put_many _ hX hm).mono ?_
      rintro e w' ⟨rfl, rfl⟩
      rw [hm, Nat.sub_self, List.take_zero, List.append_nil]
      exact ⟨rfl, Q, vl, us, hX, hA, hQ⟩
    · have r1 := E.r1; have r8 := E.r8; have c1 := E.c1; have c8 := E.c8; have h8 := E.h8
      obtain ⟨av, cv, hvl⟩ := own_shape hX.li
      obtain ⟨n, HN⟩ : ∃ n, Hid (n = us.length) := ⟨_, rfl⟩
      rw [← HN.out] at hvl
      have hn : n ≤ 2000 := by rw [HN.out, hX.ln]; omega
      subst hvl
      have c0 := (cell_oneC hX.lb).1
      obtain ⟨s1, s2, s3, s4, s5⟩ := E.cs w hX.st
      obtain ⟨p, HPl⟩ : ∃ p, Hid (p = X.length) := ⟨_, rfl⟩
      obtain ⟨pp, HPp⟩ : ∃ pp, Hid (pp = r * c) := ⟨_, rfl⟩
      have hpp : pp ≤ 64 := by rw [HPp.out]; exact Nat.mul_le_mul r8 c8
      have e1 : (r : Int) * (c : Int) = (pp : Int) := by rw [HPp.out, Int.natCast_mul]
      have hplt : p < pp := by rw [HPl.out, HPp.out]; omega
      have hne : ((p : Int) == (pp : Int)) = false := by simp; omega
      obtain ⟨i, HI⟩ : ∃ i, Hid (i = p / c) := ⟨_, rfl⟩
      obtain ⟨j, HJ⟩ : ∃ j, Hid (j = p % c) := ⟨_, rfl⟩
      have hi : i < r := by rw [HI.out]; exact Nat.div_lt_of_lt_mul (by rw [Nat.mul_comm, ← HPp.out]; exact hplt)
      have hj : j < c := by rw [HJ.out]; exact Nat.mod_lt _ c1
      have hdv : Int.tdiv (p : Int) (c : Int) = (i : Int) := by rw [HI.out]; rfl
      have hmd : Int.tmod (p : Int) (c : Int) = (j : Int) := by rw [HJ.out]; rfl
      have hc0b : ((c : Int) == 0) = false := by simp; omega
      have hc0n : ¬ (c : Int) = 0 := by omega
      obtain ⟨mo, HMo⟩ : ∃ mo, Hid (mo = moX c h X X.length) := ⟨_, rfl⟩
      have hmo : mo ≤ 8 := by rw [HMo.out]; have := moX_le c h X X.length; omega
      have hgt : ¬ ((n : Int) > 2000) := by omega
      have HX : Hid (CX w0 w H l0 lo g r c gs Q (.slice av n cv) us L) := hX
      have HMc : Hid (∀ W, W.heap = w.heap → Calls Tryz.prog 25 #[.slice (some ⟨g, 0, none⟩) r r, .int .i64 (i : Int), .int .i64 (j : Int), .int .i64 (h : Int)] W fun e w' => e = .returned (.int .i64 (mo : Int)) ∧ w' = W) := fun W hW => by
        obtain ⟨at', nt, ct, et, hT, HNt⟩ := (hX.rc.same (w' := W) (fun k _ _ => by rw [hW])).tbl.table (tb_wf (by omega) (by omega : 8 ≤ 1000) hQ)
        simp only [Value.slice.injEq] at et
        obtain ⟨rfl, rfl, rfl⟩ := et
        have hm2 := most_moX (h := h) c1 hA (by rw [← HPl.out, ← HPp.out]; exact hplt)
        rw [← HPl.out, ← HI.out, ← HJ.out] at hm2
        have hc := mostAt_at (some ⟨g, 0, none⟩) r r (tb r c Q) W i j (h : Int) hT HNt.out (by rw [tb_len]; omega) (by rw [tb_len]; exact hi) (fun h0 => by rw [tb_row hi, tab_length]; omega) (fun h0 => by rw [tb_row (by omega), tab_length]; exact hj) (by omega)
        rw [hm2] at hc
        rw [HMo.out, ← HPl.out]; exact hc
      have HPE : Hid (PEnd w0 H l0 lo g r c gs (L ++ (((List.range 0).flatMap fun n => sr c h d (X ++ [n])).take (2001 - L.length))) X w) := ⟨Q, _, us, by simpa using hX, hA, hQ⟩
      have HA0 : Hid (L.length ≤ 2000) := by show _ ≤ _; omega
      have HEe : Hid (CE w0 l0 lo g r c h gs bR bC bS bH bF) := E
      have HIH := hid_w ih
      have HDd : Hid (X.length + (d + 1) = r * c) := hd
      rw [← HPl.out]
      clear hX hA hQ hm hL E ih hd
      go_enter Tryz.func75, Tryz.ntmps75
      go_wp2_with fail
      go_quiet (fail)
      go_wp2_with fail
      refine (HMc.out (w.drewN nq) rfl).mono ?_
      rintro e w1 ⟨rfl, hw1⟩
      have HP1 : Hid (PEnd w0 H l0 lo g r c gs (L ++ (((List.range 0).flatMap fun n => sr c h d (X ++ [n])).take (2001 - L.length))) X w1) := by
        obtain ⟨Q1, v1, u1, q1, q2, q3⟩ := HPE.out
        rw [hw1]
        exact ⟨Q1, v1, u1, q1.below (below_drewN (Below.refl _ _) nq), q2, q3⟩
      clear hw1 HMc HPE HX s1 s2 s3 s4 s5 c0 HN
      go_wp2_with fail
      go_loopw [36] (fun q wr => ∃ t : Nat, t ≤ mo + 1 ∧ q = .int .i64 t ∧ Hid (PEnd w0 H l0 lo g r c gs (L ++ (((List.range t).flatMap fun n => sr c h d (X ++ [n])).take (2001 - L.length))) X wr)) (fun q _ => mo + 1 - (intOf q).toNat)
      case atStart => exact ⟨0, Nat.zero_le _, rfl, HP1⟩
      case round =>
        clear HP1
        obtain ⟨t, ht, rfl, HP⟩ := hrel
        by_cases htl : t < mo + 1
        · have htl' : (t : Int) < (mo : Int) + 1 := by omega
          obtain ⟨Q1, v1, u1, q1, q2, q3⟩ := HP.out
          obtain ⟨s1, s2, s3, s4, -⟩ := HEe.out.cs wr q1.st
          have hi' : (i : Int) < (r : Int) := by omega
          have hj' : (j : Int) < (c : Int) := by omega
          have cR := q1.rc.head (i := i) hi
          obtain ⟨cB, fB, hlo, hhi⟩ := q1.rc.box (i := i) (j := j) hi hj
          have hq := q1.set hi hj t (W := wr) rfl (Below.refl _ _)
          obtain ⟨-, -, -, -, s5⟩ := HEe.out.cs (wr.setCell ⟨gs i, j, none⟩ (.int .i64 (t : Int))) hq.st
          have HIc : Hid (Calls Tryz.prog 75 #[.int .i64 ((p : Int) + 1), bxQ l0, bxQ bR, bxQ bC, bxQ bS, bxQ bH, bxQ bF] (wr.setCell ⟨gs i, j, none⟩ (.int .i64 (t : Int))) fun e w' => e = .returned (.tuple #[]) ∧ Hid (PEnd w0 H l0 lo g r c gs (L ++ (((List.range (t + 1)).flatMap fun n => sr c h d (X ++ [n])).take (2001 - L.length))) X w')) := by
            have hlen : (X ++ [t]).length = p + 1 := by rw [List.length_append, HPl.out]; rfl
            have hAg := agr_more q2 t
            rw [← HPl.out, ← HI.out, ← HJ.out] at hAg
            have hbd : ∀ a, a < r → ∀ b, b < c → upd Q1 i j t a b ≤ 8 := fun a ha b hb => by
              unfold upd
              split
              · omega
              · exact q3 a ha b hb
            have hLl : (L ++ ((List.range t).flatMap fun n => sr c h d (X ++ [n])).take (2001 - L.length)).length ≤ 2001 := by
              rw [List.length_append, List.length_take]; have := HA0.out; omega
            have hc := HIH.out (X ++ [t]) (wr.setCell ⟨gs i, j, none⟩ (.int .i64 (t : Int))) _ (by have := HDd.out; rw [hlen, HPl.out]; omega) ⟨_, _, _, hq, hAg, hbd⟩ hLl
            rw [hlen, show ((p + 1 : Nat) : Int) = (p : Int) + 1 by omega] at hc
            refine hc.mono ?_
            rintro e w' ⟨rfl, Q2, v2, u2, x1, x2, x3⟩
            refine ⟨rfl, Q2, v2, u2, ?_, agr_less x2, x3⟩
            have e9 : L ++ ((List.range (t + 1)).flatMap fun n => sr c h d (X ++ [n])).take (2001 - L.length) = (L ++ ((List.range t).flatMap fun n => sr c h d (X ++ [n])).take (2001 - L.length)) ++ (sr c h d (X ++ [t])).take (2001 - (L ++ ((List.range t).flatMap fun n => sr c h d (X ++ [n])).take (2001 - L.length)).length) := by
              rw [List.range_succ, List.flatMap_append, List.append_assoc, List.length_append, ← Nat.sub_sub, take_more]
              simp
            rw [e9]; exact x1
          clear q1 q2 q3 hq HP
          obtain ⟨G, HG⟩ : ∃ G, Hid (G = gs i) := ⟨_, rfl⟩
          rw [← HG.out] at cR cB fB hlo hhi HIc s5
          go_wp2_with fail
          refine HIc.out.mono ?_
          rintro e w3 ⟨rfl, HP3⟩
          go_wp2
          go_roundw
          case rel => exact ⟨t + 1, by omega, by go_num, HP3⟩
          case measure => simp [intOf]; omega
        · obtain rfl : t = mo + 1 := by omega
          have HPe : Hid (PEnd w0 H l0 lo g r c gs (L ++ (sr c h (d + 1) X).take (2001 - L.length)) X wr) := by
            have h := HP.out
            rw [HMo.out] at h
            exact h
          have hno : ¬ (((mo + 1 : Nat) : Int) < (mo : Int) + 1) := by omega
          go_wp2
          first | go_end0 | (refine bodyPost_ret (results_none rfl _ _ _) rfl ?_)
          exact ⟨rfl, HPe.out⟩
end

end Go.Proofs.YtbiakncblkjmhaaGreatDoor
