/-
  The closure in fill.standardOf: too many already; all boxes are filled.
-/
import Derived.Test.YtmbpcapjldbkbaaGreatDoorSMem
namespace Go.Proofs.YtmbpcapjldbkbaaGreatDoor
open Go.RowKit

/-- The closure itself. -/
abbrev sdV (l0 bs bp bf : Nat) : Value := .func (.func 72) #[] #[bxP l0, bxP bs, bxP bp, bxP bf]
/-- What does not change while the closure runs. -/
structure SE (w0 : World) (l0 R lo m bp bs bf : Nat) (zs : List Int) (ap : Option Addr) (cp : Nat) : Prop where
  pt : IsPt zs
  hm : m = zs.length
  cs : ∀ W : World, (∀ k, k < lo → k ≠ l0 → k ≠ R → W.heap[k]? = w0.heap[k]?) → W.cell? ⟨bp, 0, none⟩ = some (.slice ap m cp) ∧ W.cell? ⟨bs, 0, none⟩ = some (.slice (some ⟨R, 0, none⟩) m m) ∧ W.cell? ⟨bf, 0, none⟩ = some (sdV l0 bs bp bf)
  ps : ∀ W : World, (∀ k, k < lo → k ≠ l0 → k ≠ R → W.heap[k]? = w0.heap[k]?) → ∀ i, i < m → ∃ b o, ap = some ⟨b, o, none⟩ ∧ W.cell? ⟨b, o + i, none⟩ = some (.int .i64 (pF zs i : Int))

set_option maxHeartbeats 2000000 in
theorem Sd_many {H : Nat} {w0 w : World} {l0 R lo m : Nat} {vl : Value} {us vs : List Value} {rows : List (List Nat)} (bs bp bf : Nat) (x : Value) (h : TX H w0 w l0 R lo m vl us vs rows) (hu : us.length = 2001) :
    Calls Tryz.prog 72 #[x, bxP l0, bxP bs, bxP bp, bxP bf] w fun e w' => e = .returned (.tuple #[]) ∧ w' = w := by
  obtain ⟨a, c, rfl⟩ := h.shape
  have c0 := (cell_oneX h.lb).1
  rw [hu] at c0
  clear h
  go_enter Tryz.func72, Tryz.ntmps72
  go_wp2
  first | go_end0 | (refine bodyPost_ret (results_none rfl _ _ _) rfl ?_)
  exact ⟨rfl, rfl⟩

set_option maxHeartbeats 8000000 in
set_option maxRecDepth 100000 in
/-- All boxes are filled. -/
theorem Sd_leaf {H : Nat} {w0 w : World} {l0 R lo m bp bs bf cp : Nat} {zs : List Int} {ap : Option Addr} {vl : Value} {us vs : List Value} {t : List (List Nat)} (c : Nat) (E : SE w0 l0 R lo m bp bs bf zs ap cp) (h : TX H w0 w l0 R lo m vl us vs t) (hu : us.length ≤ 2000) (hf : ∀ i, i < m → lnN t i = pF zs i) (hbt : ∀ l ∈ t, l.length ≤ 1000 ∧ ∀ z ∈ l, z ≤ 1000) :
    Calls Tryz.prog 72 #[.int .i64 (c : Int), bxP l0, bxP bs, bxP bp, bxP bf] w fun e w' => e = .returned (.tuple #[]) ∧ SEnd H w0 w l0 R lo m vl us vs t [t] w' := by
  obtain ⟨av, cv, hvl⟩ := h.shape
  obtain ⟨n, HN⟩ : ∃ n, Hid (n = us.length) := ⟨_, rfl⟩
  rw [← HN.out] at hvl
  have hn : n ≤ 2000 := by rw [HN.out]; exact hu
  subst hvl
  have c0 := (cell_oneX h.lb).1
  obtain ⟨s1, s2, s3⟩ := E.cs w h.st
  have hm40 : m ≤ 40 := by rw [E.hm]; exact E.pt.len
  have hbd := castT_bdX hbt
  obtain ⟨at', nt, ct, et, hT, HNt⟩ := (show Tbl w R _ _ from ⟨vs, h.tb⟩).table (fun l hl => (hbd l hl).2)
  simp only [Value.slice.injEq] at et
  obtain ⟨rfl, rfl, rfl⟩ := et
  have HX : Hid (TX H w0 w l0 R lo m (.slice av n cv) us vs t) := h
  have HTt : Hid (Table w (some ⟨R, 0, none⟩) (castT t)) := hT
  have HPs : Hid (∀ i, i < m → ∃ b o, ap = some ⟨b, o, none⟩ ∧ w.cell? ⟨b, o + i, none⟩ = some (.int .i64 (pF zs i : Int))) := E.ps w h.st
  have HF : Hid (∀ i, i < m → lnN t i = pF zs i) := hf
  have HP40 : Hid (∀ i, pF zs i ≤ 40) := pF_le E.pt
  have HC : Hid (∀ W, Below w.heap.size w W → Calls Tryz.prog 73 #[.slice (some ⟨R, 0, none⟩) m m] W fun e w' => ∃ v, e = .returned v ∧ ∃ a1 m1 k1, v = .slice a1 m1 k1 ∧ w'.cell? ⟨l0, 0, none⟩ = some (.slice av n cv) ∧ w'.cell? ⟨bs, 0, none⟩ = some (.slice (some ⟨R, 0, none⟩) m m) ∧ (w'.alloc (.cells #[.slice a1 m1 k1] 34)).cell? ⟨l0, 0, none⟩ = some (.slice av n cv) ∧ Hid (Below w.heap.size w w' ∧ ∃ x', w.heap.size ≤ x' ∧ Tbl w' x' (.slice a1 m1 k1) (castT t))) := fun W hW => by
    refine (fcopied_at (some ⟨R, 0, none⟩) m m _ W (hT.below hW) HNt.out (by rw [castT_len, HX.out.rm]; omega) (fun l hl => (hbd l hl).1)).mono ?_
    rintro e w' ⟨v, rfl, ht, hb⟩
    have hb2 := hW.trans (hb.mono hW.size)
    have hx := HX.out.below hb2
    have ht2 := ht
    obtain ⟨a1, m1, k1, e1, _, _⟩ := ht.table (fun l hl => (hbd l hl).2)
    subst e1
    have hl0 : l0 < w'.heap.size := Nat.lt_of_lt_of_le hx.lt.1 hx.sz
    exact ⟨_, rfl, a1, m1, k1, rfl, (cell_oneX hx.lb).1, (E.cs w' hx.st).2.1, by rw [World.cell?_of_block (Below.heap_alloc w' _ l0 hl0)]; exact (cell_oneX hx.lb).1, hb2, _, hW.size, ht2⟩
  have HE : Hid (∀ w1 v1 v2 w2, (Below w.heap.size w w1 ∧ ∃ x', w.heap.size ≤ x' ∧ Tbl w1 x' v1 (castT t)) → w2.ownsRow lo 34 1 v2 (us ++ [v1]).length (us ++ [v1]) → Below lo w1 w2 → KeepB (.slice av n cv) v2 w1 w2 → w2.cell? ⟨l0, 0, none⟩ = some (.slice av n cv) ∧ w2.frozen? ⟨l0, 0, none⟩ = false ∧ Hid (SEnd H w0 w l0 R lo m (.slice av n cv) us vs t [t] (w2.setCell ⟨l0, 0, none⟩ v2)) ∧ ∃ a2 m2 k2, v2 = .slice a2 m2 k2) := fun w1 v1 v2 w2 ⟨h1, x', hx', hT1⟩ h2 h3 h4 => by
    have hx := HX.out.below h1
    have hX0 := HX.out
    have hb0 : (Value.slice av n cv).ownBlock ≠ some l0 := fun e => by have := (hx.li.lt l0 e).1; have := hx.lt.1; omega
    have e0 : w2.heap[l0]? = some (.cells #[.slice av n cv] 23 (0, 0)) := by rw [h4.block l0 (Nat.lt_of_lt_of_le hx.lt.1 hx.sz) hb0]; exact hx.lb
    have h1s := h1.size
    have h4s := h4.size
    refine ⟨(cell_oneX e0).1, (cell_oneX e0).2, ⟨_, _, hx.push h2 h3 h4, ⟨by simp; omega, fun k b1 b2 _ b4 _ => ?_⟩, fun k e => ?_, ⟨x', w1.heap.size, hx', by simp; omega, fun g hg hxg => ?_, fun i hi g hg hxg => ?_, fun W hW => hT1.same fun j j1 j2 => ?_⟩, trivial⟩, ?_⟩
    · rw [heap_setCell_other _ _ _ _ b2, h4.block k (by omega) b4, h1.block k b1]
    · rcases h4.lies k e with z | z
      · exact .inl z
      · right; omega
    · rcases h4.lies g hg with z | z
      · have := (hX0.li.lt g z).2; omega
      · exact z
    · have := ((hX0.tb.rows i (by rw [castT_len, hX0.rm]; exact hi)).lt hg).2; omega
    · rw [hW j j1 j2, heap_setCell_other _ _ _ _ (by show j ≠ l0; have := hX0.lt.1; have := hX0.sz; omega)]
      exact h4.block j j2 (fun e => by have := (hX0.li.lt j e).2; omega)
    · rcases h2.2 with ⟨q, _⟩ | ⟨g, cp, cur, q, _⟩
      · exact ⟨_, _, _, q⟩
      · exact ⟨_, _, _, q⟩
  have HLi : Hid (∀ w1, Below w.heap.size w w1 → w1.ownsRow lo 34 1 (.slice av n cv) us.length us) := fun w1 h1 => (HX.out.below h1).li
  have HSz : Hid (∀ w1, Below w.heap.size w w1 → lo ≤ w1.heap.size) := fun w1 h1 => (HX.out.below h1).sz
  have HUl : Hid (us.length ≤ 2000) := hu
  have hgt : ¬ ((n : Int) > 2000) := by omega
  clear h hT hu hbd HNt E hf hbt
  go_enter Tryz.func72, Tryz.ntmps72
  go_wp2
  go_loopw [6, 15] (fun fv iv wr => ∃ k : Nat, k ≤ m ∧ iv = .int .i64 k ∧ fv = .bool true ∧ Hid (wr = w)) (fun _ iv _ => m - (intOf iv).toNat)
  case atStart => exact ⟨0, Nat.zero_le _, rfl, rfl, rfl⟩
  case round =>
    obtain ⟨k, hk, rfl, rfl, Hw⟩ := hrel
    obtain rfl : wr = w := Hw.out
    by_cases hlt : k < m
    · have hlt' : (k : Int) < (m : Int) := by omega
      obtain ⟨b, off, ai, q, ci, e1, hc0, HQ, -, -, -⟩ := HTt.out.elemR (show k < (castT t).length by rw [castT_len, HX.out.rm]; exact hlt)
      simp only [Option.some.injEq, Addr.mk.injEq, and_true] at e1
      obtain ⟨rfl, rfl⟩ := e1
      obtain ⟨pb, po, hap, hcp⟩ := HPs.out k hlt
      subst hap
      obtain ⟨p, HPe⟩ : ∃ p, Hid (p = pF zs k) := ⟨_, rfl⟩
      rw [← HPe.out] at hcp
      obtain rfl : q = p := by
        have h1 := HF.out k hlt
        rw [HPe.out, ← h1, HQ.out]
        unfold lnN rwN castT
        simp only [List.getD, List.getElem?_map]
        cases t[k]? <;> simp [castL]
      have hp40 : q ≤ 40 := by rw [HPe.out]; exact HP40.out k
      have hqq : ((q : Int) == (q : Int)) = true := by simp
      simp only [Nat.zero_add] at hc0
      go_wp2
      exact ⟨⟨k + 1, by omega, by go_num, rfl, trivial⟩, by simp [intOf]; omega⟩
    · have hlt' : ¬ (k : Int) < (m : Int) := by omega
      go_upto_region 14 with fail
      go_region_law (first | (refine step_fcop (x := .slice (some ⟨R, 0, none⟩) m m) rfl (.tmp 58) rfl (by first | (simp [Act.eval]; done) | (simp [Act.eval, Act.put]; done)) (HC.out _ (by first | exact Below.refl _ _ | exact below_drewN (Below.refl _ _) 1)) ?_; rintro v1 w1 ⟨a1, m1, k1, rfl, g0, g1, g5, g2⟩) | (refine step_one elem_cub (x := .slice a1 m1 k1) rfl (.tmp 57) (.tmp 60) rfl (by first | (simp [Act.eval]; done) | (simp [Act.eval, Act.put]; done)) (by first | (simp [Act.eval]; done) | (simp [Act.eval, Act.put]; done)) rfl (HLi.out w1 g2.out.1) rfl (by have := HUl.out; unfold maxLen; omega) (by have := HUl.out; omega) (HSz.out w1 g2.out.1) ?_; intro v2 w2 hO2 hb2 hk2; obtain ⟨e0, e1, e2, a2, m2, k2, rfl⟩ := HE.out w1 _ v2 w2 g2.out hO2 hb2 hk2; clear hO2 hb2 hk2))
      all_goals go_wp2
      all_goals (first | go_end0 | (refine bodyPost_ret (results_none rfl _ _ _) rfl ?_))
      all_goals exact ⟨rfl, e2.out⟩

end Go.Proofs.YtmbpcapjldbkbaaGreatDoor
