/-
  The contracts of a Number's text and of wide.Quotient.
-/
import Derived.Test.YtlghldfolfmoeaaDoorHTxt
import Derived.Test.YtlghldfolfmoeaaDoorWLow
import Derived.Deep.RegionLaw
namespace Go.Proofs.YtlghldfolfmoeaaDoor
open Go.RowKit

theorem gtext_c (v : Value) (x N : Nat) (w : World) {lo : Nat} (h : GrC w lo v x N) (hN : N ≤ 100000) (htab : Lib.TabIs Tryd.prog w "internal/strconv.uint64pow10" .u64 Lib.pow10Tab) :
    Calls Tryd.prog 42 #[v] w fun e w' => e = .returned (.string ⟨(numT x).toArray⟩) ∧ Below w.heap.size w w' := by
  obtain ⟨n, f, h1, h2, h3⟩ := h
  have := gtext_at v n f w h1 h2.dg (by omega) htab
  rw [h2.text] at this
  exact this

set_option maxHeartbeats 2000000 in
theorem NText_at (v : Value) (x N : Nat) (w : World) {lo : Nat} (h : GrC w lo v x N) (hN : N ≤ 100000) (htab : Lib.TabIs Tryd.prog w "internal/strconv.uint64pow10" .u64 Lib.pow10Tab) :
    Calls Tryd.prog 30 #[.agg #[.bool false, v]] w fun e w' => e = .returned (.string ⟨(numT x).toArray⟩) ∧ Below w.heap.size w w' := by
  obtain ⟨W, hW⟩ : ∃ W, W = w.alloc (.cells #[.bool false, v] 58) := ⟨_, rfl⟩
  have hB : Below w.heap.size w W := by rw [hW]; exact (Below.refl _ _).alloc (Nat.le_refl _) _
  have hblk : W.heap[w.heap.size]? = some (.cells #[.bool false, v] 58 (0, 0)) := by rw [hW]; exact heap_alloc_new _ _
  have c0 : W.cell? ⟨w.heap.size, 0, none⟩ = some (.bool false) := by simp [World.cell?, hblk]
  have c1 : W.cell? ⟨w.heap.size, 1, none⟩ = some v := by simp [World.cell?, hblk]
  obtain ⟨s, HS⟩ : ∃ s : ByteArray, Hid (s = ⟨(numT x).toArray⟩) := ⟨_, rfl⟩
  have HG : Hid (Calls Tryd.prog 42 #[v] W fun e w' => e = .returned (.string s) ∧ Hid (Below W.heap.size W w')) := by
    rw [HS.out]; exact gtext_c v x N W (h.below hB) hN (Lib.tabBelow_of_tabIs htab W hB)
  have HB : Hid (Below w.heap.size w W) := hB
  obtain ⟨a, n, c, rfl⟩ := h.shape
  rw [← HS.out]
  clear h htab hB hblk
  go_enter Tryd.func30, Tryd.ntmps30
  go_upto_region 1 with fail
  rw [← hW]
  clear hW
  go_wp2_with fail
  refine HG.out.mono ?_
  rintro e w1 ⟨rfl, HB1⟩
  have HB2 : Hid (Below w.heap.size w w1) := HB.out.trans (HB1.out.mono HB.out.size)
  go_wp2
  go_ret
  exact ⟨rfl, HB2.out⟩

/-- A call of Of, in a region that draws its order. -/
theorem step_Of {w : World} {x : Value} {P : Value → World → Prop} {ops : Array Oper} {o : Oper} {a : Act} {K : Act → World → Prop} {Q : Exit → Act → World → Prop} {EE : Prop} (hgd : o.guard = none) (y : Operand)
    (ho : o.op = .call { callee := .value (.func 27), args := #[y], argTypes := #[3] }) (hx : a.eval y = x) (hc : Calls Tryd.prog 27 #[x] w fun e w' => ∃ v, e = .returned v ∧ P v w') (h : ∀ v w', P v w' → K (a.put o.dst v) w') :
    if Region.wanted o (yielded ops a.tmps) = true then Oper.wp Tryd.prog o a w K Q else EE := by
  have hw : Region.wanted o (yielded ops a.tmps) = true := by simp [Region.wanted, hgd]
  rw [if_pos hw]
  unfold Oper.wp
  simp [execOp, ho, resolve, invoke, hx]
  simp [Act.eval, Deferred.ofValue, callFunc, Tryd.func27]
  refine hc.mono ?_
  rintro e w' ⟨v, rfl, hP⟩
  exact h v w' hP
/-- A call of Times, in a region that draws its order. -/
theorem step_Tim {w : World} {x y : Value} {P : Value → World → Prop} {ops : Array Oper} {o : Oper} {a : Act} {K : Act → World → Prop} {Q : Exit → Act → World → Prop} {EE : Prop} (hgd : o.guard = none) (p q : Operand)
    (ho : o.op = .call { callee := .value (.func 29), args := #[p, q], argTypes := #[58, 58] }) (hx : a.eval p = x) (hy : a.eval q = y) (hc : Calls Tryd.prog 29 #[x, y] w fun e w' => ∃ v, e = .returned v ∧ P v w') (h : ∀ v w', P v w' → K (a.put o.dst v) w') :
    if Region.wanted o (yielded ops a.tmps) = true then Oper.wp Tryd.prog o a w K Q else EE := by
  have hw : Region.wanted o (yielded ops a.tmps) = true := by simp [Region.wanted, hgd]
  rw [if_pos hw]
  unfold Oper.wp
  simp [execOp, ho, resolve, invoke, hx, hy]
  simp [Act.eval, Deferred.ofValue, callFunc, Tryd.func29]
  refine hc.mono ?_
  rintro e w' ⟨v, rfl, hP⟩
  exact h v w' hP

/-- The variable at B holds the Number x. -/
def NumAt (w : World) (B : Nat) (v : Value) (x N : Nat) : Prop := w.heap[B]? = some (.cells #[.bool false, v] 58 (0, 0)) ∧ ∃ n f, (∃ a cap, v = .slice a n cap ∧ (0 < n → ∃ g, a = some ⟨g, 0, none⟩ ∧ g ≠ B ∧ g < w.heap.size ∧ ∀ j, j < n → w.cell? ⟨g, j, none⟩ = some (.int .u64 (f j : Int)))) ∧ Can n f x ∧ n ≤ N
theorem NumAt.lt {w : World} {B : Nat} {v : Value} {x N : Nat} (h : NumAt w B v x N) : B < w.heap.size := (Array.getElem?_eq_some_iff.1 h.1).1
theorem NumAt.below {w w' : World} {B : Nat} {v : Value} {x N : Nat} (h : NumAt w B v x N) (hb : Below w.heap.size w w') : NumAt w' B v x N := by
  refine ⟨by rw [hb.block B h.lt]; exact h.1, ?_⟩
  obtain ⟨_, n, f, ⟨a, cap, hv, h1⟩, h2⟩ := h
  refine ⟨n, f, ⟨a, cap, hv, fun hn => ?_⟩, h2⟩
  obtain ⟨g, e, hne, hg, hc⟩ := h1 hn
  exact ⟨g, e, hne, Nat.lt_of_lt_of_le hg hb.size, fun j hj => (hb.cell (p := ⟨g, j, none⟩) hg).trans (hc j hj)⟩
theorem NumAt.grc {w : World} {B : Nat} {v : Value} {x N : Nat} (h : NumAt w B v x N) : GrC w 0 v x N := by
  obtain ⟨_, n, f, ⟨a, cap, hv, h1⟩, h2, h3⟩ := h
  refine ⟨n, f, ⟨a, cap, hv, fun hn => ?_⟩, h2, h3⟩
  obtain ⟨g, e, hne, hg, hc⟩ := h1 hn
  exact ⟨g, e, Nat.zero_le _, hg, hc⟩
theorem NumAt.new {w : World} {lo : Nat} {v : Value} {x N : Nat} (h : GrC w lo v x N) : NumAt (w.alloc (.cells #[.bool false, v] 58)) w.heap.size v x N := by
  refine ⟨heap_alloc_new _ _, ?_⟩
  have hb : Below w.heap.size w (w.alloc (.cells #[.bool false, v] 58)) := (Below.refl _ _).alloc (Nat.le_refl _) _
  obtain ⟨n, f, ⟨a, cap, hv, h1⟩, h2, h3⟩ := h
  refine ⟨n, f, ⟨a, cap, hv, fun hn => ?_⟩, h2, h3⟩
  obtain ⟨g, e, _, hg, hc⟩ := h1 hn
  exact ⟨g, e, by omega, Nat.lt_of_lt_of_le hg hb.size, fun j hj => (hb.cell (p := ⟨g, j, none⟩) hg).trans (hc j hj)⟩
theorem NumAt.put {w : World} {B lo : Nat} {v v' : Value} {x y N M : Nat} (h : NumAt w B v x N) (h' : GrC w lo v' y M) (hl : B < lo) : NumAt ((w.setCell ⟨B, 0, none⟩ (.bool false)).setCell ⟨B, 1, none⟩ v') B v' y M := by
  refine ⟨num_store h.1, ?_⟩
  obtain ⟨n, f, ⟨a, cap, hv, h1⟩, h2, h3⟩ := (h'.store (k := 0) (y := .bool false) hl).store (k := 1) (y := v') hl
  refine ⟨n, f, ⟨a, cap, hv, fun hn => ?_⟩, h2, h3⟩
  obtain ⟨g, e, hg1, hg, hc⟩ := h1 hn
  exact ⟨g, e, by omega, hg, hc⟩
theorem NumAt.cells {w : World} {B : Nat} {v : Value} {x N : Nat} (h : NumAt w B v x N) : w.cell? ⟨B, 0, none⟩ = some (.bool false) ∧ w.cell? ⟨B, 1, none⟩ = some v ∧ w.frozen? ⟨B, 0, none⟩ = false ∧ w.frozen? ⟨B, 1, none⟩ = false :=
  ⟨by simp [World.cell?, h.1], by simp [World.cell?, h.1], frozen_of_row w _ 0 _ _ h.1, frozen_of_row w _ 1 _ _ h.1⟩
/-- All blocks but q are as they were. -/
def KeepQ (q : Nat) (w w' : World) : Prop := w.heap.size ≤ w'.heap.size ∧ ∀ k, k < w.heap.size → k ≠ q → w'.heap[k]? = w.heap[k]?
theorem KeepQ.refl (q : Nat) (w : World) : KeepQ q w w := ⟨Nat.le_refl _, fun _ _ _ => rfl⟩
theorem KeepQ.next {q : Nat} {w w1 w2 : World} (h : KeepQ q w w1) (hb : Below w1.heap.size w1 w2) (a b : Value) : KeepQ q w ((w2.setCell ⟨q, 0, none⟩ a).setCell ⟨q, 1, none⟩ b) := by
  refine ⟨?_, fun k hk hq => ?_⟩
  · have := h.1; have := hb.size; simp; omega
  · rw [heap_setCell_other _ _ _ _ hq, heap_setCell_other _ _ _ _ hq, hb.block k (Nat.lt_of_lt_of_le hk h.1), h.2 k hk hq]
theorem pL_take (l : List Nat) {i : Nat} (h : i < l.length) : pL (l.take (i + 1)) = pL (l.take i) * l.getD i 0 := by
  rw [take_snocN l h, pL_app]; simp [pL]

set_option maxHeartbeats 4000000 in
set_option maxRecDepth 100000 in
theorem Quotient_at (a0 a1 : Option Addr) (n0 c0 n1 c1 : Nat) (ov un : List Nat) (w : World) (hs0 : Shows w a0 (castL ov)) (hs1 : Shows w a1 (castL un)) (hn0 : n0 = ov.length) (hn1 : n1 = un.length) (hl0 : ov.length ≤ 10000) (hl1 : un.length ≤ 10000) (hz0 : ∀ z ∈ ov, z ≤ 1000) (hz1 : ∀ z ∈ un, 0 < z ∧ z ≤ 1000) (htab : Lib.TabIs Tryd.prog w "internal/strconv.uint64pow10" .u64 Lib.pow10Tab) :
    Calls Tryd.prog 17 #[.slice a0 n0 c0, .slice a1 n1 c1] w fun e w' => e = .returned (.string ⟨(numT (pL (lows un ov))).toArray⟩) ∧ Below w.heap.size w w' := by
  obtain ⟨L, HL⟩ : ∃ L, Hid (L = lows un ov) := ⟨_, rfl⟩
  obtain ⟨s, HS⟩ : ∃ s : ByteArray, Hid (s = ⟨(numT (pL (lows un ov))).toArray⟩) := ⟨_, rfl⟩
  rw [← HS.out]
  rw [← HL.out] at HS
  obtain ⟨m, HM⟩ : ∃ m, Hid (m = L.length) := ⟨_, rfl⟩
  have hm : m ≤ 10000 := by rw [HM.out, HL.out, lows_len]; exact hl0
  have HLz : Hid (∀ z ∈ L, z ≤ 1000) := by rw [HL.out]; exact lows_le _ _ _ hz0
  have HTab : Hid (∀ W, Below w.heap.size w W → Lib.TabIs Tryd.prog W "internal/strconv.uint64pow10" .u64 Lib.pow10Tab) := fun W hW => Lib.tabBelow_of_tabIs htab W hW
  have HO1 : Hid (Calls Tryd.prog 27 #[.int .i64 1] w fun e w' => ∃ a n c, e = .returned (.agg #[.bool false, .slice a n c]) ∧ Hid (GrC w' w.heap.size (.slice a n c) 1 3) ∧ Hid (Below w.heap.size w w')) := by
    refine (Of_at 1 w (by omega)).mono ?_
    rintro e w' ⟨v, rfl, h1, h2⟩
    obtain ⟨a, n, c, rfl⟩ := h1.shape
    exact ⟨a, n, c, rfl, h1, h2⟩
  have HLo : Hid (∀ W, Below w.heap.size w W → Calls Tryd.prog 28 #[.slice a0 n0 c0, .slice a1 n1 c1] W fun e w' => ∃ a c, e = .returned (.slice a m c) ∧ Hid (Owns w' W.heap.size (.slice a m c) (castL L)) ∧ Hid (Below W.heap.size W w')) := fun W hW => by
    refine (lowered_at a0 a1 n0 c0 n1 c1 ov un W (hs0.below hW) (hs1.below hW) hn0 hn1 (by omega) (by omega) hz0 hz1).mono ?_
    rintro e w' ⟨v, rfl, ho, hb⟩
    rw [← HL.out] at ho
    obtain ⟨a, c, hsh⟩ := ho.shape
    rw [castL_len, ← HM.out] at hsh
    subst hsh
    exact ⟨a, c, rfl, ho, hb⟩
  clear hs0 hs1 hn0 hn1 hl0 hl1 hz0 hz1 htab
  go_enter Tryd.func17, Tryd.ntmps17
  go_wp2_with fail
  refine HO1.out.mono ?_
  rintro e w1 ⟨av, nv, cv, rfl, HG1, HB1⟩
  have HN0 := hid_w (NumAt.new HG1.out)
  have HBa : Hid (Below w.heap.size w (w1.alloc (.cells #[.bool false, .slice av nv cv] 58))) := HB1.out.alloc HB1.out.size _
  obtain ⟨q, HQ⟩ : ∃ q, Hid (q = w1.heap.size) := ⟨_, rfl⟩
  have HQs : Hid ((w1.alloc (.cells #[.bool false, .slice av nv cv] 58)).heap.size = q + 1) := by show _ = _; rw [HQ.out]; simp
  have HwQ : Hid (w.heap.size ≤ q) := by show _ ≤ _; rw [HQ.out]; exact HB1.out.size
  clear HO1
  go_wp2_with fail
  rw [← HQ.out]
  rw [← HQ.out] at HN0
  refine (HLo.out _ HBa.out).mono ?_
  rintro e w2 ⟨a, c, rfl, HOl, HB2⟩
  rw [HQs.out] at HOl
  have HN2 := hid_w (HN0.out.below HB2.out)
  have HB3 : Hid (Below w.heap.size w w2) := HBa.out.trans (HB2.out.mono HBa.out.size)
  clear HLo HN0 HG1 HB1 HBa HB2 HQs
  go_wp2_with fail
  go_loopw [13] (fun iv wr => ∃ (i : Nat) (av : Option Addr) (nv cv : Nat), i ≤ m ∧ iv = .int .i64 (i : Int) ∧ Hid (NumAt wr q (.slice av nv cv) (pL (L.take i)) (3 * (i + 1))) ∧ Hid (KeepQ q w2 wr) ∧ Hid (Below w.heap.size w wr)) (fun iv _ => m - (intOf iv).toNat)
  case atStart => exact ⟨0, av, nv, cv, Nat.zero_le _, rfl, HN2, KeepQ.refl _ _, HB3⟩
  case round =>
    clear HN2 HB3
    obtain ⟨i, av, nv, cv, hi, rfl, HN, HK, HB⟩ := hrel
    obtain ⟨d0, d1, d2, d3⟩ := HN.out.cells
    by_cases hlt : i < m
    · have hlt' : (i : Int) < (m : Int) := by omega
      have hiL : i < L.length := by rw [← HM.out]; exact hlt
      have hO : Owns wr (q + 1) (.slice a m c) (castL L) := ownsRow_blocks HOl.out (fun k e => by
        have := HOl.out.lt e
        exact HK.out.2 k this.2 (by omega))
      obtain ⟨g, cg, hvg, hg1, hg2, -, hcg⟩ := hO.head (by rw [castL_len]; omega)
      simp only [Value.slice.injEq] at hvg
      obtain ⟨rfl, -, rfl⟩ := hvg
      obtain ⟨fi, HFi⟩ : ∃ fi, Hid (fi = L.getD i 0) := ⟨_, rfl⟩
      have hfi : fi ≤ 1000 := by rw [HFi.out]; exact getD_le HLz.out i
      have hcf : wr.cell? ⟨g, i, none⟩ = some (.int .i64 (fi : Int)) := by
        rw [hcg i (by rw [castL_len]; exact hiL), castL_at, HFi.out]
      have HOf : Hid (∀ W, Below wr.heap.size wr W → Calls Tryd.prog 27 #[.int .i64 (fi : Int)] W fun e w' => ∃ v, e = .returned v ∧ ∃ a1 n1 c1, v = .agg #[.bool false, .slice a1 n1 c1] ∧ w'.cell? ⟨q, 0, none⟩ = some (.bool false) ∧ w'.cell? ⟨q, 1, none⟩ = some (.slice av nv cv) ∧ Hid (GrC w' 0 (.slice a1 n1 c1) fi 3) ∧ Hid (Below wr.heap.size wr w')) := fun W hW => by
        refine (Of_at fi W (by omega)).mono ?_
        rintro e w' ⟨v, rfl, h1, h2⟩
        obtain ⟨a1, n1, c1, rfl⟩ := h1.shape
        have hb := hW.trans (h2.mono hW.size)
        have hc := (HN.out.below hb).cells
        exact ⟨_, rfl, a1, n1, c1, rfl, hc.1, hc.2.1, h1.mono (Nat.zero_le _) (Nat.le_refl _), hb⟩
      have HTi : Hid (∀ W a1 n1 c1, Hid (GrC W 0 (.slice a1 n1 c1) fi 3) → Hid (Below wr.heap.size wr W) → Calls Tryd.prog 29 #[.agg #[.bool false, .slice av nv cv], .agg #[.bool false, .slice a1 n1 c1]] W fun e w' => ∃ v, e = .returned v ∧ ∃ a2 n2 c2, v = .agg #[.bool false, .slice a2 n2 c2] ∧ w'.cell? ⟨q, 0, none⟩ = some (.bool false) ∧ w'.cell? ⟨q, 1, none⟩ = some (.slice av nv cv) ∧ w'.frozen? ⟨q, 0, none⟩ = false ∧ w'.frozen? ⟨q, 1, none⟩ = false ∧ Hid (NumAt ((w'.setCell ⟨q, 0, none⟩ (.bool false)).setCell ⟨q, 1, none⟩ (.slice a2 n2 c2)) q (.slice a2 n2 c2) (pL (L.take (i + 1))) (3 * (i + 1 + 1))) ∧ Hid (KeepQ q w2 ((w'.setCell ⟨q, 0, none⟩ (.bool false)).setCell ⟨q, 1, none⟩ (.slice a2 n2 c2))) ∧ Hid (Below w.heap.size w ((w'.setCell ⟨q, 0, none⟩ (.bool false)).setCell ⟨q, 1, none⟩ (.slice a2 n2 c2)))) := fun W a1 n1 c1 hg hW => by
        refine (NTimes_at (.slice av nv cv) (.slice a1 n1 c1) (pL (L.take i)) fi (3 * (i + 1)) 3 W (HN.out.grc.below hW.out) hg.out (by omega) (by omega)).mono ?_
        rintro e w' ⟨v, rfl, h1, h2⟩
        obtain ⟨a2, n2, c2, rfl⟩ := h1.shape
        have hb := hW.out.trans (h2.mono hW.out.size)
        have hN' := HN.out.below hb
        have hc := hN'.cells
        have hlt := HN.out.lt
        have hsz := hW.out.size
        refine ⟨_, rfl, a2, n2, c2, rfl, hc.1, hc.2.1, hc.2.2.1, hc.2.2.2, ?_, HK.out.next hb _ _, ?_⟩
        · have h3 := hN'.put (h1.mono (Nat.le_refl _) (show 3 * (i + 1) + 3 ≤ 3 * (i + 1 + 1) by omega)) (by omega)
          rw [HFi.out, ← pL_take L hiL] at h3
          exact h3
        · have hq := HwQ.out
          exact ((HB.out.trans (hb.mono HB.out.size)).setCell (p := ⟨q, 0, none⟩) hq _).setCell (p := ⟨q, 1, none⟩) hq _
      clear hO hcg
      go_upto_region 5 with fail
      go_region_law (first | (refine step_Of (x := .int .i64 (fi : Int)) rfl (.tmp 18) rfl (by first | (simp [Act.eval]; done) | (simp [Act.eval, Act.put]; done)) (HOf.out _ (by first | exact Below.refl _ _ | exact below_drewN (Below.refl _ _) 1)) ?_; rintro v1 w3 ⟨a1, n1, c1, rfl, e0, e1, hg1, hb1⟩) | (refine step_Tim (x := .agg #[.bool false, .slice av nv cv]) (y := .agg #[.bool false, .slice a1 n1 c1]) rfl (.tmp 17) (.tmp 19) rfl (by first | (simp [Act.eval]; done) | (simp [Act.eval, Act.put]; done)) (by first | (simp [Act.eval]; done) | (simp [Act.eval, Act.put]; done)) (HTi.out w3 a1 n1 c1 hg1 hb1) ?_; rintro v2 w4 ⟨a2, n2, c2, rfl, t0, t1, t2, t3, HN4, HK4, HB4⟩))
      all_goals clear HN HK HB d0 d1 d2 d3 hcf HOf HTi
      all_goals go_wp2
      all_goals go_roundw
      all_goals first
        | exact ⟨i + 1, a2, n2, c2, by omega, by go_num, HN4, HK4, HB4⟩
        | (simp [intOf]; omega)
    · obtain rfl : i = m := by omega
      have HTx := hid_w (NText_at (.slice av nv cv) (pL L) (3 * (i + 1)) wr (by
        have h := HN.out.grc
        rw [List.take_of_length_le (by rw [← HM.out]; exact Nat.le_refl _)] at h
        exact h) (by omega) (HTab.out wr HB.out))
      rw [← HS.out] at HTx
      go_wp2_with fail
      refine HTx.out.mono ?_
      rintro e w5 ⟨rfl, hb5⟩
      have HB5 : Hid (Below w.heap.size w w5) := HB.out.trans (hb5.mono HB.out.size)
      clear hb5
      go_wp2
      go_ret
      exact ⟨rfl, HB5.out⟩

end Go.Proofs.YtlghldfolfmoeaaDoor
