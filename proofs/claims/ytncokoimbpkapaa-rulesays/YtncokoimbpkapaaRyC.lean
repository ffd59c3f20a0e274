/-
  The contract of the closure in ferref.Grown, all of it.
-/
import Derived.Test.YtncokoimbpkapaaRyB
import Derived.BigQuiet
import Derived.Deep.DeepCutAuto
import Derived.Deep.RegionLaw
namespace Go.Proofs.Ytncokoimbpkapaa
open Go.RowKit

/-- A number from anywhere, in a region that draws its order. -/
theorem step_kg {w : World} {base N : Nat} {v : Value} {zs : List Int} {x : Int} {ops : Array Oper} {o : Oper} {a : Act} {K : Act → World → Prop} {Q : Exit → Act → World → Prop} {EE : Prop} (hgd : o.guard = none) (s y : Operand)
    (ho : o.op = .call { callee := .builtin .append, args := #[s, y], argTypes := #[22, 22] }) (hs : a.eval s = v) (hx : a.eval y = .slice (some ⟨N, 0, none⟩) 1 1) (hown : Owns w base v zs) (hc : w.cell? ⟨N, 0, none⟩ = some (.int .i64 x))
    (hl : zs.length ≤ 1000) (hbase : base ≤ w.heap.size)
    (h : ∀ v' w', Owns w' base v' (zs ++ [x]) → Below base w w' → K (a.put o.dst v') w') :
    if Region.wanted o (yielded ops a.tmps) = true then Oper.wp Try.prog o a w K Q else EE := by
  have hw : Region.wanted o (yielded ops a.tmps) = true := by simp [Region.wanted, hgd]
  rw [if_pos hw]
  obtain ⟨v', w', hrun, r1, r2, r3⟩ := run_append_kb elem_int (news := [.int .i64 x]) o.type (vals_of_owns hown) ⟨N, 0, none⟩ 1 (fun j u hj => by
    match j, hj with
    | 0, hj => simp at hj; subst hj; rw [Addr.add_lit]; exact hc) (fun u hu => by simp at hu; subst hu; rfl) (by unfold maxLen; simp; omega) (by simp; omega) hbase
  have hrun' : (Builtin.append_ #[22, 22] o.type #[v, .slice (some ⟨N, 0, none⟩) 1 1]).run Try.prog w = .ok v' w' := hrun
  unfold Oper.wp
  simp [execOp, ho, resolve, invoke, builtin, hs, hx, hrun', Result.andThen]
  exact h v' w' (owns_of_vals r1) r2

/-- A call of the closure, in a region that draws its order. -/
theorem step_gr {w : World} {B : Nat} {x y z : Value} {P : World → Prop} {ops : Array Oper} {o : Oper} {a : Act} {K : Act → World → Prop} {Q : Exit → Act → World → Prop} {EE : Prop} (hgd : o.guard = none) (s p q r : Operand)
    (ho : o.op = .call { callee := .value s, args := #[p, q, r], argTypes := #[3, 3, 22] }) (hs : a.eval s = grV B) (hx : a.eval p = x) (hy : a.eval q = y) (hz : a.eval r = z) (hc : Calls Try.prog 36 #[x, y, z, bx (B + 1), bx (B + 2), bx B, bx (B + 3)] w fun e w' => e = .returned (.tuple #[]) ∧ P w') (h : ∀ w', P w' → K (a.put o.dst (.tuple #[])) w') :
    if Region.wanted o (yielded ops a.tmps) = true then Oper.wp Try.prog o a w K Q else EE := by
  have hw : Region.wanted o (yielded ops a.tmps) = true := by simp [Region.wanted, hgd]
  rw [if_pos hw]
  unfold Oper.wp
  simp [execOp, ho, resolve, invoke, hx, hs, hy, hz]
  simp [Deferred.ofValue, callFunc, Try.func36]
  refine hc.mono ?_
  rintro e w' ⟨rfl, hP⟩
  exact h w' hP

theorem castL_lt {l : List Nat} {b : Nat} (h : ∀ z ∈ l, z ≤ b) : ∀ z ∈ castL l, 0 ≤ z ∧ z ≤ b := fun z hz => by
  simp only [castL, List.mem_map] at hz
  obtain ⟨k, hk, rfl⟩ := hz
  have := h k hk
  omega
theorem getD_le {l : List Nat} {b : Nat} (h : ∀ z ∈ l, z ≤ b) (i : Nat) : l.getD i 0 ≤ b := by
  by_cases hi : i < l.length
  · simp only [List.getD, List.getElem?_eq_getElem hi, Option.getD_some]; exact h _ (List.getElem_mem hi)
  · simp [List.getD, List.getElem?_eq_none (Nat.le_of_not_lt hi)]
/-- One number of what is shown. -/
theorem Shows.nat {w : World} {a : Option Addr} {l : List Nat} (h : Shows w a (castL l)) {i : Nat} (hi : i < l.length) : ∃ b off, a = some ⟨b, off, none⟩ ∧ w.cell? ⟨b, off + i, none⟩ = some (.int .i64 ((l.getD i 0 : Nat) : Int)) := by
  obtain ⟨b, off, z, e, HZ, -, -, hc⟩ := h.elem (by rw [castL_len]; exact hi)
  exact ⟨b, off, e, by rw [hc, HZ.out, castL_at]⟩

/-- The contract for m rows that are left. -/
def GrS (ty : TypeId) (ap ac : Option Addr) (cp cc : Nat) (pl cl : List Nat) (m : Nat) : Prop :=
  ∀ (i left : Nat) (B : Nat) (v : Value) (vs : List Value) (u : Value) (ls : List (List Nat)) (now : List Nat) (w : World), i + m = cl.length → GrX w B ty ap cp ac cc pl cl v vs ls → Owns w (B + 4) u (castL now) → Apart v u → now.length = i → (∀ z ∈ now, z ≤ 1000) → left ≤ 1000 → ls.length + (gF (fun r => pl.getD r 0) (fun r => cl.getD r 0) m i left now).length ≤ 5000000000000 →
    Calls Try.prog 36 #[.int .i64 i, .int .i64 left, u, bx (B + 1), bx (B + 2), bx B, bx (B + 3)] w fun e w' => e = .returned (.tuple #[]) ∧ EndG w B ty v (ls ++ gF (fun r => pl.getD r 0) (fun r => cl.getD r 0) m i left now) w'
theorem Gr_zero (ty : TypeId) (ap ac : Option Addr) (cp cc : Nat) (pl cl : List Nat) (hcl : cl.length ≤ 1000) : GrS ty ap ac cp cc pl cl 0 := by
  intro i left B v vs u ls now w hi hx hu hap hnl hnz hl hL
  rw [gF_zero] at hL ⊢
  by_cases h0 : left = 0
  · subst h0
    rw [if_pos rfl] at hL ⊢
    exact Gr_row i B ty ap ac cp cc pl cl v vs u ls now w hx hi hu (by omega) hnz (by omega)
  · rw [if_neg h0, List.append_nil]
    refine (Gr_none left i B ty ap ac cp cc pl cl v vs u ls w hx hi h0).mono ?_
    rintro e w' ⟨rfl, rfl⟩
    exact ⟨rfl, Below.refl _ _, v, vs, hx.y, KpX.refl _ _ _⟩

set_option maxHeartbeats 8000000 in
set_option maxRecDepth 100000 in
theorem Gr_step (ty : TypeId) (ap ac : Option Addr) (cp cc : Nat) (pl cl : List Nat) (hcl : cl.length ≤ 1000) (hpl : pl.length ≤ 1000) (hpz : ∀ z ∈ pl, z ≤ 1000) (hcz : ∀ z ∈ cl, z ≤ 1000) (m : Nat) (IH : GrS ty ap ac cp cc pl cl m) : GrS ty ap ac cp cc pl cl (m + 1) := by
  intro i left B v vs u ls now w hi hx hu hap hnl hnz hl hL
  rw [gF_succ] at hL ⊢
  obtain ⟨lo, HLo⟩ : ∃ lo, Hid (lo = pl.getD i 0) := ⟨_, rfl⟩
  obtain ⟨hi2, HHi⟩ : ∃ hi2, Hid (hi2 = hiG (fun r => pl.getD r 0) (fun r => cl.getD r 0) i) := ⟨_, rfl⟩
  obtain ⟨ci, HCi⟩ : ∃ ci, Hid (ci = cl.getD i 0) := ⟨_, rfl⟩
  obtain ⟨np, HNp⟩ : ∃ np, Hid (np = pl.length) := ⟨_, rfl⟩
  obtain ⟨nc, HNc⟩ : ∃ nc, Hid (nc = cl.length) := ⟨_, rfl⟩
  have hlo : lo ≤ 1000 := by rw [HLo.out]; exact getD_le hpz i
  have hci : ci ≤ 1000 := by rw [HCi.out]; exact getD_le hcz i
  have hhi : hi2 ≤ 1000 := by
    rw [HHi.out]; unfold hiG
    split
    · exact getD_le hcz 0
    · exact Nat.le_trans (Nat.min_le_right _ _) (getD_le hcz i)
  have hnc : nc ≤ 1000 := by rw [HNc.out]; exact hcl
  have hnp : np ≤ 1000 := by rw [HNp.out]; exact hpl
  have hic : i < nc := by rw [HNc.out]; omega
  have HIH : Hid (GrS ty ap ac cp cc pl cl m) := IH
  have HX : Hid (GrX w B ty ap cp ac cc pl cl v vs ls) := hx
  have HU : Hid (Owns w (B + 4) u (castL now)) := hu
  have HAp : Hid (Apart v u) := hap
  have HNow : Hid (now.length = i) := hnl
  have HNz : Hid (∀ z ∈ now, z ≤ 1000) := hnz
  have HIm : Hid (i + (m + 1) = cl.length) := hi
  obtain ⟨M, HM⟩ : ∃ M, Hid (M = min (hi2 + 1 - lo) (left + 1)) := ⟨_, rfl⟩
  rw [← HHi.out, ← HLo.out, ← HM.out] at hL ⊢
  have HL : Hid (ls.length + (gJ (fun r => pl.getD r 0) (fun r => cl.getD r 0) m i left now M).length ≤ 5000000000000) := hL
  have HPz : Hid (∀ z ∈ pl, z ≤ 1000) := hpz
  -- what is read
  have HCs : Hid (∀ W, Below B w W → ∃ b off, ac = some ⟨b, off, none⟩ ∧ W.cell? ⟨b, off + i, none⟩ = some (.int .i64 (ci : Int))) := fun W hW => by
    rw [HCi.out]; exact (HX.out.sc W hW).nat (by rw [← HNc.out]; exact hic)
  have HPs : Hid (∀ W j, Below B w W → j < np → ∃ b off, ap = some ⟨b, off, none⟩ ∧ W.cell? ⟨b, off + j, none⟩ = some (.int .i64 ((pl.getD j 0 : Nat) : Int))) := fun W j hW hj => (HX.out.sp W hW).nat (by rw [← HNp.out]; exact hj)
  have HBx : Hid (∀ W, Below w.heap.size w W → W.cell? ⟨B, 0, none⟩ = some (.slice ap np cp) ∧ W.cell? ⟨B + 1, 0, none⟩ = some (.slice ac nc cc) ∧ Hid (Below B w W)) := fun W hW => by
    have hs := HX.out.size
    refine ⟨?_, ?_, hW.mono (by omega)⟩
    · rw [World.cell?_of_block (hW.block B (by omega)), HNp.out]; exact cell_of_one HX.out.bp
    · rw [World.cell?_of_block (hW.block (B + 1) (by omega)), HNc.out]; exact cell_of_one HX.out.bc
  obtain ⟨cb0, cb1, -⟩ := HBx.out w (Below.refl _ _)
  obtain ⟨bc, oc, rfl, cci⟩ := HCs.out w (Below.refl _ _)
  have hne : ¬ ((i : Int) = (nc : Int)) := by omega
  have hne' : ((i : Int) == (nc : Int)) = false := by simp; omega
  have hic' : (i : Int) < (nc : Int) := by omega
  obtain ⟨a, c, hshape⟩ := hu.shape
  obtain ⟨nu, HNu⟩ : ∃ nu, Hid (nu = (castL now).length) := ⟨_, rfl⟩
  rw [← HNu.out] at hshape
  subst hshape
  clear IH hx hu hap hnl hnz hi hL hpz hcz hcl hpl
  go_enter Try.func36, Try.ntmps36
  go_upto_region 6 with fail
  go_quiet (fail)
  go_upto_if 50 with fail
  go_cut [11] (fun s11 wx => s11 = .int .i64 lo ∧ Hid (Below w.heap.size w wx))
  case first =>
    by_cases hp : i < np
    · have hp' : (i : Int) < (np : Int) := by omega
      obtain ⟨bp, op, rfl, cpi⟩ := HPs.out w i (Below.refl _ _) hp
      have e0 : pl.getD i 0 = lo := HLo.out.symm
      rw [e0] at cpi
      clear e0
      go_wp2_with fail
      go_meet
      exact ⟨rfl, below_drewN (Below.refl _ _) _⟩
    · have hp' : ¬ ((i : Int) < (np : Int)) := by omega
      have HL0 : Hid (lo = 0) := by show _ = _; rw [HLo.out]; simp [List.getD, List.getElem?_eq_none (show pl.length ≤ i by rw [← HNp.out]; omega)]
      go_wp2_with fail
      go_meet
      exact ⟨by rw [HL0.out]; rfl, below_drewN (Below.refl _ _) _⟩
  case rest =>
    obtain ⟨rfl, HBc⟩ := hcut
    obtain ⟨db0, db1, HBd⟩ := HBx.out wc HBc.out
    have dci : wc.cell? ⟨bc, oc + i, none⟩ = some (.int .i64 (ci : Int)) := by
      obtain ⟨b', o', e, h⟩ := HCs.out wc HBd.out
      simp only [Option.some.injEq, Addr.mk.injEq, and_true] at e
      obtain ⟨rfl, rfl⟩ := e
      exact h
    clear cb0 cb1 cci
    go_upto_if 56 with fail
    go_cut [12] (fun s12 wx => s12 = .int .i64 hi2 ∧ Hid (wx = wc))
    case first =>
      rcases Nat.eq_zero_or_pos i with h0 | h0
      · have HE : Hid (hi2 = ci) := by show _ = _; rw [HHi.out, HCi.out, h0]; rfl
        have h0' : ¬ ((i : Int) > 0) := by omega
        clear h0
        go_wp2_with fail
        go_meet
        exact ⟨by rw [HE.out], rfl⟩
      · obtain ⟨j, hj⟩ : ∃ j, i = j + 1 := ⟨i - 1, by omega⟩
        have HHj : Hid (hi2 = min (pl.getD j 0) ci) := by show _ = _; rw [HHi.out, HCi.out, hj]; rfl
        have h0' : (i : Int) > 0 := by omega
        have hsub : IntKind.i64.wrap ((i : Int) - 1) = (j : Int) := by rw [IntWalk.i64_left, IntWalk.wrap64_in _ (by omega)]; omega
        by_cases hp : j < np
        · have hp' : (j : Int) < (np : Int) := by omega
          obtain ⟨bp, op, rfl, cpi⟩ := HPs.out wc j HBd.out hp
          obtain ⟨pj, HPj⟩ : ∃ pj, Hid (pj = pl.getD j 0) := ⟨_, rfl⟩
          rw [← HPj.out] at cpi HHj
          by_cases hlt : ci < pj
          · have hlt' : (ci : Int) < (pj : Int) := by omega
            have HE : Hid (hi2 = ci) := by show _ = _; rw [HHj.out]; omega
            clear h0 hj
            go_wp2_with fail
            go_meet
            exact ⟨by rw [HE.out], rfl⟩
          · have hlt' : ¬ ((ci : Int) < (pj : Int)) := by omega
            have HE : Hid (hi2 = pj) := by show _ = _; rw [HHj.out]; omega
            clear h0 hj
            go_wp2_with fail
            go_meet
            exact ⟨by rw [HE.out], rfl⟩
        · have hp' : ¬ ((j : Int) < (np : Int)) := by omega
          have HE : Hid (hi2 = 0) := by show _ = _; rw [HHj.out, show pl.getD j 0 = 0 by simp [List.getD, List.getElem?_eq_none (show pl.length ≤ j by rw [← HNp.out]; omega)]]; omega
          have hlt' : ¬ ((ci : Int) < 0) := by omega
          clear h0 hj
          go_wp2_with fail
          go_meet
          exact ⟨by rw [HE.out]; rfl, rfl⟩
    case rest =>
      obtain ⟨rfl, hwx⟩ := hcut
      obtain rfl := hwx.out
      clear hwx db0 db1 dci
      go_wp2_with fail
      go_loopw [13] (fun nv wr => ∃ (j k : Nat) (v' : Value) (vs' : List Value), Hid (k = lo + j) ∧ Hid (j ≤ M) ∧ k ≤ 2002 ∧ nv = .int .i64 (k : Int) ∧ Hid (GrX wr B ty ap cp (some ⟨bc, oc, none⟩) cc pl cl v' vs' (ls ++ gJ (fun r => pl.getD r 0) (fun r => cl.getD r 0) m i left now j)) ∧ Hid (KpX (B + 2) v v' w wr) ∧ Hid (Below (B + 2) w wr)) (fun nv _ => 2003 - (intOf nv).toNat)
      case atStart => exact ⟨0, lo, v, vs, rfl, Nat.zero_le _, by omega, rfl, by have := HX.out.below HBc.out; simpa [gJ, Hid] using this, KpX.below v HBc.out, HBc.out.mono (by have := HX.out.size; omega)⟩
      case round =>
        obtain ⟨j, k, v1, vs1, HK, HJ, hk2, rfl, HX1, HKx, HB1⟩ := hrel
        have hsub : IntKind.i64.wrap ((k : Int) - (lo : Int)) = (j : Int) := by have := HK.out; rw [IntWalk.i64_left, IntWalk.wrap64_in _ (by omega)]; omega
        by_cases hle : k ≤ hi2
        · have hle' : (k : Int) ≤ (hi2 : Int) := by omega
          by_cases hjl : j ≤ left
          · have hjl' : (j : Int) ≤ (left : Int) := by omega
            have HJM : Hid (j + 1 ≤ M) := by show _ ≤ _; have := HM.out; have := HK.out; omega
            obtain ⟨HU1, HAp1⟩ := HU.out.keptZ (by omega) HAp.out HKx.out
            have HOu : Hid (Owns wr (B + 4) (.slice a nu c) (castL now)) := HU1
            clear HU1 HAp1
            have HLs : Hid ((ls ++ gJ (fun r => pl.getD r 0) (fun r => cl.getD r 0) m i left now j).length + (gF (fun r => pl.getD r 0) (fun r => cl.getD r 0) m (i + 1) (left - j) (now ++ [k])).length ≤ 5000000000000) := by
              have h1 := HL.out
              have h2 := gJ_le (fun r => pl.getD r 0) (fun r => cl.getD r 0) m i left now (j + 1) (M - (j + 1))
              rw [show j + 1 + (M - (j + 1)) = M by have := HJM.out; omega, gJ_succ, List.length_append, show (fun r => pl.getD r 0) i + j = k by rw [HK.out, HLo.out]] at h2
              show _ ≤ _
              rw [List.length_append]; omega
            have HCall : Hid (∀ w2 v2, Below wr.heap.size wr w2 → Owns w2 wr.heap.size v2 (castL now ++ [(k : Int)]) → Calls Try.prog 36 #[.int .i64 ((i : Int) + 1), .int .i64 ((left - j : Nat) : Int), v2, bx (B + 1), bx (B + 2), bx B, bx (B + 3)] w2 fun e w3 => e = .returned (.tuple #[]) ∧ Hid (Below (B + 2) w w3 ∧ ∃ v3 vs3, GrX w3 B ty ap cp (some ⟨bc, oc, none⟩) cc pl cl v3 vs3 (ls ++ gJ (fun r => pl.getD r 0) (fun r => cl.getD r 0) m i left now (j + 1)) ∧ KpX (B + 2) v v3 w w3)) := fun w2 v2 hb2 ho2 => by
              have hz := HX1.out.size
              rw [show ((i : Int) + 1) = ((i + 1 : Nat) : Int) by omega]
              rw [← castL_snoc] at ho2
              refine (HIH.out (i + 1) (left - j) B v1 vs1 v2 _ (now ++ [k]) w2 (by have := HIm.out; omega) (HX1.out.below hb2) (ho2.mono hz) (fun g g1 g2 => ?_) (by rw [List.length_append, HNow.out]; rfl) (fun z hz2 => ?_) (by omega) HLs.out).mono ?_
              · have := (HX1.out.y.t.own.lt g g1).2; have := (ho2.lt g2).1; omega
              · rcases List.mem_append.1 hz2 with q | q
                · exact HNz.out z q
                · simp at q; omega
              · rintro e w3 ⟨rfl, hb3, v3, vs3, hy3, hk3⟩
                have hbw : Below (B + 2) wr w3 := (hb2.mono (by omega)).trans hb3
                have hkk := (HKx.out.trans (KpX.below v1 hb2)).trans hk3
                have he : ls ++ gJ (fun r => pl.getD r 0) (fun r => cl.getD r 0) m i left now (j + 1) = ls ++ gJ (fun r => pl.getD r 0) (fun r => cl.getD r 0) m i left now j ++ gF (fun r => pl.getD r 0) (fun r => cl.getD r 0) m (i + 1) (left - j) (now ++ [k]) := by
                  rw [gJ_succ, ← List.append_assoc, show (fun r => pl.getD r 0) i + j = k by rw [HK.out, HLo.out]]
                rw [he]
                exact ⟨rfl, HB1.out.trans hbw, v3, vs3, HX1.out.next hbw hy3, hkk⟩
            have HSl : Hid ((castL now).length ≤ 1000) := by have := HNow.out; have := HIm.out; show _ ≤ _; rw [castL_len]; have := HNc.out; omega
            have hBz : B + 4 ≤ wr.heap.size := HX1.out.size
            have hc1 := cell_of_one HX1.out.y.b1
            obtain ⟨a', n', c', hv', hs', hn', hnone'⟩ := HOu.out.open0 (by have := HSl.out; omega) (fun z hz => by have := castL_lt HNz.out z hz; omega)
            cases hv'
            have HSh : Hid (∀ W, Below wr.heap.size wr W → Shows W a (castL now)) := fun W hW => hs'.below hW
            have HNo : Hid (a = none → castL now = [] ∧ c = 0) := hnone'
            clear hs' hn' hnone'
            obtain ⟨so, HSo⟩ : ∃ so, Hid (so = castL now) := ⟨_, rfl⟩
            rw [← HSo.out] at HSh HNo HSl HCall HNu HOu
            have HA : Hid (∀ W v5 w1, (W = wr.drew ∨ W = wr.drew.alloc (.cells #[.int .i64 (k : Int)] 3)) → Owns w1 W.heap.size v5 ([] ++ so) → Below W.heap.size W w1 →
                w1.cell? ⟨B + 2 + 1, 0, none⟩ = some (grV B) ∧ (w1.alloc (.cells #[.int .i64 (k : Int)] 3)).cell? ⟨B + 2 + 1, 0, none⟩ = some (grV B) ∧ Hid (Owns w1 wr.heap.size v5 so) ∧ Hid (Below wr.heap.size wr w1) ∧ Hid (wr.heap.size < W.heap.size → w1.cell? ⟨wr.heap.size, 0, none⟩ = some (.int .i64 (k : Int))) ∧ ∃ a1 m1 c1, v5 = .slice a1 m1 c1) := fun W v5 w1 hW h1 h2 => by
              rw [List.nil_append] at h1
              have hbW : Below wr.heap.size wr W := by
                rcases hW with rfl | rfl
                · exact below_drewN (Below.refl _ _) 1
                · exact (below_drewN (Below.refl _ _) 1).alloc (Nat.le_refl _) _
              have hb : Below wr.heap.size wr w1 := hbW.trans (h2.mono hbW.size)
              have hsz := hb.size
              obtain ⟨a1, c1, rfl⟩ := h1.shape
              refine ⟨by rw [World.cell?_of_block (hb.block (B + 2 + 1) (by omega))]; exact hc1, by rw [World.cell?_alloc_past _ _ _ (by omega), World.cell?_of_block (hb.block (B + 2 + 1) (by omega))]; exact hc1, h1.mono hbW.size, hb, fun hlt => ?_, a1, _, c1, rfl⟩
              rcases hW with rfl | rfl
              · exact absurd hlt (by show ¬ (wr.heap.size < wr.heap.size); omega)
              · rw [World.cell?_of_block (h2.block wr.heap.size hlt)]
                exact World.cell?_alloc_at _ _ _ _ rfl
            have HA2 : Hid (∀ X v6 w2, Below wr.heap.size wr X → Owns w2 wr.heap.size v6 (so ++ [(k : Int)]) → Below wr.heap.size X w2 → w2.cell? ⟨B + 2 + 1, 0, none⟩ = some (grV B) ∧ Hid (Below wr.heap.size wr w2) ∧ Hid (Owns w2 wr.heap.size v6 (so ++ [(k : Int)])) ∧ ∃ a1 m1 c1, v6 = .slice a1 m1 c1) := fun X v6 w2 h1 h2 h3 => by
              have hb := h1.trans h3
              obtain ⟨a1, c1, rfl⟩ := h2.shape
              exact ⟨by rw [World.cell?_of_block (hb.block (B + 2 + 1) (by omega))]; exact hc1, hb, h2, a1, _, c1, rfl⟩
            have hc2 : (wr.alloc (.cells #[.int .i64 (k : Int)] 3)).cell? ⟨B + 2 + 1, 0, none⟩ = some (grV B) := by rw [World.cell?_alloc_past _ _ _ (by omega)]; exact hc1
            have e3 : B + 2 + 1 = B + 3 := rfl
            rw [e3] at hc1 hc2 HA HA2
            clear e3
            have hnum1 : IntKind.i64.wrap ((i : Int) + 1) = ((i + 1 : Nat) : Int) := by rw [IntWalk.i64_left, IntWalk.wrap64_in _ (by omega)]; omega
            have hnum2 : IntKind.i64.wrap ((left : Int) - (j : Int)) = ((left - j : Nat) : Int) := by rw [IntWalk.i64_left, IntWalk.wrap64_in _ (by omega)]; omega
            clear HIH HX HU HAp HNow HNz HIm HL HPz HCs HPs HBx HX1 HLs HKx HB1 HBc HBd HOu HSo HCi HHi HNp HNc hlo hci hnc hnp hic hne hne' hic' hle' hjl'
            go_wp2_with fail
            go_region_law (first | (refine step_src (zs := []) (ys := so) (ad := a) (m := nu) (c := c) rfl (.const (.slice none 0 0)) (.tmp 94) rfl rfl (by first | (simp [Act.eval]; done) | (simp [Act.eval, Act.put]; done)) (World.ownsRow_nil _ _ _ _) (HSh.out _ (by first | exact below_drewN (Below.refl _ _) 1 | exact (below_drewN (Below.refl _ _) 1).alloc (Nat.le_refl _) _)) HNu.out HNo.out (by have := HSl.out; simp; omega) (Nat.le_refl _) ?_; intro v5 w1 hO5 hb5 _; obtain ⟨g1, g2, g3, g4, g5, a1, m1, k1, rfl⟩ := HA.out _ v5 w1 (by first | exact Or.inl rfl | exact Or.inr rfl) hO5 hb5; clear hO5 hb5) | (refine step_kg (base := wr.heap.size) (v := .slice a1 m1 k1) (zs := so) (x := (k : Int)) rfl (.tmp 95) (.tmp 97) rfl (by first | (simp [Act.eval]; done) | (simp [Act.eval, Act.put]; done)) (by first | (simp [Act.eval]; done) | (simp [Act.eval]; rfl)) (by first | exact g3.out | exact World.ownsRow.alloc g3.out _) (by first | exact World.cell?_alloc_at _ _ _ _ rfl | exact g5.out (by show wr.heap.size < (wr.drew.alloc _).heap.size; simp)) (by have := HSl.out; omega) (by first | exact g4.out.size | exact (g4.out.alloc g4.out.size _).size) ?_; intro v6 w2 hO6 hb6; obtain ⟨e1, e2, e3, a2, m2, k2, rfl⟩ := HA2.out _ v6 w2 (by first | exact g4.out | exact g4.out.alloc g4.out.size _) hO6 hb6; clear hO6 hb6) | (refine step_gr (B := B) rfl (.tmp 86) (.tmp 88) (.tmp 93) (.tmp 98) rfl rfl rfl rfl rfl (HCall.out w2 _ e2.out e3.out) ?_; intro w3 hE))
            all_goals obtain ⟨HB3, v3, vs3, HX3, HK3⟩ := hE.out
            all_goals clear hE
            all_goals go_wp2
            all_goals go_roundw
            all_goals first
              | (have hk1 := HK.out; exact ⟨j + 1, k + 1, v3, vs3, by show _ = _; omega, HJM, by omega, by first | rfl | (show Value.int _ _ = _; congr 1), HX3, HK3, HB3⟩)
              | (simp [intOf]; omega)
          · have hjl' : ¬ ((j : Int) ≤ (left : Int)) := by omega
            have HJM : Hid (M = j) := by show _ = _; have := HJ.out; have := HM.out; omega
            go_wp2
            go_end0
            refine ⟨rfl, HB1.out, v1, vs1, ?_, HKx.out⟩
            rw [HJM.out]; exact HX1.out.y
        · have hle' : ¬ ((k : Int) ≤ (hi2 : Int)) := by omega
          have HJM : Hid (M = j) := by show _ = _; have := HJ.out; have := HM.out; have := HK.out; omega
          go_wp2
          go_end0
          refine ⟨rfl, HB1.out, v1, vs1, ?_, HKx.out⟩
          rw [HJM.out]; exact HX1.out.y

theorem Gr_at (ty : TypeId) (ap ac : Option Addr) (cp cc : Nat) (pl cl : List Nat) (hcl : cl.length ≤ 1000) (hpl : pl.length ≤ 1000) (hpz : ∀ z ∈ pl, z ≤ 1000) (hcz : ∀ z ∈ cl, z ≤ 1000) : ∀ m, GrS ty ap ac cp cc pl cl m := by
  intro m
  induction m with
  | zero => exact Gr_zero ty ap ac cp cc pl cl hcl
  | succ m ih => exact Gr_step ty ap ac cp cc pl cl hcl hpl hpz hcz m ih

end Go.Proofs.Ytncokoimbpkapaa
