/-
  The contract of the closure in parts.All.
-/
import Derived.Test.YtheebpjkjclgbaaCAll
namespace Go.Proofs.Ytheebpjkjclgbaa
open Go.RowKit

set_option maxHeartbeats 1000000 in
theorem pcopied_at (a : Option Addr) (n cap : Nat) (zs : List Int) (w : World) (hs : Shows w a zs) (hn : n = zs.length) :
    Calls Try.prog 43 #[.slice a n cap] w fun e w' => ∃ v, e = .returned v ∧ Owns w' w.heap.size v zs ∧ Below w.heap.size w w' := by
  subst hn
  have hl := hs.len
  obtain ⟨i0, hi, hz0, hz1, hz2⟩ := info_parts Try.info3
  go_enter Try.func43, Try.ntmps43
  go_wp2_with (at_make; refine wpList_make_full _ rfl _ _ 22 rfl w.heap.size 3 i0 (.int .i64 0) 1 Try.underlying22 hi hz0 hz1 _ _ _ _ zs.length rfl rfl rfl rfl ?b1 ?b2 ?b3 ?_)
  case b1 => rw [hz2]; omega
  case b2 => unfold maxLen; omega
  case b3 => exact Nat.le_refl _
  intro w1 hown hgrow
  have hb1 : Below w.heap.size w w1 := (Below.refl _ _).grown hgrow (Nat.le_refl _) (fun k h => by cases h)
  have hrow : w1.heap[w.heap.size]? = some (.cells (List.replicate zs.length (Value.int .i64 0)).toArray 3 (0, 0)) := by
    rcases hown.2 with ⟨h2, _⟩ | ⟨g', cap', cur, hv, hg, hh, h4, h5, h6, h7⟩
    · cases h2
    · simp only [Value.slice.injEq, Option.some.injEq, Addr.mk.injEq, and_true, true_and] at hv
      obtain ⟨rfl, rfl⟩ := hv
      rw [hh]
      have e0 : cur.toList = List.replicate zs.length (Value.int .i64 0) := by
        rw [← toList_madeCells_one, List.take_of_length_le (by simp [h6])] at *
        rw [h7]
        try simp [Value.cells]
      rw [← e0]
  have hs1 := hs.below hb1
  obtain ⟨w2, hrun, HR2, hb2⟩ := run_copy_all (cap := cap) hs1 hrow hb1 (Nat.le_refl _)
  clear hrow hown hgrow
  go_wp2
  go_ret
  exact ⟨_, rfl, owns_of_row (Nat.le_refl _) HR2.out rfl hl, hb2⟩

/-- A pointer to a box. -/
abbrev bx (g : Nat) : Value := .pointer (some ⟨g, 0, none⟩)
/-- The closure itself. -/
abbrev allV (B : Nat) : Value := .func (.func 42) #[] #[bx B, bx (B + 1), bx (B + 2)]
/-- The parts so far are small. -/
def SoOk (so : List Int) (left : Nat) : Prop := so.length + left ≤ 20 ∧ ∀ z ∈ so, 1 ≤ z ∧ z ≤ 20
theorem SoOk.snoc {so : List Int} {left p : Nat} (h : SoOk so left) (hp : p + 1 ≤ left) : SoOk (so ++ [(p : Int) + 1]) (left - (p + 1)) := by
  have := h.1
  refine ⟨by simp; omega, fun z hz => ?_⟩
  rcases List.mem_append.1 hz with q | q
  · exact h.2 z q
  · simp at q; omega

/-- A call of parts.copied, in a region that draws its order. -/
theorem step_pcopied {w : World} {x : Value} {P : Value → World → Prop} {ops : Array Oper} {o : Oper} {a : Act} {K : Act → World → Prop} {Q : Exit → Act → World → Prop} {EE : Prop} (hgd : o.guard = none) (y : Operand)
    (ho : o.op = .call { callee := .value (.func 43), args := #[y], argTypes := #[22] }) (hx : a.eval y = x) (hc : Calls Try.prog 43 #[x] w fun e w' => ∃ v, e = .returned v ∧ P v w') (h : ∀ v w', P v w' → K (a.put o.dst v) w') :
    if Region.wanted o (yielded ops a.tmps) = true then Oper.wp Try.prog o a w K Q else EE := by
  have hw : Region.wanted o (yielded ops a.tmps) = true := by simp [Region.wanted, hgd]
  rw [if_pos hw]
  unfold Oper.wp
  simp [execOp, ho, resolve, invoke, hx]
  simp [Act.eval, Deferred.ofValue, callFunc, Try.func43]
  refine hc.mono ?_
  rintro e w' ⟨v, rfl, hP⟩
  exact h v w' hP

set_option maxHeartbeats 4000000 in
set_option maxRecDepth 100000 in
/-- Nothing is left: a row more. -/
theorem All1_zero (most : Nat) (B : Nat) (ty : TypeId) (v : Value) (vs : List Value) (u : Value) (ls : List (List Int)) (so : List Int) (w : World) (hx : AllX w B ty (allV B) v vs u ls so) (hso : SoOk so 0) (hl : ls.length ≤ 1000) :
    Calls Try.prog 42 #[.int .i64 0, .int .i64 most, bx B, bx (B + 1), bx (B + 2)] w fun e w' => e = .returned (.tuple #[]) ∧ Below B w w' ∧ ∃ v' vs' u', AllX w' B ty (allV B) v' vs' u' (ls ++ [so]) so := by
  have HX : Hid (AllX w B ty (allV B) v vs u ls so) := hx
  obtain ⟨a, n, c, hu, hs, hn, hnc⟩ := hx.o.opened (by have := hso.1; omega) (fun z hz => by have := hso.2 z hz; omega)
  subst hu
  have HS : Hid (Shows w a so) := hs
  have HN : Hid (n = so.length) := hn
  have HLv : Hid (vs.length ≤ 1000) := by show _ ≤ _; rw [hx.t.len]; exact hl
  have c0 := cell_of_one hx.b0
  have f0 := free_of_one hx.b0
  have c1 := cell_of_one hx.b1
  have HC : Hid (∀ W, Below w.heap.size w W → Calls Try.prog 43 #[.slice a n c] W fun e w' => ∃ v, e = .returned v ∧ Owns w' W.heap.size v so ∧ Below W.heap.size W w') := fun W hW => pcopied_at a n c so W (HS.out.below hW) HN.out
  have HEnd : Hid (∀ v1 w1, Owns w1 w.drew.heap.size v1 so ∧ Below w.drew.heap.size w.drew w1 → w1.cell? ⟨B, 0, none⟩ = some v ∧ w1.frozen? ⟨B, 0, none⟩ = false ∧ Hid (Below w.heap.size w w1) ∧ Hid (Owns w1 w.heap.size v1 so) ∧ Hid (w1.ownsRow (B + 3) 22 1 v vs.length vs) ∧ (w1.alloc (.cells #[v1] 22)).cell? ⟨B, 0, none⟩ = some v ∧ ∃ a1 m1 c1, v1 = .slice a1 m1 c1) := fun v1 w1 h => by
    have hs := HX.out.size
    have e0 : w1.heap[B]? = some (.cells #[v] 38 (0, 0)) := by rw [h.2.block B (by show B < w.heap.size; omega)]; exact HX.out.b0
    obtain ⟨a1, c1, rfl⟩ := h.1.shape
    have hb : Below w.heap.size w w1 := (below_drewN (Below.refl _ _) 1).trans h.2
    exact ⟨cell_of_one e0, free_of_one e0, hb, h.1, ownsRow_blocks HX.out.t.own (fun k q => hb.block k (HX.out.t.own.lt k q).2), by rw [World.cell?_of_block (show (w1.alloc _).heap[B]? = w1.heap[B]? from Below.heap_alloc w1 _ B (by have := hb.size; omega))]; exact cell_of_one e0, a1, _, c1, rfl⟩
  have HEnd2 : Hid (∀ v1 w1 v2 w2, Below w.heap.size w w1 → Owns w1 w.heap.size v1 so → w2.ownsRow (B + 3) 22 1 v2 (vs ++ [v1]).length (vs ++ [v1]) → Below (B + 3) w1 w2 → KeepB v v2 w1 w2 → w2.cell? ⟨B, 0, none⟩ = some v ∧ w2.frozen? ⟨B, 0, none⟩ = false ∧ Hid (Below B w (w2.setCell ⟨B, 0, none⟩ v2) ∧ ∃ v' vs' u', AllX (w2.setCell ⟨B, 0, none⟩ v2) B ty (allV B) v' vs' u' (ls ++ [so]) so) ∧ ∃ a2 m2 k2, v2 = .slice a2 m2 k2) := fun v1 w1 v2 w2 h1 h2 h3 h4 h5 => by
    have hs := HX.out.size
    have e0 : w2.heap[B]? = some (.cells #[v] 38 (0, 0)) := by rw [h4.block B (by omega), h1.block B (by omega)]; exact HX.out.b0
    have hb : Below B w w2 := (h1.mono (by omega)).trans (h4.mono (by omega))
    exact ⟨cell_of_one e0, free_of_one e0, ⟨hb.setCell (Nat.le_refl _) _, _, _, _, HX.out.row h1 h2 h3 h4 h5⟩, by
      rcases h3.2 with ⟨q, _⟩ | ⟨g, cp, cur, q, _⟩
      · exact ⟨_, _, _, q⟩
      · exact ⟨_, _, _, q⟩⟩
  clear hx hs hn hso hl
  go_enter Try.func42, Try.ntmps42
  go_wp2_with fail
  go_region_law (first | (refine step_pcopied rfl (.tmp 11) rfl (by first | (simp [Act.eval]; done) | (simp [Act.eval, Act.put]; done)) (HC.out _ (by first | exact Below.refl _ _ | exact below_drewN (Below.refl _ _) 1)) ?_; intro v1 w1 hP1; obtain ⟨g0, g1, g2, g3, g4, g5, a1, m1, k1, rfl⟩ := HEnd.out v1 w1 hP1; clear hP1) | (refine step_one elem_row (x := .slice a1 m1 k1) rfl (.tmp 10) (.tmp 13) rfl (by first | (simp [Act.eval]; done) | (simp [Act.eval, Act.put]; done)) (by first | (simp [Act.eval]; done) | (simp [Act.eval, Act.put]; done)) rfl g4.out rfl (by have := HLv.out; unfold maxLen; omega) (by have := HLv.out; omega) (Nat.le_trans HX.out.size g2.out.size) ?_; intro v2 w2 hO2 hb2 hk2; obtain ⟨e0, e1, e2, a2, m2, k2, rfl⟩ := HEnd2.out _ w1 v2 w2 g2.out g3.out hO2 hb2 hk2; clear hO2 hb2 hk2))
  all_goals go_wp2
  all_goals (try simp only [Exit.inBlock, Exit.then])
  all_goals refine bodyPost_ret (results_none rfl _ _ _) rfl ?_
  all_goals exact ⟨rfl, e2.out⟩

theorem owns_last {w : World} {base : Nat} {u : Value} {so : List Int} {p : Int} (h : Owns w base u (so ++ [p])) : ∃ g c, u = .slice (some ⟨g, 0, none⟩) (so.length + 1) c ∧ so.length + 1 ≤ c := by
  have h' : w.ownsRow base 3 1 u (so ++ [p]).length ((so ++ [p]).map (Value.int .i64)) := h
  rcases h'.2 with ⟨h1, h2⟩ | ⟨g, cap, cur, hv, hg, hh, h4, h5, h6, h7⟩
  · simp at h2
  · exact ⟨g, cap, by rw [hv]; simp, by simpa using h4⟩
theorem AllX.facts {w : World} {B : Nat} {ty : TypeId} {fv v : Value} {vs : List Value} {u : Value} {ls : List (List Int)} {so : List Int} (h : AllX w B ty fv v vs u ls so) : w.cell? ⟨B + 1, 0, none⟩ = some u ∧ w.frozen? ⟨B + 1, 0, none⟩ = false ∧ w.cell? ⟨B + 2, 0, none⟩ = some fv := ⟨cell_of_one h.b1, free_of_one h.b1, cell_of_one h.b2⟩

theorem lpF_le (f left p k : Nat) : (lpF f left p).length ≤ (lpF f left (p + k)).length := by
  induction k with
  | zero => exact Nat.le_refl _
  | succ k ih => rw [show p + (k + 1) = (p + k) + 1 by omega, lpF_succ, List.length_append]; omega

set_option maxHeartbeats 8000000 in
set_option maxRecDepth 100000 in
/-- All ways to go on. -/
theorem All1_at (ty : TypeId) : ∀ (f left most : Nat) (B : Nat) (v : Value) (vs : List Value) (u : Value) (ls : List (List Int)) (so : List Int) (w : World), AllX w B ty (allV B) v vs u ls so → SoOk so left → left < f → most ≤ 20 → ls.length + (genF f left most).length ≤ 1000 →
    Calls Try.prog 42 #[.int .i64 left, .int .i64 most, bx B, bx (B + 1), bx (B + 2)] w fun e w' => e = .returned (.tuple #[]) ∧ Below B w w' ∧ ∃ v' vs' u', AllX w' B ty (allV B) v' vs' u' (ls ++ (genF f left most).map (fun q => so ++ q)) so := by
  intro f
  induction f with
  | zero => intro left most B v vs u ls so w _ _ h; omega
  | succ f IH =>
    intro left most B v vs u ls so w hx hso hf hm hl
    by_cases h0 : left = 0
    · subst h0
      rw [genF_zero] at hl ⊢
      refine (All1_zero most B ty v vs u ls so w hx hso (by omega)).mono ?_
      rintro e w' ⟨rfl, hb, v', vs', u', h⟩
      exact ⟨rfl, hb, v', vs', u', by simpa using h⟩
    · rw [genF_pos h0] at hl ⊢
      have HIH : Hid (∀ (left most : Nat) (B : Nat) (v : Value) (vs : List Value) (u : Value) (ls : List (List Int)) (so : List Int) (w : World), AllX w B ty (allV B) v vs u ls so → SoOk so left → left < f → most ≤ 20 → ls.length + (genF f left most).length ≤ 1000 →
          Calls Try.prog 42 #[.int .i64 left, .int .i64 most, bx B, bx (B + 1), bx (B + 2)] w fun e w' => e = .returned (.tuple #[]) ∧ Below B w w' ∧ ∃ v' vs' u', AllX w' B ty (allV B) v' vs' u' (ls ++ (genF f left most).map (fun q => so ++ q)) so) := IH
      have h20 : left ≤ 20 := by have := hso.1; omega
      have HX : Hid (AllX w B ty (allV B) v vs u ls so) := hx
      have HSo : Hid (SoOk so left) := hso
      obtain ⟨M, HM⟩ : ∃ M : Nat, Hid (M = min left most) := ⟨_, rfl⟩
      have HL : Hid (ls.length + (lpF f left M).length ≤ 1000) := by rw [HM.out]; exact hl
      have hne : ((left : Int) == 0) = false := by simp; omega
      have hne' : ¬ ((left : Int) = 0) := by omega
      have hmin : min (left : Int) (most : Int) = (M : Int) := by rw [HM.out]; omega
      rw [← HM.out]
      have hM1 : M ≤ left := by rw [HM.out]; omega
      have hM2 : M ≤ 20 := by omega
      clear IH hx hso hl
      go_enter Try.func42, Try.ntmps42
      go_wp2_with fail
      all_goals
        go_loopw [7] (fun pv wr => ∃ (p : Nat) (v' : Value) (vs' : List Value) (u' : Value) (ds : List (List Int)), p ≤ M ∧ pv = .int .i64 (p : Int) ∧ Hid (AllX wr B ty (allV B) v' vs' u' (ls ++ ds.map (fun q => so ++ q)) so) ∧ Hid (lpF f left M = ds ++ lpF f left p) ∧ Hid (Below B w wr)) (fun pv _ => (intOf pv).toNat)
        case atStart => exact ⟨M, v, vs, u, [], Nat.le_refl _, by have := HM.out; show Value.int _ _ = _; congr 1; omega, by simpa using HX, by show _ = _; simp, Below.refl _ _⟩
        case round =>
          obtain ⟨p, v1, vs1, u1, ds, hp, rfl, HX1, HD, HB1⟩ := hrel
          by_cases hp0 : 0 < p
          · have hp0' : 0 < (p : Int) := by omega
            obtain ⟨k1, k2, k3⟩ := HX1.out.facts
            obtain ⟨r, HR⟩ : ∃ r, Hid (p = r + 1) := ⟨p - 1, by show _ = _; omega⟩
            have HLs : Hid ((ls ++ ds.map (fun q => so ++ q)).length + (genF f (left - p) p).length ≤ 1000) := by
              have h1 := HL.out; have h2 := congrArg List.length HD.out
              rw [HR.out, lpF_succ] at h2
              simp at h2
              show _ ≤ _
              rw [HR.out]; simp; omega
            have HCall : Hid (∀ W v' vs' u', AllX W B ty (allV B) v' vs' u' (ls ++ ds.map (fun q => so ++ q)) (so ++ [(p : Int)]) →
                Calls Try.prog 42 #[.int .i64 ((left : Int) - (p : Int)), .int .i64 p, bx B, bx (B + 1), bx (B + 2)] W fun e w' => e = .returned (.tuple #[]) ∧ Below B W w' ∧ ∃ v' vs' u', AllX w' B ty (allV B) v' vs' u' ((ls ++ ds.map (fun q => so ++ q)) ++ (genF f (left - p) p).map (fun q => (so ++ [(p : Int)]) ++ q)) (so ++ [(p : Int)])) := fun W v' vs' u' h => by
              rw [show (left : Int) - (p : Int) = ((left - p : Nat) : Int) by omega]
              have h2 := HSo.out.snoc (p := r) (by have := HR.out; omega)
              rw [show ((r : Int) + 1) = (p : Int) by have := HR.out; omega, ← HR.out] at h2
              exact HIH.out (left - p) p B v' vs' u' _ _ W h h2 (by omega) (by omega) HLs.out
            have HSl : Hid (so.length ≤ 20) := by have := HSo.out.1; show _ ≤ _; omega
            have HBs : Hid (B + 3 ≤ wr.heap.size) := HX1.out.size
            have HOw : Hid (wr.ownsRow (B + 3) 3 1 u1 (so.map (Value.int .i64)).length (so.map (Value.int .i64))) := vals_of_owns HX1.out.o
            go_wp2_with (at_builtin; refine append_one elem_int (x := .int .i64 (p : Int)) rfl _ _ rfl rfl rfl rfl HOw.out rfl ?c3 ?c4 ?c5 ?_)
            case c3 => have := HSl.out; unfold maxLen; rw [List.length_map]; omega
            case c4 => have := HSl.out; rw [List.length_map]; omega
            case c5 => exact HBs.out
            intro u2 w2 hO2' hb2 hk2
            have hO2 : Owns w2 (B + 3) u2 (so ++ [(p : Int)]) := owns_of_vals (by simpa using hO2')
            clear hO2'
            have HX2 : Hid (AllX (w2.setCell ⟨B + 1, 0, none⟩ u2) B ty (allV B) v1 vs1 u2 (ls ++ ds.map (fun q => so ++ q)) (so ++ [(p : Int)])) := HX1.out.more hO2 hb2 hk2
            have HB2 : Hid (Below B w (w2.setCell ⟨B + 1, 0, none⟩ u2)) := (HB1.out.trans (hb2.mono (by omega))).setCell (by show B ≤ B + 1; omega) _
            have e1 : w2.heap[B + 1]? = some (.cells #[u1] 22 (0, 0)) := by rw [hb2.block (B + 1) (by have := HBs.out; omega)]; exact HX1.out.b1
            have l1 := cell_of_one e1
            have l2 := free_of_one e1
            obtain ⟨g2, c2, hu2, hc2⟩ := owns_last hO2
            obtain ⟨n2, HN2⟩ : ∃ n2, Hid (n2 = so.length + 1) := ⟨_, rfl⟩
            rw [← HN2.out] at hu2
            subst hu2
            obtain ⟨m1, m2, m3⟩ := HX2.out.facts
            clear hO2 hb2 hk2 e1 k1 k2 k3 hc2
            go_wp2_with fail
            refine (HCall.out _ _ _ _ HX2.out).mono ?_
            rintro e w3 ⟨rfl, hb3, v3, vs3, u3, hx3⟩
            have HB3 : Hid (Below B w w3) := HB2.out.trans hb3
            clear hb3 m1 m2 m3 l1 l2
            obtain ⟨g3, c3, rfl, hc3⟩ := owns_last hx3.o
            obtain ⟨m1, m2, _⟩ := hx3.facts
            have HXp : Hid (AllX (w3.setCell ⟨B + 1, 0, none⟩ (.slice (some ⟨g3, 0, none⟩) so.length c3)) B ty (allV B) v3 vs3 (.slice (some ⟨g3, 0, none⟩) so.length c3) (ls ++ (ds ++ (genF f (left - p) p).map (fun q => (p : Int) :: q)).map (fun q => so ++ q)) so) := by
              have h := hx3.pop
              have e : (ls ++ ds.map (fun q => so ++ q)) ++ (genF f (left - p) p).map (fun q => (so ++ [(p : Int)]) ++ q) = ls ++ (ds ++ (genF f (left - p) p).map (fun q => (p : Int) :: q)).map (fun q => so ++ q) := by simp [Function.comp_def]
              rw [e] at h
              exact h
            have HD2 : Hid (lpF f left M = (ds ++ (genF f (left - p) p).map (fun q => (p : Int) :: q)) ++ lpF f left r) := by
              have h := HD.out
              rw [HR.out, lpF_succ] at h
              rw [HR.out]
              show _ = _
              rw [h]; simp
            have HBp : Hid (Below B w (w3.setCell ⟨B + 1, 0, none⟩ (.slice (some ⟨g3, 0, none⟩) so.length c3))) := HB3.out.setCell (by show B ≤ B + 1; omega) _
            have hsl := HSl.out
            clear hx3
            go_wp2
            go_roundw
            case rel => exact ⟨r, v3, vs3, _, _, by have := HR.out; omega, by have := HR.out; show Value.int _ _ = _; congr 1; omega, HXp, HD2, HBp⟩
            case measure => have := HR.out; simp [intOf]; omega
          · obtain rfl : p = 0 := by omega
            go_wp2
            go_end0
            exact ⟨rfl, HB1.out, v1, vs1, u1, by have := HX1.out; rw [show lpF f left M = ds by have := HD.out; simpa [lpF] using this]; exact this⟩

end Go.Proofs.Ytheebpjkjclgbaa
