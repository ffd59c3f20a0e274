/-
  The contract of the closure in ferref.AllParts, all of it.
-/
import Derived.Test.YtheebpjkjclgbaaCPar
namespace Go.Proofs.Ytheebpjkjclgbaa
open Go.RowKit

/-- A number from anywhere, in a region that draws its order. -/
theorem step_kb {w : World} {base N : Nat} {v : Value} {zs : List Int} {x : Int} {ops : Array Oper} {o : Oper} {a : Act} {K : Act → World → Prop} {Q : Exit → Act → World → Prop} {EE : Prop} (hgd : o.guard = none) (s y : Operand)
    (ho : o.op = .call { callee := .builtin .append, args := #[s, y], argTypes := #[22, 22] }) (hs : a.eval s = v) (hx : a.eval y = .slice (some ⟨N, 0, none⟩) 1 1) (hown : Owns w base v zs) (hc : w.cell? ⟨N, 0, none⟩ = some (.int .i64 x))
    (hl : zs.length ≤ 1000) (hbase : base ≤ w.heap.size)
    (h : ∀ v' w', Owns w' base v' (zs ++ [x]) → Below base w w' → K (a.put o.dst v') w') :
    if Region.wanted o (yielded ops a.tmps) = true then Oper.wp Try.prog o a w K Q else EE := by
  have hw : Region.wanted o (yielded ops a.tmps) = true := by simp [Region.wanted, hgd]
  rw [if_pos hw]
  obtain ⟨v', w', hrun, r1, r2, r3⟩ := run_append_kb elem_int (news := [.int .i64 x]) o.type (vals_of_owns hown) ⟨N, 0, none⟩ 1 (fun j u hj => by
    match j, hj with
    | 0, hj => simp at hj; subst hj; rw [Addr.add_lit]; exact hc) (fun u hu => by simp at hu; subst hu; rfl) (by unfold maxLen; simp; omega) (by simp; omega) hbase
  have hrun' : (Builtin.append_ #[22, 22] o.type #[v, .slice (some ⟨N, 0, none⟩) 1 1]).run Try.prog w = .ok v' w' := hrun
  unfold Oper.wp
  simp [execOp, ho, resolve, invoke, builtin, hs, hx, hrun', Result.andThen]
  exact h v' w' (owns_of_vals r1) r2

/-- A call of the closure, in a region that draws its order. -/
theorem step_par {w : World} {B : Nat} {x y z : Value} {P : World → Prop} {ops : Array Oper} {o : Oper} {a : Act} {K : Act → World → Prop} {Q : Exit → Act → World → Prop} {EE : Prop} (hgd : o.guard = none) (s p q r : Operand)
    (ho : o.op = .call { callee := .value s, args := #[p, q, r], argTypes := #[3, 3, 22] }) (hs : a.eval s = parV B) (hx : a.eval p = x) (hy : a.eval q = y) (hz : a.eval r = z) (hc : Calls Try.prog 30 #[x, y, z, bx B, bx (B + 1)] w fun e w' => e = .returned (.tuple #[]) ∧ P w') (h : ∀ w', P w' → K (a.put o.dst (.tuple #[])) w') :
    if Region.wanted o (yielded ops a.tmps) = true then Oper.wp Try.prog o a w K Q else EE := by
  have hw : Region.wanted o (yielded ops a.tmps) = true := by simp [Region.wanted, hgd]
  rw [if_pos hw]
  unfold Oper.wp
  simp [execOp, ho, resolve, invoke, hx, hs, hy, hz]
  simp [Deferred.ofValue, callFunc, Try.func30]
  refine hc.mono ?_
  rintro e w' ⟨rfl, hP⟩
  exact h w' hP

/-- What the closure leaves. -/
def EndY (w : World) (B : Nat) (ty : TypeId) (v : Value) (ls : List (List Int)) (w' : World) : Prop := Below B w w' ∧ ∃ v' vs', AllY w' B ty (parV B) v' vs' ls ∧ KeepX B v v' w w'

set_option maxHeartbeats 8000000 in
set_option maxRecDepth 100000 in
theorem Ap1_at (ty : TypeId) : ∀ (f least left : Nat) (B : Nat) (v : Value) (vs : List Value) (u : Value) (ls : List (List Int)) (so : List Int) (w : World), AllY w B ty (parV B) v vs ls → Owns w (B + 2) u so → Apart v u → SoUp so least left → left < f → ls.length + (rgF f least left so).length ≤ 1000 →
    Calls Try.prog 30 #[.int .i64 least, .int .i64 left, u, bx B, bx (B + 1)] w fun e w' => e = .returned (.tuple #[]) ∧ EndY w B ty v (ls ++ rgF f least left so) w' := by
  intro f
  induction f with
  | zero => intro least left B v vs u ls so w _ _ _ _ h; omega
  | succ f IH =>
    intro least left B v vs u ls so w hx hu hap hso hf hl
    by_cases h0 : left = 0
    · subst h0
      rw [rgF_zero] at hl ⊢
      exact Ap1_zero least B ty v vs u ls so w hx hu hap hso (by omega)
    · rw [rgF_pos h0] at hl ⊢
      have HIH : Hid (∀ (least left : Nat) (B : Nat) (v : Value) (vs : List Value) (u : Value) (ls : List (List Int)) (so : List Int) (w : World), AllY w B ty (parV B) v vs ls → Owns w (B + 2) u so → Apart v u → SoUp so least left → left < f → ls.length + (rgF f least left so).length ≤ 1000 →
          Calls Try.prog 30 #[.int .i64 least, .int .i64 left, u, bx B, bx (B + 1)] w fun e w' => e = .returned (.tuple #[]) ∧ EndY w B ty v (ls ++ rgF f least left so) w') := IH
      have h20 : left ≤ 20 := by have := hso.len; omega
      have hl20 : least ≤ 20 := hso.most
      have HX : Hid (AllY w B ty (parV B) v vs ls) := hx
      have HU : Hid (Owns w (B + 2) u so) := hu
      have HAp : Hid (Apart v u) := hap
      have HSo : Hid (SoUp so least left) := hso
      have HL : Hid (ls.length + (rgJ f least left so (left + 1 - least)).length ≤ 1000) := hl
      have hne : ((left : Int) == 0) = false := by simp; omega
      have hne' : ¬ ((left : Int) = 0) := by omega
      obtain ⟨a, c, hshape⟩ := hu.shape
      obtain ⟨n, HNn⟩ : ∃ n, Hid (n = so.length) := ⟨_, rfl⟩
      rw [← HNn.out] at hshape
      subst hshape
      clear IH hx hu hap hso hl
      go_enter Try.func30, Try.ntmps30
      go_wp2_with fail
      go_loopw [8] (fun kv wr => ∃ (j k : Nat) (v' : Value) (vs' : List Value), Hid (k = least + j) ∧ j ≤ left + 1 - least ∧ k ≤ 21 ∧ kv = .int .i64 (k : Int) ∧ Hid (AllY wr B ty (parV B) v' vs' (ls ++ rgJ f least left so j)) ∧ Hid (KeepX B v v' w wr) ∧ Hid (Below B w wr)) (fun kv _ => 22 - (intOf kv).toNat)
      case atStart => exact ⟨0, least, v, vs, rfl, Nat.zero_le _, by omega, rfl, by simpa [rgJ] using HX, KeepX.refl _ _ _, Below.refl _ _⟩
      case round =>
        obtain ⟨j, k, v1, vs1, HK, hj, hk21, rfl, HX1, HKx, HB1⟩ := hrel
        by_cases hle : k ≤ left
        · have hle' : (k : Int) ≤ (left : Int) := by omega
          obtain ⟨HU1, HAp1⟩ := HU.out.keptX (by omega) HAp.out HKx.out
          have HOu : Hid (Owns wr (B + 2) (.slice a n c) so) := HU1
          have HAu : Hid (Apart v1 (.slice a n c)) := HAp1
          clear HU1 HAp1
          have HLs : Hid ((ls ++ rgJ f least left so j).length + (rgF f k (left - k) (so ++ [(k : Int)])).length ≤ 1000) := by
            have h1 := HL.out
            have h2 := rgJ_le f least left so (j + 1) (left + 1 - least - (j + 1))
            rw [show j + 1 + (left + 1 - least - (j + 1)) = left + 1 - least by have := HK.out; omega, rgJ_succ, ← HK.out, List.length_append] at h2
            show _ ≤ _
            rw [List.length_append]; omega
          have HCall : Hid (∀ w2 v2, Below wr.heap.size wr w2 → Owns w2 wr.heap.size v2 (so ++ [(k : Int)]) → Calls Try.prog 30 #[.int .i64 k, .int .i64 (IntKind.i64.wrap ((left : Int) - (k : Int))), v2, bx B, bx (B + 1)] w2 fun e w3 => e = .returned (.tuple #[]) ∧ EndY w B ty v (ls ++ rgJ f least left so (j + 1)) w3) := fun w2 v2 hb2 ho2 => by
            have hz := HX1.out.size
            rw [show IntKind.i64.wrap ((left : Int) - (k : Int)) = ((left - k : Nat) : Int) by rw [IntWalk.i64_left, IntWalk.wrap64_in _ (by omega)]; omega]
            refine (HIH.out k (left - k) B v1 vs1 v2 _ _ w2 (HX1.out.below hb2) (ho2.mono hz) (fun g g1 g2 => ?_) (HSo.out.snoc (by have := HK.out; omega) hle) (by have := HSo.out.one; have := HK.out; omega) HLs.out).mono ?_
            · have := (HX1.out.t.own.lt g g1).2; have := (ho2.lt g2).1; omega
            · rintro e w3 ⟨rfl, hb3, v3, vs3, hy3, hk3⟩
              refine ⟨rfl, (HB1.out.trans (hb2.mono (by omega))).trans hb3, v3, vs3, ?_, (HKx.out.trans (KeepX.below v1 hb2)).trans hk3⟩
              rw [rgJ_succ, ← HK.out, ← List.append_assoc]; exact hy3
          have HSl : Hid (so.length ≤ 20) := by have := HSo.out.len; show _ ≤ _; omega
          have hBz : B + 2 ≤ wr.heap.size := HX1.out.size
          have hc1 := cell_of_one HX1.out.b1
          obtain ⟨a', n', c', hv', hs', hn', hnone'⟩ := HOu.out.open0 (by have := HSl.out; omega) (fun z hz => by have := HSo.out.low z hz; omega)
          cases hv'
          have HSh : Hid (∀ W, Below wr.heap.size wr W → Shows W a so) := fun W hW => hs'.below hW
          have HNo : Hid (a = none → so = [] ∧ c = 0) := hnone'
          clear hs' hn' hnone'
          have HA : Hid (∀ W v5 w1, (W = wr.drew ∨ W = wr.drew.alloc (.cells #[.int .i64 (k : Int)] 3)) → Owns w1 W.heap.size v5 ([] ++ so) → Below W.heap.size W w1 →
              w1.cell? ⟨B + 1, 0, none⟩ = some (parV B) ∧ (w1.alloc (.cells #[.int .i64 (k : Int)] 3)).cell? ⟨B + 1, 0, none⟩ = some (parV B) ∧ Hid (Owns w1 wr.heap.size v5 so) ∧ Hid (Below wr.heap.size wr w1) ∧ Hid (wr.heap.size < W.heap.size → w1.cell? ⟨wr.heap.size, 0, none⟩ = some (.int .i64 (k : Int))) ∧ ∃ a1 m1 c1, v5 = .slice a1 m1 c1) := fun W v5 w1 hW h1 h2 => by
            rw [List.nil_append] at h1
            have hbW : Below wr.heap.size wr W := by
              rcases hW with rfl | rfl
              · exact below_drewN (Below.refl _ _) 1
              · exact (below_drewN (Below.refl _ _) 1).alloc (Nat.le_refl _) _
            have hb : Below wr.heap.size wr w1 := hbW.trans (h2.mono hbW.size)
            have hsz := hb.size
            obtain ⟨a1, c1, rfl⟩ := h1.shape
            refine ⟨by rw [World.cell?_of_block (hb.block (B + 1) (by omega))]; exact hc1, by rw [World.cell?_alloc_past _ _ _ (by omega), World.cell?_of_block (hb.block (B + 1) (by omega))]; exact hc1, h1.mono hbW.size, hb, fun hlt => ?_, a1, _, c1, rfl⟩
            rcases hW with rfl | rfl
            · exact absurd hlt (by show ¬ (wr.heap.size < wr.heap.size); omega)
            · rw [World.cell?_of_block (h2.block wr.heap.size hlt)]
              exact World.cell?_alloc_at _ _ _ _ rfl
          have HA2 : Hid (∀ X v6 w2, Below wr.heap.size wr X → Owns w2 wr.heap.size v6 (so ++ [(k : Int)]) → Below wr.heap.size X w2 → w2.cell? ⟨B + 1, 0, none⟩ = some (parV B) ∧ Hid (Below wr.heap.size wr w2) ∧ Hid (Owns w2 wr.heap.size v6 (so ++ [(k : Int)])) ∧ ∃ a1 m1 c1, v6 = .slice a1 m1 c1) := fun X v6 w2 h1 h2 h3 => by
            have hb := h1.trans h3
            obtain ⟨a1, c1, rfl⟩ := h2.shape
            exact ⟨by rw [World.cell?_of_block (hb.block (B + 1) (by omega))]; exact hc1, hb, h2, a1, _, c1, rfl⟩
          have hc2 : (wr.alloc (.cells #[.int .i64 (k : Int)] 3)).cell? ⟨B + 1, 0, none⟩ = some (parV B) := by rw [World.cell?_alloc_past _ _ _ (by omega)]; exact hc1
          go_wp2_with fail
          go_region_law (first | (refine step_src (zs := []) (ys := so) rfl (.const (.slice none 0 0)) (.tmp 27) rfl rfl (by first | (simp [Act.eval]; done) | (simp [Act.eval]; rfl)) (World.ownsRow_nil _ _ _ _) (HSh.out _ (by first | exact below_drewN (Below.refl _ _) 1 | exact (below_drewN (Below.refl _ _) 1).alloc (Nat.le_refl _) _)) HNn.out HNo.out (by have := HSl.out; simp; omega) (Nat.le_refl _) ?_; intro v5 w1 hO5 hb5 _; obtain ⟨g1, g2, g3, g4, g5, a1, m1, k1, rfl⟩ := HA.out _ v5 w1 (by first | exact Or.inl rfl | exact Or.inr rfl) hO5 hb5; clear hO5 hb5) | (refine step_kb (base := wr.heap.size) (zs := so) (x := (k : Int)) rfl (.tmp 28) (.tmp 30) rfl (by first | (simp [Act.eval]; done) | (simp [Act.eval]; rfl)) (by first | (simp [Act.eval]; done) | (simp [Act.eval]; rfl)) (by first | exact g3.out | exact World.ownsRow.alloc g3.out _) (by first | exact World.cell?_alloc_at _ _ _ _ rfl | exact g5.out (by show wr.heap.size < (wr.drew.alloc _).heap.size; simp)) (by have := HSl.out; omega) (by first | exact g4.out.size | exact (g4.out.alloc g4.out.size _).size) ?_; intro v6 w2 hO6 hb6; obtain ⟨e1, e2, e3, a2, m2, k2, rfl⟩ := HA2.out _ v6 w2 (by first | exact g4.out | exact g4.out.alloc g4.out.size _) hO6 hb6; clear hO6 hb6) | (refine step_par (B := B) rfl (.tmp (21 + 1)) (.tmp 23) (.tmp 26) (.tmp 31) rfl (by first | (simp [Act.eval]; done) | (simp [Act.eval]; rfl)) (by first | (simp [Act.eval]; done) | (simp [Act.eval]; rfl)) (by first | (simp [Act.eval]; done) | (simp [Act.eval]; rfl)) (by first | (simp [Act.eval]; done) | (simp [Act.eval]; rfl)) (HCall.out w2 _ e2.out e3.out) ?_; intro w3 hE))
          all_goals obtain ⟨HB3, v3, vs3, HX3, HK3⟩ := hE
          all_goals go_wp2
          all_goals go_roundw
          all_goals first
            | (have hk1 := HK.out; exact ⟨j + 1, k + 1, v3, vs3, by show _ = _; omega, by omega, by omega, by first | rfl | (show Value.int _ _ = _; congr 1), HX3, HK3, HB3⟩)
            | (simp [intOf]; omega)
        · have hle' : ¬ ((k : Int) ≤ (left : Int)) := by omega
          go_wp2
          go_end0
          exact ⟨rfl, HB1.out, v1, vs1, by rw [show left + 1 - least = j by have := HK.out; omega]; exact HX1.out, HKx.out⟩

end Go.Proofs.Ytheebpjkjclgbaa
