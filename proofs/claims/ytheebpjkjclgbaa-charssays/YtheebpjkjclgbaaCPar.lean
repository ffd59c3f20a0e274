/-
  The contract of the closure in ferref.AllParts.
-/
import Derived.Test.YtheebpjkjclgbaaCPrt
namespace Go.Proofs.Ytheebpjkjclgbaa
open Go.RowKit

/-- A call of ferref.Fallen, in a region that draws its order. -/
theorem step_fallen {w : World} {x : Value} {P : Value → World → Prop} {ops : Array Oper} {o : Oper} {a : Act} {K : Act → World → Prop} {Q : Exit → Act → World → Prop} {EE : Prop} (hgd : o.guard = none) (y : Operand)
    (ho : o.op = .call { callee := .value (.func 31), args := #[y], argTypes := #[22] }) (hx : a.eval y = x) (hc : Calls Try.prog 31 #[x] w fun e w' => ∃ v, e = .returned v ∧ P v w') (h : ∀ v w', P v w' → K (a.put o.dst v) w') :
    if Region.wanted o (yielded ops a.tmps) = true then Oper.wp Try.prog o a w K Q else EE := by
  have hw : Region.wanted o (yielded ops a.tmps) = true := by simp [Region.wanted, hgd]
  rw [if_pos hw]
  unfold Oper.wp
  simp [execOp, ho, resolve, invoke, hx]
  simp [Act.eval, Deferred.ofValue, callFunc, Try.func31]
  refine hc.mono ?_
  rintro e w' ⟨v, rfl, hP⟩
  exact h v w' hP

/-- The closure itself. -/
abbrev parV (B : Nat) : Value := .func (.func 30) #[] #[bx B, bx (B + 1)]
/-- The parts so far are small, the lesser ones first. -/
structure SoUp (so : List Int) (least left : Nat) : Prop where
  len : so.length + left ≤ 20
  low : ∀ z ∈ so, 1 ≤ z ∧ z ≤ least
  up : so.Pairwise (fun a b => a ≤ b)
  one : 1 ≤ least
  most : least ≤ 20
theorem SoUp.snoc {so : List Int} {least left k : Nat} (h : SoUp so least left) (h1 : least ≤ k) (h2 : k ≤ left) : SoUp (so ++ [(k : Int)]) k (left - k) := by
  have := h.len
  have := h.one
  refine ⟨by simp; omega, fun z hz => ?_, ?_, by omega, by omega⟩
  · rcases List.mem_append.1 hz with q | q
    · have := h.low z q; omega
    · simp at q; omega
  · rw [List.pairwise_append]
    refine ⟨h.up, by simp, fun a ha b hb => ?_⟩
    simp at hb
    have := h.low a ha
    omega

set_option maxHeartbeats 4000000 in
set_option maxRecDepth 100000 in
/-- Nothing is left: a row more. -/
theorem Ap1_zero (least : Nat) (B : Nat) (ty : TypeId) (v : Value) (vs : List Value) (u : Value) (ls : List (List Int)) (so : List Int) (w : World) (hx : AllY w B ty (parV B) v vs ls) (hu : Owns w (B + 2) u so) (hap : Apart v u) (hso : SoUp so least 0) (hl : ls.length ≤ 1000) :
    Calls Try.prog 30 #[.int .i64 least, .int .i64 0, u, bx B, bx (B + 1)] w fun e w' => e = .returned (.tuple #[]) ∧ Below B w w' ∧ ∃ v' vs', AllY w' B ty (parV B) v' vs' (ls ++ [so.reverse]) ∧ KeepX B v v' w w' := by
  have HX : Hid (AllY w B ty (parV B) v vs ls) := hx
  obtain ⟨a, n, c, rfl, hs, hn, hnone⟩ := hu.open0 (by have := hso.len; omega) (fun z hz => by have := hso.low z hz; have := hso.most; omega)
  have HS : Hid (Shows w a so) := hs
  have HN : Hid (n = so.length) := hn
  have HO0 : Hid (a = none → so = [] ∧ c = 0) := hnone
  have HLv : Hid (vs.length ≤ 1000) := by show _ ≤ _; rw [hx.t.len]; exact hl
  have HSl : Hid (so.length ≤ 1000000) := by have := hso.len; show _ ≤ _; omega
  have HUp : Hid (so.Pairwise (fun a b => a ≤ b)) := hso.up
  have c0 := cell_of_one hx.b0
  have f0 := free_of_one hx.b0
  have HC : Hid (∀ W, Below w.heap.size w W → Calls Try.prog 31 #[.slice a n c] W fun e w' => ∃ v, e = .returned v ∧ Owns w' W.heap.size v so.reverse ∧ Below W.heap.size W w') := fun W hW => by
    refine (Fallen_any a n c so W (HS.out.below hW) HN HO0 HSl.out).mono ?_
    rintro e w' ⟨v, r, rfl, h1, h2, h3, h4⟩
    rw [desc_rev h2 h3 HUp.out] at h1
    exact ⟨v, rfl, h1, h4⟩
  have HEnd : Hid (∀ v1 w1, Owns w1 w.drew.heap.size v1 so.reverse ∧ Below w.drew.heap.size w.drew w1 → w1.cell? ⟨B, 0, none⟩ = some v ∧ w1.frozen? ⟨B, 0, none⟩ = false ∧ Hid (Below w.heap.size w w1) ∧ Hid (Owns w1 w.heap.size v1 so.reverse) ∧ Hid (w1.ownsRow (B + 2) 22 1 v vs.length vs) ∧ (w1.alloc (.cells #[v1] 22)).cell? ⟨B, 0, none⟩ = some v ∧ ∃ a1 m1 c1, v1 = .slice a1 m1 c1) := fun v1 w1 h => by
    have hs := HX.out.size
    have e0 : w1.heap[B]? = some (.cells #[v] 38 (0, 0)) := by rw [h.2.block B (by show B < w.heap.size; omega)]; exact HX.out.b0
    obtain ⟨a1, c1, rfl⟩ := h.1.shape
    have hb : Below w.heap.size w w1 := (below_drewN (Below.refl _ _) 1).trans h.2
    exact ⟨cell_of_one e0, free_of_one e0, hb, h.1, ownsRow_blocks HX.out.t.own (fun k q => hb.block k (HX.out.t.own.lt k q).2), by rw [World.cell?_of_block (show (w1.alloc _).heap[B]? = w1.heap[B]? from Below.heap_alloc w1 _ B (by have := hb.size; omega))]; exact cell_of_one e0, a1, _, c1, rfl⟩
  have HEnd2 : Hid (∀ v1 w1 v2 w2, Below w.heap.size w w1 → Owns w1 w.heap.size v1 so.reverse → w2.ownsRow (B + 2) 22 1 v2 (vs ++ [v1]).length (vs ++ [v1]) → Below (B + 2) w1 w2 → KeepB v v2 w1 w2 → w2.cell? ⟨B, 0, none⟩ = some v ∧ w2.frozen? ⟨B, 0, none⟩ = false ∧ Hid (Below B w (w2.setCell ⟨B, 0, none⟩ v2) ∧ ∃ v' vs', AllY (w2.setCell ⟨B, 0, none⟩ v2) B ty (parV B) v' vs' (ls ++ [so.reverse]) ∧ KeepX B v v' w (w2.setCell ⟨B, 0, none⟩ v2)) ∧ ∃ a2 m2 k2, v2 = .slice a2 m2 k2) := fun v1 w1 v2 w2 h1 h2 h3 h4 h5 => by
    have hs := HX.out.size
    have e0 : w2.heap[B]? = some (.cells #[v] 38 (0, 0)) := by rw [h4.block B (by omega), h1.block B (by omega)]; exact HX.out.b0
    have hb : Below B w w2 := (h1.mono (by omega)).trans (h4.mono (by omega))
    exact ⟨cell_of_one e0, free_of_one e0, ⟨hb.setCell (Nat.le_refl _) _, _, _, HX.out.row h1 h2 h3 h4 h5⟩, by
      rcases h3.2 with ⟨q, _⟩ | ⟨g, cp, cur, q, _⟩
      · exact ⟨_, _, _, q⟩
      · exact ⟨_, _, _, q⟩⟩
  clear hx hs hn hso hl hnone hu hap
  go_enter Try.func30, Try.ntmps30
  go_wp2_with fail
  go_region_law (first | (refine step_fallen rfl (.tmp 12) rfl (by first | (simp [Act.eval]; done) | (simp [Act.eval, Act.put]; done)) (HC.out _ (by first | exact Below.refl _ _ | exact below_drewN (Below.refl _ _) 1)) ?_; intro v1 w1 hP1; obtain ⟨g0, g1, g2, g3, g4, g5, a1, m1, k1, rfl⟩ := HEnd.out v1 w1 hP1; clear hP1) | (refine step_one elem_row (x := .slice a1 m1 k1) rfl (.tmp 11) (.tmp 14) rfl (by first | (simp [Act.eval]; done) | (simp [Act.eval, Act.put]; done)) (by first | (simp [Act.eval]; done) | (simp [Act.eval, Act.put]; done)) rfl g4.out rfl (by have := HLv.out; unfold maxLen; omega) (by have := HLv.out; omega) (Nat.le_trans HX.out.size g2.out.size) ?_; intro v2 w2 hO2 hb2 hk2; obtain ⟨e0, e1, e2, a2, m2, k2, rfl⟩ := HEnd2.out _ w1 v2 w2 g2.out g3.out hO2 hb2 hk2; clear hO2 hb2 hk2))
  all_goals go_wp2
  all_goals (try simp only [Exit.inBlock, Exit.then])
  all_goals refine bodyPost_ret (results_none rfl _ _ _) rfl ?_
  all_goals exact ⟨rfl, e2.out⟩

end Go.Proofs.Ytheebpjkjclgbaa
