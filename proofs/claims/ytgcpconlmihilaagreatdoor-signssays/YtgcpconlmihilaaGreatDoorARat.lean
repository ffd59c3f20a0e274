/-
  Fractions of ferrersbig, both numbers above 0.
  Fractions of ferrersbig, both numbers above 0: the contract of norm.
-/
import Derived.Test.YtgcpconlmihilaaGreatDoorACom
import Derived.Test.YtgcpconlmihilaaGreatDoorASto
import Derived.Deep.RegionHeld3
namespace Go.Proofs.YtgcpconlmihilaaGreatDoor
open Go.RowKit

/-- Block p is the fraction x / y: its words in blocks from lo on. -/
structure RatAt (w : World) (lo p : Nat) (va : Value) (xs : List Nat) (x : Nat) (vb : Value) (ys : List Nat) (y : Nat) : Prop where
  row : w.heap[p]? = some (.cells #[.bool false, va, .bool false, vb] 48 (0, 0))
  up : OwnsN w lo va xs x
  dn : OwnsN w lo vb ys y
theorem RatAt.lt {w : World} {lo p x y : Nat} {va vb : Value} {xs ys : List Nat} (h : RatAt w lo p va xs x vb ys y) : p < w.heap.size := (Array.getElem?_eq_some_iff.1 h.row).1
theorem RatAt.below {w w' : World} {lo p x y : Nat} {va vb : Value} {xs ys : List Nat} (h : RatAt w lo p va xs x vb ys y) (hb : Below w.heap.size w w') : RatAt w' lo p va xs x vb ys y :=
  ⟨by rw [hb.block p h.lt]; exact h.row, h.up.below hb, h.dn.below hb⟩

theorem IntAt.undr {w w' : World} {lo p x : Nat} {v : Value} {us : List Nat} (h : IntAt w lo p v us x) (hb : Below w.heap.size w w') : IntAt w' lo p v us x := ⟨by rw [hb.block p h.lt]; exact h.row, h.own.below hb⟩
theorem num_one {us : List Nat} {x : Nat} (h : Num us x) : x = 1 ↔ us.length = 1 ∧ us.getD 0 0 = 1 := by
  rcases us with _ | ⟨u, _ | ⟨v, l⟩⟩
  · have := (num_zero h).1 rfl; simp; omega
  · have := h.eq; simp [val] at this; simp; omega
  · constructor
    · intro e
      have h1 := num_len h (k := 1) (by omega)
      simp at h1
    · rintro ⟨e, _⟩; simp at e
end Go.Proofs.YtgcpconlmihilaaGreatDoor

namespace Go.Proofs.YtgcpconlmihilaaGreatDoor
open Go.RowKit

set_option maxHeartbeats 8000000 in
set_option maxRecDepth 100000 in
theorem Rnorm_at (p lo lz : Nat) (va vb : Value) (xs ys : List Nat) (x y : Nat) (w : World) (h : RatAt w lo p va xs x vb ys y) (hlo : lo ≤ w.heap.size) (hlz : lz ≤ p) (hx : 0 < x) (hy : 0 < y) (hfx : xs.length ≤ 400000) (hfy : ys.length ≤ 400000) :
    Calls Tryz.prog 41 #[.pointer (some ⟨p, 0, none⟩)] w fun e w' => e = .returned (.pointer (some ⟨p, 0, none⟩)) ∧ Hid (∃ va' xs' vb' ys', RatAt w' lo p va' xs' (x / Nat.gcd x y) vb' ys' (y / Nat.gcd x y)) ∧ Hid (Put w w' lz p) := by
  have HR : Hid (RatAt w lo p va xs x vb ys y) := h
  have hlt := h.lt
  obtain ⟨ax, cx, rfl, hSx⟩ := h.up.shows (by omega)
  obtain ⟨ay, cy, rfl, hSy⟩ := h.dn.shows (by omega)
  have hX := h.up.num
  have hY := h.dn.num
  have hxl : 0 < xs.length := num_pos_len hX rfl hx
  have hyl : 0 < ys.length := num_pos_len hY rfl hy
  obtain ⟨yb, oy, u, rfl, hu, hu32, -, hcy⟩ := hSy.elem (k := 0) hyl
  have hone := num_one hY
  rw [← hu.out] at hone
  obtain ⟨n, HN⟩ : ∃ n, Hid (n = xs.length) := ⟨_, rfl⟩
  obtain ⟨m, HM⟩ : ∃ m, Hid (m = ys.length) := ⟨_, rfl⟩
  have HRow := hid_w h.row
  rw [← HN.out, ← HM.out] at HRow
  rw [← HM.out] at hone hyl hfy
  rw [← HN.out] at hxl hfx
  have hc0 : w.cell? ⟨p, 0, none⟩ = some (.bool false) := by rw [cell_of_row w p 0 _ _ _ HRow.out]; rfl
  have hc1 : w.cell? ⟨p, 1, none⟩ = some (.slice ax n cx) := by rw [cell_of_row w p 1 _ _ _ HRow.out]; rfl
  have hc2 : w.cell? ⟨p, 2, none⟩ = some (.bool false) := by rw [cell_of_row w p 2 _ _ _ HRow.out]; rfl
  have hc3 : w.cell? ⟨p, 3, none⟩ = some (.slice (some ⟨yb, oy, none⟩) m cy) := by rw [cell_of_row w p 3 _ _ _ HRow.out]; rfl
  rw [Nat.add_zero] at hcy
  have hn0 : ¬ (n : Int) = 0 := by omega
  have hm0 : ¬ (m : Int) = 0 := by omega
  have HSx := hid_w hSx
  have HSy := hid_w hSy
  have HX := hid_w hX
  have HY := hid_w hY
  obtain ⟨g, HG⟩ : ∃ g, Hid (g = Nat.gcd x y) := ⟨_, rfl⟩
  rw [← HG.out]
  clear h hSx hSy hX hY hu
  go_enter Tryz.func41, Tryz.ntmps41
  -- WALK
  obtain ⟨hgx, hgy⟩ : g ≤ x ∧ g ≤ y := by rw [HG.out]; exact ⟨Nat.gcd_le_left _ hx, Nat.gcd_le_right _ hy⟩
  have hg0 : 0 < g := by rw [HG.out]; exact Nat.gcd_pos_of_pos_left _ hx
  have HPos := hid_w (And.intro hx (And.intro hy hg0))
  have HRowB : Hid (∀ W, Below w.heap.size w W → W.heap[p]? = some (.cells #[.bool false, .slice ax n cx, .bool false, .slice (some ⟨yb, oy, none⟩) m cy] 48 (0, 0))) := fun W hW => (hW.block p hlt).trans HRow.out
  have HC : Hid (∀ W, Below w.heap.size w W → Calls Tryz.prog 61 #[.slice ax n cx, .slice (some ⟨yb, oy, none⟩) m cy] W fun e w' => ∃ (bg og ng cg ug : Nat), e = .returned (.slice (some ⟨bg, og, none⟩) ng cg) ∧ w'.cell? ⟨bg, og, none⟩ = some (.int .u32 (ug : Int)) ∧ w'.cell? ⟨p, 1, none⟩ = some (.slice ax n cx) ∧ w'.cell? ⟨p, 3, none⟩ = some (.slice (some ⟨yb, oy, none⟩) m cy) ∧ ug < 4294967296 ∧ Hid (g = 1 ↔ ng = 1 ∧ ug = 1) ∧ Hid (∃ gs, ShowsW w' (some ⟨bg, og, none⟩) cg gs ∧ ng = gs.length ∧ Num gs g) ∧ Hid (Below W.heap.size W w')) := fun W hW => by
    refine (common_at _ _ _ _ _ _ xs ys x y W (HSx.out.below hW) (HSy.out.below hW) HN.out HM.out HX.out HY.out HPos.out.1 hfx hfy).mono ?_
    rintro e w' ⟨a', n', ca', gs, rfl, hS, hn', hNg, hB⟩
    rw [← HG.out] at hNg
    have hgl : 0 < gs.length := num_pos_len hNg rfl HPos.out.2.2
    obtain ⟨bg, og, ug, rfl, hug, hu9, -, hcg⟩ := hS.elem (k := 0) hgl
    have ho := num_one hNg
    rw [← hug.out, ← hn'] at ho
    have hrw := HRowB.out w' (hW.trans (hB.mono hW.size))
    exact ⟨bg, og, n', ca', ug, rfl, hcg, by rw [cell_of_row w' p 1 _ _ _ hrw]; rfl, by rw [cell_of_row w' p 3 _ _ _ hrw]; rfl, hu9, ho, ⟨gs, hS, hn', hNg⟩, hB⟩
  have HDa : Hid (∀ W a n' c, Below w.heap.size w W → (∃ gs, ShowsW W a c gs ∧ n' = gs.length ∧ Num gs g) → Calls Tryz.prog 62 #[.slice ax n cx, .slice a n' c] W fun e w' => ∃ a3 n3 c3 v2, e = .returned (.tuple #[.slice a3 n3 c3, v2]) ∧ Hid (∃ us, OwnsN w' w.heap.size (.slice a3 n3 c3) us (x / g)) ∧ Hid (Below W.heap.size W w')) := fun W a n' c hW ⟨gs, h1, h2, h3⟩ => by
    refine (div_at _ _ _ _ _ _ xs gs x g W (HSx.out.below hW) h1 HN.out h2 HX.out h3 HPos.out.1 HPos.out.2.2 hfx).mono ?_
    rintro e w' ⟨v1, us1, v2, us2, rfl, q1, _, q3, _, q5⟩
    obtain ⟨a3, c3, rfl, _⟩ := q1.shows (by omega)
    exact ⟨a3, us1.length, c3, v2, rfl, ⟨us1, q1.mono hW.size⟩, q5⟩
  have HDb : Hid (∀ W a n' c, Below w.heap.size w W → (∃ gs, ShowsW W a c gs ∧ n' = gs.length ∧ Num gs g) → Calls Tryz.prog 62 #[.slice (some ⟨yb, oy, none⟩) m cy, .slice a n' c] W fun e w' => ∃ a3 n3 c3 v2, e = .returned (.tuple #[.slice a3 n3 c3, v2]) ∧ Hid (∃ us, OwnsN w' w.heap.size (.slice a3 n3 c3) us (y / g)) ∧ Hid (Below W.heap.size W w')) := fun W a n' c hW ⟨gs, h1, h2, h3⟩ => by
    refine (div_at _ _ _ _ _ _ ys gs y g W (HSy.out.below hW) h1 HM.out h2 HY.out h3 HPos.out.2.1 HPos.out.2.2 hfy).mono ?_
    rintro e w' ⟨v1, us1, v2, us2, rfl, q1, _, q3, _, q5⟩
    obtain ⟨a3, c3, rfl, _⟩ := q1.shows (by omega)
    exact ⟨a3, us1.length, c3, v2, rfl, ⟨us1, q1.mono hW.size⟩, q5⟩
  have HSame : Hid (∀ W, Below w.heap.size w W → g = 1 → (∃ va' xs' vb' ys', RatAt W lo p va' xs' (x / g) vb' ys' (y / g)) ∧ Put w W lz p) := fun W hW e => by
    refine ⟨⟨_, _, _, _, by rw [e, Nat.div_one, Nat.div_one]; exact HR.out.below hW⟩, hW.mono (by omega), fun k hk _ => hW.block k hk⟩
  have Hone := hid_w hone
  clear hx hy hgx hgy hg0 hone
  by_cases hy1 : m = 1 ∧ u = 1
  · obtain ⟨rfl, rfl⟩ := hy1
    have Hg1 : Hid (g = 1) := by show _ = _; rw [HG.out, Hone.out.2 ⟨rfl, rfl⟩]; exact Nat.gcd_one_right x
    go_wp2_with fail
    go_ret
    exact ⟨rfl, (HSame.out _ (Below.refl _ _) Hg1.out).1, (HSame.out _ (Below.refl _ _) Hg1.out).2⟩
  · have HBd0 : Hid (Below w.heap.size w w.drew) := below_drewN (Below.refl _ _) 1
    by_cases hm1 : m = 1
    · have hu1 : ¬ u = 1 := fun e => hy1 ⟨hm1, e⟩
      have hu1' : ¬ (u : Int) = 1 := by omega
      have hm1' : (m : Int) = 1 := by omega
      clear hy1 hm1
      go_upto_region 11 with fail
      go_region_held3 (fun W => W.cell? ⟨p, 1, none⟩ = some (.slice ax n cx) ∧ W.cell? ⟨p, 3, none⟩ = some (.slice (some ⟨yb, oy, none⟩) m cy)) (go_keep) ((go_at_call 61; with_reducible (refine (HC.out _ HBd0.out).mono ?_); rintro e W1 ⟨bg, og, ng, cg, ug, rfl, hcg, hq1, hq3, hug, hog, HGs, HBc0⟩))
      all_goals (
        have HBc : Hid (Below w.heap.size w W1) := HBd0.out.trans (HBc0.out.mono HBd0.out.size)
        clear HBc0
        by_cases hgn : ng = 1
        · by_cases hgu : ug = 1
          · subst hgn hgu
            have Hg1 : Hid (g = 1) := hog.out.2 ⟨rfl, rfl⟩
            go_wp2_with fail
            go_ret
            exact ⟨rfl, (HSame.out _ HBc.out Hg1.out).1, (HSame.out _ HBc.out Hg1.out).2⟩
          · subst hgn
            have hgu' : ¬ (ug : Int) = 1 := by omega
            have HB1 : Hid (Below w.heap.size w W1) := HBc
            have HD1 := hid_w (HDa.out W1 _ _ _ HB1.out HGs.out)
            go_upto_region 15 with (go_at_call 62; refine HD1.out.mono ?_; rintro e W2 ⟨a3, n3, c3, v2, rfl, HO1, HBd⟩)
            have HB2 : Hid (Below w.heap.size w W2) := HB1.out.trans (HBd.out.mono HB1.out.size)
            have hrow2 := HRowB.out W2 HB2.out
            have hd3 : W2.cell? ⟨p, 3, none⟩ = some (.slice (some ⟨yb, oy, none⟩) m cy) := by rw [cell_of_row W2 p 3 _ _ _ hrow2]; rfl
            have HD2 := hid_w (HDb.out W2 _ _ _ HB2.out (by obtain ⟨gs, q1, q2, q3⟩ := HGs.out; exact ⟨gs, q1.below HBd.out, q2, q3⟩))
            clear hrow2 hq1 hq3 HD1
            go_upto_region 16 with (go_at_call 62; refine HD2.out.mono ?_; rintro e W3 ⟨a4, n4, c4, v4, rfl, HO3, HBe⟩)
            have HB3 : Hid (Below w.heap.size w W3) := HB2.out.trans (HBe.out.mono HB2.out.size)
            have hrow3 := HRowB.out W3 HB3.out
            have hc1' : W3.cell? ⟨p, 1, none⟩ = some (.slice ax n cx) := by rw [cell_of_row W3 p 1 _ _ _ hrow3]; rfl
            have hf1 : W3.frozen? ⟨p, 1, none⟩ = false := frozen_of_row W3 _ 1 _ _ hrow3
            have h1 := heap_setCell_same W3 p 1 _ _ (.slice a3 n3 c3) hrow3
            have h2 := heap_setCell_same _ p 3 _ _ (.slice a4 n4 c4) h1
            have hf3 : (W3.setCell ⟨p, 1, none⟩ (.slice a3 n3 c3)).frozen? ⟨p, 3, none⟩ = false := frozen_of_row _ _ 3 _ _ h1
            have hc3' : (W3.setCell ⟨p, 1, none⟩ (.slice a3 n3 c3)).cell? ⟨p, 3, none⟩ = some (.slice (some ⟨yb, oy, none⟩) m cy) := by rw [cell_of_row _ p 3 _ _ _ h1]; rfl
            have H2 : Hid (((W3.setCell ⟨p, 1, none⟩ (.slice a3 n3 c3)).setCell ⟨p, 3, none⟩ (.slice a4 n4 c4)).heap[p]? = some (.cells #[.bool false, (.slice a3 n3 c3), .bool false, (.slice a4 n4 c4)] 48 (0, 0))) := by simpa [Hid] using h2
            have HPut : Hid (Put w ((W3.setCell ⟨p, 1, none⟩ (.slice a3 n3 c3)).setCell ⟨p, 3, none⟩ (.slice a4 n4 c4)) lz p) := by
              have hB : Below lz w W3 := HB3.out.mono (by omega)
              refine ⟨(hB.setCell (p := ⟨p, 1, none⟩) hlz _).setCell (p := ⟨p, 3, none⟩) hlz _, fun k hk hne => ?_⟩
              rw [heap_setCell_other _ _ _ _ hne, heap_setCell_other _ _ _ _ hne, HB3.out.block k hk]
            have HRes : Hid (∃ va' xs' vb' ys', RatAt ((W3.setCell ⟨p, 1, none⟩ (.slice a3 n3 c3)).setCell ⟨p, 3, none⟩ (.slice a4 n4 c4)) lo p va' xs' (x / g) vb' ys' (y / g)) := by
              obtain ⟨us1, o1⟩ := HO1.out
              obtain ⟨us3, o3⟩ := HO3.out
              have o1' := o1.below HBe.out
              have hoth : ∀ k, k ≠ p → ((W3.setCell ⟨p, 1, none⟩ (.slice a3 n3 c3)).setCell ⟨p, 3, none⟩ (.slice a4 n4 c4)).heap[k]? = W3.heap[k]? := fun k hne => by rw [heap_setCell_other _ _ _ _ hne, heap_setCell_other _ _ _ _ hne]
              refine ⟨(.slice a3 n3 c3), us1, (.slice a4 n4 c4), us3, H2.out, ?_, ?_⟩
              · exact OwnsN.mono ⟨o1'.own.blocks (fun k e => hoth k (fun e2 => by have := (o1'.own.lt e).1; omega)), o1'.num, o1'.room⟩ hlo
              · exact OwnsN.mono ⟨o3.own.blocks (fun k e => hoth k (fun e2 => by have := (o3.own.lt e).1; omega)), o3.num, o3.room⟩ hlo
            clear h1 h2 hrow3 hd3 HD2 H2
            go_wp2_with fail
            go_ret
            exact ⟨rfl, HRes, HPut⟩
        · have hgn' : ¬ (ng : Int) = 1 := by omega
          have HB1 : Hid (Below w.heap.size w W1) := HBc
          have HD1 := hid_w (HDa.out W1 _ _ _ HB1.out HGs.out)
          go_upto_region 15 with (go_at_call 62; refine HD1.out.mono ?_; rintro e W2 ⟨a3, n3, c3, v2, rfl, HO1, HBd⟩)
          have HB2 : Hid (Below w.heap.size w W2) := HB1.out.trans (HBd.out.mono HB1.out.size)
          have hrow2 := HRowB.out W2 HB2.out
          have hd3 : W2.cell? ⟨p, 3, none⟩ = some (.slice (some ⟨yb, oy, none⟩) m cy) := by rw [cell_of_row W2 p 3 _ _ _ hrow2]; rfl
          have HD2 := hid_w (HDb.out W2 _ _ _ HB2.out (by obtain ⟨gs, q1, q2, q3⟩ := HGs.out; exact ⟨gs, q1.below HBd.out, q2, q3⟩))
          clear hrow2 hq1 hq3 HD1
          go_upto_region 16 with (go_at_call 62; refine HD2.out.mono ?_; rintro e W3 ⟨a4, n4, c4, v4, rfl, HO3, HBe⟩)
          have HB3 : Hid (Below w.heap.size w W3) := HB2.out.trans (HBe.out.mono HB2.out.size)
          have hrow3 := HRowB.out W3 HB3.out
          have hc1' : W3.cell? ⟨p, 1, none⟩ = some (.slice ax n cx) := by rw [cell_of_row W3 p 1 _ _ _ hrow3]; rfl
          have hf1 : W3.frozen? ⟨p, 1, none⟩ = false := frozen_of_row W3 _ 1 _ _ hrow3
          have h1 := heap_setCell_same W3 p 1 _ _ (.slice a3 n3 c3) hrow3
          have h2 := heap_setCell_same _ p 3 _ _ (.slice a4 n4 c4) h1
          have hf3 : (W3.setCell ⟨p, 1, none⟩ (.slice a3 n3 c3)).frozen? ⟨p, 3, none⟩ = false := frozen_of_row _ _ 3 _ _ h1
          have hc3' : (W3.setCell ⟨p, 1, none⟩ (.slice a3 n3 c3)).cell? ⟨p, 3, none⟩ = some (.slice (some ⟨yb, oy, none⟩) m cy) := by rw [cell_of_row _ p 3 _ _ _ h1]; rfl
          have H2 : Hid (((W3.setCell ⟨p, 1, none⟩ (.slice a3 n3 c3)).setCell ⟨p, 3, none⟩ (.slice a4 n4 c4)).heap[p]? = some (.cells #[.bool false, (.slice a3 n3 c3), .bool false, (.slice a4 n4 c4)] 48 (0, 0))) := by simpa [Hid] using h2
          have HPut : Hid (Put w ((W3.setCell ⟨p, 1, none⟩ (.slice a3 n3 c3)).setCell ⟨p, 3, none⟩ (.slice a4 n4 c4)) lz p) := by
            have hB : Below lz w W3 := HB3.out.mono (by omega)
            refine ⟨(hB.setCell (p := ⟨p, 1, none⟩) hlz _).setCell (p := ⟨p, 3, none⟩) hlz _, fun k hk hne => ?_⟩
            rw [heap_setCell_other _ _ _ _ hne, heap_setCell_other _ _ _ _ hne, HB3.out.block k hk]
          have HRes : Hid (∃ va' xs' vb' ys', RatAt ((W3.setCell ⟨p, 1, none⟩ (.slice a3 n3 c3)).setCell ⟨p, 3, none⟩ (.slice a4 n4 c4)) lo p va' xs' (x / g) vb' ys' (y / g)) := by
            obtain ⟨us1, o1⟩ := HO1.out
            obtain ⟨us3, o3⟩ := HO3.out
            have o1' := o1.below HBe.out
            have hoth : ∀ k, k ≠ p → ((W3.setCell ⟨p, 1, none⟩ (.slice a3 n3 c3)).setCell ⟨p, 3, none⟩ (.slice a4 n4 c4)).heap[k]? = W3.heap[k]? := fun k hne => by rw [heap_setCell_other _ _ _ _ hne, heap_setCell_other _ _ _ _ hne]
            refine ⟨(.slice a3 n3 c3), us1, (.slice a4 n4 c4), us3, H2.out, ?_, ?_⟩
            · exact OwnsN.mono ⟨o1'.own.blocks (fun k e => hoth k (fun e2 => by have := (o1'.own.lt e).1; omega)), o1'.num, o1'.room⟩ hlo
            · exact OwnsN.mono ⟨o3.own.blocks (fun k e => hoth k (fun e2 => by have := (o3.own.lt e).1; omega)), o3.num, o3.room⟩ hlo
          clear h1 h2 hrow3 hd3 HD2 H2
          go_wp2_with fail
          go_ret
          exact ⟨rfl, HRes, HPut⟩)
    · have hm1' : ¬ (m : Int) = 1 := by omega
      clear hy1
      go_upto_region 11 with fail
      go_region_held3 (fun W => W.cell? ⟨p, 1, none⟩ = some (.slice ax n cx) ∧ W.cell? ⟨p, 3, none⟩ = some (.slice (some ⟨yb, oy, none⟩) m cy)) (go_keep) ((go_at_call 61; with_reducible (refine (HC.out _ HBd0.out).mono ?_); rintro e W1 ⟨bg, og, ng, cg, ug, rfl, hcg, hq1, hq3, hug, hog, HGs, HBc0⟩))
      all_goals (
        have HBc : Hid (Below w.heap.size w W1) := HBd0.out.trans (HBc0.out.mono HBd0.out.size)
        clear HBc0
        by_cases hgn : ng = 1
        · by_cases hgu : ug = 1
          · subst hgn hgu
            have Hg1 : Hid (g = 1) := hog.out.2 ⟨rfl, rfl⟩
            go_wp2_with fail
            go_ret
            exact ⟨rfl, (HSame.out _ HBc.out Hg1.out).1, (HSame.out _ HBc.out Hg1.out).2⟩
          · subst hgn
            have hgu' : ¬ (ug : Int) = 1 := by omega
            have HB1 : Hid (Below w.heap.size w W1) := HBc
            have HD1 := hid_w (HDa.out W1 _ _ _ HB1.out HGs.out)
            go_upto_region 15 with (go_at_call 62; refine HD1.out.mono ?_; rintro e W2 ⟨a3, n3, c3, v2, rfl, HO1, HBd⟩)
            have HB2 : Hid (Below w.heap.size w W2) := HB1.out.trans (HBd.out.mono HB1.out.size)
            have hrow2 := HRowB.out W2 HB2.out
            have hd3 : W2.cell? ⟨p, 3, none⟩ = some (.slice (some ⟨yb, oy, none⟩) m cy) := by rw [cell_of_row W2 p 3 _ _ _ hrow2]; rfl
            have HD2 := hid_w (HDb.out W2 _ _ _ HB2.out (by obtain ⟨gs, q1, q2, q3⟩ := HGs.out; exact ⟨gs, q1.below HBd.out, q2, q3⟩))
            clear hrow2 hq1 hq3 HD1
            go_upto_region 16 with (go_at_call 62; refine HD2.out.mono ?_; rintro e W3 ⟨a4, n4, c4, v4, rfl, HO3, HBe⟩)
            have HB3 : Hid (Below w.heap.size w W3) := HB2.out.trans (HBe.out.mono HB2.out.size)
            have hrow3 := HRowB.out W3 HB3.out
            have hc1' : W3.cell? ⟨p, 1, none⟩ = some (.slice ax n cx) := by rw [cell_of_row W3 p 1 _ _ _ hrow3]; rfl
            have hf1 : W3.frozen? ⟨p, 1, none⟩ = false := frozen_of_row W3 _ 1 _ _ hrow3
            have h1 := heap_setCell_same W3 p 1 _ _ (.slice a3 n3 c3) hrow3
            have h2 := heap_setCell_same _ p 3 _ _ (.slice a4 n4 c4) h1
            have hf3 : (W3.setCell ⟨p, 1, none⟩ (.slice a3 n3 c3)).frozen? ⟨p, 3, none⟩ = false := frozen_of_row _ _ 3 _ _ h1
            have hc3' : (W3.setCell ⟨p, 1, none⟩ (.slice a3 n3 c3)).cell? ⟨p, 3, none⟩ = some (.slice (some ⟨yb, oy, none⟩) m cy) := by rw [cell_of_row _ p 3 _ _ _ h1]; rfl
            have H2 : Hid (((W3.setCell ⟨p, 1, none⟩ (.slice a3 n3 c3)).setCell ⟨p, 3, none⟩ (.slice a4 n4 c4)).heap[p]? = some (.cells #[.bool false, (.slice a3 n3 c3), .bool false, (.slice a4 n4 c4)] 48 (0, 0))) := by simpa [Hid] using h2
            have HPut : Hid (Put w ((W3.setCell ⟨p, 1, none⟩ (.slice a3 n3 c3)).setCell ⟨p, 3, none⟩ (.slice a4 n4 c4)) lz p) := by
              have hB : Below lz w W3 := HB3.out.mono (by omega)
              refine ⟨(hB.setCell (p := ⟨p, 1, none⟩) hlz _).setCell (p := ⟨p, 3, none⟩) hlz _, fun k hk hne => ?_⟩
              rw [heap_setCell_other _ _ _ _ hne, heap_setCell_other _ _ _ _ hne, HB3.out.block k hk]
            have HRes : Hid (∃ va' xs' vb' ys', RatAt ((W3.setCell ⟨p, 1, none⟩ (.slice a3 n3 c3)).setCell ⟨p, 3, none⟩ (.slice a4 n4 c4)) lo p va' xs' (x / g) vb' ys' (y / g)) := by
              obtain ⟨us1, o1⟩ := HO1.out
              obtain ⟨us3, o3⟩ := HO3.out
              have o1' := o1.below HBe.out
              have hoth : ∀ k, k ≠ p → ((W3.setCell ⟨p, 1, none⟩ (.slice a3 n3 c3)).setCell ⟨p, 3, none⟩ (.slice a4 n4 c4)).heap[k]? = W3.heap[k]? := fun k hne => by rw [heap_setCell_other _ _ _ _ hne, heap_setCell_other _ _ _ _ hne]
              refine ⟨(.slice a3 n3 c3), us1, (.slice a4 n4 c4), us3, H2.out, ?_, ?_⟩
              · exact OwnsN.mono ⟨o1'.own.blocks (fun k e => hoth k (fun e2 => by have := (o1'.own.lt e).1; omega)), o1'.num, o1'.room⟩ hlo
              · exact OwnsN.mono ⟨o3.own.blocks (fun k e => hoth k (fun e2 => by have := (o3.own.lt e).1; omega)), o3.num, o3.room⟩ hlo
            clear h1 h2 hrow3 hd3 HD2 H2
            go_wp2_with fail
            go_ret
            exact ⟨rfl, HRes, HPut⟩
        · have hgn' : ¬ (ng : Int) = 1 := by omega
          have HB1 : Hid (Below w.heap.size w W1) := HBc
          have HD1 := hid_w (HDa.out W1 _ _ _ HB1.out HGs.out)
          go_upto_region 15 with (go_at_call 62; refine HD1.out.mono ?_; rintro e W2 ⟨a3, n3, c3, v2, rfl, HO1, HBd⟩)
          have HB2 : Hid (Below w.heap.size w W2) := HB1.out.trans (HBd.out.mono HB1.out.size)
          have hrow2 := HRowB.out W2 HB2.out
          have hd3 : W2.cell? ⟨p, 3, none⟩ = some (.slice (some ⟨yb, oy, none⟩) m cy) := by rw [cell_of_row W2 p 3 _ _ _ hrow2]; rfl
          have HD2 := hid_w (HDb.out W2 _ _ _ HB2.out (by obtain ⟨gs, q1, q2, q3⟩ := HGs.out; exact ⟨gs, q1.below HBd.out, q2, q3⟩))
          clear hrow2 hq1 hq3 HD1
          go_upto_region 16 with (go_at_call 62; refine HD2.out.mono ?_; rintro e W3 ⟨a4, n4, c4, v4, rfl, HO3, HBe⟩)
          have HB3 : Hid (Below w.heap.size w W3) := HB2.out.trans (HBe.out.mono HB2.out.size)
          have hrow3 := HRowB.out W3 HB3.out
          have hc1' : W3.cell? ⟨p, 1, none⟩ = some (.slice ax n cx) := by rw [cell_of_row W3 p 1 _ _ _ hrow3]; rfl
          have hf1 : W3.frozen? ⟨p, 1, none⟩ = false := frozen_of_row W3 _ 1 _ _ hrow3
          have h1 := heap_setCell_same W3 p 1 _ _ (.slice a3 n3 c3) hrow3
          have h2 := heap_setCell_same _ p 3 _ _ (.slice a4 n4 c4) h1
          have hf3 : (W3.setCell ⟨p, 1, none⟩ (.slice a3 n3 c3)).frozen? ⟨p, 3, none⟩ = false := frozen_of_row _ _ 3 _ _ h1
          have hc3' : (W3.setCell ⟨p, 1, none⟩ (.slice a3 n3 c3)).cell? ⟨p, 3, none⟩ = some (.slice (some ⟨yb, oy, none⟩) m cy) := by rw [cell_of_row _ p 3 _ _ _ h1]; rfl
          have H2 : Hid (((W3.setCell ⟨p, 1, none⟩ (.slice a3 n3 c3)).setCell ⟨p, 3, none⟩ (.slice a4 n4 c4)).heap[p]? = some (.cells #[.bool false, (.slice a3 n3 c3), .bool false, (.slice a4 n4 c4)] 48 (0, 0))) := by simpa [Hid] using h2
          have HPut : Hid (Put w ((W3.setCell ⟨p, 1, none⟩ (.slice a3 n3 c3)).setCell ⟨p, 3, none⟩ (.slice a4 n4 c4)) lz p) := by
            have hB : Below lz w W3 := HB3.out.mono (by omega)
            refine ⟨(hB.setCell (p := ⟨p, 1, none⟩) hlz _).setCell (p := ⟨p, 3, none⟩) hlz _, fun k hk hne => ?_⟩
            rw [heap_setCell_other _ _ _ _ hne, heap_setCell_other _ _ _ _ hne, HB3.out.block k hk]
          have HRes : Hid (∃ va' xs' vb' ys', RatAt ((W3.setCell ⟨p, 1, none⟩ (.slice a3 n3 c3)).setCell ⟨p, 3, none⟩ (.slice a4 n4 c4)) lo p va' xs' (x / g) vb' ys' (y / g)) := by
            obtain ⟨us1, o1⟩ := HO1.out
            obtain ⟨us3, o3⟩ := HO3.out
            have o1' := o1.below HBe.out
            have hoth : ∀ k, k ≠ p → ((W3.setCell ⟨p, 1, none⟩ (.slice a3 n3 c3)).setCell ⟨p, 3, none⟩ (.slice a4 n4 c4)).heap[k]? = W3.heap[k]? := fun k hne => by rw [heap_setCell_other _ _ _ _ hne, heap_setCell_other _ _ _ _ hne]
            refine ⟨(.slice a3 n3 c3), us1, (.slice a4 n4 c4), us3, H2.out, ?_, ?_⟩
            · exact OwnsN.mono ⟨o1'.own.blocks (fun k e => hoth k (fun e2 => by have := (o1'.own.lt e).1; omega)), o1'.num, o1'.room⟩ hlo
            · exact OwnsN.mono ⟨o3.own.blocks (fun k e => hoth k (fun e2 => by have := (o3.own.lt e).1; omega)), o3.num, o3.room⟩ hlo
          clear h1 h2 hrow3 hd3 HD2 H2
          go_wp2_with fail
          go_ret
          exact ⟨rfl, HRes, HPut⟩)
end Go.Proofs.YtgcpconlmihilaaGreatDoor
