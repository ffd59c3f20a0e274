/-
  The contracts of slices.Delete (one element) over []int, perms.inOrder, perms.firstDescent, perms.swap.
-/
import Derived.Test.YtnjbkiegeielhabPChk
import Derived.Deep.RegionLaw
import Derived.Lib.SliceRun
namespace Go.Proofs.Ytnjbkiegeielhab
open Go.RowKit

/-- Every slice of the call's own in another block than g stays. -/
def But (g : Nat) (w w' : World) : Prop := ∀ base u ys, Owns w base u ys → u.ownBlock ≠ some g → Owns w' base u ys
theorem But.trans {g : Nat} {w w1 w2 : World} (h : But g w w1) (h2 : But g w1 w2) : But g w w2 := fun b u ys ho hn => h2 b u ys (h b u ys ho hn) hn
theorem but_grown {g : Nat} {w w' : World} (h : w.grownBy w' (some g)) : But g w w' := fun _ _ _ ho hn => World.ownsRow.kept ho h (Or.inr hn)
theorem but_drewN (g : Nat) (w : World) (n : Nat) : But g w (w.drewN n) := fun _ _ _ ho _ => ho.below (below_drewN (Below.refl _ _) n)
theorem Owns.but {w : World} {base g cap n : Nat} {zs : List Int} (h : Owns w base (.slice (some ⟨g, 0, none⟩) n cap) zs) (hn : n = zs.length) (j : Nat) (x : Int) : But g w (w.setCell ⟨g, j, none⟩ (.int .i64 x)) := by
  subst hn
  have hO : w.ownsRow base 3 1 (.slice (some ⟨g, 0, none⟩) zs.length cap) zs.length (zs.map (Value.int .i64)) := h
  exact but_grown (World.ownsRow.stored hO j (.int .i64 x)).2
/-- A block that lies lower stays. -/
theorem Owns.belowB {w w' : World} {base B g cap n : Nat} {zs : List Int} (h : Owns w base (.slice (some ⟨g, 0, none⟩) n cap) zs) (hg : g < B) (hb : Below B w w') : Owns w' base (.slice (some ⟨g, 0, none⟩) n cap) zs := by
  obtain ⟨h1, h2⟩ := h
  refine ⟨h1, ?_⟩
  rcases h2 with h2 | ⟨g', cap', cur, hv, hg', hh, r⟩
  · exact Or.inl h2
  · simp only [Value.slice.injEq, Option.some.injEq, Addr.mk.injEq, and_true] at hv
    obtain ⟨rfl, rfl, rfl⟩ := hv
    exact Or.inr ⟨g, cap, cur, by first | rfl | simp_all, hg', by rw [hb.block g hg]; exact hh, r⟩

/-- 'append(s[:i], src...)' where it fits, as one step of a region that draws its order. -/
theorem step_fits {w : World} {base : Nat} {zs ys : List Int} {ops : Array Oper} {o : Oper} {a : Act} {K : Act → World → Prop} {Q : Exit → Act → World → Prop} {E : Prop} (hgd : o.guard = none) (s y : Operand)
    (ho : o.op = .call { callee := .builtin .append, args := #[s, y], argTypes := #[22, 22] }) (g i cap : Nat) (ad : Addr) (m c r : Nat) (hr : r = i + m) (hs : a.eval s = .slice (some ⟨g, 0, none⟩) i cap) (hx : a.eval y = .slice (some ad) m c) (hown : Owns w base (.slice (some ⟨g, 0, none⟩) i cap) zs) (hi : i = zs.length) (hsrc : Shows w (some ad) ys) (hm : m = ys.length) (hroom : i + m ≤ cap) (hbase : base ≤ w.heap.size)
    (h : ∀ w', Owns w' base (.slice (some ⟨g, 0, none⟩) r cap) (zs ++ ys) → Below base w w' → But g w w' → K (a.put o.dst (.slice (some ⟨g, 0, none⟩) r cap)) w') :
    if Region.wanted o (yielded ops a.tmps) = true then Oper.wp Try.prog o a w K Q else E := by
  subst hr; subst hm; subst hi
  have hw : Region.wanted o (yielded ops a.tmps) = true := by simp [Region.wanted, hgd]
  rw [if_pos hw]
  obtain ⟨i0, hi, hz0, hz1, hz2⟩ := info_parts Try.info3
  have hg := (hown.block rfl).1
  obtain ⟨w', hrun, r1, r2⟩ := run_append_fits (P := Try.prog) w base 22 o.type 3 i0 1 Try.underlying22 hi hz1 g zs.length cap (zs.map (Value.int .i64)) hown ad ys.length c (ys.map (Value.int .i64)) (by simp) (src_cells hsrc) (ints_oneCell _ _) hroom
  unfold Oper.wp
  simp [execOp, ho, resolve, invoke, builtin, hs, hx, hrun, Result.andThen]
  refine h w' ?_ ((Below.refl base w).grown r2 hbase (fun k hk => by cases hk; exact hg)) (but_grown r2)
  unfold Owns; rw [List.length_append, List.map_append]; exact r1

theorem Try.zero3 (w : World) : (zeroValue 3).run Try.prog w = .ok (.int .i64 0) w := by
  obtain ⟨i0, hi, hz0, hz1, hz2⟩ := info_parts Try.info3
  simp [zeroValue, typeInfo, hi, hz0]

/-- What lies behind the slice's own numbers may turn. -/
theorem Owns.storeOut {w : World} {base g cap n : Nat} {zs : List Int} (h : Owns w base (.slice (some ⟨g, 0, none⟩) n cap) zs) (hn : n = zs.length) (j : Nat) (hj : zs.length ≤ j) (x : Int) :
    Owns (w.setCell ⟨g, j, none⟩ (.int .i64 x)) base (.slice (some ⟨g, 0, none⟩) n cap) zs := by
  have := h.store hn j x
  rw [List.set_eq_of_length_le hj] at this; exact this

theorem Owns.atOut {w : World} {base g cap n : Nat} {zs : List Int} (h : Owns w base (.slice (some ⟨g, 0, none⟩) n cap) zs) (hn : n = zs.length) {j : Nat} (hj : j < cap) :
    (w.cell? ⟨g, j, none⟩).isSome = true ∧ w.frozen? ⟨g, j, none⟩ = false := by
  obtain ⟨_, cur, hh, hcs, _⟩ := h.block hn
  refine ⟨?_, frozen_of_row w g j _ _ hh⟩
  rw [cell_of_row w g j _ _ _ hh, Array.getElem?_eq_getElem (by omega)]; rfl

theorem Shows.dropAt {w : World} {g : Nat} {zs : List Int} (h : Shows w (some ⟨g, 0, none⟩) zs) (j : Nat) : Shows w (some ⟨g, j, none⟩) (zs.drop j) := by
  refine ⟨by have := h.len; simp; omega, fun z hz => h.wf z (List.mem_of_mem_drop hz), fun hne => ?_⟩
  have hne' : zs ≠ [] := by intro e; subst e; simp at hne
  obtain ⟨b, off, ha, hlt, hc⟩ := h.cells hne'
  simp only [Option.some.injEq, Addr.mk.injEq, and_true] at ha
  obtain ⟨rfl, rfl⟩ := ha
  refine ⟨g, j, rfl, hlt, fun k hk => ?_⟩
  rw [List.length_drop] at hk
  have := hc (j + k) (by omega)
  rw [Nat.zero_add] at this
  rw [this]; simp [List.getD]
theorem Shows.nilAt {w : World} {a : Option Addr} : Shows w a [] := ⟨by simp, fun z h => (by cases h), fun h => absurd rfl h⟩

set_option maxHeartbeats 2000000 in
theorem Delete_own (g n cap i base : Nat) (zs : List Int) (w : World) (hO : Owns w base (.slice (some ⟨g, 0, none⟩) n cap) zs) (hn : Hid (n = zs.length)) (hi : i < n) (h40 : n ≤ 40) (hbs : base ≤ w.heap.size) (hwf : ∀ z ∈ zs, -9223372036854775808 ≤ z ∧ z ≤ 9223372036854775807) :
    Calls Try.prog 44 #[.slice (some ⟨g, 0, none⟩) n cap, .int .i64 (i : Int), .int .i64 ((i : Int) + 1)] w fun e w' => e = .returned (.slice (some ⟨g, 0, none⟩) (n - 1) cap) ∧ Owns w' base (.slice (some ⟨g, 0, none⟩) (n - 1) cap) (zs.take i ++ zs.drop (i + 1)) ∧ Below base w w' ∧ But g w w' := by
  have hcap : n ≤ cap := by
    obtain ⟨_, _, _, _, h, _⟩ := hO.block hn.out
    exact h
  have hbg := (hO.block hn.out).1
  have HO1 : Hid (Owns w.drew base (.slice (some ⟨g, 0, none⟩) i cap) (zs.take i)) := (hO.takeN (by have := hn.out; omega)).below (below_drewN (Below.refl _ _) 1)
  have HS0 : Hid (Shows w.drew (some ⟨g, 0, none⟩) zs) := by
    obtain ⟨a, c, hv, hs⟩ := hO.shows (by have := hn.out; omega) hwf
    simp only [Value.slice.injEq] at hv
    obtain ⟨rfl, _, _⟩ := hv
    exact hs.below (below_drewN (Below.refl _ _) 1)
  have HLi : Hid (i = (zs.take i).length) := by have := hn.out; show _ = _; simp; omega
  have HBs : Hid (base ≤ w.drew.heap.size) := hbs
  obtain ⟨i1, hi1⟩ : ∃ i1, i1 = i + 1 := ⟨_, rfl⟩
  obtain ⟨m, hm⟩ : ∃ m, m = n - i1 := ⟨_, rfl⟩
  obtain ⟨n1, hn1⟩ : ∃ n1, n1 = n - 1 := ⟨_, rfl⟩
  have HM : Hid (n - i1 = (zs.drop (i + 1)).length) := by have := hn.out; show _ = _; simp; omega
  have HIM : Hid (i + (n - i1) = n1) := by show _ = _; omega
  have hii : (i : Int) + 1 = (i1 : Int) := by omega
  have hb : ((i : Int) == (i1 : Int)) = false := beq_eq_false_iff_ne.2 (by omega)
  have b1 : i ≤ i1 := by omega
  have b2 : i1 ≤ n := by omega
  have b3 : i ≤ cap := by omega
  have b4 : i1 ≤ cap := by omega
  have b5 : i + (n - i1) ≤ cap := by omega
  have b6 : n1 ≤ n := by omega
  have b7 : n1 < cap := by omega
  have HN1 : Hid (n1 = n - 1 ∧ 1 ≤ n) := ⟨hn1, by omega⟩
  have HI1 : Hid (i1 = i + 1) := hi1
  have b8 : ¬ cap = n1 := by omega
  rw [hii, ← hn1]
  clear hii hi1 hn1 hm hO hwf
  have HEnd : Hid (∀ W, Owns W base (.slice (some ⟨g, 0, none⟩) n1 cap) (zs.take i ++ zs.drop (i + 1)) → ∀ ty, (Builtin.clear_ #[22] ty #[.slice (some ⟨g, n1, none⟩) (n - n1) (cap - n1)]).run Try.prog W = .ok (.tuple #[]) (W.setCell ⟨g, n1, none⟩ (.int .i64 0))) := fun W hW ty => by
    have hl : n1 = (zs.take i ++ zs.drop (i + 1)).length := by have := hn.out; have := HIM.out; have := HM.out; have := HLi.out; rw [List.length_append]; omega
    have h1 := hW.atOut hl b7
    have e : n - n1 = 1 := by have := HN1.out; omega
    rw [e]
    have := Lib.run_clear_slice (P := Try.prog) W 22 3 ty (.int .i64 0) Try.underlying22 Try.zero3 rfl rfl g n1 1 (cap - n1) (by omega) (fun j hj => by rw [show n1 + j = n1 by omega]; exact h1.1) (fun j hj => by rw [show n1 + j = n1 by omega]; exact h1.2)
    rw [this]; rfl
  by_cases hcs : cap = i1
  · have HS1 : Hid (Shows w.drew (some ⟨g, 0, none⟩) (zs.drop (i + 1))) := by
      show Shows _ _ _
      rw [List.drop_of_length_le (by have := hn.out; have := HI1.out; omega)]; exact Shows.nilAt
    have HM0 : Hid (0 = (zs.drop (i + 1)).length) := by have := HM.out; show _ = _; omega
    have HR : Hid (n1 = i + 0) := by have := HIM.out; show _ = _; omega
    subst hcs
    go_enter Try.func44, Try.ntmps44
    go_wp2_with fail
    go_region_law (refine step_fits rfl (.tmp 22) (.tmp 25) rfl g i cap ⟨g, 0, none⟩ 0 0 n1 HR.out (by first | (simp [Act.eval]; done) | (simp [Act.eval, Act.put]; done) | (simp [Act.eval, Act.put]; omega)) (by first | (simp [Act.eval]; done) | (simp [Act.eval, Act.put]; done) | (simp [Act.eval, Act.put]; omega)) HO1.out HLi.out HS1.out HM0.out (by omega) HBs.out ?_; intro w4 HO4 HB4 HU4)
    have hcl := HEnd.out w4 HO4
    have HO5 : Hid (Owns w4 base (.slice (some ⟨g, 0, none⟩) n1 cap) (zs.take i ++ zs.drop (i + 1))) := HO4
    have HB5 : Hid (Below base w w4) := (below_drewN (Below.refl _ _) 1).trans HB4
    have HL5 : Hid (n1 = (zs.take i ++ zs.drop (i + 1)).length) := by have := hn.out; have := HIM.out; have := HM.out; have := HLi.out; show _ = _; rw [List.length_append]; omega
    have HU5 : Hid (But g w w4) := (but_drewN g w 1).trans HU4
    clear HO4 HB4 HU4
    go_wp2
    go_ret
    exact ⟨rfl, HO5.out.storeOut HL5.out n1 (by rw [← HL5.out]; exact Nat.le_refl _) 0, HB5.out.setCell hbg _, HU5.out.trans (HO5.out.but HL5.out n1 0)⟩
  · have HS1 : Hid (Shows w.drew (some ⟨g, i1, none⟩) (zs.drop (i + 1))) := by rw [HI1.out]; exact HS0.out.dropAt (i + 1)
    have HR : Hid (n1 = i + (n - i1)) := by have := HIM.out; show _ = _; omega
    go_enter Try.func44, Try.ntmps44
    go_wp2_with fail
    go_region_law (refine step_fits rfl (.tmp 22) (.tmp 25) rfl g i cap ⟨g, i1, none⟩ (n - i1) (cap - i1) n1 HR.out (by first | (simp [Act.eval]; done) | (simp [Act.eval, Act.put]; done) | (simp [Act.eval, Act.put]; omega)) (by first | (simp [Act.eval]; done) | (simp [Act.eval, Act.put]; done) | (simp [Act.eval, Act.put]; omega)) HO1.out HLi.out HS1.out HM.out b5 HBs.out ?_; intro w4 HO4 HB4 HU4)
    have hcl := HEnd.out w4 HO4
    have HO5 : Hid (Owns w4 base (.slice (some ⟨g, 0, none⟩) n1 cap) (zs.take i ++ zs.drop (i + 1))) := HO4
    have HB5 : Hid (Below base w w4) := (below_drewN (Below.refl _ _) 1).trans HB4
    have HL5 : Hid (n1 = (zs.take i ++ zs.drop (i + 1)).length) := by have := hn.out; have := HIM.out; have := HM.out; have := HLi.out; show _ = _; rw [List.length_append]; omega
    have HU5 : Hid (But g w w4) := (but_drewN g w 1).trans HU4
    clear HO4 HB4 HU4
    go_wp2
    go_ret
    exact ⟨rfl, HO5.out.storeOut HL5.out n1 (by rw [← HL5.out]; exact Nat.le_refl _) 0, HB5.out.setCell hbg _, HU5.out.trans (HO5.out.but HL5.out n1 0)⟩

end Go.Proofs.Ytnjbkiegeielhab
