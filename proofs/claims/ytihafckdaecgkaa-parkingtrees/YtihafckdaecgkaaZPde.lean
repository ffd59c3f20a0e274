/-
  slices.Delete of one pair.
-/
import Derived.Test.YtihafckdaecgkaaZPdl
namespace Go.Proofs.Ytihafckdaecgkaa
open Go.RowKit

theorem Try.zeroP (w : World) : (zeroValue 34).run Try.prog w = .ok (.agg #[.int .i64 0, .int .i64 0]) w := by
  obtain ⟨i0, hi, hz0, hz1, hz2⟩ := info_parts Try.infoP
  simp [zeroValue, typeInfo, hi, hz0]
theorem OwnsP.blk {w : World} {base g cap n : Nat} {l : List (Int × Int)} (h : OwnsP w base (.slice (some ⟨g, 0, none⟩) n cap) l) (hn : n = l.length) :
    base ≤ g ∧ ∃ cur, w.heap[g]? = some (.cells cur 34 (0, 0)) ∧ cur.size = cap * 2 ∧ n ≤ cap := by
  subst hn
  rcases h.2 with ⟨h2, h3⟩ | ⟨g', cap', cur, hv, hg, hh, h4, h5, h6, h7⟩
  · cases h2
  · simp only [Value.slice.injEq, Option.some.injEq, Addr.mk.injEq, and_true, true_and] at hv
    obtain ⟨rfl, rfl⟩ := hv
    exact ⟨hg, cur, hh, by omega, h4⟩
theorem OwnsP.takeN {w : World} {base g cap n m : Nat} {l : List (Int × Int)} (h : OwnsP w base (.slice (some ⟨g, 0, none⟩) n cap) l) (hn : n = l.length) (hm : m ≤ l.length) : OwnsP w base (.slice (some ⟨g, 0, none⟩) m cap) (l.take m) := by
  subst hn
  rcases h.2 with ⟨h2, h3⟩ | ⟨g', cap', cur, hv, hg, hh, h4, h5, h6, h7⟩
  · cases h2
  · simp only [Value.slice.injEq, Option.some.injEq, Addr.mk.injEq, and_true, true_and] at hv
    obtain ⟨rfl, rfl⟩ := hv
    have hl : (l.take m).length = m := by simp; omega
    refine ⟨by rw [pc_length], Or.inr ⟨g, cap, cur, by rw [hl], hg, hh, by omega, h5, h6, ?_⟩⟩
    rw [hl]
    have e : pc l = pc (l.take m) ++ pc (l.drop m) := by rw [← pc_app, List.take_append_drop]
    have e2 : cur.toList.take (m * 2) = (cur.toList.take (l.length * 2)).take (m * 2) := by rw [List.take_take, Nat.min_eq_left (by omega)]
    rw [e2, h7, e, List.take_append_of_le_length (by rw [pc_length, hl]; exact Nat.le_refl _), List.take_of_length_le (by rw [pc_length, hl]; exact Nat.le_refl _)]
theorem OwnsP.storeOut {w : World} {base g cap n : Nat} {l : List (Int × Int)} (h : OwnsP w base (.slice (some ⟨g, 0, none⟩) n cap) l) (hn : n = l.length) (j : Nat) (hj : l.length * 2 ≤ j) (x : Int) :
    OwnsP (w.setCell ⟨g, j, none⟩ (.int .i64 x)) base (.slice (some ⟨g, 0, none⟩) n cap) l := by
  subst hn
  have h := (World.ownsRow.stored (h : w.ownsRow base 34 2 _ _ _) j (.int .i64 x)).1
  unfold OwnsP
  rw [List.set_eq_of_length_le (by rw [pc_length]; exact hj)] at h
  exact h
theorem ShowsP.dropAt {w : World} {g : Nat} {l : List (Int × Int)} (h : ShowsP w (some ⟨g, 0, none⟩) l) (j : Nat) : ShowsP w (some ⟨g, j * 2, none⟩) (l.drop j) := by
  refine ⟨by have := h.len; rw [List.length_drop]; omega, fun hne => ?_⟩
  have hk : j < l.length := by
    refine Classical.byContradiction (fun c => hne ?_)
    exact List.drop_of_length_le (by omega)
  obtain ⟨b, off, ha, hb, hc⟩ := h.cells (by intro e; subst e; simp at hk)
  cases ha
  refine ⟨g, j * 2, rfl, hb, fun i hi => ?_⟩
  rw [List.length_drop] at hi
  obtain ⟨c1, c2⟩ := hc (j + i) (by omega)
  have e : (l.drop j).getD i (0, 0) = l.getD (j + i) (0, 0) := by rw [List.getD_eq_getElem?_getD, List.getElem?_drop, List.getD_eq_getElem?_getD]
  rw [e, ← c1, ← c2, show j * 2 + i * 2 = 0 + (j + i) * 2 by omega]
  exact ⟨rfl, rfl⟩
theorem run_clear_pair (W : World) (g o c : Nat) (ty : TypeId) (hc : ∀ j, j < 2 → (W.cell? ⟨g, o + j, none⟩).isSome = true) (hf : ∀ j, j < 2 → W.frozen? ⟨g, o + j, none⟩ = false) :
    (Builtin.clear_ #[22] ty #[.slice (some ⟨g, o, none⟩) 1 c]).run Try.prog W = .ok (.tuple #[]) ((W.setCell ⟨g, o, none⟩ (.int .i64 0)).setCell ⟨g, o + 1, none⟩ (.int .i64 0)) := by
  have hzc : (Builtin.zeroCells (Value.agg #[.int .i64 0, .int .i64 0]).cells 1).toList = [Value.int .i64 0, Value.int .i64 0] := by
    simp [Builtin.zeroCells, Value.cells]
    rfl
  have hst := run_storeCells_cells (P := Try.prog) g o [Value.int .i64 0, Value.int .i64 0] 0 W (by simpa using hc) (by simpa using hf) (by intro v hv; simp at hv; subst hv; rfl)
  simp only [Nat.add_zero] at hst
  simp [Builtin.clear_, run_underlying Try.underlyingP, hzc, hst]
  rfl
set_option maxHeartbeats 4000000 in
theorem DeleteP_own (g n cap i base : Nat) (l : List (Int × Int)) (w : World) (hO : OwnsP w base (.slice (some ⟨g, 0, none⟩) n cap) l) (hn : Hid (n = l.length)) (hi : i < n) (h40 : n ≤ 40) (hbs : base ≤ w.heap.size) :
    Calls Try.prog 25 #[.slice (some ⟨g, 0, none⟩) n cap, .int .i64 (i : Int), .int .i64 ((i : Int) + 1)] w fun e w' => e = .returned (.slice (some ⟨g, 0, none⟩) (n - 1) cap) ∧ OwnsP w' base (.slice (some ⟨g, 0, none⟩) (n - 1) cap) (l.take i ++ l.drop (i + 1)) ∧ Below base w w' ∧ ButG g w w' := by
  obtain ⟨hbg, cur0, hcur0, hcsz, hcap⟩ := hO.blk hn.out
  have HO1 : Hid (OwnsP w.drew base (.slice (some ⟨g, 0, none⟩) i cap) (l.take i)) := (hO.takeN hn.out (by have := hn.out; omega)).below (below_drewN (Below.refl _ _) 1)
  have HS0 : Hid (ShowsP w.drew (some ⟨g, 0, none⟩) l) := by
    obtain ⟨a, c, hv, hs⟩ := hO.shows (by have := hn.out; omega)
    simp only [Value.slice.injEq] at hv
    obtain ⟨rfl, _, _⟩ := hv
    exact hs.below (below_drewN (Below.refl _ _) 1)
  have HLi : Hid (i = (l.take i).length) := by have := hn.out; show _ = _; simp; omega
  have HBs : Hid (base ≤ w.drew.heap.size) := hbs
  obtain ⟨i1, hi1⟩ : ∃ i1, i1 = i + 1 := ⟨_, rfl⟩
  obtain ⟨n1, hn1⟩ : ∃ n1, n1 = n - 1 := ⟨_, rfl⟩
  have HM : Hid (n - i1 = (l.drop (i + 1)).length) := by have := hn.out; show _ = _; simp; omega
  have HIM : Hid (i + (n - i1) = n1) := by show _ = _; omega
  have hii : (i : Int) + 1 = (i1 : Int) := by omega
  have hb : ((i : Int) == (i1 : Int)) = false := beq_eq_false_iff_ne.2 (by omega)
  have b1 : i ≤ i1 := by omega
  have b2 : i1 ≤ n := by omega
  have b3 : i ≤ cap := by omega
  have b4 : i1 ≤ cap := by omega
  have b5 : i + (n - i1) ≤ cap := by omega
  have b6 : n1 ≤ n := by omega
  have b7 : n1 < cap := by omega
  have HN1 : Hid (n1 = n - 1 ∧ 1 ≤ n) := ⟨hn1, by omega⟩
  have HI1 : Hid (i1 = i + 1) := hi1
  have b8 : ¬ cap = n1 := by omega
  have HL5 : Hid (n1 = (l.take i ++ l.drop (i + 1)).length) := by have := hn.out; have := HIM.out; have := HM.out; have := HLi.out; show _ = _; rw [List.length_append]; omega
  rw [hii, ← hn1]
  clear hii hi1 hn1 hO hcur0 hcsz cur0
  have HEnd : Hid (∀ W, OwnsP W base (.slice (some ⟨g, 0, none⟩) n1 cap) (l.take i ++ l.drop (i + 1)) → ∀ ty, (Builtin.clear_ #[22] ty #[.slice (some ⟨g, n1 * 2, none⟩) (n - n1) (cap - n1)]).run Try.prog W = .ok (.tuple #[]) ((W.setCell ⟨g, n1 * 2, none⟩ (.int .i64 0)).setCell ⟨g, n1 * 2 + 1, none⟩ (.int .i64 0))) := fun W hW ty => by
    obtain ⟨_, cur, hh, hcs, _⟩ := hW.blk HL5.out
    have e : n - n1 = 1 := by have := HN1.out; omega
    rw [e]
    refine run_clear_pair W g (n1 * 2) (cap - n1) ty (fun j hj => ?_) (fun j hj => frozen_of_row W g _ _ _ hh)
    rw [cell_of_row W g _ _ _ _ hh, Array.getElem?_eq_getElem (by omega)]; rfl
  have HFin : Hid (∀ W, OwnsP W base (.slice (some ⟨g, 0, none⟩) n1 cap) (l.take i ++ l.drop (i + 1)) → OwnsP ((W.setCell ⟨g, n1 * 2, none⟩ (.int .i64 0)).setCell ⟨g, n1 * 2 + 1, none⟩ (.int .i64 0)) base (.slice (some ⟨g, 0, none⟩) n1 cap) (l.take i ++ l.drop (i + 1))) := fun W hW =>
    (hW.storeOut HL5.out (n1 * 2) (by rw [← HL5.out]; exact Nat.le_refl _) 0).storeOut HL5.out (n1 * 2 + 1) (by rw [← HL5.out]; omega) 0
  by_cases hcs : cap = i1
  · have HS1 : Hid (ShowsP w.drew (some ⟨g, 0, none⟩) (l.drop (i + 1))) := by
      show ShowsP _ _ _
      rw [List.drop_of_length_le (by have := hn.out; have := HI1.out; omega)]; exact ⟨by simp, fun h => absurd rfl h⟩
    have HM0 : Hid (0 = (l.drop (i + 1)).length) := by have := HM.out; show _ = _; omega
    have HR : Hid (n1 = i + 0) := by have := HIM.out; show _ = _; omega
    subst hcs
    go_enter Try.func25, Try.ntmps25
    go_wp2_with fail
    go_region_law (refine step_fitsP rfl (.tmp (21 + 1)) (.tmp 25) rfl g i cap ⟨g, 0, none⟩ 0 0 n1 HR.out (by first | (simp [Act.eval]; done) | (simp [Act.eval, Act.put]; done) | (simp [Act.eval, Act.put]; omega)) (by first | (simp [Act.eval]; done) | (simp [Act.eval, Act.put]; done) | (simp [Act.eval, Act.put]; omega)) HO1.out hbg HLi.out HS1.out HM0.out (by omega) HBs.out ?_; intro w4 HO4 HB4 HU4)
    have hcl := HEnd.out w4 HO4
    have HO5 : Hid (OwnsP w4 base (.slice (some ⟨g, 0, none⟩) n1 cap) (l.take i ++ l.drop (i + 1))) := HO4
    have HB5 : Hid (Below base w w4) := (below_drewN (Below.refl _ _) 1).trans HB4
    have HU5 : Hid (ButG g w w4) := HU4
    clear HO4 HB4 HU4
    go_wp2
    go_ret
    exact ⟨rfl, HFin.out _ HO5.out, (HB5.out.setCell hbg _).setCell hbg _, (HU5.out.store _ _).store _ _⟩
  · have HS1 : Hid (ShowsP w.drew (some ⟨g, i1 * 2, none⟩) (l.drop (i + 1))) := by rw [HI1.out]; exact HS0.out.dropAt (i + 1)
    have HR : Hid (n1 = i + (n - i1)) := by have := HIM.out; show _ = _; omega
    go_enter Try.func25, Try.ntmps25
    go_wp2_with fail
    go_region_law (refine step_fitsP rfl (.tmp (21 + 1)) (.tmp 25) rfl g i cap ⟨g, i1 * 2, none⟩ (n - i1) (cap - i1) n1 HR.out (by first | (simp [Act.eval]; done) | (simp [Act.eval, Act.put]; done) | (simp [Act.eval, Act.put]; omega)) (by first | (simp [Act.eval]; done) | (simp [Act.eval, Act.put]; done) | (simp [Act.eval, Act.put]; omega)) HO1.out hbg HLi.out HS1.out HM.out b5 HBs.out ?_; intro w4 HO4 HB4 HU4)
    have hcl := HEnd.out w4 HO4
    have HO5 : Hid (OwnsP w4 base (.slice (some ⟨g, 0, none⟩) n1 cap) (l.take i ++ l.drop (i + 1))) := HO4
    have HB5 : Hid (Below base w w4) := (below_drewN (Below.refl _ _) 1).trans HB4
    have HU5 : Hid (ButG g w w4) := HU4
    clear HO4 HB4 HU4
    go_wp2
    go_ret
    exact ⟨rfl, HFin.out _ HO5.out, (HB5.out.setCell hbg _).setCell hbg _, (HU5.out.store _ _).store _ _⟩
end Go.Proofs.Ytihafckdaecgkaa
