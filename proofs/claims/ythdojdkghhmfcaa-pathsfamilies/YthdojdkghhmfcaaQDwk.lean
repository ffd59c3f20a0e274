/-
  The document's looking: the closure walked.
-/
import Derived.Test.YthdojdkghhmfcaaQDpn
import Derived.Laws.EntriesVeiled
import Derived.Deep.CutBlock
namespace Go.Proofs.Ythdojdkghhmfcaa
open Go.RowKit

theorem DLk.store1 {V : DEn} (hV : V.ok) {w : World} {gv nv fv : Value} {gone : List (Nat × Nat)} {now : List (List UInt8)} {st : Nat} {φ : Nat × List (List UInt8)} {fd : Nat} (h : DLk V w gv nv fv gone now st φ fd) (st' : Nat) (hst : st ≤ st') : DLk V (w.setCell ⟨V.s, 0, none⟩ (.int .i64 (st' : Int))) gv nv fv gone now st' φ fd ∧ DFr V w gv nv fv (w.setCell ⟨V.s, 0, none⟩ (.int .i64 (st' : Int))) gv nv fv := by
  obtain ⟨⟨a1, a2, a3, a4, a5, a6, a7, a8, a9, a10, a11, a12, a13, a14, a15⟩, -⟩ := hV.nes
  have hne : ∀ k, k ≠ V.s → (w.setCell ⟨V.s, 0, none⟩ (.int .i64 (st' : Int))).heap[k]? = w.heap[k]? := fun k hk => heap_setCell_other _ _ _ _ hk
  have hB : ∀ k, Bl gv nv fv k → k ≠ V.s := fun k hk e => (h.sep k hk).1 (Or.inr (Or.inl e))
  have hn := h.num
  exact h.put hV (by simp) ⟨rfl, rfl, rfl⟩ (fun k _ hs _ => hne k fun e => hs (Or.inr (Or.inl e))) (fun k hk => Or.inl hk) (by rw [hne _ a1]; exact h.g) (by rw [heap_setCell_same w V.s 0 _ 3 _ h.s]; rfl) (by rw [hne _ (Ne.symm a6)]; exact h.n) (by rw [hne _ (Ne.symm a7)]; exact h.c) (by rw [hne _ (Ne.symm a8)]; exact h.r) (by rw [hne _ (Ne.symm a9)]; exact h.d)
    (h.og.same fun k e => hne k (hB k (Or.inl e))) (h.on.same fun k e => hne k (hB k (Or.inr (Or.inl e)))) (h.of_.same fun k e => hne k (hB k (Or.inr (Or.inr e)))) h.ap ⟨by omega, by omega, hn.2.2⟩
/-- The list of points gone through is another one. -/
theorem DLk.putG {V : DEn} (hV : V.ok) {w w1 : World} {gv gv' nv fv : Value} {gone gone' : List (Nat × Nat)} {now : List (List UInt8)} {st : Nat} {φ : Nat × List (List UInt8)} {fd : Nat} (h : DLk V w gv nv fv gone now st φ fd) (hO : OwPt w1 V.lo gv' (toI gone')) (hk : KeepB gv gv' w w1) (hso : SmO w w1) (htg : ∀ k, gv.ownBlock = some k → ∃ cs, w.heap[k]? = some (.cells cs 39 (0, 0))) :
    DLk V (w1.setCell ⟨V.g, 0, none⟩ gv') gv' nv fv gone' now st φ fd ∧ DFr V w gv nv fv (w1.setCell ⟨V.g, 0, none⟩ gv') gv' nv fv := by
  obtain ⟨⟨a1, a2, a3, a4, a5, a6, a7, a8, a9, a10, a11, a12, a13, a14, a15⟩, -⟩ := hV.nes
  have hg : V.six V.g := Or.inl rfl
  have hne : ∀ k, k ≠ V.g → (w1.setCell ⟨V.g, 0, none⟩ gv').heap[k]? = w1.heap[k]? := fun k hk => heap_setCell_other _ _ _ _ hk
  have hlow : ∀ k, V.six k → w1.heap[k]? = w.heap[k]? := fun k q => hk.block k (Nat.lt_of_lt_of_le (hV.sixlo q) h.los) (fun e => (h.sep k (Or.inl e)).1 q)
  have six : ∀ k, V.six k → V.six k := fun k q => q
  have hnf : ∀ k, nv.ownBlock = some k ∨ fv.ownBlock = some k → (w1.setCell ⟨V.g, 0, none⟩ gv').heap[k]? = w.heap[k]? := fun k q => by
    have hb : Bl gv nv fv k := Or.inr q
    rw [hne k (fun q2 => (h.sep k hb).1 (by rw [q2]; exact hg))]
    refine hk.block k (h.bl hb).2 (fun e => ?_)
    obtain ⟨cs, hcs⟩ := htg k e
    rcases q with q | q
    · rcases h.on.2 with ⟨hv, _⟩ | ⟨g, cap, cur, hv, _, hh, _⟩
      · rw [hv] at q; cases q
      · rw [hv] at q
        obtain rfl : g = k := by simpa [Value.ownBlock] using q
        rw [hh] at hcs; cases hcs
    · rcases h.of_.2 with ⟨hv, _⟩ | ⟨g, cap, cur, hv, _, hh, _⟩
      · rw [hv] at q; cases q
      · rw [hv] at q
        obtain rfl : g = k := by simpa [Value.ownBlock] using q
        rw [hh] at hcs; cases hcs
  refine h.put hV (by have := hk.size; simpa using this) (hso.trans ⟨rfl, rfl, rfl⟩) (fun k hkl hs hB => ?_) (fun k q => ?_) ?_ ?_ ?_ ?_ ?_ ?_ ?_ (h.on.same fun k e => hnf k (Or.inl e)) (h.of_.same fun k e => hnf k (Or.inr e)) h.ap h.num
  · rw [hne k (fun e => hs (Or.inl e))]; exact hk.block k hkl (fun e => hB (Or.inl e))
  · rcases q with q | q
    · rcases hk.lies k q with q1 | q1
      · exact Or.inl (Or.inl q1)
      · exact Or.inr q1
    · exact Or.inl (Or.inr q)
  · rw [heap_setCell_same w1 V.g 0 _ 22 _ (by rw [hlow _ hg]; exact h.g)]; rfl
  · rw [hne _ (Ne.symm a1), hlow _ (six _ (Or.inr (Or.inl rfl)))]; exact h.s
  · rw [hne _ (Ne.symm a2), hlow _ (six _ (Or.inr (Or.inr (Or.inl rfl))))]; exact h.n
  · rw [hne _ (Ne.symm a3), hlow _ (six _ (Or.inr (Or.inr (Or.inr (Or.inl rfl)))))]; exact h.c
  · rw [hne _ (Ne.symm a4), hlow _ (six _ (Or.inr (Or.inr (Or.inr (Or.inr (Or.inl rfl))))))]; exact h.r
  · rw [hne _ (Ne.symm a5), hlow _ (six _ (Or.inr (Or.inr (Or.inr (Or.inr (Or.inr rfl))))))]; exact h.d
  · exact hO.same fun k e => hne k (fun q => by
      rcases hk.lies k e with q1 | q1
      · exact (h.sep k (Or.inl q1)).1 (by rw [q]; exact hg)
      · have h1 := h.los
        have h2 := hV.sixlo hg
        omega)
theorem DLk.tagG {V : DEn} {w : World} {gv nv fv : Value} {gone : List (Nat × Nat)} {now : List (List UInt8)} {st : Nat} {φ : Nat × List (List UInt8)} {fd : Nat} (h : DLk V w gv nv fv gone now st φ fd) : ∀ k, gv.ownBlock = some k → ∃ cs, w.heap[k]? = some (.cells cs 39 (0, 0)) := fun k e => by
  rcases h.og.2 with ⟨hv, _⟩ | ⟨g, cap, cur, hv, _, hh, _⟩
  · rw [hv] at e; cases e
  · rw [hv] at e
    obtain rfl : g = k := by simpa [Value.ownBlock] using e
    exact ⟨_, hh⟩

theorem DLk.fix {V : DEn} {w : World} {gv nv fv : Value} {gone : List (Nat × Nat)} {now : List (List UInt8)} {st : Nat} {φ : Nat × List (List UInt8)} {fd : Nat} (h : DLk V w gv nv fv gone now st φ fd) (hV : V.ok) : w.heap[V.m]? = some (.cells #[.int .i64 1000000] 3 (0, 0)) ∧ w.heap[V.e]? = some (.cells #[.slice V.ea V.en V.ec] 22 (0, 0)) ∧ w.heap[V.y]? = some (.cells #[.slice V.ya V.yn V.yc] 25 (0, 0)) ∧ w.heap[V.t]? = some (.cells #[.slice V.sa V.S.length V.sc] 22 (0, 0)) ∧ w.heap[V.f]? = some (.cells #[.func (.func 20) #[] V.ptrs.toArray] 54 (0, 0)) := by
  obtain ⟨-, n1, n2, n3, n4, n5⟩ := hV.nes
  have hl := hV.lowc
  exact ⟨by rw [h.base V.m (Or.inl hl.1) n1]; exact hV.most, by rw [h.base V.e (Or.inl hl.2.1) n2]; exact hV.ends, by rw [h.base V.y (Or.inl hl.2.2.1) n3]; exact hV.way, by rw [h.base V.t (Or.inl hl.2.2.2.1) n4]; exact hV.starts, by rw [h.base V.f (Or.inr rfl) n5]; exact hV.from_⟩

set_option maxHeartbeats 16000000 in
set_option maxRecDepth 100000 in
theorem dlook_at {V : DEn} (hV : V.ok) {f : Nat} (IH : FrC V f) : FrC V (f + 1) := by
  rintro k ⟨px, py⟩ path w gv nv fv gone now st φ fd cl tx hD hR
  have HV : Hid V.ok := hV
  have HIH : Hid (FrC V f) := IH
  have HR := hid_w hR
  have HD := hid_w hD
  obtain ⟨r, HRr⟩ : ∃ r, Hid (r = goF V.S V.E fndL (f + 1) k (px, py) cl tx st φ) := ⟨_, rfl⟩
  rw [← HRr.out]
  have hst : st ≤ 1000000 := hR.hst
  obtain ⟨P, HP⟩ : ∃ P, Hid (P = w.heap.size) := ⟨_, rfl⟩
  obtain ⟨W0, HW0⟩ : ∃ W0, Hid (W0 = w.alloc (.cells #[.int .i64 (px : Int), .int .i64 (py : Int)] 39)) := ⟨_, rfl⟩
  have hB0 : Below w.heap.size w W0 := by rw [HW0.out]; exact (Below.refl _ _).alloc (Nat.le_refl _) _
  have hPb0 : W0.heap[P]? = some (.cells #[.int .i64 (px : Int), .int .i64 (py : Int)] 39 (0, 0)) := by rw [HW0.out, HP.out]; exact heap_alloc_last _ _
  obtain ⟨hD0, hF0⟩ := hD.below hV hB0
  have HD0 := hid_w hD0
  have HF0 := hid_w hF0
  have HPb0 := hid_w hPb0
  have HPB : Hid (¬ Bl gv nv fv P) := fun q => by
    have := (hD.bl q).2
    rw [HP.out] at this; omega
  have HPs : Hid (V.hi ≤ P) := by show _ ≤ _; rw [HP.out]; exact hD.los
  obtain ⟨ga, gc, hgv, hgP, hgc⟩ := hD0.og.open
  obtain ⟨gn, HGn⟩ : ∃ gn, Hid (gn = (toI gone).length) := ⟨_, rfl⟩
  rw [← HGn.out] at hgv
  have hcg : W0.cell? ⟨V.g, 0, none⟩ = some (.slice ga gn gc) := by rw [cell_of_row W0 V.g 0 _ _ _ hD0.g, hgv]; rfl
  have p0 : W0.cell? ⟨P, 0, none⟩ = some (.int .i64 (px : Int)) := by rw [cell_of_row W0 P 0 _ _ _ hPb0]; rfl
  have p1 : W0.cell? ⟨P, 1, none⟩ = some (.int .i64 (py : Int)) := by rw [cell_of_row W0 P 1 _ _ _ hPb0]; rfl
  obtain ⟨B, HB⟩ : ∃ B, Hid (B = cl (ixP8 (px, py))) := ⟨_, rfl⟩
  have HGl : Hid (gn ≤ 8796093022100) := by
    show _ ≤ _
    have h1 := hR.hgl
    have h2 : (toI gone).length = gone.length := by simp [toI]
    rw [HGn.out, h2]; omega
  have HC1 : Hid (Calls Try.prog 13 #[.slice ga gn gc, .agg #[.int .i64 (px : Int), .int .i64 (py : Int)]] W0 fun e w' => e = .returned (.bool B) ∧ Hid (Below W0.heap.size W0 w')) :=
    ContainsPt_at ga gn gc (toI gone) _ _ W0 HGn.out (by have := HGl.out; omega) hgP B (by
      rw [HB.out, hR.hcl (px, py) hR.hp.1 hR.hp.2]
      exact decide_eq_decide.2 (toI_mem gone (px, py)))
  obtain ⟨str, HStr⟩ : ∃ str : ByteArray, Hid (str = ⟨path.toArray⟩) := ⟨_, rfl⟩
  have hss : str.size ≤ 100 := by
    rw [HStr.out]
    have := hR.hpl
    show path.toArray.size ≤ 100
    rw [List.size_toArray]; omega
  unfold ptV pb strV
  rw [← HStr.out]
  clear hD hR hV IH hD0 hF0 hB0 hPb0 hgP
  go_enter Try.func20, Try.ntmps20
  go_upto_region 1 with fail
  rw [← HP.out, ← HW0.out]
  go_upto_if 22 with (go_at_call 13; with_reducible (refine HC1.out.mono ?_); rintro e W1 ⟨rfl, HB1⟩)
  clear HC1 p0 p1 hcg
  have h1 := HD0.out.below HV.out HB1.out
  have HD1 := hid_w h1.1
  have HF1 := hid_w h1.2
  have HPb1 : Hid (W1.heap[P]? = some (.cells #[.int .i64 (px : Int), .int .i64 (py : Int)] 39 (0, 0))) := by show _ = _; rw [HB1.out.block P (lt_of_some HPb0.out)]; exact HPb0.out
  clear h1
  cases B with
  | true =>
    have hr : r = (true, st, φ) := by rw [HRr.out, goF_succ, if_pos HB.out.symm]
    have HF := hid_w (HF0.out.trans HF1.out)
    subst hr
    go_wp2_with fail
    go_ret
    exact ⟨rfl, gv, nv, fv, fd, HD1, HF⟩
  | false =>
    have HBf : Hid (¬ cl (ixP8 (px, py)) = true) := hid_w (by rw [← HB.out]; exact Bool.false_ne_true)
    have s0 : W1.cell? ⟨V.s, 0, none⟩ = some (.int .i64 (st : Int)) := by rw [cell_of_row W1 V.s 0 _ _ _ HD1.out.s]; rfl
    have s1 : W1.frozen? ⟨V.s, 0, none⟩ = false := frozen_of_row W1 V.s 0 _ _ HD1.out.s
    obtain ⟨W2, HW2⟩ : ∃ W2, Hid (W2 = W1.setCell ⟨V.s, 0, none⟩ (.int .i64 ((st : Int) + 1))) := ⟨_, rfl⟩
    have h2 := HD1.out.store1 HV.out (st + 1) (by omega)
    rw [show ((st + 1 : Nat) : Int) = (st : Int) + 1 by omega, ← HW2.out] at h2
    have HD2 := hid_w h2.1
    have HF2 := hid_w (HF1.out.trans h2.2)
    have HF12 := hid_w h2.2
    have HPb2 : Hid (W2.heap[P]? = some (.cells #[.int .i64 (px : Int), .int .i64 (py : Int)] 39 (0, 0))) := by
      show _ = _
      have h3 := HV.out.sixlo (k := V.s) (Or.inr (Or.inl rfl))
      have h4 := HPs.out
      rw [HW2.out, heap_setCell_other _ _ _ _ (show P ≠ V.s by omega)]; exact HPb1.out
    clear h2
    go_upto_region 4 with fail
    rw [← HW2.out]
    clear s0 s1
    have t0 : W2.cell? ⟨V.s, 0, none⟩ = some (.int .i64 ((st : Int) + 1)) := by
      rw [cell_of_row W2 V.s 0 _ _ _ HD2.out.s, show ((st + 1 : Nat) : Int) = (st : Int) + 1 by omega]; rfl
    have t1 : W2.cell? ⟨V.m, 0, none⟩ = some (.int .i64 1000000) := by rw [cell_of_row W2 V.m 0 _ _ _ (HD2.out.fix HV.out).1]; rfl
    by_cases hm : 1000000 < st + 1
    · have hm' : (st : Int) + 1 > 1000000 := by omega
      have hr : r = (false, st + 1, φ) := by rw [HRr.out, goF_succ, if_neg HBf.out, if_pos hm]
      have HF := hid_w (HF0.out.trans HF2.out)
      subst hr
      go_wp2_with fail
      go_ret
      exact ⟨rfl, gv, nv, fv, fd, HD2, HF⟩
    · have hm' : ¬ (st : Int) + 1 > 1000000 := by omega
      have HRe : Hid (r = lvF V.S V.E fndL f k (px, py) (mkP cl (px, py) true) tx (st + 1) φ) := by show _ = _; rw [HRr.out, goF_succ, if_neg HBf.out, if_neg hm]
      have u0 : W2.cell? ⟨V.g, 0, none⟩ = some (.slice ga gn gc) := by rw [cell_of_row W2 V.g 0 _ _ _ HD2.out.g, hgv]; rfl
      have p0 : W2.cell? ⟨P, 0, none⟩ = some (.int .i64 (px : Int)) := by rw [cell_of_row W2 P 0 _ _ _ HPb2.out]; rfl
      have p1 : W2.cell? ⟨P, 1, none⟩ = some (.int .i64 (py : Int)) := by rw [cell_of_row W2 P 1 _ _ _ HPb2.out]; rfl
      have HAl : Hid (Below W2.heap.size W2 (W2.alloc (.cells #[.int .i64 (px : Int), .int .i64 (py : Int)] 39))) := (Below.refl _ _).alloc (Nat.le_refl _) _
      have ha := HD2.out.below HV.out HAl.out
      have HDa := hid_w ha.1
      have HFa := hid_w ha.2
      have HOa : Hid (OwPt (W2.alloc (.cells #[.int .i64 (px : Int), .int .i64 (py : Int)] 39)) V.lo (.slice ga gn gc) (toI gone)) := by have h := ha.1.og; rw [hgv] at h; exact h
      have HSa : Hid (PtI (W2.alloc (.cells #[.int .i64 (px : Int), .int .i64 (py : Int)] 39)) (some ⟨W2.heap.size, 0, none⟩) [((px : Int), (py : Int))]) := fun j hj => by
        obtain rfl : j = 0 := by simpa using hj
        have hh : (W2.alloc (.cells #[.int .i64 (px : Int), .int .i64 (py : Int)] 39)).heap[W2.heap.size]? = some (.cells #[.int .i64 (px : Int), .int .i64 (py : Int)] 39 (0, 0)) := heap_alloc_last _ _
        exact ⟨W2.heap.size, 0, rfl, lt_of_some hh, by rw [cell_of_row _ _ _ _ _ _ hh]; rfl, by rw [cell_of_row _ _ _ _ _ _ hh]; rfl⟩
      have HLa : Hid ((toI gone).length + ([((px : Int), (py : Int))] : List (Int × Int)).length ≤ 8796093022208 ∧ V.lo ≤ (W2.alloc (.cells #[.int .i64 (px : Int), .int .i64 (py : Int)] 39)).heap.size) := by
        have h3 := HGl.out
        have h4 := HGn.out
        refine ⟨by rw [← h4, List.length_singleton]; omega, Nat.le_trans HV.out.lowc.2.2.2.2 ha.1.los⟩
      clear ha
      go_wp2_with (at_builtin; refine append_pts (base := V.lo) (l := toI gone) (ps := [((px : Int), (py : Int))]) rfl _ _ rfl rfl rfl HOa.out rfl HSa.out HLa.out.1 HLa.out.2 ?_)
      intro v3 W3 hO3 hb3 hk3
      have HO3 : Hid (OwPt W3 V.lo v3 (toI (gone ++ [(px, py)]))) := by
        show OwPt _ _ _ _
        have e : toI (gone ++ [(px, py)]) = toI gone ++ [((px : Int), (py : Int))] := by unfold toI; rw [List.map_append]; rfl
        rw [e]; exact hO3
      have hg3 : W3.heap[V.g]? = some (.cells #[gv] 22 (0, 0)) := by rw [hk3.block V.g (Nat.lt_of_lt_of_le (HV.out.sixlo (Or.inl rfl)) HDa.out.los) (fun e => (HDa.out.sep V.g (Or.inl (by rw [hgv]; exact e))).1 (Or.inl rfl))]; exact HDa.out.g
      have e0 : W3.cell? ⟨V.g, 0, none⟩ = some gv := by rw [cell_of_row W3 V.g 0 _ _ _ hg3]; rfl
      have e1 : W3.frozen? ⟨V.g, 0, none⟩ = false := frozen_of_row W3 V.g 0 _ _ hg3
      rw [hgv] at e0
      obtain ⟨W4, HW4⟩ : ∃ W4, Hid (W4 = W3.setCell ⟨V.g, 0, none⟩ v3) := ⟨_, rfl⟩
      have h4 := HDa.out.putG HV.out HO3.out (by rw [hgv]; exact hk3) (SmO.of hb3) HDa.out.tagG
      rw [← HW4.out] at h4
      have HD4 := hid_w h4.1
      have HF4 := hid_w (HF12.out.trans (HFa.out.trans h4.2))
      obtain ⟨a3, c3, hv3, -, -⟩ := HO3.out.open
      obtain ⟨n3, HN3⟩ : ∃ n3, Hid (n3 = (toI (gone ++ [(px, py)])).length) := ⟨_, rfl⟩
      rw [← HN3.out] at hv3
      subst hv3
      clear hO3 hb3 hk3 h4 hg3 HOa HSa HLa HAl HDa HFa t0 t1 u0 p0 p1
      have HPb4 : Hid (W4.heap[P]? = some (.cells #[.int .i64 (px : Int), .int .i64 (py : Int)] 39 (0, 0))) := by
        show _ = _
        rw [HF4.out.block P (lt_of_some HPb1.out) (fun q => by have := HV.out.sixlo q; have := HPs.out; omega) HPB.out]; exact HPb1.out
      have HM : Hid (st + 1 ≤ 1000000) := by show _ ≤ _; omega
      go_upto_region 8 with fail
      rw [← HW4.out]
      clear e0 e1 hm hm' hst
      obtain ⟨ex, ey, HEe⟩ : ∃ ex ey, Hid (ptD V.E k = (ex, ey)) := ⟨_, _, rfl⟩
      have hw0 := HV.out.way0 k HR.out.hk
      rw [HEe.out] at hw0
      obtain ⟨z, HZ⟩ : ∃ z : Nat, Hid (V.zs.getD k 0 = (z : Int)) := ⟨(V.zs.getD k 0).toNat, by have := hw0.1; show _ = _; omega⟩
      rw [HZ.out, Int.toNat_natCast] at hw0
      have hkz : k < V.zs.length := by have h5 := HV.out.wayI.2; have h6 := HR.out.hk; omega
      obtain ⟨yb, yo, hya, -, hyc⟩ := HV.out.wayI.1.cells (by intro q; rw [q] at hkz; simp at hkz)
      have hyB := HV.out.wayB yb yo hya (by omega)
      have hzE : z < V.El.length := by have h5 := HV.out.endsI.2.1; have := hw0.2.1; omega
      obtain ⟨eb, eo, hea, -, he0, he1⟩ := HV.out.endsI.1 z hzE
      have heB := HV.out.endsB eb eo hea (by omega)
      rw [hw0.2.2] at he0 he1
      have hbY : W4.heap[yb]? = V.w0.heap[yb]? := HD4.out.base yb (Or.inl hyB.1) hyB.2
      have hbE : W4.heap[eb]? = V.w0.heap[eb]? := HD4.out.base eb (Or.inl heB.1) heB.2
      obtain ⟨-, hfe, hfy, -, -⟩ := HD4.out.fix HV.out
      have x0 : W4.cell? ⟨V.e, 0, none⟩ = some (.slice (some ⟨eb, eo, none⟩) V.en V.ec) := by rw [cell_of_row W4 V.e 0 _ _ _ hfe, hea]; rfl
      have x1 : W4.cell? ⟨V.y, 0, none⟩ = some (.slice (some ⟨yb, yo, none⟩) V.yn V.yc) := by rw [cell_of_row W4 V.y 0 _ _ _ hfy, hya]; rfl
      have x2 : W4.cell? ⟨yb, yo + k, none⟩ = some (.int .i64 (z : Int)) := by rw [cell_same hbY, hyc k hkz, HZ.out]
      have x3 : W4.cell? ⟨eb, eo + z * 2, none⟩ = some (.int .i64 (ex : Int)) := by rw [cell_same hbE]; exact he0
      have x4 : W4.cell? ⟨eb, eo + z * 2 + 1, none⟩ = some (.int .i64 (ey : Int)) := by rw [cell_same hbE]; exact he1
      have hky : (k : Int) < (V.yn : Int) := by have h5 := HV.out.wayI.2.1; omega
      have hze : (z : Int) < (V.en : Int) := hw0.2.1
      have hlo := HD4.out.los
      have hl1 : V.e < W4.heap.size := Nat.lt_of_lt_of_le (HV.out.lows _ (Or.inr (Or.inr (Or.inl rfl)))) hlo
      have hl2 : V.y < W4.heap.size := Nat.lt_of_lt_of_le (HV.out.lows _ (Or.inr (Or.inr (Or.inr (Or.inl rfl))))) hlo
      have hA : Below W4.heap.size W4 (W4.alloc (.cells #[.int .i64 0, .int .i64 0] 39)).drew := below_drewN ((Below.refl _ _).alloc (Nat.le_refl _) _) 1
      have y0 := (hA.cell (p := ⟨V.e, 0, none⟩) hl1).trans x0
      have y1 := (hA.cell (p := ⟨V.y, 0, none⟩) hl2).trans x1
      have hll := HV.out.lowc.2.2.2.2
      have y2 := (hA.cell (p := ⟨yb, yo + k, none⟩) (by show yb < _; have := hyB.1; omega)).trans x2
      have y3 := (hA.cell (p := ⟨eb, eo + z * 2, none⟩) (by show eb < _; have := heB.1; omega)).trans x3
      have y4 := (hA.cell (p := ⟨eb, eo + z * 2 + 1, none⟩) (by show eb < _; have := heB.1; omega)).trans x4
      have x0' : W4.drew.cell? ⟨V.e, 0, none⟩ = some (.slice (some ⟨eb, eo, none⟩) V.en V.ec) := x0
      have x1' : W4.drew.cell? ⟨V.y, 0, none⟩ = some (.slice (some ⟨yb, yo, none⟩) V.yn V.yc) := x1
      have x2' : W4.drew.cell? ⟨yb, yo + k, none⟩ = some (.int .i64 (z : Int)) := x2
      have x3' : W4.drew.cell? ⟨eb, eo + z * 2, none⟩ = some (.int .i64 (ex : Int)) := x3
      have x4' : W4.drew.cell? ⟨eb, eo + z * 2 + 1, none⟩ = some (.int .i64 (ey : Int)) := x4
      clear x0 x1 x2 x3 x4 hA hl1 hl2 hll hlo hw0 hkz hyc hyB hzE he0 he1 heB hbY hbE hfe hfy hya hea
      go_cut [19] (fun s19 wx => ∃ Q : Nat, s19 = .pointer (some ⟨Q, 0, none⟩) ∧ Hid (wx.heap[Q]? = some (.cells #[.int .i64 (ex : Int), .int .i64 (ey : Int)] 39 (0, 0))) ∧ Hid (Below W4.heap.size W4 wx) ∧ Hid (W4.heap.size ≤ Q))
      case first =>
        first
          | go_region
          | fail
        all_goals (
          go_wp2_with fail
          go_meet
          exact ⟨W4.heap.size, rfl, hid_w (heap_alloc_last _ _), hid_w (below_drewN ((Below.refl _ _).alloc (Nat.le_refl _) _) 1), hid_w (Nat.le_refl _)⟩)
      obtain ⟨Q, rfl, HQb, HBq, HQs⟩ := hcut
      clear x0' x1' x2' x3' x4' y0 y1 y2 y3 y4
      obtain ⟨W5, hW5⟩ : ∃ W5 : World, W5 = wc := ⟨_, rfl⟩
      subst hW5
      obtain ⟨gw5, HG5⟩ : ∃ g5, Hid (g5 = Value.slice a3 n3 c3) := ⟨_, rfl⟩
      have h5 := HD4.out.below HV.out HBq.out
      rw [← HG5.out] at h5 HF4
      have HD5 := hid_w h5.1
      have HF5 := hid_w (HF4.out.trans h5.2)
      have HPb5 : Hid (W5.heap[P]? = some (.cells #[.int .i64 (px : Int), .int .i64 (py : Int)] 39 (0, 0))) := by show _ = _; rw [HBq.out.block P (lt_of_some HPb4.out)]; exact HPb4.out
      have HPB5 : Hid (¬ Bl gw5 nv fv P ∧ ¬ Bl gw5 nv fv Q ∧ V.hi ≤ Q) := by
        refine ⟨fun q => ?_, fun q => ?_, Nat.le_trans HD4.out.los HQs.out⟩
        · rcases HF5.out.sub P q with q1 | q1
          · exact HPB.out q1
          · have := lt_of_some HPb1.out; omega
        · have h6 := (HD4.out.bl (by rw [← HG5.out]; exact q)).2
          have := HQs.out; omega
      clear h5
      have HLen : Hid (tx.length = V.S.length ∧ k < tx.length) := ⟨HR.out.hlen, by rw [HR.out.hlen]; exact HR.out.hk⟩
      go_upto_block 0 with fail
      go_cut [18] (fun s18 wx => ∃ (gv6 nv6 fv6 : Value) (fd6 : Nat), s18 = .bool r.1 ∧ Hid (DLk V wx gv6 nv6 fv6 (gone ++ [(px, py)]) now r.2.1 r.2.2 fd6) ∧ Hid (DFr V W5 gw5 nv fv wx gv6 nv6 fv6))
      case first =>
        have p0 : W5.cell? ⟨P, 0, none⟩ = some (.int .i64 (px : Int)) := by rw [cell_of_row W5 P 0 _ _ _ HPb5.out]; rfl
        have p1 : W5.cell? ⟨P, 1, none⟩ = some (.int .i64 (py : Int)) := by rw [cell_of_row W5 P 1 _ _ _ HPb5.out]; rfl
        have q0 : W5.cell? ⟨Q, 0, none⟩ = some (.int .i64 (ex : Int)) := by rw [cell_of_row W5 Q 0 _ _ _ HQb.out]; rfl
        have q1 : W5.cell? ⟨Q, 1, none⟩ = some (.int .i64 (ey : Int)) := by rw [cell_of_row W5 Q 1 _ _ _ HQb.out]; rfl
        by_cases hpe : (px, py) = (ex, ey)
        · simp only [Prod.mk.injEq] at hpe
          obtain ⟨rfl, rfl⟩ := hpe
          have HRq : Hid (r = if k + 1 = V.S.length then (true, st + 1, (φ.1 + 1, if φ.1 = 0 then tx else φ.2)) else goF V.S V.E fndL f (k + 1) (ptD V.S (k + 1)) (mkP cl (px, py) true) tx (st + 1) φ) := by
            show _ = _
            rw [HRe.out]; unfold lvF
            rw [HEe.out, if_pos rfl]; rfl
          clear HRe
          obtain ⟨na, nc, hnv⟩ := HD5.out.on.shape
          obtain ⟨nn, HNn⟩ : ∃ nn, Hid (nn = now.length) := ⟨_, rfl⟩
          rw [← HNn.out] at hnv
          have HNv : Hid (nv = .slice na nn nc) := hnv
          have HNl : Hid (nn = k ∧ k < 4) := by
            have h6 := HR.out.hnow
            have h7 := HLen.out.2
            have h8 := HV.out.small.1
            have h9 := HR.out.hk
            refine ⟨by rw [HNn.out, h6, List.length_take]; omega, by omega⟩
          have n0 : W5.cell? ⟨V.n, 0, none⟩ = some (.slice na nn nc) := by rw [cell_of_row W5 V.n 0 _ _ _ HD5.out.n, hnv]; rfl
          have HOn : Hid (W5.ownsRow V.lo 9 1 (.slice na nn nc) (now.map strV).length (now.map strV)) := by have h6 := HD5.out.on; rw [hnv] at h6; exact h6
          have HLl : Hid ((now.map strV).length ≤ 4) := by show _ ≤ _; rw [List.length_map, ← HNn.out]; have := HNl.out; omega
          clear hnv
          go_upto_region 14 with fail
          clear p0 p1 q0 q1
          go_wp2_with (at_builtin; refine append_one elem_text (x := .string str) rfl _ _ rfl rfl rfl rfl HOn.out rfl ?c3 ?c4 ?c5 ?_)
          case c3 => have := HLl.out; unfold maxLen; omega
          case c4 => have := HLl.out; omega
          case c5 => exact Nat.le_trans HV.out.lowc.2.2.2.2 HD5.out.los
          intro v6 W6 hO6 hb6 hk6
          have HO6 : Hid (OwTx W6 V.lo v6 (now ++ [path])) := by
            show OwTx _ _ _ _
            unfold OwTx
            have e : (now ++ [path]).map strV = now.map strV ++ [Value.string str] := by rw [List.map_append, HStr.out]; rfl
            rw [e, List.length_append, List.length_map, List.length_singleton]; exact hO6
          have hn6 : W6.heap[V.n]? = some (.cells #[nv] 29 (0, 0)) := by rw [hk6.block V.n (Nat.lt_of_lt_of_le (HV.out.sixlo (Or.inr (Or.inr (Or.inl rfl)))) HD5.out.los) (fun e => (HD5.out.sep V.n (Or.inr (Or.inl (by rw [HNv.out]; exact e)))).1 (Or.inr (Or.inr (Or.inl rfl))))]; exact HD5.out.n
          obtain ⟨xv, hxv⟩ : ∃ xv, W6.cell? ⟨V.n, 0, none⟩ = some xv := ⟨nv, by rw [cell_of_row W6 V.n 0 _ _ _ hn6]; rfl⟩
          have e1 : W6.frozen? ⟨V.n, 0, none⟩ = false := frozen_of_row W6 V.n 0 _ _ hn6
          obtain ⟨W7, HW7⟩ : ∃ W7, Hid (W7 = W6.setCell ⟨V.n, 0, none⟩ v6) := ⟨_, rfl⟩
          have hk6' : KeepB nv v6 W5 W6 := by rw [HNv.out]; exact hk6
          have h7 := HD5.out.putN HV.out HO6.out hk6' (SmO.of hb6)
          rw [← HW7.out] at h7
          have HD7 := hid_w h7.1
          have HF7 := hid_w h7.2
          obtain ⟨va, vc, hv6⟩ := HO6.out.shape
          obtain ⟨vn, HVn⟩ : ∃ vn, Hid (vn = (now ++ [path]).length) := ⟨_, rfl⟩
          rw [← HVn.out] at hv6
          obtain ⟨gt6, HG6⟩ : ∃ gt6, Hid (gt6 = v6) := ⟨_, rfl⟩
          rw [← HG6.out] at HD7 HF7
          subst hv6
          clear hO6 hb6 hk6 hk6' h7 hn6 n0 HOn
          have t0 : W7.cell? ⟨V.t, 0, none⟩ = some (.slice V.sa V.S.length V.sc) := by rw [cell_of_row W7 V.t 0 _ _ _ (HD7.out.fix HV.out).2.2.2.1]; rfl
          go_upto_region 15 with fail
          rw [← HW7.out]
          clear hxv e1
          have hk4 : k < 4 := HNl.out.2
          have hs4 : V.S.length ≤ 4 := HV.out.small.1
          go_upto_if 86 with fail
          go_cut [18] (fun s18 wx => ∃ (gv6 nv6 fv6 : Value) (fd6 : Nat), s18 = .bool r.1 ∧ Hid (DLk V wx gv6 nv6 fv6 (gone ++ [(px, py)]) (now ++ [path]) r.2.1 r.2.2 fd6) ∧ Hid (DFr V W7 gw5 gt6 fv wx gv6 nv6 fv6))
          case first =>
            by_cases hkn : k + 1 < V.S.length
            · have hkn' : (k : Int) + 1 < (V.S.length : Int) := by omega
              have HRz : Hid (r = goF V.S V.E fndL f (k + 1) (ptD V.S (k + 1)) (mkP cl (px, py) true) tx (st + 1) φ) := by show _ = _; rw [HRq.out, if_neg (by omega)]
              obtain ⟨sx, sy, HSx⟩ : ∃ sx sy, Hid (ptD V.S (k + 1) = (sx, sy)) := ⟨_, _, rfl⟩
              obtain ⟨pa, pc, hpv, -, hpj⟩ := HV.out.startsI
              simp only [Value.slice.injEq, true_and] at hpv
              obtain ⟨sb, so, hsa, hsF, hs0, hs1⟩ := hpj (k + 1) hkn
              rw [HSx.out] at hs0 hs1
              have hsv : V.sa = some ⟨sb, so, none⟩ := by rw [hpv.1]; exact hsa
              have hbS : W7.heap[sb]? = V.w0.heap[sb]? := HD7.out.base sb (Or.inl hsF.1) hsF.2
              have HDd := HD7.out.below HV.out (below_drewN (Below.refl _ W7) 1)
              have z0 : W7.drew.cell? ⟨V.f, 0, none⟩ = some (.func (.func 20) #[] #[.pointer (some ⟨V.g, 0, none⟩), .pointer (some ⟨V.s, 0, none⟩), .pointer (some ⟨V.m, 0, none⟩), .pointer (some ⟨V.e, 0, none⟩), .pointer (some ⟨V.y, 0, none⟩), .pointer (some ⟨V.n, 0, none⟩), .pointer (some ⟨V.t, 0, none⟩), .pointer (some ⟨V.f, 0, none⟩), .pointer (some ⟨V.c, 0, none⟩), .pointer (some ⟨V.r, 0, none⟩), .pointer (some ⟨V.d, 0, none⟩)]) := by
                rw [cell_of_row W7.drew V.f 0 _ _ _ (HDd.1.fix HV.out).2.2.2.2]; rfl
              have z1 : W7.drew.cell? ⟨V.t, 0, none⟩ = some (.slice (some ⟨sb, so, none⟩) V.S.length V.sc) := by rw [cell_of_row W7.drew V.t 0 _ _ _ (HDd.1.fix HV.out).2.2.2.1, hsv]; rfl
              have z2 : W7.drew.cell? ⟨sb, so + (k + 1) * 2, none⟩ = some (.int .i64 (sx : Int)) := by
                have h8 : W7.cell? ⟨sb, so + (k + 1) * 2, none⟩ = some (.int .i64 (sx : Int)) := by rw [cell_same hbS]; exact hs0
                exact h8
              have z3 : W7.drew.cell? ⟨sb, so + (k + 1) * 2 + 1, none⟩ = some (.int .i64 (sy : Int)) := by
                have h8 : W7.cell? ⟨sb, so + (k + 1) * 2 + 1, none⟩ = some (.int .i64 (sy : Int)) := by rw [cell_same hbS]; exact hs1
                exact h8
              have HCs : Hid (Calls Try.prog 20 #[.int .i64 ((k : Int) + 1), .agg #[.int .i64 (sx : Int), .int .i64 (sy : Int)], .string ⟨#[]⟩, .pointer (some ⟨V.g, 0, none⟩), .pointer (some ⟨V.s, 0, none⟩), .pointer (some ⟨V.m, 0, none⟩), .pointer (some ⟨V.e, 0, none⟩), .pointer (some ⟨V.y, 0, none⟩), .pointer (some ⟨V.n, 0, none⟩), .pointer (some ⟨V.t, 0, none⟩), .pointer (some ⟨V.f, 0, none⟩), .pointer (some ⟨V.c, 0, none⟩), .pointer (some ⟨V.r, 0, none⟩), .pointer (some ⟨V.d, 0, none⟩)] W7.drew (DAns V r W7 gw5 gt6 fv (gone ++ [(px, py)]) (now ++ [path]))) := by
                have hc := HIH.out (k + 1) (ptD V.S (k + 1)) [] W7.drew gw5 gt6 fv (gone ++ [(px, py)]) (now ++ [path]) (st + 1) φ fd (mkP cl (px, py) true) tx HDd.1 (HR.out.next HV.out hkn (st + 1) HM.out)
                rw [← HRz.out, HSx.out] at hc
                rw [show ((k : Int) + 1) = ((k + 1 : Nat) : Int) by omega]
                refine Calls.mono hc ?_
                rintro e w' ⟨he, g', n', f', d', k1, k2⟩
                exact ⟨he, g', n', f', d', k1, HDd.2.trans k2.out⟩
              clear HRz HRq hs0 hs1 hsa hsF hbS hpj hpv HDd t0
              have hwr : IntKind.i64.wrap ((k : Int) + 1) = (k : Int) + 1 := by rw [IntKind.wrap_i64]; omega
              go_wp2_with fail
              go_region_with (go_at_call 20; (refine HCs.out.mono ?_); rintro e W8 ⟨rfl, gv8, nv8, fv8, fd8, HD8, HF8⟩)
              all_goals (
                go_wp2_with fail
                go_meet
                exact ⟨gv8, nv8, fv8, fd8, rfl, HD8, HF8⟩)
            · have hkn' : ¬ (k : Int) + 1 < (V.S.length : Int) := by omega
              have hke : k + 1 = V.S.length := by have := HR.out.hk; omega
              have HRz : Hid (r = (true, st + 1, (φ.1 + 1, if φ.1 = 0 then tx else φ.2))) := by show _ = _; rw [HRq.out, if_pos hke]
              have HTx : Hid (now ++ [path] = tx) := HR.out.all hke
              clear HRq hke hkn
              obtain ⟨m, HMm⟩ : ∃ m, Hid (m = φ.1) := ⟨_, rfl⟩
              have HNum := hid_w HD7.out.num
              have hlo7 : ∀ q, V.six q → q < W7.heap.size := fun q hq => Nat.lt_of_lt_of_le (HV.out.sixlo hq) HD7.out.los
              have HLo := hid_w hlo7
              have HNes := hid_w HV.out.nes.1
              have c0 : W7.cell? ⟨V.c, 0, none⟩ = some (.int .i64 (m : Int)) := by rw [cell_of_row W7 V.c 0 _ _ _ HD7.out.c, HMm.out]; rfl
              obtain ⟨fa, fc, hfv⟩ := HD7.out.of_.shape
              clear t0 hlo7
              by_cases hm0 : m = 0
              · have HRw : Hid (r = (true, st + 1, (1, now ++ [path]))) := by show _ = _; rw [HRz.out, ← HMm.out, hm0, if_pos rfl, HTx.out]
                have ho := HD7.out.on
                rw [HG6.out] at ho
                obtain ⟨adn, hadn⟩ : ∃ ad, va = some ad := by
                  rcases ho.2 with ⟨_, hn⟩ | ⟨g, cap, cur, hv, _⟩
                  · simp at hn
                  · simp only [Value.slice.injEq] at hv
                    exact ⟨_, hv.1⟩
                subst hadn
                have HOs : Hid (OwTx W7.drew V.lo (.slice (some adn) vn vc) (now ++ [path])) := ho.same fun _ _ => rfl
                have z1 : W7.drew.cell? ⟨V.n, 0, none⟩ = some (.slice (some adn) vn vc) := by
                  have h8 := HD7.out.n
                  rw [HG6.out] at h8
                  rw [cell_of_row W7.drew V.n 0 _ _ _ h8]; rfl
                have z2 : W7.drew.cell? ⟨V.s, 0, none⟩ = some (.int .i64 ((st : Int) + 1)) := by
                  rw [cell_of_row W7.drew V.s 0 _ _ _ HD7.out.s, show ((st + 1 : Nat) : Int) = (st : Int) + 1 by omega]; rfl
                have HVl : Hid ((now ++ [path]).length ≤ 1000) := by show _ ≤ _; rw [List.length_append, List.length_singleton, ← HNn.out]; have := HNl.out; omega
                have HEn : Hid (∀ (v8 : Value) (w8 : World), OwTx w8 W7.drew.heap.size v8 (now ++ [path]) → Below W7.drew.heap.size W7.drew w8 → w8.cell? ⟨V.s, 0, none⟩ = some (.int .i64 ((st : Int) + 1)) ∧ (w8.setCell ⟨V.r, 0, none⟩ v8).cell? ⟨V.s, 0, none⟩ = some (.int .i64 ((st : Int) + 1)) ∧ (∃ x, w8.cell? ⟨V.r, 0, none⟩ = some x) ∧ w8.frozen? ⟨V.r, 0, none⟩ = false ∧ (w8.setCell ⟨V.r, 0, none⟩ v8).cell? ⟨V.d, 0, none⟩ = some (.int .i64 (fd : Int)) ∧ (w8.setCell ⟨V.r, 0, none⟩ v8).frozen? ⟨V.d, 0, none⟩ = false ∧ ((w8.setCell ⟨V.r, 0, none⟩ v8).setCell ⟨V.d, 0, none⟩ (.int .i64 ((st : Int) + 1))).cell? ⟨V.c, 0, none⟩ = some (.int .i64 0) ∧ ((w8.setCell ⟨V.r, 0, none⟩ v8).setCell ⟨V.d, 0, none⟩ (.int .i64 ((st : Int) + 1))).frozen? ⟨V.c, 0, none⟩ = false ∧ Hid (DLk V (((w8.setCell ⟨V.r, 0, none⟩ v8).setCell ⟨V.d, 0, none⟩ (.int .i64 ((st : Int) + 1))).setCell ⟨V.c, 0, none⟩ (.int .i64 1)) gw5 gt6 v8 (gone ++ [(px, py)]) (now ++ [path]) (st + 1) (1, now ++ [path]) (st + 1)) ∧ Hid (DFr V W7 gw5 gt6 fv (((w8.setCell ⟨V.r, 0, none⟩ v8).setCell ⟨V.d, 0, none⟩ (.int .i64 ((st : Int) + 1))).setCell ⟨V.c, 0, none⟩ (.int .i64 1)) gw5 gt6 v8) ∧ ∃ a8 n8 c8, v8 = .slice a8 n8 c8) := by
                  intro v8 w8 hO8 hb8
                  obtain ⟨b1, b2, b3, b4, b5, b6, b7, b8, b9, b10, b11, b12, b13, b14, b15⟩ := HNes.out
                  have hbk : ∀ q, q < W7.heap.size → w8.heap[q]? = W7.heap[q]? := fun q hq => hb8.block q hq
                  have ls := HLo.out V.s (Or.inr (Or.inl rfl))
                  have lr := HLo.out V.r (Or.inr (Or.inr (Or.inr (Or.inr (Or.inl rfl)))))
                  have ld := HLo.out V.d (Or.inr (Or.inr (Or.inr (Or.inr (Or.inr rfl)))))
                  have lc := HLo.out V.c (Or.inr (Or.inr (Or.inr (Or.inl rfl))))
                  have er : w8.heap[V.r]? = some (.cells #[fv] 29 (0, 0)) := by rw [hbk _ lr]; exact HD7.out.r
                  have ed : w8.heap[V.d]? = some (.cells #[.int .i64 (fd : Int)] 3 (0, 0)) := by rw [hbk _ ld]; exact HD7.out.d
                  have ec : w8.heap[V.c]? = some (.cells #[.int .i64 (φ.1 : Int)] 3 (0, 0)) := by rw [hbk _ lc]; exact HD7.out.c
                  have ed1 : (w8.setCell ⟨V.r, 0, none⟩ v8).heap[V.d]? = some (.cells #[.int .i64 (fd : Int)] 3 (0, 0)) := by rw [heap_setCell_other _ _ _ _ (Ne.symm b15)]; exact ed
                  have ec1 : ((w8.setCell ⟨V.r, 0, none⟩ v8).setCell ⟨V.d, 0, none⟩ (.int .i64 ((st : Int) + 1))).heap[V.c]? = some (.cells #[.int .i64 (φ.1 : Int)] 3 (0, 0)) := by rw [heap_setCell_other _ _ _ _ b14, heap_setCell_other _ _ _ _ b13]; exact ec
                  have hP : PutF V W7 (((w8.setCell ⟨V.r, 0, none⟩ v8).setCell ⟨V.d, 0, none⟩ (.int .i64 ((st : Int) + 1))).setCell ⟨V.c, 0, none⟩ (.int .i64 1)) v8 1 (st + 1) := by
                    refine ⟨?_, (show SmO W7 w8 from ⟨hb8.os, hb8.tape, hb8.output⟩).trans ⟨rfl, rfl, rfl⟩, ?_, ?_, ?_, fun q hq q1 q2 q3 => ?_⟩
                    · have h8 : W7.heap.size ≤ w8.heap.size := hb8.size
                      simpa using h8
                    · rw [heap_setCell_other _ _ _ _ (Ne.symm b13), heap_setCell_other _ _ _ _ b15, heap_setCell_same w8 V.r 0 _ 29 _ er]; rfl
                    · rw [heap_setCell_other _ _ _ _ (Ne.symm b14), heap_setCell_same _ V.d 0 _ 3 _ ed1, show ((st + 1 : Nat) : Int) = (st : Int) + 1 by omega]; rfl
                    · rw [heap_setCell_same _ V.c 0 _ 3 _ ec1]; rfl
                    · rw [heap_setCell_other _ _ _ _ q3, heap_setCell_other _ _ _ _ q2, heap_setCell_other _ _ _ _ q1]; exact hbk q hq
                  have hl : ∀ q, v8.ownBlock = some q → fv.ownBlock = some q ∨ W7.heap.size ≤ q := fun q e => Or.inr (World.ownsRow.lt hO8 q e).1
                  have hOx : OwTx (((w8.setCell ⟨V.r, 0, none⟩ v8).setCell ⟨V.d, 0, none⟩ (.int .i64 ((st : Int) + 1))).setCell ⟨V.c, 0, none⟩ (.int .i64 1)) V.lo v8 (now ++ [path]) := by
                    have h8 : OwTx w8 V.lo v8 (now ++ [path]) := ownsRow_down hO8 (Nat.le_trans HV.out.lowc.2.2.2.2 HD7.out.los)
                    refine h8.same fun q e => ?_
                    have h9 := (World.ownsRow.lt hO8 q e).1
                    have h10 : W7.heap.size ≤ q := h9
                    rw [heap_setCell_other _ _ _ _ (show q ≠ V.c by omega), heap_setCell_other _ _ _ _ (show q ≠ V.d by omega), heap_setCell_other _ _ _ _ (show q ≠ V.r by omega)]
                  have hF := HD7.out.putF HV.out hP hOx hl ⟨by omega, by omega, by omega⟩
                  refine ⟨?_, ?_, ⟨fv, by rw [cell_of_row w8 V.r 0 _ _ _ er]; rfl⟩, frozen_of_row w8 V.r 0 _ _ er, by rw [cell_of_row _ V.d 0 _ _ _ ed1]; rfl, frozen_of_row _ V.d 0 _ _ ed1, ?_, frozen_of_row _ V.c 0 _ _ ec1, hF.1, hF.2, ?_⟩
                  · exact (hb8.cell (p := ⟨V.s, 0, none⟩) ls).trans z2
                  · rw [cell_same (heap_setCell_other _ _ _ _ b8)]; exact (hb8.cell (p := ⟨V.s, 0, none⟩) ls).trans z2
                  · rw [cell_of_row _ V.c 0 _ _ _ ec1, ← HMm.out, hm0]; rfl
                  · obtain ⟨x1, x2, x3⟩ := hO8.shape
                    exact ⟨_, _, _, x3⟩
                subst hm0
                clear HRz ho hfv
                go_upto_region 18 with fail
                clear c0
                go_region_law (refine step_txs (lo := V.lo) (now := now ++ [path]) rfl (.const (.slice none 0 0)) (.tmp 98) rfl rfl (by first | (simp [Act.eval]; done) | (simp [Act.eval, Act.put]; done)) HVn.out HOs.out HVl.out ?_; intro v8 w8 hO8 hb8; obtain ⟨g1, g1', ⟨xr, g2⟩, g3, g4, g5, g6, g7, HD8, HF8, a8, n8, c8, rfl⟩ := HEn.out v8 w8 hO8 hb8; clear hO8 hb8)
                all_goals (
                  go_wp2_with fail
                  go_meet
                  exact ⟨gw5, gt6, _, st + 1, by rw [HRw.out], by rw [HRw.out]; exact HD8, HF8⟩)
              · have HRw : Hid (r = (true, st + 1, (m + 1, φ.2))) := by show _ = _; rw [HRz.out, ← HMm.out, if_neg hm0]
                have hm0' : ((m : Int) == 0) = false := by simp; omega
                have hwr : IntKind.i64.wrap ((m : Int) + 1) = (m : Int) + 1 := by have h8 := HNum.out.1; have h9 := HM.out; have h10 := HMm.out; rw [IntKind.wrap_i64]; omega
                have c1 : W7.frozen? ⟨V.c, 0, none⟩ = false := frozen_of_row W7 V.c 0 _ _ HD7.out.c
                obtain ⟨W8, HW8⟩ : ∃ W8, Hid (W8 = W7.setCell ⟨V.c, 0, none⟩ (.int .i64 ((m : Int) + 1))) := ⟨_, rfl⟩
                have hP : PutF V W7 W8 fv (m + 1) fd := by
                  obtain ⟨b1, b2, b3, b4, b5, b6, b7, b8, b9, b10, b11, b12, b13, b14, b15⟩ := HNes.out
                  rw [HW8.out]
                  refine ⟨by simp, ⟨rfl, rfl, rfl⟩, by rw [heap_setCell_other _ _ _ _ (Ne.symm b13)]; exact HD7.out.r, by rw [heap_setCell_other _ _ _ _ (Ne.symm b14)]; exact HD7.out.d, ?_, fun q _ _ _ q3 => heap_setCell_other _ _ _ _ q3⟩
                  rw [heap_setCell_same W7 V.c 0 _ 3 _ HD7.out.c, show ((m + 1 : Nat) : Int) = (m : Int) + 1 by omega]; rfl
                have hO : OwTx W8 V.lo fv φ.2 := HD7.out.of_.same fun q e => by
                  rw [HW8.out, heap_setCell_other _ _ _ _ (show q ≠ V.c from fun q2 => (HD7.out.sep q (Or.inr (Or.inr e))).1 (Or.inr (Or.inr (Or.inr (Or.inl q2)))))]
                have hF := HD7.out.putF HV.out hP hO (fun q e => Or.inl e) (by
                  have h8 := HNum.out
                  have h9 := HMm.out
                  -- the bounds
                  refine ⟨?_, h8.2.1, ?_⟩
                  · rw [h9]; exact Nat.succ_le_succ HD.out.num.1
                  · have h10 := h8.2.2
                    rw [← h9] at h10
                    omega)
                have HD8 := hid_w hF.1
                have HF8 := hid_w hF.2
                clear HRz hP hO hF hm0 hfv
                go_wp2_with fail
                go_meet
                exact ⟨gw5, gt6, fv, fd, by rw [HRw.out], by rw [HRw.out, ← HW8.out]; exact HD8, by rw [← HW8.out]; exact HF8⟩
          obtain ⟨gv6, nv6, fv6, fd6, rfl, HD8, HF8⟩ := hcut
          obtain ⟨W8, hW8⟩ : ∃ W8 : World, W8 = wc := ⟨_, rfl⟩
          subst hW8
          have ho8 := HD8.out.on
          obtain ⟨a8, c8, hv8⟩ := ho8.shape
          rw [List.length_append, List.length_singleton, ← HNn.out] at hv8
          rw [hv8] at ho8
          obtain ⟨hO9, hc8, ad8, had8⟩ := ho8.cut HNn.out
          subst had8
          obtain ⟨m8, HM8⟩ : ∃ m8, Hid (m8 = nn + 1) := ⟨_, rfl⟩
          rw [← HM8.out] at hv8
          have u0 : W8.cell? ⟨V.n, 0, none⟩ = some (.slice (some ad8) m8 c8) := by rw [cell_of_row W8 V.n 0 _ _ _ HD8.out.n, hv8]; rfl
          have u1 : W8.frozen? ⟨V.n, 0, none⟩ = false := frozen_of_row W8 V.n 0 _ _ HD8.out.n
          have hm8 : (m8 : Int) - 1 = (nn : Int) := by rw [HM8.out]; omega
          have hnc8 : (nn : Int) ≤ (c8 : Int) := by omega
          have hnn4 : nn ≤ 4 := by have := HNl.out; omega
          have h9 := HD8.out.putN HV.out (nv' := .slice (some ad8) nn c8) hO9 ⟨Nat.le_refl _, fun _ _ _ => rfl, fun g hg => Or.inl (by rw [hv8]; exact hg)⟩ (SmO.refl _)
          obtain ⟨W9, HW9⟩ : ∃ W9, Hid (W9 = W8.setCell ⟨V.n, 0, none⟩ (.slice (some ad8) nn c8)) := ⟨_, rfl⟩
          rw [← HW9.out] at h9
          have HD9 := hid_w h9.1
          have HF9 := hid_w (HF7.out.trans (HF8.out.trans h9.2))
          clear h9 hO9 ho8 hv8 hc8
          go_wp2_with fail
          go_meet
          exact ⟨gv6, _, fv6, fd6, rfl, by rw [← HW9.out]; exact HD9, by rw [← HW9.out]; exact HF9⟩
        · obtain ⟨r1, HR1⟩ : ∃ r1, Hid (r1 = if px < ex then goF V.S V.E fndL f k (px + 1, py) (mkP cl (px, py) true) (txA tx k 82) (st + 1) φ else (true, st + 1, φ)) := ⟨_, rfl⟩
          have HRx : Hid (r = if r1.1 = false then r1 else if ey ≤ py then r1 else goF V.S V.E fndL f k (px, py + 1) (mkP cl (px, py) true) (txA tx k 85) r1.2.1 r1.2.2) := by
            show _ = _
            rw [HRe.out]; unfold lvF
            rw [HEe.out, if_neg hpe]
            dsimp only
            rw [HR1.out]
          go_upto_region 13 with fail
          go_cut [74] (fun s74 wx => s74 = .bool false ∧ Hid (wx = W5))
          case first =>
            by_cases hx : px = ex
            · have hy : py ≠ ey := fun q => hpe (by rw [hx, q])
              have hy' : ((py : Int) == (ey : Int)) = false := by simp; omega
              subst hx
              clear hpe hy HRx HR1 HRe
              go_wp2_with fail
              go_meet
              exact ⟨by simp, rfl⟩
            · have hx' : ((px : Int) == (ex : Int)) = false := by simp; omega
              clear hpe hx HRx HR1 HRe
              go_wp2_with fail
              go_meet
              exact ⟨by simp, rfl⟩
          obtain ⟨rfl, HWx⟩ := hcut
          obtain rfl : W5 = wc := HWx.out.symm
          clear HWx hpe
          have z0 : W5.cell? ⟨V.f, 0, none⟩ = some (.func (.func 20) #[] #[.pointer (some ⟨V.g, 0, none⟩), .pointer (some ⟨V.s, 0, none⟩), .pointer (some ⟨V.m, 0, none⟩), .pointer (some ⟨V.e, 0, none⟩), .pointer (some ⟨V.y, 0, none⟩), .pointer (some ⟨V.n, 0, none⟩), .pointer (some ⟨V.t, 0, none⟩), .pointer (some ⟨V.f, 0, none⟩), .pointer (some ⟨V.c, 0, none⟩), .pointer (some ⟨V.r, 0, none⟩), .pointer (some ⟨V.d, 0, none⟩)]) := by
            rw [cell_of_row W5 V.f 0 _ _ _ (HD5.out.fix HV.out).2.2.2.2]; rfl
          have HE8 : Hid (ex < 8 ∧ ey < 8) := by
            have h6 := HV.out.pts k HR.out.hk
            rw [HEe.out] at h6
            exact ⟨h6.2.2.1, h6.2.2.2⟩
          have HS82 : Hid (∀ b : UInt8, str ++ ⟨#[b]⟩ = (⟨(path ++ [b]).toArray⟩ : ByteArray)) := fun b => by
            rw [HStr.out]
            apply ByteArray.ext
            simp
          have HCr : Hid (px < ex → Calls Try.prog 20 #[.int .i64 (k : Int), .agg #[.int .i64 ((px : Int) + 1), .int .i64 (py : Int)], .string (str ++ ⟨#[82]⟩), .pointer (some ⟨V.g, 0, none⟩), .pointer (some ⟨V.s, 0, none⟩), .pointer (some ⟨V.m, 0, none⟩), .pointer (some ⟨V.e, 0, none⟩), .pointer (some ⟨V.y, 0, none⟩), .pointer (some ⟨V.n, 0, none⟩), .pointer (some ⟨V.t, 0, none⟩), .pointer (some ⟨V.f, 0, none⟩), .pointer (some ⟨V.c, 0, none⟩), .pointer (some ⟨V.r, 0, none⟩), .pointer (some ⟨V.d, 0, none⟩)] W5 (DAns V r1 W5 gw5 nv fv (gone ++ [(px, py)]) now)) := fun hx => by
            rw [HS82.out, HR1.out, if_pos hx]
            have h6 := HE8.out
            have hp := HR.out.hp
            exact HIH.out k (px + 1, py) (path ++ [82]) W5 gw5 nv fv (gone ++ [(px, py)]) now (st + 1) φ fd (mkP cl (px, py) true) (txA tx k 82) HD5.out (HR.out.step 82 (px + 1, py) ⟨by show px + 1 < 8; omega, hp.2⟩ (st + 1) HM.out (fu_right HEe.out hx HR.out.hfu))
          go_upto_if 43 with fail
          go_cut [18] (fun s18 wx => ∃ (gv6 nv6 fv6 : Value) (fd6 : Nat), s18 = .bool r1.1 ∧ Hid (DLk V wx gv6 nv6 fv6 (gone ++ [(px, py)]) now r1.2.1 r1.2.2 fd6) ∧ Hid (DFr V W5 gw5 nv fv wx gv6 nv6 fv6))
          case first =>
            by_cases hx : px < ex
            · have hx' : (px : Int) < (ex : Int) := by omega
              have hp8 : px ≤ 8 := by have := HE8.out; omega
              have HCs := hid_w (HCr.out hx)
              clear HRx HR1 HRe
              go_wp2_with (go_at_call 20; go_loud (with_reducible (refine HCs.out.mono ?_)); rintro e W6 ⟨rfl, gv6, nv6, fv6, fd6, HD6, HF6⟩)
              go_meet
              exact ⟨gv6, nv6, fv6, fd6, rfl, HD6, HF6⟩
            · have hx' : ¬ (px : Int) < (ex : Int) := by omega
              have hr1 : r1 = (true, st + 1, φ) := by rw [HR1.out, if_neg hx]
              subst hr1
              clear HRx HR1 HRe
              go_wp2_with fail
              go_meet
              exact ⟨gw5, nv, fv, fd, rfl, HD5, DFr.refl _ _ _ _ _⟩
          obtain ⟨gv6, nv6, fv6, fd6, rfl, HD6, HF6⟩ := hcut
          obtain ⟨W6, hW6⟩ : ∃ W6 : World, W6 = wc := ⟨_, rfl⟩
          subst hW6
          have hP6 := HF6.out.own HV.out (lt_of_some HPb5.out) HPs.out HPB5.out.1
          have hQ6 := HF6.out.own HV.out (lt_of_some HQb.out) HPB5.out.2.2 HPB5.out.2.1
          have HPb6 : Hid (W6.heap[P]? = some (.cells #[.int .i64 (px : Int), .int .i64 (py : Int)] 39 (0, 0))) := by show _ = _; rw [hP6.1]; exact HPb5.out
          have HQb6 : Hid (W6.heap[Q]? = some (.cells #[.int .i64 (ex : Int), .int .i64 (ey : Int)] 39 (0, 0))) := by show _ = _; rw [hQ6.1]; exact HQb.out
          have p2 : W6.cell? ⟨P, 0, none⟩ = some (.int .i64 (px : Int)) := by rw [cell_of_row W6 P 0 _ _ _ HPb6.out]; rfl
          have p3 : W6.cell? ⟨P, 1, none⟩ = some (.int .i64 (py : Int)) := by rw [cell_of_row W6 P 1 _ _ _ HPb6.out]; rfl
          have q3 : W6.cell? ⟨Q, 1, none⟩ = some (.int .i64 (ey : Int)) := by rw [cell_of_row W6 Q 1 _ _ _ HQb6.out]; rfl
          have z6 : W6.cell? ⟨V.f, 0, none⟩ = some (.func (.func 20) #[] #[.pointer (some ⟨V.g, 0, none⟩), .pointer (some ⟨V.s, 0, none⟩), .pointer (some ⟨V.m, 0, none⟩), .pointer (some ⟨V.e, 0, none⟩), .pointer (some ⟨V.y, 0, none⟩), .pointer (some ⟨V.n, 0, none⟩), .pointer (some ⟨V.t, 0, none⟩), .pointer (some ⟨V.f, 0, none⟩), .pointer (some ⟨V.c, 0, none⟩), .pointer (some ⟨V.r, 0, none⟩), .pointer (some ⟨V.d, 0, none⟩)]) := by
            rw [cell_of_row W6 V.f 0 _ _ _ (HD6.out.fix HV.out).2.2.2.2]; rfl
          clear hP6 hQ6 p0 p1 q0 q1 z0 HCr
          by_cases hr1 : r1.1 = false
          · have hre : r = r1 := by rw [HRx.out, if_pos hr1]
            subst hre
            have hb1 : r.1 = false := hr1
            obtain ⟨rb, HRb⟩ : ∃ rb, Hid (rb = r.1) := ⟨_, rfl⟩
            rw [← HRb.out]
            have hrb : rb = false := by rw [HRb.out]; exact hb1
            subst hrb
            clear HRx HR1 HRe hr1 hb1
            go_wp2_with fail
            go_meet
            exact ⟨gv6, nv6, fv6, fd6, by rw [← HRb.out], HD6, HF6⟩
          · have hb1 : r1.1 = true := by simpa using hr1
            have HRy : Hid (r = if ey ≤ py then r1 else goF V.S V.E fndL f k (px, py + 1) (mkP cl (px, py) true) (txA tx k 85) r1.2.1 r1.2.2) := by show _ = _; rw [HRx.out, if_neg hr1]
            have HSt1 : Hid (r1.2.1 ≤ 1000000) := by
              show _ ≤ _
              rw [HR1.out] at hb1 ⊢
              by_cases hx : px < ex
              · rw [if_pos hx] at hb1 ⊢
                exact (goF_st V.S V.E fndL f k (px + 1, py) (mkP cl (px, py) true) (txA tx k 82) (st + 1) φ HM.out).2 hb1
              · rw [if_neg hx]; exact HM.out
            obtain ⟨rb, HRb⟩ : ∃ rb, Hid (rb = r1.1) := ⟨_, rfl⟩
            rw [← HRb.out]
            have hrb : rb = true := by rw [HRb.out]; exact hb1
            subst hrb
            clear HRx HR1 HRe hr1 hb1
            by_cases hy : ey ≤ py
            · have hre : r = r1 := by rw [HRy.out, if_pos hy]
              have hy' : ¬ (py : Int) < (ey : Int) := by omega
              subst hre
              clear HRy hy
              go_wp2_with fail
              go_meet
              exact ⟨gv6, nv6, fv6, fd6, by rw [← HRb.out], HD6, HF6⟩
            · have hy' : (py : Int) < (ey : Int) := by omega
              have hp8 : py ≤ 8 := by have := HE8.out; omega
              have HCs : Hid (Calls Try.prog 20 #[.int .i64 (k : Int), .agg #[.int .i64 (px : Int), .int .i64 ((py : Int) + 1)], .string (str ++ ⟨#[85]⟩), .pointer (some ⟨V.g, 0, none⟩), .pointer (some ⟨V.s, 0, none⟩), .pointer (some ⟨V.m, 0, none⟩), .pointer (some ⟨V.e, 0, none⟩), .pointer (some ⟨V.y, 0, none⟩), .pointer (some ⟨V.n, 0, none⟩), .pointer (some ⟨V.t, 0, none⟩), .pointer (some ⟨V.f, 0, none⟩), .pointer (some ⟨V.c, 0, none⟩), .pointer (some ⟨V.r, 0, none⟩), .pointer (some ⟨V.d, 0, none⟩)] W6 (DAns V r W6 gv6 nv6 fv6 (gone ++ [(px, py)]) now)) := by
                rw [HS82.out, HRy.out, if_neg hy]
                have h6 := HE8.out
                have hp := HR.out.hp
                exact HIH.out k (px, py + 1) (path ++ [85]) W6 gv6 nv6 fv6 (gone ++ [(px, py)]) now r1.2.1 r1.2.2 fd6 (mkP cl (px, py) true) (txA tx k 85) HD6.out (HR.out.step 85 (px, py + 1) ⟨hp.1, by show py + 1 < 8; omega⟩ r1.2.1 HSt1.out (fu_up HEe.out (by omega) HR.out.hfu))
              clear HRy hy
              go_wp2_with (go_at_call 20; go_loud (refine HCs.out.mono ?_; rintro e W7 ⟨rfl, gv7, nv7, fv7, fd7, HD7, HF7⟩))
              go_meet
              exact ⟨gv7, nv7, fv7, fd7, rfl, HD7, HF6.out.trans HF7.out⟩
      obtain ⟨gv6, nv6, fv6, fd6, rfl, HD6, HF6⟩ := hcut
      obtain ⟨W8, hW8⟩ : ∃ W8 : World, W8 = wc := ⟨_, rfl⟩
      subst hW8
      have e : toI (gone ++ [(px, py)]) = toI gone ++ [((px : Int), (py : Int))] := by unfold toI; rw [List.map_append]; rfl
      have ho6 := HD6.out.og
      rw [e] at ho6
      obtain ⟨a6, c6, hv6, -, -⟩ := ho6.open
      rw [List.length_append, List.length_singleton, ← HGn.out] at hv6
      rw [hv6] at ho6
      obtain ⟨hO8, hc6, ad6, had6⟩ := ho6.cut HGn.out
      subst had6
      obtain ⟨m6, HM6⟩ : ∃ m6, Hid (m6 = gn + 1) := ⟨_, rfl⟩
      rw [← HM6.out] at hv6
      have u0 : W8.cell? ⟨V.g, 0, none⟩ = some (.slice (some ad6) m6 c6) := by rw [cell_of_row W8 V.g 0 _ _ _ HD6.out.g, hv6]; rfl
      have u1 : W8.frozen? ⟨V.g, 0, none⟩ = false := frozen_of_row W8 V.g 0 _ _ HD6.out.g
      have hm6 : (m6 : Int) - 1 = (gn : Int) := by rw [HM6.out]; omega
      have hgc6 : (gn : Int) ≤ (c6 : Int) := by omega
      have h9 := HD6.out.putG HV.out (gv' := .slice (some ad6) gn c6) hO8 ⟨Nat.le_refl _, fun _ _ _ => rfl, fun g hg => Or.inl (by rw [hv6]; exact hg)⟩ (SmO.refl _) HD6.out.tagG
      obtain ⟨W9, HW9⟩ : ∃ W9, Hid (W9 = W8.setCell ⟨V.g, 0, none⟩ (.slice (some ad6) gn c6)) := ⟨_, rfl⟩
      rw [← HW9.out] at h9
      have HD9 := hid_w h9.1
      have HF9 := hid_w ((HF0.out.trans HF1.out).trans ((HF5.out.trans HF6.out).trans h9.2))
      have hgl : gn ≤ 8796093022100 := HGl.out
      clear h9 hO8 e ho6 hv6 hc6 hgc hgv
      go_upto_region 22 with fail
      rw [← HW9.out]
      clear u0 u1
      go_wp2_with fail
      go_ret
      exact ⟨rfl, _, nv6, fv6, fd6, HD9, HF9⟩

end Go.Proofs.Ythdojdkghhmfcaa
