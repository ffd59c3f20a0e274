/-
  Lists of strips; the contract of chars.Strips.
-/
import Derived.Test.YtheebpjkjclgbaaKWit
import Derived.Test.YtheebpjkjclgbaaWHok
namespace Go.Proofs.Ytheebpjkjclgbaa
open Go.RowKit

theorem Try.infoS : (Try.prog.info? 30).map (fun i => (i.zero, i.size, i.bytes)) = some (some (.agg #[.slice none 0 0, .int .i64 0]), 2, 32) := by kernel_rfl
/-- A strip in memory: its part's value, the part, its height. -/
abbrev StX := Value × List Int × Nat
def scL (X : List StX) : List Value := X.flatMap fun x => [x.1, .int .i64 (x.2.2 : Int)]
theorem scL_snoc (X : List StX) (x : StX) : scL (X ++ [x]) = scL X ++ [x.1, .int .i64 (x.2.2 : Int)] := by unfold scL; rw [List.flatMap_append]; simp
/-- A list of strips of the call's own. -/
structure Stl (w : World) (lo : Nat) (v : Value) (X : List StX) : Prop where
  own : w.ownsRow lo 30 2 v X.length (scL X)
  el : ∀ x ∈ X, Owns w lo x.1 x.2.1
theorem Stl.nil (w : World) (lo : Nat) : Stl w lo (.slice none 0 0) [] := ⟨World.ownsRow_nil _ _ _ _, fun x hx => by cases hx⟩
theorem Stl.same {w w' : World} {lo : Nat} {v : Value} {X : List StX} (h : Stl w lo v X) (hk : ∀ k, lo ≤ k → k < w.heap.size → w'.heap[k]? = w.heap[k]?) : Stl w' lo v X :=
  ⟨ownsRow_blocks h.own (fun k e => by have := h.own.lt k e; exact hk k this.1 this.2), fun x hx => ownsRow_blocks (h.el x hx) (fun k e => by have := (h.el x hx).lt e; exact hk k this.1 this.2)⟩
theorem Stl.below {w w' : World} {lo : Nat} {v : Value} {X : List StX} (h : Stl w lo v X) (hb : Below w.heap.size w w') : Stl w' lo v X := h.same fun k _ hk => hb.block k hk
theorem Stl.mono {w : World} {lo lo' : Nat} {v : Value} {X : List StX} (h : Stl w lo v X) (hl : lo' ≤ lo) : Stl w lo' v X := ⟨ownsRow_down h.own hl, fun x hx => (h.el x hx).mono hl⟩
theorem Stl.shape {w : World} {lo : Nat} {v : Value} {X : List StX} (h : Stl w lo v X) : ∃ a c, v = .slice a X.length c := by
  rcases h.own.2 with ⟨h1, h2⟩ | ⟨g, cap, cur, hv, _⟩
  · exact ⟨none, 0, by rw [h1, h2]⟩
  · exact ⟨_, _, hv⟩
theorem oneS : ∀ {v : Value}, (∃ a n c, v = .slice a n c) → v.oneCell' = true := fun ⟨_, _, _, e⟩ => by rw [e]; rfl
theorem stl_app {w : World} {base N : Nat} {v u : Value} {ls : List Int} {hgt : Nat} {X : List StX} (ty : TypeId) (hX : Stl w base v X) (hu : Owns w base u ls) (hN : N = w.heap.size) (h63 : X.length + 1 ≤ 1000) (hbase : base ≤ w.heap.size) :
    ∃ v' w', (Builtin.append_ #[23, 23] ty #[v, .slice (some ⟨N, 0, none⟩) 1 1]).run Try.prog (w.alloc (.cells #[u, .int .i64 (hgt : Int)] 30)) = .ok v' w' ∧ Stl w' base v' (X ++ [(u, ls, hgt)]) ∧ Below base w w' := by
  subst hN
  obtain ⟨i0, hi, hz0, hz1, hz2⟩ := info_parts Try.infoS
  have hb : Below w.heap.size w (w.alloc (.cells #[u, .int .i64 (hgt : Int)] 30)) := (Below.refl _ _).alloc (Nat.le_refl _) _
  have hX2 := hX.below hb
  obtain ⟨ua, uc, hus⟩ := hu.shape
  have hone : ∀ y ∈ [u, Value.int .i64 (hgt : Int)], y.oneCell' = true := fun y hy => by
    rw [List.mem_cons, List.mem_singleton] at hy
    rcases hy with q | q
    · rw [q]; exact oneS ⟨_, _, _, hus⟩
    · rw [q]; rfl
  obtain ⟨v', w', hrun, r1, r2, _⟩ := run_append_own (P := Try.prog) (w.alloc (.cells #[u, .int .i64 (hgt : Int)] 30)) base 23 ty 30 i0 (.agg #[.slice none 0 0, .int .i64 0]) 2 32 Try.underlying23 hi hz0 hz1 hz2 rfl (by decide) v X.length (scL X) hX2.own ⟨w.heap.size, 0, none⟩ 1 1 [u, .int .i64 (hgt : Int)] rfl
    (fun j y hj => by
      match j, hj with
      | 0, hj => simp at hj; subst hj; rw [Addr.add_lit, World.cell?_alloc_at _ _ _ _ rfl]; rfl
      | 1, hj => simp at hj; subst hj; rw [Addr.add_lit, World.cell?_alloc_at _ _ _ _ rfl]; rfl) (fun y hy => hone y hy) (by unfold maxLen; omega) (by omega) (by simp; omega)
  have hkeep : ∀ {x : Value} {l : List Int}, Owns (w.alloc (.cells #[u, .int .i64 (hgt : Int)] 30)) base x l → Owns w' base x l := fun {x l} hx => ownsRow_blocks hx (fun k hk => by
    refine r2.block k (hx.lt hk).2 (fun e => ?_)
    rcases hX2.own.2 with ⟨q, _⟩ | ⟨g, cap, cur, q, _, hh, _⟩
    · rw [q] at e; cases e
    · rw [q] at e
      have hg : k = g := by simpa [Value.ownBlock] using e
      subst hg
      rcases hx.2 with ⟨q2, _⟩ | ⟨g2, cap2, cur2, q2, _, hh2, _⟩
      · rw [q2] at hk; cases hk
      · rw [q2] at hk
        have hg2 : g2 = k := by simpa [Value.ownBlock] using hk
        subst hg2
        rw [hh] at hh2
        simp at hh2)
  refine ⟨v', w', hrun, ⟨?_, fun x hx => ?_⟩, (hb.mono hbase).trans ((Below.refl base _).grown r2 (by simp; omega) (fun k hk => (hX.own.lt k hk).1))⟩
  · rw [scL_snoc, List.length_append, List.length_singleton]; exact r1
  · rcases List.mem_append.1 hx with q | q
    · exact hkeep (hX2.el x q)
    · rw [List.mem_singleton] at q
      subst q
      exact hkeep (hu.below hb)
theorem append_strip {w : World} {base N : Nat} {v u : Value} {ls : List Int} {hgt : Nat} {X : List StX} {ops : Array Oper} {rest : List Oper} {o : Oper} {a : Act} {Q : Exit → Act → World → Prop} (hgd : o.guard = none) (s z : Operand)
    (ho : o.op = .call { callee := .builtin .append, args := #[s, z], argTypes := #[23, 23] }) (hs : a.eval s = v) (hx : a.eval z = .slice (some ⟨N, 0, none⟩) 1 1) (hN : N = w.heap.size) (hX : Stl w base v X) (hu : Owns w base u ls) (h63 : X.length + 1 ≤ 1000) (hbase : base ≤ w.heap.size)
    (h : ∀ v' w', Stl w' base v' (X ++ [(u, ls, hgt)]) → Below base w w' → wpList Try.prog ops Q rest (a.put o.dst v') w') :
    wpList Try.prog ops Q (o :: rest) a (w.alloc (.cells #[u, .int .i64 (hgt : Int)] 30)) := by
  refine wpList_plain hgd fun K hK => ?_
  obtain ⟨v', w', hrun, r1, r2⟩ := stl_app (hgt := hgt) o.type hX hu hN h63 hbase
  unfold Oper.wp
  simp [execOp, ho, resolve, invoke, builtin, hs, hx, hrun, Result.andThen]
  exact hK _ _ (h v' w' r1 r2)
/-- The row of hooks. -/
def hkW (zs : List Int) (i : Nat) : List Int := castL ((List.range (pF zs i)).map (hkN zs i))
theorem hkR_row {zs : List Int} {i : Nat} (hi : i < zs.length) : (castT (hkR zs)).getD i [] = hkW zs i := by
  unfold castT hkR hkW
  simp [List.getD, hi]
theorem hkW_len (zs : List Int) (i : Nat) : (hkW zs i).length = pF zs i := by unfold hkW; rw [castL_len]; simp
theorem hkW_at {zs : List Int} {i j : Nat} (hj : j < pF zs i) : (hkW zs i).getD j 0 = (hkN zs i j : Int) := by
  unfold hkW castL
  simp [List.getD, hj]
theorem hk_idx {zs : List Int} (h : IsPt zs) {i j k : Nat} (hj : j < pF zs i) (hk : hkN zs i j = k) : IdxR (hkW zs i) (k : Int) (j : Int) := by
  refine Or.inr ⟨j, rfl, by rw [hkW_len]; exact hj, by rw [hkW_at hj, hk], fun j' hj' => ?_⟩
  rw [hkW_at (by omega)]
  have := hk_fall h hj' hj
  omega
theorem hk_idx0 {zs : List Int} {i k : Nat} (h : ∀ j, j < pF zs i → hkN zs i j ≠ k) : IdxR (hkW zs i) (k : Int) (-1) := by
  refine Or.inl ⟨rfl, fun hm => ?_⟩
  obtain ⟨j, hj, he⟩ := List.mem_iff_getElem.1 hm
  rw [hkW_len] at hj
  have h1 := hkW_at (zs := zs) hj
  rw [List.getD, List.getElem?_eq_getElem (by rw [hkW_len]; exact hj), Option.getD_some, he] at h1
  exact h j hj (by omega)
theorem hkR_bdY {zs : List Int} (h : IsPt zs) : ∀ l ∈ castT (hkR zs), l.length ≤ 17592186044416 ∧ ∀ z ∈ l, -9223372036854775808 ≤ z ∧ z ≤ 9223372036854775807 := fun l hl => by
  unfold castT at hl
  obtain ⟨r, hr, rfl⟩ := List.mem_map.1 hl
  have h1 : ∀ z ∈ r, z ≤ 1000 := fun z hz => (hkR_le h z (List.mem_flatten.2 ⟨r, hr, hz⟩)).2
  have h2 : r.length ≤ 1000 := by
    unfold hkR at hr
    obtain ⟨i, _, rfl⟩ := List.mem_map.1 hr
    have := pF_le h i
    simp; omega
  refine ⟨by rw [castL_len]; omega, fun z hz => ?_⟩
  have := castL_lt h1 z hz
  omega
/-- What Strips lists. -/
def StpR (zs : List Int) (k : Nat) (w w' : World) (v : Value) : Prop := ∃ X, Stl w' w.heap.size v X ∧ X.map Prod.snd = stpL zs k ∧ Below w.heap.size w w'
set_option maxHeartbeats 8000000 in
set_option maxRecDepth 100000 in
theorem Strips_ok (a : Option Addr) (n cap k : Nat) (zs : List Int) (w : World) (hs : Shows w a zs) (hn : n = zs.length) (hp : IsPt zs) (hk : 1 ≤ k) (hk2 : k ≤ 9223372036854775807) :
    Calls Try.prog 4 #[.slice a n cap, .int .i64 (k : Int)] w fun e w' => ∃ v, e = .returned (.tuple #[v, .int .i64 0]) ∧ StpR zs k w w' v := by
  have hn40 : n ≤ 40 := by rw [hn]; exact hp.len
  have HC : Hid (Calls Try.prog 17 #[.slice a n cap] w fun e w' => ∃ al nl cl, e = .returned (.tuple #[.slice al nl cl, .int .i64 0]) ∧ Hid (nl = n) ∧ Hid (Table w' al (castT (hkR zs))) ∧ Hid (Below w.heap.size w w')) := by
    refine (HHooks_ok a n cap zs w hs hn hp).mono ?_
    rintro e w' ⟨v, rfl, h1, h2⟩
    obtain ⟨al, nl, cl, rfl, h3, h4⟩ := h1.table (hkR_bdY hp)
    refine ⟨al, nl, cl, rfl, ?_, h3, h2⟩
    show _ = _
    rw [h4.out, castT_len, hn]; simp [hkR]
  have HS : Hid (Shows w a zs) := hs
  have HP : Hid (IsPt zs) := hp
  have HN : Hid (n = zs.length) := hn
  have hk1 : ¬ ((k : Int) < 1) := by omega
  clear hs hp hn
  go_enter Try.func4, Try.ntmps4
  go_wp2_with fail
  refine HC.out.mono ?_
  rintro e w1 ⟨al, nl, cl, rfl, HNl, HT, HB1⟩
  have hnl := HNl.out
  subst hnl
  clear HC HNl
  go_wp2
  go_loopw [8, 9] (fun lv iv wr => ∃ (t : Nat) (I : Int) (X : List StX), Hid (t ≤ nl ∧ I = (nl : Int) - 1 - (t : Int)) ∧ -1 ≤ I ∧ I < (nl : Int) ∧ iv = .int .i64 I ∧ Hid (Stl wr w1.heap.size lv X) ∧ Hid (X.map Prod.snd = stUp zs k t) ∧ Hid (Below w1.heap.size w1 wr)) (fun _ iv _ => (intOf iv + 1).toNat)
  case atStart => exact ⟨0, (nl : Int) - 1, [], ⟨Nat.zero_le _, by omega⟩, by omega, by omega, rfl, Stl.nil _ _, rfl, Below.refl _ _⟩
  case round =>
    obtain ⟨t, I, X, HtI, hI1, hI2, rfl, HX, HXs, HBr⟩ := hrel
    have HBw : Hid (Below w.heap.size w wr) := HB1.out.trans (HBr.out.mono HB1.out.size)
    have HTr : Hid (Table wr al (castT (hkR zs))) := HT.out.below HBr.out
    by_cases hI : I ≥ 0
    · obtain ⟨i, hiI⟩ : ∃ i : Nat, I = (i : Int) := ⟨I.toNat, by omega⟩
      subst hiI
      have hin : i < nl := by omega
      have HI : Hid (zs.length - 1 - t = i ∧ i < zs.length) := by have h1 := HtI.out; have h2 := HN.out; exact ⟨by omega, by omega⟩
      obtain ⟨b1, off1, ai, ni, ci, e1, hc1, HN1, HS1, _, _⟩ := HTr.out.elemR (k := i) (by rw [castT_len]; have := HI.out.2; simp [hkR]; omega)
      subst e1
      rw [hkR_row HI.out.2] at HN1 HS1
      rw [hkW_len] at HN1
      obtain ⟨va, vc, hvs⟩ := HX.out.shape
      obtain ⟨XL, HXL⟩ : ∃ XL, Hid (XL = X.length) := ⟨_, rfl⟩
      rw [← HXL.out] at hvs
      subst hvs
      have HXlen : Hid (X.length ≤ 40) := by
        have h1 := congrArg List.length HXs.out
        rw [List.length_map] at h1
        have h2 := stUp_len HP.out k t
        have h3 := HtI.out.1
        show _ ≤ _; omega
      by_cases hj : ∃ j, j < pF zs i ∧ hkN zs i j = k
      · obtain ⟨j, hj1, hj2⟩ := hj
        have HCI : Hid (Calls Try.prog 18 #[.slice ai ni ci, .int .i64 (k : Int)] wr fun e w' => e = .returned (.int .i64 (j : Int)) ∧ w' = wr) := by
          have := Index_any ai ci (hkW zs i) (k : Int) (j : Int) wr HS1.out (hk_idx HP.out hj1 hj2)
          rw [hkW_len, ← HN1.out] at this
          exact this
        have HCW : Hid (Calls Try.prog 19 #[.slice a nl cap, .int .i64 (i : Int), .int .i64 (j : Int), .int .i64 (k : Int)] wr fun e w' => ∃ ua un uc, e = .returned (.agg #[.slice ua un uc, .int .i64 ((htF zs j - 1 - i : Nat) : Int)]) ∧ Hid (Owns w' w1.heap.size (.slice ua un uc) (stP zs i j)) ∧ Hid (Below wr.heap.size wr w')) := by
          refine (without_at a nl cap i j k zs wr (HS.out.below HBw.out) HN.out HP.out hin hj1 hj2).mono ?_
          rintro e w' ⟨v, rfl, h1, h2⟩
          obtain ⟨ua, uc, hu⟩ := h1.out.shape
          have h3 := h1.out.mono (show w1.heap.size ≤ wr.heap.size + 1 by have := HBr.out.size; omega)
          rw [hu] at h3 ⊢
          exact ⟨ua, _, uc, rfl, h3, h2⟩
        obtain ⟨hg, HHg⟩ : ∃ hg, Hid (hg = htF zs j - 1 - i) := ⟨_, rfl⟩
        rw [← HHg.out] at HCW
        have HAt : Hid (stUp zs k (t + 1) = stUp zs k t ++ [(stP zs i j, hg)]) := by show _ = _; rw [stUp_succ, HI.out.1, stAt_one HP.out hj1 hj2, HHg.out]
        have hj0 : (j : Int) ≥ 0 := by omega
        have hjb : j ≤ 40 := by have := pF_le HP.out i; omega
        clear hj1 hj2
        go_wp2_with fail
        refine HCI.out.mono ?_
        rintro e w2 ⟨rfl, hw2⟩
        obtain rfl : wr = w2 := hw2.symm
        clear hw2 HCI
        go_wp2_with fail
        refine HCW.out.mono ?_
        rintro e w2 ⟨ua, un, uc, rfl, HU, HB2⟩
        have HX2 : Hid (Stl w2 w1.heap.size (.slice va XL vc) X) := HX.out.below HB2.out
        have HBw2 : Hid (Below w1.heap.size w1 w2) := HBr.out.trans (HB2.out.mono HBr.out.size)
        go_wp2_with (at_builtin; refine append_strip (w := w2) (hgt := hg) rfl _ _ rfl rfl rfl rfl HX2.out HU.out (by have := HXlen.out; omega) HBw2.out.size ?_)
        intro v3 w3 hX3 hB3
        have HX3 : Hid (Stl w3 w1.heap.size v3 (X ++ [(.slice ua un uc, stP zs i j, hg)])) := hX3
        have HXs3 : Hid ((X ++ [((.slice ua un uc : Value), stP zs i j, hg)]).map Prod.snd = stUp zs k (t + 1)) := by show _ = _; rw [HAt.out, List.map_append, HXs.out]; first | done | rfl
        have HB3 : Hid (Below w1.heap.size w1 w3) := HBw2.out.trans hB3
        obtain ⟨v3a, v3c, hv3⟩ := hX3.shape
        have HI2 : Hid (t + 1 ≤ nl ∧ (i : Int) - 1 = (nl : Int) - 1 - ((t + 1 : Nat) : Int)) := by have h1 := HtI.out; exact ⟨by omega, by omega⟩
        clear hX3 hB3 HCW
        subst hv3
        go_wp2
        exact ⟨⟨t + 1, (i : Int) - 1, _, HI2, by omega, by omega, rfl, HX3, HXs3, HB3⟩, by simp [intOf] <;> omega⟩
      · have HCI : Hid (Calls Try.prog 18 #[.slice ai ni ci, .int .i64 (k : Int)] wr fun e w' => e = .returned (.int .i64 (-1)) ∧ w' = wr) := by
          have := Index_any ai ci (hkW zs i) (k : Int) (-1) wr HS1.out (hk_idx0 fun j h1 h2 => hj ⟨j, h1, h2⟩)
          rw [hkW_len, ← HN1.out] at this
          exact this
        have HXs3 : Hid (X.map Prod.snd = stUp zs k (t + 1)) := by
          show _ = _
          rw [stUp_succ, HI.out.1, stAt_none (fun j h1 h2 => hj ⟨j, h1, h2⟩), List.append_nil]; exact HXs.out
        have HI2 : Hid (t + 1 ≤ nl ∧ (i : Int) - 1 = (nl : Int) - 1 - ((t + 1 : Nat) : Int)) := by have h1 := HtI.out; exact ⟨by omega, by omega⟩
        clear hj
        go_wp2_with fail
        refine HCI.out.mono ?_
        rintro e w2 ⟨rfl, hw2⟩
        obtain rfl : wr = w2 := hw2.symm
        clear hw2 HCI
        go_wp2
        exact ⟨⟨t + 1, (i : Int) - 1, X, HI2, by omega, by omega, rfl, HX, HXs3, HBr⟩, by simp [intOf] <;> omega⟩
    · have HXe : Hid (X.map Prod.snd = stpL zs k) := by
        have h1 := HtI.out
        have h2 := HN.out
        have h3 : t = zs.length := by omega
        rw [← show stUp zs k t = stpL zs k by rw [h3]; rfl]; exact HXs.out
      obtain ⟨va, vc, hvs⟩ := HX.out.shape
      subst hvs
      go_wp2
      go_ret2
      exact ⟨_, rfl, X, HX.out.mono HB1.out.size, HXe.out, HBw.out⟩

end Go.Proofs.Ytheebpjkjclgbaa
