/-
  The contract of ferref.Undone.
-/
import Derived.Test.YtpbmcaoomcippadIPrs
import Derived.Test.YtpbmcaoomcippadITwn
namespace Go.Proofs.Ytpbmcaoomcippad
open Go.RowKit

theorem pc_snoc (l : List (Int × Int)) (x y : Int) : pc (l ++ [(x, y)]) = pc l ++ [.int .i64 x, .int .i64 y] := by
  unfold pc; rw [List.map_append, List.flatten_append]; rfl
theorem run_append_pair {w : World} {base N : Nat} {v : Value} {x y : Int} {l : List (Int × Int)} (ty : TypeId) (hown : OwnsP w base v l) (hN : N = w.heap.size) (h63 : l.length + 1 ≤ 1000) (hbase : base ≤ w.heap.size) :
    ∃ v' w', (Builtin.append_ #[36, 36] ty #[v, .slice (some ⟨N, 0, none⟩) 1 1]).run Try.prog (w.alloc (.cells #[.int .i64 x, .int .i64 y] 39)) = .ok v' w' ∧ OwnsP w' base v' (l ++ [(x, y)]) ∧ Below base w w' := by
  subst hN
  obtain ⟨i0, hi, hz0, hz1, hz2⟩ := info_parts Try.infoP
  have hb : Below w.heap.size w (w.alloc (.cells #[.int .i64 x, .int .i64 y] 39)) := (Below.refl _ _).alloc (Nat.le_refl _) _
  have hown2 : (w.alloc (.cells #[.int .i64 x, .int .i64 y] 39)).ownsRow base 39 2 v l.length (pc l) := hown.below hb
  obtain ⟨v', w', hrun, r1, r2, _⟩ := run_append_own (P := Try.prog) (w.alloc (.cells #[.int .i64 x, .int .i64 y] 39)) base 36 ty 39 i0 (.agg #[.int .i64 0, .int .i64 0]) 2 16 Try.underlyingP hi hz0 hz1 hz2 rfl (by decide) v l.length (pc l) hown2 ⟨w.heap.size, 0, none⟩ 1 1 [.int .i64 x, .int .i64 y] rfl
    (fun j u hj => by
      match j, hj with
      | 0, hj => simp at hj; subst hj; rw [Addr.add_lit, World.cell?_alloc_at _ _ _ _ rfl]; rfl
      | 1, hj => simp at hj; subst hj; rw [Addr.add_lit, World.cell?_alloc_at _ _ _ _ rfl]; rfl) (fun u hu => by simp at hu; rcases hu with rfl | rfl <;> rfl) (by unfold maxLen; omega) (by omega) (by simp; omega)
  refine ⟨v', w', hrun, ?_, (hb.mono hbase).trans ((Below.refl base _).grown r2 (by simp; omega) (fun k hk => (hown.lt k hk).1))⟩
  unfold OwnsP
  rw [pc_snoc, List.length_append, List.length_singleton]; exact r1
theorem append_pair {w : World} {base N : Nat} {v : Value} {x y : Int} {l : List (Int × Int)} {ops : Array Oper} {rest : List Oper} {o : Oper} {a : Act} {Q : Exit → Act → World → Prop} (hgd : o.guard = none) (s z : Operand)
    (ho : o.op = .call { callee := .builtin .append, args := #[s, z], argTypes := #[36, 36] }) (hs : a.eval s = v) (hx : a.eval z = .slice (some ⟨N, 0, none⟩) 1 1) (hN : N = w.heap.size) (hown : OwnsP w base v l) (h63 : l.length + 1 ≤ 1000) (hbase : base ≤ w.heap.size)
    (h : ∀ v' w', OwnsP w' base v' (l ++ [(x, y)]) → Below base w w' → wpList Try.prog ops Q rest (a.put o.dst v') w') :
    wpList Try.prog ops Q (o :: rest) a (w.alloc (.cells #[.int .i64 x, .int .i64 y] 39)) := by
  refine wpList_plain hgd fun K hK => ?_
  obtain ⟨v', w', hrun, r1, r2⟩ := run_append_pair (x := x) (y := y) o.type hown hN h63 hbase
  unfold Oper.wp
  simp [execOp, ho, resolve, invoke, builtin, hs, hx, hrun, Result.andThen]
  exact hK _ _ (h v' w' r1 r2)

/-- A row's last letter is cut off, in place. -/
theorem TblIn.cut {w : World} {lo g n cap i h e ch : Nat} {S : Nat → Prop} {vs : List Value} {ls : List (List Int)} (hV : TblIn w lo S (.slice (some ⟨g, 0, none⟩) n cap) vs ls) (hi : i < ls.length) (hrv : rowv vs i = .slice (some ⟨h, 0, none⟩) (e + 1) ch) (He : e + 1 = (row ls i).length) :
    TblIn (w.setCell ⟨g, i, none⟩ (.slice (some ⟨h, 0, none⟩) e ch)) lo S (.slice (some ⟨g, 0, none⟩) n cap) (vs.set i (.slice (some ⟨h, 0, none⟩) e ch)) (ls.set i (row ls i).dropLast) := by
  have hrow := hV.t.rows i hi
  rw [hrv] at hrow
  have hO2 : Owns w lo (.slice (some ⟨h, 0, none⟩) e ch) (row ls i).dropLast := by
    have := hrow.front He (by omega)
    rw [Nat.add_sub_cancel] at this
    exact this
  have hk : KeepB (rowv vs i) (.slice (some ⟨h, 0, none⟩) e ch) w w := ⟨Nat.le_refl _, fun _ _ _ => rfl, fun q e2 => by rw [hrv]; exact Or.inl e2⟩
  obtain ⟨p1, p2⟩ := hV.setRow hi hO2 hk
  exact ⟨p1.t, hV.hd, fun j hj k ek => by
      rcases p1.rs j hj k ek with q | q
      · exact q
      · omega⟩
theorem tk_up' {ls : List (List Int)} {i a : Nat} (ha : a < i) : row (tk ls i) a = row ls a := tk_up ha

set_option maxHeartbeats 16000000 in
set_option maxRecDepth 100000 in
theorem Undone_at : ∀ (N : Nat) {p q : List (List Int)} (a b : Option Addr) (n m ca cb : Nat) (w : World), Table w a p → Table w b q → n = p.length → m = q.length → PQ N p q → N ≤ 40 → (∀ z ∈ p.flatten, 1 ≤ z ∧ z ≤ 99) →
    Calls Try.prog 17 #[.slice a n ca, .slice b m cb] w fun e w' => ∃ v, e = .returned v ∧ OwnsP w' w.heap.size v (undo N p q) ∧ Below w.heap.size w w' := by
  intro N
  induction N with
  | zero =>
    intro p q a b n m ca cb w hp hq hn hm h _ _
    subst hn; subst hm
    have hq0 : q = [] := by
      have h1 := h.cnt
      have h2 := h.tq
      cases q with
      | nil => rfl
      | cons r t => have := h2.1; rw [List.flatten_cons, List.length_append] at h1; omega
    have hp0 : p = [] := List.eq_nil_of_length_eq_zero (by rw [h.len, hq0]; rfl)
    subst hq0; subst hp0
    go_enter Try.func17, Try.ntmps17
    go_wp2
    go_ret
    exact ⟨_, rfl, World.ownsRow_nil _ _ _ _, Below.refl _ _⟩
  | succ N ih =>
    intro p q a b n m ca cb w hp hq hn hm h hN hbp
    subst hn; subst hm
    have HIH : Hid (∀ {p q : List (List Int)} (a b : Option Addr) (n m ca cb : Nat) (w : World), Table w a p → Table w b q → n = p.length → m = q.length → PQ N p q → N ≤ 40 → (∀ z ∈ p.flatten, 1 ≤ z ∧ z ≤ 99) →
      Calls Try.prog 17 #[.slice a n ca, .slice b m cb] w fun e w' => ∃ v, e = .returned v ∧ OwnsP w' w.heap.size v (undo N p q) ∧ Below w.heap.size w w') := ih
    have HP : Hid (Table w a p) := hp
    have HQ : Hid (Table w b q) := hq
    have H : Hid (PQ (N + 1) p q) := h
    have HBp : Hid (∀ z ∈ p.flatten, 1 ≤ z ∧ z ≤ 99) := hbp
    have hsm := h.small hN
    have HSm : Hid ((q.length ≤ 1000 ∧ ∀ r ∈ q, 0 < r.length ∧ r.length ≤ 1000) ∧ (p.length ≤ 1000 ∧ ∀ r ∈ p, 0 < r.length ∧ r.length ≤ 1000)) := ⟨hsm.1, hsm.2.1⟩
    have hql := hsm.1.1
    have hpl : 0 < p.length := by rw [h.len]; exact h.some
    have hpb : ((p.length : Int) == 0) = false := by simp; intro e; rw [e] at hpl; simp at hpl
    clear ih hp hq h hbp hsm
    go_enter Try.func17, Try.ntmps17
    go_wp2
    go_loopw [5, 6, 7] (fun av gv iv wr => ∃ (k j : Nat) (g : Int), k ≤ q.length ∧ iv = .int .i64 k ∧ gv = .int .i64 g ∧ av = .int .i64 j ∧ Hid (k = 0 → g = 0 ∧ j = 0) ∧ Hid (0 < k → j < k ∧ g = lastOf (row q j) ∧ ∀ b, b < k → lastOf (row q b) ≤ g ∧ (b < j → lastOf (row q b) < g)) ∧ ∃ d, wr = w.drewN d) (fun _ _ iv _ => q.length - (intOf iv).toNat)
    case atStart => exact ⟨0, 0, 0, Nat.zero_le _, rfl, rfl, rfl, fun _ => ⟨rfl, rfl⟩, fun h => by omega, 0, rfl⟩
    case round =>
      obtain ⟨k, j, g, hk, rfl, rfl, rfl, HZ0, HI, d, rfl⟩ := hrel
      by_cases hlt : k < q.length
      · have hlt' : (k : Int) < (q.length : Int) := by omega
        obtain ⟨b, off, ai, m, ci, rfl, hc, HM, HSk, -, hmb⟩ := HQ.out.elem hlt
        have hrp := HSm.out.1.2 _ (row_mem hlt)
        obtain ⟨e, He⟩ : ∃ e, Hid (m = e + 1) := ⟨m - 1, by show _ = _; have h2 : 0 < (row q k).length := hrp.1; rw [← HM.out] at h2; omega⟩
        have hm1000 : e + 1 ≤ 1000 := by rw [← He.out, HM.out]; exact hrp.2
        have hm := He.out
        subst hm
        have hek : e < (row q k).length := by rw [← HM.out]; omega
        obtain ⟨b2, off2, z, rfl, HZ, -, -, hcz⟩ := HSk.out.elem hek
        have HL : Hid (z = lastOf (row q k)) := by show _ = _; rw [HZ.out]; unfold lastOf; rw [← HM.out]; simp
        have hz1 : 1 ≤ z := by rw [HZ.out]; exact (H.out.bd _ (box_mem hlt hek)).1
        have hsub : IntKind.i64.wrap (((e + 1 : Nat) : Int) - 1) = (e : Int) := by rw [IntWalk.i64_left, IntWalk.wrap64_in _ (by omega)]; omega
        have hle : (e : Int) < ((e + 1 : Nat) : Int) := by omega
        clear hrp hek HZ He
        by_cases hgt : z > g
        · have HG : Hid (z > g) := hgt
          go_wp2_with fail
          go_quiet (fail)
          go_wp2
          go_roundw
          case rel =>
            refine ⟨k + 1, k, z, by omega, by go_num, rfl, rfl, fun h => by omega, fun _ => ⟨by omega, HL.out, fun b hb => ?_⟩, _, by first | exact rfl | exact drewN_two _ _ _⟩
            by_cases e2 : b = k
            · subst e2; exact ⟨by rw [HL.out]; exact Int.le_refl _, fun h => by omega⟩
            · have := HI.out (by omega)
              have q := (this.2.2 b (by omega)).1
              have := HG.out
              exact ⟨by omega, fun _ => by omega⟩
          case measure => simp [intOf]; omega
        · have HG : Hid (¬ z > g) := hgt
          have hk0 : 0 < k := Nat.pos_of_ne_zero (fun h => by have := HZ0.out h; omega)
          go_wp2_with fail
          go_quiet (fail)
          go_wp2
          go_roundw
          case rel =>
            refine ⟨k + 1, j, g, by omega, by go_num, rfl, rfl, fun h => by omega, fun _ => ?_, _, by first | exact rfl | exact drewN_two _ _ _⟩
            obtain ⟨i1, i2, i3⟩ := HI.out hk0
            refine ⟨by omega, i2, fun b hb => ?_⟩
            by_cases e2 : b = k
            · subst e2; rw [← HL.out]; have := HG.out; exact ⟨by omega, fun h => by omega⟩
            · exact i3 b (by omega)
          case measure => simp [intOf]; omega
      · obtain rfl : k = q.length := by omega
        have hlt' : ¬ (q.length : Int) < (q.length : Int) := by omega
        have HTop : Hid (top q = j ∧ g = lastOf (row q j) ∧ j < q.length ∧ j < p.length) := by
          obtain ⟨i1, i2, i3⟩ := HI.out H.out.some
          exact ⟨(top_is H.out.some).uniq ⟨i1, fun b hb => by rw [← i2]; exact (i3 b hb).1, fun b hb => by rw [← i2]; exact (i3 b (by omega)).2 hb⟩, i2, i1, by rw [H.out.len]; exact i1⟩
        have HStep : Hid (PQ N (un j p).2 (tk q j)) := by have := H.out.step; rw [HTop.out.1] at this; exact this
        have HB0 : Hid (Below w.heap.size w (w.drewN d)) := below_drewN (Below.refl _ _) d
        obtain ⟨w0, HW0⟩ : ∃ w0, Hid (w0 = w.drewN d) := ⟨_, rfl⟩
        rw [← HW0.out]
        rw [← HW0.out] at HB0
        clear HZ0 HI
        go_wp2_with fail
        refine (Twin_i _ _ _ _ _ (HP.out.below HB0.out) rfl HSm.out.2.1 (fun r hr => by have := HSm.out.2.2 r hr; omega)).mono ?_
        rintro e w1 ⟨v1, rfl, hT1, hb1⟩
        have HT1 : Hid (Tbl w1 w0.heap.size v1 p) := hT1
        have HB1 : Hid (Below w.heap.size w w1) := HB0.out.trans (hb1.mono HB0.out.size)
        have HZ1 : Hid (w0.heap.size ≤ w1.heap.size) := hb1.size
        clear hT1 hb1
        go_wp2_with fail
        refine (Twin_i _ _ _ _ _ (HQ.out.below HB1.out) rfl HSm.out.1.1 (fun r hr => by have := HSm.out.1.2 r hr; omega)).mono ?_
        rintro e w2 ⟨u1, rfl, hU1, hb2⟩
        obtain ⟨Sp, HSp⟩ : ∃ S : Nat → Prop, Hid (S = fun k => w0.heap.size ≤ k ∧ k < w1.heap.size) := ⟨_, rfl⟩
        obtain ⟨Sq, HSq⟩ : ∃ S : Nat → Prop, Hid (S = fun k => w1.heap.size ≤ k ∧ k < w2.heap.size) := ⟨_, rfl⟩
        have HP2 : Hid (TIn w2 w.heap.size Sp v1 p) := by
          have := TIn.of_tbl HT1.out
          rw [← HSp.out] at this
          obtain ⟨vs, this⟩ := this
          exact ⟨vs, (this.same (fun k hk => by rw [HSp.out] at hk; exact hb2.block k hk.2)).mono HB0.out.size⟩
        have HQ2 : Hid (TIn w2 w.heap.size Sq u1 q) := by
          have := TIn.of_tbl hU1
          rw [← HSq.out] at this
          obtain ⟨vs, this⟩ := this
          exact ⟨vs, this.mono HB1.out.size⟩
        have HB2 : Hid (Below w.heap.size w w2) := HB1.out.trans (hb2.mono HB1.out.size)
        have HSd : Hid ((∀ k, Sp k → w.heap.size ≤ k ∧ k < w2.heap.size) ∧ (∀ k, Sq k → w.heap.size ≤ k ∧ k < w2.heap.size) ∧ ∀ k, Sp k → ¬ Sq k) := by
          have s0 := HB0.out.size
          have s1 := HZ1.out
          have s2 := hb2.size
          rw [HSp.out, HSq.out]
          exact ⟨fun k hk => by omega, fun k hk => by omega, fun k hk hk2 => by omega⟩
        clear hU1 hb2 HT1
        -- the last letters
        obtain ⟨ps, hPV⟩ := HP2.out
        obtain ⟨qs, hQV⟩ := HQ2.out
        obtain ⟨gp, np, cp, hpv, HNp, hgp1, hgp2, hfgp, hcellp⟩ := hPV.t.head (by have := HTop.out; omega)
        obtain ⟨gq, nqq, cq, hqv, HNq, hgq1, hgq2, hfgq, hcellq⟩ := hQV.t.head (by have := HTop.out; omega)
        subst hpv; subst hqv
        have hcp := hcellp j HTop.out.2.2.2
        have hcq := hcellq j HTop.out.2.2.1
        have hfp := hfgp j
        have hfq := hfgq j
        have hrpp := HSm.out.2.2 _ (row_mem HTop.out.2.2.2)
        have hrpq := HSm.out.1.2 _ (row_mem HTop.out.2.2.1)
        obtain ⟨hp, chp, hrvp, hhp1, hhp2, hhfp, hhcp⟩ := (hPV.t.rows j HTop.out.2.2.2).head hrpp.1
        obtain ⟨hq, chq, hrvq, hhq1, hhq2, hhfq, hhcq⟩ := (hQV.t.rows j HTop.out.2.2.1).head hrpq.1
        obtain ⟨e, He⟩ : ∃ e, Hid (e + 1 = (row p j).length) := ⟨(row p j).length - 1, by show _ = _; have h2 : 0 < (row p j).length := hrpp.1; omega⟩
        have Heq : Hid (e + 1 = (row q j).length) := by rw [← H.out.lens]; exact He.out
        have he1 : e + 1 ≤ 1000 := by rw [He.out]; exact hrpp.2
        have hrvp' : rowv ps j = .slice (some ⟨hp, 0, none⟩) (e + 1) chp := by rw [hrvp, He.out]; rfl
        have hrvq' : rowv qs j = .slice (some ⟨hq, 0, none⟩) (e + 1) chq := by rw [hrvq, Heq.out]; rfl
        rw [hrvp'] at hcp
        rw [hrvq'] at hcq
        have hcapp : e + 1 ≤ chp := by
          have hrow := hPV.t.rows j HTop.out.2.2.2
          rw [hrvp'] at hrow
          exact (ownsRow_cap (n := e + 1) (xs := (row p j).map (Value.int .i64)) (by unfold Owns at hrow; rw [show (p.getD j []).length = e + 1 from He.out.symm] at hrow; exact hrow)).1
        have hcapq : e + 1 ≤ chq := by
          have hrow := hQV.t.rows j HTop.out.2.2.1
          rw [hrvq'] at hrow
          exact (ownsRow_cap (n := e + 1) (xs := (row q j).map (Value.int .i64)) (by unfold Owns at hrow; rw [show (q.getD j []).length = e + 1 from Heq.out.symm] at hrow; exact hrow)).1
        have hcgp : np ≤ cp := by have := hPV.t.own; rw [hPV.t.len, ← HNp.out] at this; exact (ownsRow_cap this).1
        have hcgq : nqq ≤ cq := by have := hQV.t.own; rw [hQV.t.len, ← HNq.out] at this; exact (ownsRow_cap this).1
        obtain ⟨x0, HX0⟩ : ∃ x0, Hid (x0 = lastOf (row p j)) := ⟨_, rfl⟩
        have hce : w2.cell? ⟨hp, e, none⟩ = some (.int .i64 x0) := by
          rw [hhcp e (by rw [show (p.getD j []).length = e + 1 from He.out.symm]; omega), HX0.out]
          unfold lastOf; rw [← He.out]; simp; rfl
        have hsub : IntKind.i64.wrap (((e + 1 : Nat) : Int) - 1) = (e : Int) := by rw [IntWalk.i64_left, IntWalk.wrap64_in _ (by omega)]; omega
        have hle : (e : Int) < ((e + 1 : Nat) : Int) := by omega
        have hlep : (e : Int) ≤ (chp : Int) := by omega
        have hleq : (e : Int) ≤ (chq : Int) := by omega
        have hjp : (j : Int) < (np : Int) := by have := HTop.out.2.2.2; have := HNp.out; omega
        have hjq : (j : Int) < (nqq : Int) := by have := HTop.out.2.2.1; have := HNq.out; omega
        have hjcp : (j : Int) ≤ (cp : Int) := by omega
        have hjcq : (j : Int) ≤ (cq : Int) := by omega
        have HgS : Hid (Sp gp ∧ Sq gq) := ⟨hPV.hd gp rfl, hQV.hd gq rfl⟩
        have hgne : gp ≠ gq := fun e => HSd.out.2.2 gp HgS.out.1 (by rw [e]; exact HgS.out.2)
        -- the world behind both cuts
        have hP5 := (hPV.cut HTop.out.2.2.2 hrvp' He.out).same (w' := ((w2.setCell ⟨gp, j, none⟩ (.slice (some ⟨hp, 0, none⟩) e chp)).setCell ⟨gq, j, none⟩ (.slice (some ⟨hq, 0, none⟩) e chq))) (fun k hk => heap_setCell_other _ _ _ _ (fun ek => by simp only at ek; subst ek; exact HSd.out.2.2 _ hk HgS.out.2))
        have hQ5 := (hQV.same (w' := w2.setCell ⟨gp, j, none⟩ (.slice (some ⟨hp, 0, none⟩) e chp)) (fun k hk => heap_setCell_other _ _ _ _ (fun ek => by simp only at ek; subst ek; exact HSd.out.2.2 _ HgS.out.1 hk))).cut HTop.out.2.2.1 hrvq' Heq.out
        have HP5 : Hid (TblIn ((w2.setCell ⟨gp, j, none⟩ (.slice (some ⟨hp, 0, none⟩) e chp)).setCell ⟨gq, j, none⟩ (.slice (some ⟨hq, 0, none⟩) e chq)) w.heap.size Sp (.slice (some ⟨gp, 0, none⟩) np cp) (ps.set j (.slice (some ⟨hp, 0, none⟩) e chp)) (p.set j (row p j).dropLast)) := hP5
        have HQ5 : Hid (TblIn ((w2.setCell ⟨gp, j, none⟩ (.slice (some ⟨hp, 0, none⟩) e chp)).setCell ⟨gq, j, none⟩ (.slice (some ⟨hq, 0, none⟩) e chq)) w.heap.size Sq (.slice (some ⟨gq, 0, none⟩) nqq cq) (qs.set j (.slice (some ⟨hq, 0, none⟩) e chq)) (q.set j (row q j).dropLast)) := hQ5
        have HB5 : Hid (Below w.heap.size w ((w2.setCell ⟨gp, j, none⟩ (.slice (some ⟨hp, 0, none⟩) e chp)).setCell ⟨gq, j, none⟩ (.slice (some ⟨hq, 0, none⟩) e chq))) := (HB2.out.setCell (p := ⟨gp, j, none⟩) hgp1 _).setCell (p := ⟨gq, j, none⟩) hgq1 _
        have hcq1 : (w2.setCell ⟨gp, j, none⟩ (.slice (some ⟨hp, 0, none⟩) e chp)).cell? ⟨gq, j, none⟩ = some (.slice (some ⟨hq, 0, none⟩) (e + 1) chq) := by rw [World.cell?_of_block (heap_setCell_other _ _ _ _ (fun ek => by simp only at ek; exact hgne ek.symm))]; exact hcq
        have hfq1 : (w2.setCell ⟨gp, j, none⟩ (.slice (some ⟨hp, 0, none⟩) e chp)).frozen? ⟨gq, j, none⟩ = false := by rw [World.frozen?_of_block (heap_setCell_other _ _ _ _ (fun ek => by simp only at ek; exact hgne ek.symm))]; exact hfq
        have hcp5 : ((w2.setCell ⟨gp, j, none⟩ (.slice (some ⟨hp, 0, none⟩) e chp)).setCell ⟨gq, j, none⟩ (.slice (some ⟨hq, 0, none⟩) e chq)).cell? ⟨gp, j, none⟩ = some (.slice (some ⟨hp, 0, none⟩) e chp) := by
          rw [World.cell?_of_block (heap_setCell_other _ _ _ _ (fun ek => by simp only at ek; exact hgne ek))]
          have := (hPV.cut HTop.out.2.2.2 hrvp' He.out).t.own
          rw [List.length_set, hPV.t.len, ← HNp.out] at this
          rw [World.ownsRow.cellAt this j (by omega)]
          have hl := hPV.t.len
          have := HTop.out.2.2.2
          rw [List.getElem?_set, if_pos rfl, if_pos (by omega)]
        obtain ⟨w3, HW3⟩ : ∃ w3, Hid (w3 = (w2.setCell ⟨gp, j, none⟩ (.slice (some ⟨hp, 0, none⟩) e chp)).setCell ⟨gq, j, none⟩ (.slice (some ⟨hq, 0, none⟩) e chq)) := ⟨_, rfl⟩
        rw [← HW3.out] at HP5 HQ5 HB5
        clear hPV hQV hrvp hrvq hrvp' hrvq' hrpp hrpq hcellp hcellq hfgp hfgq hhfp hhfq hhcp hhcq hP5 hQ5 HP2 HQ2
        have HUnL : Hid (∀ z ∈ (un j p).2.flatten, 1 ≤ z ∧ z ≤ 99) := fun z hz => by
          have hc := corner_top H.out.tq H.out.some
          rw [HTop.out.1] at hc
          have := un_T H.out.tp HTop.out.2.2.2 (by rw [H.out.lens, H.out.lens]; exact hc)
          exact HBp.out z (by rw [← this.2.1]; exact ins_has.2 z hz)
        have HUs : Hid (((un j p).2.length ≤ 1000 ∧ ∀ r ∈ (un j p).2, r.length ≤ 17592186044416 ∧ ∀ z ∈ r, -9223372036854775808 ≤ z ∧ z ≤ 9223372036854775807) ∧ (∀ r ∈ tk q j, r.length ≤ 17592186044416 ∧ ∀ z ∈ r, -9223372036854775808 ≤ z ∧ z ≤ 9223372036854775807)) := by
          have h1 := HStep.out.small (by omega)
          refine ⟨⟨h1.2.1.1, fun r hr => ⟨by have := (h1.2.1.2 r hr).2; omega, fun z hz => by have := HUnL.out z (List.mem_flatten.2 ⟨r, hr, hz⟩); omega⟩⟩, h1.2.2⟩
        have HTkl : Hid (j ≤ (tk p j).length ∧ (tk p j).length ≤ 1000) := by have := tk_len_le HTop.out.2.2.2; have := HSm.out.2.1; exact ⟨by omega, by omega⟩
        have HTkp : Hid (∀ r ∈ tk p j, 0 < r.length ∧ r.length ≤ 1000) := tk_pos HSm.out.2.2
        have HZ3 : Hid (w3.heap.size = w2.heap.size) := by rw [HW3.out]; show _ = _; simp
        go_wp2_with fail
        go_quiet (fail)
        go_wp2_with fail
        go_region
        go_wp2_with fail
        go_region
        obtain ⟨W, HW⟩ : ∃ W, Hid (W = (((w2.drewN (nq + 1)).setCell ⟨gp, j, none⟩ (.slice (some ⟨hp, 0, none⟩) e chp)).setCell ⟨gq, j, none⟩ (.slice (some ⟨hq, 0, none⟩) e chq)).drew) := ⟨_, rfl⟩
        rw [← HW.out]
        have HP6 : Hid (TblIn W w.heap.size Sp (.slice (some ⟨gp, 0, none⟩) np cp) (ps.set j (.slice (some ⟨hp, 0, none⟩) e chp)) (p.set j (row p j).dropLast)) := by
          rw [HW.out]; exact HP5.out.same (fun _ _ => by rw [HW3.out]; rfl)
        have HQ6 : Hid (TblIn W w.heap.size Sq (.slice (some ⟨gq, 0, none⟩) nqq cq) (qs.set j (.slice (some ⟨hq, 0, none⟩) e chq)) (q.set j (row q j).dropLast)) := by
          rw [HW.out]; exact HQ5.out.same (fun _ _ => by rw [HW3.out]; rfl)
        have HB6 : Hid (Below w.heap.size w W) := by
          rw [HW.out]
          exact below_drewN (((below_drewN HB2.out (nq + 1)).setCell (p := ⟨gp, j, none⟩) hgp1 _).setCell (p := ⟨gq, j, none⟩) hgq1 _) 1
        have HZ6 : Hid (W.heap.size = w2.heap.size) := by rw [HW.out]; show _ = _; simp [World.drew, World.drewN]
        have hcp6 : W.cell? ⟨gp, j, none⟩ = some (.slice (some ⟨hp, 0, none⟩) e chp) := by
          have := HP6.out.t.own
          rw [List.length_set] at this
          have hl : ps.length = np := by have := HP6.out.t.len; rw [List.length_set, List.length_set] at this; rw [HNp.out]; exact this
          rw [hl] at this
          rw [World.ownsRow.cellAt this j (by omega), List.getElem?_set, if_pos rfl, if_pos (by omega)]
        clear hcp hcq hfp hfq hce hcq1 hfq1 hcp5 HP5 HQ5 HB5 hgne HW3
        by_cases he0 : e = 0
        · have HP7 : Hid (TblIn W w.heap.size Sp (.slice (some ⟨gp, 0, none⟩) j cp) ((ps.set j (.slice (some ⟨hp, 0, none⟩) e chp)).take j) (tk p j)) := by
            have := HP6.out.take (k := j) (by rw [List.length_set]; exact HNp.out) (by rw [List.length_set]; exact Nat.le_of_lt HTop.out.2.2.2)
            rw [List.take_set_of_le (l := p) (Nat.le_refl _)] at this
            show TblIn _ _ _ _ _ _
            unfold tk
            rw [if_pos (by rw [← He.out]; omega)]
            exact this
          have HQ7 : Hid (TblIn W w.heap.size Sq (.slice (some ⟨gq, 0, none⟩) j cq) ((qs.set j (.slice (some ⟨hq, 0, none⟩) e chq)).take j) (tk q j)) := by
            have := HQ6.out.take (k := j) (by rw [List.length_set]; exact HNq.out) (by rw [List.length_set]; exact Nat.le_of_lt HTop.out.2.2.1)
            rw [List.take_set_of_le (l := q) (Nat.le_refl _)] at this
            show TblIn _ _ _ _ _ _
            unfold tk
            rw [if_pos (by rw [← Heq.out]; omega)]
            exact this
          have HLen : Hid (j = (tk p j).length ∧ j = (tk q j).length) := by
            rw [tk_length HTop.out.2.2.2, tk_length HTop.out.2.2.1, if_pos (by rw [← He.out]; omega), if_pos (by rw [← Heq.out]; omega)]
            exact ⟨rfl, rfl⟩
          obtain ⟨J, HJ⟩ : ∃ J, Hid (J = j) := ⟨_, rfl⟩
          obtain ⟨K, HK⟩ : ∃ K, Hid (K = j) := ⟨_, rfl⟩
          subst he0
          go_wp2_with fail
          go_quiet (fail)
          obtain ⟨vs, HVs⟩ : ∃ vs, Hid (vs = (ps.set j (.slice (some ⟨hp, 0, none⟩) 0 chp)).take j) := ⟨_, rfl⟩
          rw [← HVs.out] at HP7
          have HQt : Hid (TIn W w.heap.size Sq (.slice (some ⟨gq, 0, none⟩) j cq) (tk q j)) := ⟨_, HQ7.out⟩
          obtain ⟨i1, Hi1⟩ : ∃ i1 : Int, Hid (i1 = (j : Int) - 1) := ⟨_, rfl⟩
          have hj1000 : j ≤ 1000 := by have := HTkl.out; omega
          have hsubj : IntKind.i64.wrap ((j : Int) - 1) = i1 := by rw [IntWalk.i64_left, IntWalk.wrap64_in _ (by omega)]; exact Hi1.out.symm
          have hi1a : -1 ≤ i1 := by rw [Hi1.out]; omega
          have hi1b : i1 < 1000 := by rw [Hi1.out]; omega
          have HPs : Hid (TblIn (W.drewN nq) w.heap.size Sp (.slice (some ⟨gp, 0, none⟩) j cp) vs (tk p j)) := HP7.out.same (fun _ _ => rfl)
          have HQs : Hid (TIn (W.drewN nq) w.heap.size Sq (.slice (some ⟨gq, 0, none⟩) j cq) (tk q j)) := HQt.out.same (fun _ _ => rfl)
          have HBs : Hid (Below w.heap.size w (W.drewN nq)) := below_drewN HB6.out _
          have HZs : Hid ((W.drewN nq).heap.size = w2.heap.size) := HZ6.out
          clear HP6 HQ6 HQ7
          go_wp2
          clear hcp6
          go_loopw [11, 12] (fun xv iv wr => ∃ (k : Nat) (y : Int) (ms : List (List Int)), k ≤ j ∧ iv = .int .i64 ((k : Int) - 1) ∧ xv = .int .i64 y ∧ Hid (ms.length = (tk p j).length) ∧ Hid (TblIn wr w.heap.size Sp (.slice (some ⟨gp, 0, none⟩) j cp) vs ms) ∧ Hid (TIn wr w.heap.size Sq (.slice (some ⟨gq, 0, none⟩) j cq) (tk q j)) ∧ Hid (Below w.heap.size w wr) ∧ Hid (wr.heap.size = w2.heap.size) ∧ Hid (∀ r ∈ ms, 0 < r.length ∧ r.length ≤ 1000) ∧
            Hid (∀ a, a < k → row ms a = row p a) ∧ Hid (0 < k → ∃ c, c < (row p (k - 1)).length ∧ (row p (k - 1)).getD c 0 < y) ∧ Hid (unUp k y ms = un j p)) (fun _ iv _ => ((intOf iv) + 1).toNat)
          case atStart =>
            refine ⟨j, x0, tk p j, Nat.le_refl _, by rw [Hi1.out], rfl, rfl, HPs, HQs, HBs, HZs, HTkp, fun a ha => tk_up ha, fun h0 => ?_, by rw [HX0.out]; rfl⟩
            have t1 := T_row.1 H.out.tp (j - 1) (by have := HTop.out; omega)
            rw [show j - 1 + 1 = j by omega] at t1
            refine ⟨(row p j).length - 1, by have := t1.2.2.1; have := He.out; omega, ?_⟩
            rw [HX0.out]; exact t1.2.2.2 _ (by have := He.out; omega)
          case round =>
            obtain ⟨k, y, ms, hk, rfl, rfl, HLm, HV, HQv, HB, HZ, HR, HUp, HEx, HU⟩ := hrel
            rcases Nat.eq_zero_or_pos k with hk0 | hk0
            · subst hk0
              have hg : decide (((0 : Nat) : Int) - 1 ≥ 0) = false := by decide
              have HE : Hid (un j p = (y, ms)) := HU.out.symm
              have hT9 : TIn wr w.heap.size Sp (.slice (some ⟨gp, 0, none⟩) j cp) (un j p).2 := by rw [HE.out]; exact ⟨vs, HV.out⟩
              obtain ⟨pa, pn, pcp, hpv9, hPT, HPn⟩ := hT9.tbl.table HUs.out.1.2
              obtain ⟨qa, qn, qcp, hqv9, hQT, HQn⟩ := HQv.out.tbl.table HUs.out.2
              simp only [Value.slice.injEq] at hpv9 hqv9
              obtain ⟨rfl, rfl, rfl⟩ := hpv9
              obtain ⟨rfl, rfl, rfl⟩ := hqv9
              have HPT : Hid (Table wr (some ⟨gp, 0, none⟩) (un j p).2) := hPT
              have HQT : Hid (Table wr (some ⟨gq, 0, none⟩) (tk q j)) := hQT
              clear hT9 hPT hQT
              go_wp2_with fail
              refine (HIH.out _ _ _ _ _ _ wr HPT.out HQT.out HPn.out HQn.out HStep.out (by omega) HUnL.out).mono ?_
              rintro e9 w9 ⟨v9, rfl, hO9, hb9⟩
              have HO9 : Hid (OwnsP w9 w.heap.size v9 (undo N (un j p).2 (tk q j))) := hO9.mono HB.out.size
              have HB9 : Hid (Below w.heap.size w w9) := HB.out.trans (hb9.mono HB.out.size)
              have HL9 : Hid ((undo N (un j p).2 (tk q j)).length + 1 ≤ 1000) := by show _ ≤ _; rw [undo_length]; omega
              have HFin : Hid (undo (N + 1) p q = undo N (un j p).2 (tk q j) ++ [(g, y)]) := by
                show _ = _
                simp only [undo]
                rw [HTop.out.1, HTop.out.2.1, HE.out]
              clear hO9 hb9
              go_wp2_with (at_builtin; refine append_pair (x := g) (y := y) rfl _ _ rfl rfl rfl rfl HO9.out HL9.out HB9.out.size ?_)
              intro v10 w10 hO10 hb10
              have HO10 : Hid (OwnsP w10 w.heap.size v10 (undo (N + 1) p q)) := by rw [HFin.out]; exact hO10
              have HB10 : Hid (Below w.heap.size w w10) := HB9.out.trans hb10
              clear hO10 hb10
              go_wp2
              go_ret
              exact ⟨_, rfl, HO10.out, HB10.out⟩
            · obtain ⟨k', hk'⟩ : ∃ k', k = k' + 1 := ⟨k - 1, by omega⟩
              subst hk'
              have hk1 : ((k' + 1 : Nat) : Int) - 1 = (k' : Int) := by omega
              rw [hk1]
              have hg : decide ((k' : Int) ≥ 0) = true := by simp
              have HKm : Hid (k' < ms.length) := by rw [HLm.out]; have := HTkl.out; show _ < _; omega
              have hkN : (k' : Int) < (j : Int) := by have h5 := HLen.out.1; have := HTkl.out; omega
              obtain ⟨gg, n0, c0, hsl, -, hg1, hg2, -, hcells⟩ := HV.out.t.head (by have := HKm.out; omega)
              simp only [Value.slice.injEq, Option.some.injEq, Addr.mk.injEq, and_true] at hsl
              obtain ⟨hgg, -, -⟩ := hsl
              subst hgg
              have hci := hcells k' HKm.out
              have hrp := HR.out _ (row_mem HKm.out)
              obtain ⟨h, ch, hrv, hh1, hh2, hhf, hhc⟩ := (HV.out.t.rows k' HKm.out).head hrp.1
              obtain ⟨m, HMm⟩ : ∃ m, Hid (m = (row ms k').length) := ⟨_, rfl⟩
              have hm1 : m ≤ 1000 := by rw [HMm.out]; exact hrp.2
              have hrv' : rowv vs k' = .slice (some ⟨h, 0, none⟩) m ch := by rw [hrv, HMm.out]; rfl
              rw [hrv'] at hci
              have HRv : Hid (rowv vs k' = .slice (some ⟨h, 0, none⟩) m ch) := hrv'
              have HHc : Hid (∀ j, j < m → wr.cell? ⟨h, j, none⟩ = some (.int .i64 (box ms k' j))) := fun j hj => hhc j (by rw [HMm.out] at hj; exact hj)
              have HHf : Hid (∀ j, wr.frozen? ⟨h, j, none⟩ = false) := hhf
              have HSh : Hid (Sp h) := HV.out.rs k' HKm.out h (by rw [hrv']; rfl)
              have HRow : Hid (row ms k' = row p k') := HUp.out k' (by omega)
              obtain ⟨c, hc1, hc2⟩ : ∃ c, c < (row ms k').length ∧ (row ms k').getD c 0 < y := by
                obtain ⟨c, q1, q2⟩ := HEx.out (by omega)
                rw [show k' + 1 - 1 = k' by omega, ← HRow.out] at q1 q2
                exact ⟨c, q1, q2⟩
              have HBk : Hid (IsBack y (row ms k') (back y (row ms k'))) := back_is ⟨c, hc1, hc2⟩
              have hm0 : 0 < m := by rw [HMm.out]; omega
              obtain ⟨m', HM'⟩ : ∃ m', Hid (m = m' + 1) := ⟨m - 1, by show _ = _; omega⟩
              have hm' := HM'.out
              subst hm'
              have hsub2 : IntKind.i64.wrap (((m' + 1 : Nat) : Int) - 1) = (m' : Int) := by rw [IntWalk.i64_left, IntWalk.wrap64_in _ (by omega)]; omega
              clear hrv hrv' hhc hhf hcells hrp hm0 HM' hc1 hc2
              go_wp2
              go_loopw [11, 13] (fun xv q wq => ∃ jj : Nat, jj ≤ m' ∧ q = .int .i64 jj ∧ xv = .int .i64 y ∧ Hid (∀ b, jj < b → b < m' + 1 → y ≤ box ms k' b) ∧ wq = wr) (fun _ q _ => (intOf q).toNat)
              case atStart => exact ⟨m', Nat.le_refl _, rfl, rfl, fun b h1 h2 => by omega, rfl⟩
              case round =>
                obtain ⟨jj, hj, rfl, rfl, HA, hwq⟩ := hrel
                subst hwq
                have hjm' : (jj : Int) < ((m' + 1 : Nat) : Int) := by omega
                have hjg : decide ((jj : Int) ≥ 0) = true := by simp
                have hcj := HHc.out jj (by omega)
                obtain ⟨z, HZz⟩ : ∃ z, Hid (z = box ms k' jj) := ⟨_, rfl⟩
                rw [← HZz.out] at hcj
                by_cases hzy : z < y
                · have HZY : Hid (z < y) := hzy
                  have HJ : Hid (back y (row ms k') = jj) := HBk.out.uniq ⟨by rw [← HMm.out]; omega, by have := HZY.out; rw [HZz.out] at this; unfold box at this; exact this, fun b h1 h2 => by rw [← HMm.out] at h2; have := HA.out b h1 h2; unfold box at this; exact this⟩
                  have hfj := HHf.out jj
                  have HV2 : Hid (TblIn (wr.setCell ⟨h, jj, none⟩ (.int .i64 y)).drew w.heap.size Sp (.slice (some ⟨gp, 0, none⟩) j cp) vs (ms.set k' ((row ms k').set jj y))) := (HV.out.storeBox HKm.out HRv.out HMm.out jj y).same (fun _ _ => rfl)
                  have HQv2 : Hid (TIn (wr.setCell ⟨h, jj, none⟩ (.int .i64 y)).drew w.heap.size Sq (.slice (some ⟨gq, 0, none⟩) j cq) (tk q j)) := (HQv.out.same (w' := wr.setCell ⟨h, jj, none⟩ (.int .i64 y)) (fun b hb => heap_setCell_other _ _ _ _ (fun ek => by simp only at ek; subst ek; exact HSd.out.2.2 _ HSh.out hb))).same (fun _ _ => rfl)
                  have HB2' : Hid (Below w.heap.size w (wr.setCell ⟨h, jj, none⟩ (.int .i64 y)).drew) := below_drewN (HB.out.setCell (p := ⟨h, jj, none⟩) (HSd.out.1 h HSh.out).1 _) 1
                  have HZ2 : Hid ((wr.setCell ⟨h, jj, none⟩ (.int .i64 y)).drew.heap.size = w2.heap.size) := by have := HZ.out; show _ = _; simpa [World.drew] using this
                  have HR2 : Hid (∀ r ∈ ms.set k' ((row ms k').set jj y), 0 < r.length ∧ r.length ≤ 1000) := set_rows_len HR.out
                  have HUp2 : Hid (∀ a, a < k' → row (ms.set k' ((row ms k').set jj y)) a = row p a) := fun a ha => by rw [row_set, if_neg (by omega)]; exact HUp.out a (by omega)
                  have HEx2 : Hid (0 < k' → ∃ c, c < (row p (k' - 1)).length ∧ (row p (k' - 1)).getD c 0 < z) := fun h0 => by
                    have t1 := T_row.1 H.out.tp (k' - 1) (by have := HTop.out; omega)
                    rw [show k' - 1 + 1 = k' by omega] at t1
                    have hjl : jj < (row p k').length := by rw [← HRow.out, ← HMm.out]; omega
                    refine ⟨jj, by have := t1.2.2.1; omega, ?_⟩
                    rw [HZz.out]; unfold box; rw [HRow.out]; exact t1.2.2.2 jj hjl
                  have HU2 : Hid (unUp k' z (ms.set k' ((row ms k').set jj y)) = un j p) := by
                    show _ = _
                    rw [← HU.out]
                    simp only [unUp]
                    rw [HJ.out, HZz.out]
                  have hsub4 : IntKind.i64.wrap ((k' : Int) - 1) = (k' : Int) - 1 := by rw [IntWalk.i64_left, IntWalk.wrap64_in _ (by omega)]
                  go_wp2_with fail
                  go_region
                  go_wp2
                  go_roundw
                  case rel => exact ⟨k', z, _, by omega, rfl, rfl, by show _ = _; rw [List.length_set]; exact HLm.out, HV2, HQv2, HB2', HZ2, HR2, HUp2, HEx2, HU2⟩
                  case measure => simp [intOf]
                · have HZY : Hid (¬ z < y) := hzy
                  have hj0 : 0 < jj := by
                    refine Nat.pos_of_ne_zero (fun h0 => ?_)
                    subst h0
                    have b1 := HBk.out.less
                    have b2 := HBk.out.lt
                    rw [← HMm.out] at b2
                    by_cases e : back y (row ms k') = 0
                    · rw [e] at b1
                      have := HZz.out; unfold box at this; omega
                    · have := HA.out _ (by omega) b2
                      unfold box at this; omega
                  obtain ⟨j', hj'⟩ : ∃ j', jj = j' + 1 := ⟨jj - 1, by omega⟩
                  subst hj'
                  have hsub3 : IntKind.i64.wrap (((j' + 1 : Nat) : Int) - 1) = (j' : Int) := by rw [IntWalk.i64_left, IntWalk.wrap64_in _ (by omega)]; omega
                  go_wp2
                  go_roundw
                  case rel => exact ⟨j', by omega, rfl, rfl, (fun b h1 h2 => by
                                by_cases e : b = j' + 1
                                · subst e; rw [← HZz.out]; have := HZY.out; omega
                                · exact HA.out b (by omega) h2), by first | rfl | trivial⟩
                  case measure => simp [intOf]
        · have hb0 : ((e : Int) == 0) = false := by simp; omega
          have HP7 : Hid (TblIn W w.heap.size Sp (.slice (some ⟨gp, 0, none⟩) np cp) (ps.set j (.slice (some ⟨hp, 0, none⟩) e chp)) (tk p j)) := by
            show TblIn _ _ _ _ _ _
            unfold tk
            rw [if_neg (by rw [← He.out]; omega)]
            exact HP6.out
          have HQ7 : Hid (TblIn W w.heap.size Sq (.slice (some ⟨gq, 0, none⟩) nqq cq) (qs.set j (.slice (some ⟨hq, 0, none⟩) e chq)) (tk q j)) := by
            show TblIn _ _ _ _ _ _
            unfold tk
            rw [if_neg (by rw [← Heq.out]; omega)]
            exact HQ6.out
          have HLen : Hid (np = (tk p j).length ∧ nqq = (tk q j).length) := by
            rw [tk_length HTop.out.2.2.2, tk_length HTop.out.2.2.1, if_neg (by rw [← He.out]; omega), if_neg (by rw [← Heq.out]; omega)]
            exact ⟨HNp.out, HNq.out⟩
          clear he0
          obtain ⟨vs, HVs⟩ : ∃ vs, Hid (vs = ps.set j (.slice (some ⟨hp, 0, none⟩) e chp)) := ⟨_, rfl⟩
          rw [← HVs.out] at HP7
          have HQt : Hid (TIn W w.heap.size Sq (.slice (some ⟨gq, 0, none⟩) nqq cq) (tk q j)) := ⟨_, HQ7.out⟩
          obtain ⟨i1, Hi1⟩ : ∃ i1 : Int, Hid (i1 = (j : Int) - 1) := ⟨_, rfl⟩
          have hj1000 : j ≤ 1000 := by have := HTkl.out; omega
          have hsubj : IntKind.i64.wrap ((j : Int) - 1) = i1 := by rw [IntWalk.i64_left, IntWalk.wrap64_in _ (by omega)]; exact Hi1.out.symm
          have hi1a : -1 ≤ i1 := by rw [Hi1.out]; omega
          have hi1b : i1 < 1000 := by rw [Hi1.out]; omega
          have HPs : Hid (TblIn W w.heap.size Sp (.slice (some ⟨gp, 0, none⟩) np cp) vs (tk p j)) := HP7.out.same (fun _ _ => rfl)
          have HQs : Hid (TIn W w.heap.size Sq (.slice (some ⟨gq, 0, none⟩) nqq cq) (tk q j)) := HQt.out.same (fun _ _ => rfl)
          have HBs : Hid (Below w.heap.size w W) := HB6.out
          have HZs : Hid (W.heap.size = w2.heap.size) := HZ6.out
          clear HP6 HQ6 HQ7
          go_wp2
          clear hcp6
          go_loopw [11, 12] (fun xv iv wr => ∃ (k : Nat) (y : Int) (ms : List (List Int)), k ≤ j ∧ iv = .int .i64 ((k : Int) - 1) ∧ xv = .int .i64 y ∧ Hid (ms.length = (tk p j).length) ∧ Hid (TblIn wr w.heap.size Sp (.slice (some ⟨gp, 0, none⟩) np cp) vs ms) ∧ Hid (TIn wr w.heap.size Sq (.slice (some ⟨gq, 0, none⟩) nqq cq) (tk q j)) ∧ Hid (Below w.heap.size w wr) ∧ Hid (wr.heap.size = w2.heap.size) ∧ Hid (∀ r ∈ ms, 0 < r.length ∧ r.length ≤ 1000) ∧
            Hid (∀ a, a < k → row ms a = row p a) ∧ Hid (0 < k → ∃ c, c < (row p (k - 1)).length ∧ (row p (k - 1)).getD c 0 < y) ∧ Hid (unUp k y ms = un j p)) (fun _ iv _ => ((intOf iv) + 1).toNat)
          case atStart =>
            refine ⟨j, x0, tk p j, Nat.le_refl _, by rw [Hi1.out], rfl, rfl, HPs, HQs, HBs, HZs, HTkp, fun a ha => tk_up ha, fun h0 => ?_, by rw [HX0.out]; rfl⟩
            have t1 := T_row.1 H.out.tp (j - 1) (by have := HTop.out; omega)
            rw [show j - 1 + 1 = j by omega] at t1
            refine ⟨(row p j).length - 1, by have := t1.2.2.1; have := He.out; omega, ?_⟩
            rw [HX0.out]; exact t1.2.2.2 _ (by have := He.out; omega)
          case round =>
            obtain ⟨k, y, ms, hk, rfl, rfl, HLm, HV, HQv, HB, HZ, HR, HUp, HEx, HU⟩ := hrel
            rcases Nat.eq_zero_or_pos k with hk0 | hk0
            · subst hk0
              have hg : decide (((0 : Nat) : Int) - 1 ≥ 0) = false := by decide
              have HE : Hid (un j p = (y, ms)) := HU.out.symm
              have hT9 : TIn wr w.heap.size Sp (.slice (some ⟨gp, 0, none⟩) np cp) (un j p).2 := by rw [HE.out]; exact ⟨vs, HV.out⟩
              obtain ⟨pa, pn, pcp, hpv9, hPT, HPn⟩ := hT9.tbl.table HUs.out.1.2
              obtain ⟨qa, qn, qcp, hqv9, hQT, HQn⟩ := HQv.out.tbl.table HUs.out.2
              simp only [Value.slice.injEq] at hpv9 hqv9
              obtain ⟨rfl, rfl, rfl⟩ := hpv9
              obtain ⟨rfl, rfl, rfl⟩ := hqv9
              have HPT : Hid (Table wr (some ⟨gp, 0, none⟩) (un j p).2) := hPT
              have HQT : Hid (Table wr (some ⟨gq, 0, none⟩) (tk q j)) := hQT
              clear hT9 hPT hQT
              go_wp2_with fail
              refine (HIH.out _ _ _ _ _ _ wr HPT.out HQT.out HPn.out HQn.out HStep.out (by omega) HUnL.out).mono ?_
              rintro e9 w9 ⟨v9, rfl, hO9, hb9⟩
              have HO9 : Hid (OwnsP w9 w.heap.size v9 (undo N (un j p).2 (tk q j))) := hO9.mono HB.out.size
              have HB9 : Hid (Below w.heap.size w w9) := HB.out.trans (hb9.mono HB.out.size)
              have HL9 : Hid ((undo N (un j p).2 (tk q j)).length + 1 ≤ 1000) := by show _ ≤ _; rw [undo_length]; omega
              have HFin : Hid (undo (N + 1) p q = undo N (un j p).2 (tk q j) ++ [(g, y)]) := by
                show _ = _
                simp only [undo]
                rw [HTop.out.1, HTop.out.2.1, HE.out]
              clear hO9 hb9
              go_wp2_with (at_builtin; refine append_pair (x := g) (y := y) rfl _ _ rfl rfl rfl rfl HO9.out HL9.out HB9.out.size ?_)
              intro v10 w10 hO10 hb10
              have HO10 : Hid (OwnsP w10 w.heap.size v10 (undo (N + 1) p q)) := by rw [HFin.out]; exact hO10
              have HB10 : Hid (Below w.heap.size w w10) := HB9.out.trans hb10
              clear hO10 hb10
              go_wp2
              go_ret
              exact ⟨_, rfl, HO10.out, HB10.out⟩
            · obtain ⟨k', hk'⟩ : ∃ k', k = k' + 1 := ⟨k - 1, by omega⟩
              subst hk'
              have hk1 : ((k' + 1 : Nat) : Int) - 1 = (k' : Int) := by omega
              rw [hk1]
              have hg : decide ((k' : Int) ≥ 0) = true := by simp
              have HKm : Hid (k' < ms.length) := by rw [HLm.out]; have := HTkl.out; show _ < _; omega
              have hkN : (k' : Int) < (np : Int) := by have h5 := HLen.out.1; have := HTkl.out; omega
              obtain ⟨gg, n0, c0, hsl, -, hg1, hg2, -, hcells⟩ := HV.out.t.head (by have := HKm.out; omega)
              simp only [Value.slice.injEq, Option.some.injEq, Addr.mk.injEq, and_true] at hsl
              obtain ⟨hgg, -, -⟩ := hsl
              subst hgg
              have hci := hcells k' HKm.out
              have hrp := HR.out _ (row_mem HKm.out)
              obtain ⟨h, ch, hrv, hh1, hh2, hhf, hhc⟩ := (HV.out.t.rows k' HKm.out).head hrp.1
              obtain ⟨m, HMm⟩ : ∃ m, Hid (m = (row ms k').length) := ⟨_, rfl⟩
              have hm1 : m ≤ 1000 := by rw [HMm.out]; exact hrp.2
              have hrv' : rowv vs k' = .slice (some ⟨h, 0, none⟩) m ch := by rw [hrv, HMm.out]; rfl
              rw [hrv'] at hci
              have HRv : Hid (rowv vs k' = .slice (some ⟨h, 0, none⟩) m ch) := hrv'
              have HHc : Hid (∀ j, j < m → wr.cell? ⟨h, j, none⟩ = some (.int .i64 (box ms k' j))) := fun j hj => hhc j (by rw [HMm.out] at hj; exact hj)
              have HHf : Hid (∀ j, wr.frozen? ⟨h, j, none⟩ = false) := hhf
              have HSh : Hid (Sp h) := HV.out.rs k' HKm.out h (by rw [hrv']; rfl)
              have HRow : Hid (row ms k' = row p k') := HUp.out k' (by omega)
              obtain ⟨c, hc1, hc2⟩ : ∃ c, c < (row ms k').length ∧ (row ms k').getD c 0 < y := by
                obtain ⟨c, q1, q2⟩ := HEx.out (by omega)
                rw [show k' + 1 - 1 = k' by omega, ← HRow.out] at q1 q2
                exact ⟨c, q1, q2⟩
              have HBk : Hid (IsBack y (row ms k') (back y (row ms k'))) := back_is ⟨c, hc1, hc2⟩
              have hm0 : 0 < m := by rw [HMm.out]; omega
              obtain ⟨m', HM'⟩ : ∃ m', Hid (m = m' + 1) := ⟨m - 1, by show _ = _; omega⟩
              have hm' := HM'.out
              subst hm'
              have hsub2 : IntKind.i64.wrap (((m' + 1 : Nat) : Int) - 1) = (m' : Int) := by rw [IntWalk.i64_left, IntWalk.wrap64_in _ (by omega)]; omega
              clear hrv hrv' hhc hhf hcells hrp hm0 HM' hc1 hc2
              go_wp2
              go_loopw [11, 13] (fun xv q wq => ∃ jj : Nat, jj ≤ m' ∧ q = .int .i64 jj ∧ xv = .int .i64 y ∧ Hid (∀ b, jj < b → b < m' + 1 → y ≤ box ms k' b) ∧ wq = wr) (fun _ q _ => (intOf q).toNat)
              case atStart => exact ⟨m', Nat.le_refl _, rfl, rfl, fun b h1 h2 => by omega, rfl⟩
              case round =>
                obtain ⟨jj, hj, rfl, rfl, HA, hwq⟩ := hrel
                subst hwq
                have hjm' : (jj : Int) < ((m' + 1 : Nat) : Int) := by omega
                have hjg : decide ((jj : Int) ≥ 0) = true := by simp
                have hcj := HHc.out jj (by omega)
                obtain ⟨z, HZz⟩ : ∃ z, Hid (z = box ms k' jj) := ⟨_, rfl⟩
                rw [← HZz.out] at hcj
                by_cases hzy : z < y
                · have HZY : Hid (z < y) := hzy
                  have HJ : Hid (back y (row ms k') = jj) := HBk.out.uniq ⟨by rw [← HMm.out]; omega, by have := HZY.out; rw [HZz.out] at this; unfold box at this; exact this, fun b h1 h2 => by rw [← HMm.out] at h2; have := HA.out b h1 h2; unfold box at this; exact this⟩
                  have hfj := HHf.out jj
                  have HV2 : Hid (TblIn (wr.setCell ⟨h, jj, none⟩ (.int .i64 y)).drew w.heap.size Sp (.slice (some ⟨gp, 0, none⟩) np cp) vs (ms.set k' ((row ms k').set jj y))) := (HV.out.storeBox HKm.out HRv.out HMm.out jj y).same (fun _ _ => rfl)
                  have HQv2 : Hid (TIn (wr.setCell ⟨h, jj, none⟩ (.int .i64 y)).drew w.heap.size Sq (.slice (some ⟨gq, 0, none⟩) nqq cq) (tk q j)) := (HQv.out.same (w' := wr.setCell ⟨h, jj, none⟩ (.int .i64 y)) (fun b hb => heap_setCell_other _ _ _ _ (fun ek => by simp only at ek; subst ek; exact HSd.out.2.2 _ HSh.out hb))).same (fun _ _ => rfl)
                  have HB2' : Hid (Below w.heap.size w (wr.setCell ⟨h, jj, none⟩ (.int .i64 y)).drew) := below_drewN (HB.out.setCell (p := ⟨h, jj, none⟩) (HSd.out.1 h HSh.out).1 _) 1
                  have HZ2 : Hid ((wr.setCell ⟨h, jj, none⟩ (.int .i64 y)).drew.heap.size = w2.heap.size) := by have := HZ.out; show _ = _; simpa [World.drew] using this
                  have HR2 : Hid (∀ r ∈ ms.set k' ((row ms k').set jj y), 0 < r.length ∧ r.length ≤ 1000) := set_rows_len HR.out
                  have HUp2 : Hid (∀ a, a < k' → row (ms.set k' ((row ms k').set jj y)) a = row p a) := fun a ha => by rw [row_set, if_neg (by omega)]; exact HUp.out a (by omega)
                  have HEx2 : Hid (0 < k' → ∃ c, c < (row p (k' - 1)).length ∧ (row p (k' - 1)).getD c 0 < z) := fun h0 => by
                    have t1 := T_row.1 H.out.tp (k' - 1) (by have := HTop.out; omega)
                    rw [show k' - 1 + 1 = k' by omega] at t1
                    have hjl : jj < (row p k').length := by rw [← HRow.out, ← HMm.out]; omega
                    refine ⟨jj, by have := t1.2.2.1; omega, ?_⟩
                    rw [HZz.out]; unfold box; rw [HRow.out]; exact t1.2.2.2 jj hjl
                  have HU2 : Hid (unUp k' z (ms.set k' ((row ms k').set jj y)) = un j p) := by
                    show _ = _
                    rw [← HU.out]
                    simp only [unUp]
                    rw [HJ.out, HZz.out]
                  have hsub4 : IntKind.i64.wrap ((k' : Int) - 1) = (k' : Int) - 1 := by rw [IntWalk.i64_left, IntWalk.wrap64_in _ (by omega)]
                  go_wp2_with fail
                  go_region
                  go_wp2
                  go_roundw
                  case rel => exact ⟨k', z, _, by omega, rfl, rfl, by show _ = _; rw [List.length_set]; exact HLm.out, HV2, HQv2, HB2', HZ2, HR2, HUp2, HEx2, HU2⟩
                  case measure => simp [intOf]
                · have HZY : Hid (¬ z < y) := hzy
                  have hj0 : 0 < jj := by
                    refine Nat.pos_of_ne_zero (fun h0 => ?_)
                    subst h0
                    have b1 := HBk.out.less
                    have b2 := HBk.out.lt
                    rw [← HMm.out] at b2
                    by_cases e : back y (row ms k') = 0
                    · rw [e] at b1
                      have := HZz.out; unfold box at this; omega
                    · have := HA.out _ (by omega) b2
                      unfold box at this; omega
                  obtain ⟨j', hj'⟩ : ∃ j', jj = j' + 1 := ⟨jj - 1, by omega⟩
                  subst hj'
                  have hsub3 : IntKind.i64.wrap (((j' + 1 : Nat) : Int) - 1) = (j' : Int) := by rw [IntWalk.i64_left, IntWalk.wrap64_in _ (by omega)]; omega
                  go_wp2
                  go_roundw
                  case rel => exact ⟨j', by omega, rfl, rfl, (fun b h1 h2 => by
                                by_cases e : b = j' + 1
                                · subst e; rw [← HZz.out]; have := HZY.out; omega
                                · exact HA.out b (by omega) h2), by first | rfl | trivial⟩
                  case measure => simp [intOf]

end Go.Proofs.Ytpbmcaoomcippad
