/-
  The law ferlaw.InsertPairs.
-/
import Derived.Test.YtpbmcaoomcippadIMkp
import Derived.Test.YtpbmcaoomcippadIBk2
import Derived.Test.YtpbmcaoomcippadIShp
import Derived.Test.YtpbmcaoomcippadIOfw
import Derived.Test.YtpbmcaoomcippadIUnd
import Derived.Test.YtpbmcaoomcippadIEq
import Derived.Test.YtpbmcaoomcippadIBlw
import Derived.Deep.DeepCutAuto
import Derived.Deep.RegionLaw
namespace Go.Proofs.Ytpbmcaoomcippad
open Go.RowKit

-- Two lists and a pair, apart.
structure St2 (w0 w : World) (base A : Nat) (v u : Value) (us vs : List Int) (x y : Int) : Prop where
  ov : Owns w base v us
  ou : Owns w base u vs
  ap : Apart v u
  c0 : w.cell? ⟨A, 0, none⟩ = some (.int .i64 x)
  c1 : w.cell? ⟨A, 1, none⟩ = some (.int .i64 y)
  lt : A < w.heap.size
  nv : v.ownBlock ≠ some A
  nu : u.ownBlock ≠ some A
  hb : base ≤ w.heap.size
  bl : Below base w0 w
theorem St2.alloc {w0 w : World} {base A : Nat} {v u : Value} {us vs : List Int} {x y : Int} (h : St2 w0 w base A v u us vs x y) (o : Obj) : St2 w0 (w.alloc o) base A v u us vs x y := by
  have hB : Below w.heap.size w (w.alloc o) := (Below.refl _ _).alloc (Nat.le_refl _) _
  exact ⟨h.ov.below hB, h.ou.below hB, h.ap, by rw [hB.cell (p := ⟨A, 0, none⟩) h.lt]; exact h.c0, by rw [hB.cell (p := ⟨A, 1, none⟩) h.lt]; exact h.c1, Nat.lt_of_lt_of_le h.lt hB.size, h.nv, h.nu, Nat.le_trans h.hb hB.size, h.bl.alloc h.hb _⟩
theorem litA (Z : World) (x : Value) {N : Nat} (hN : N = Z.heap.size) : (Z.alloc (.cells #[x] 3)).cell? ⟨N, 0, none⟩ = some x := by
  subst hN; rw [World.cell?_alloc_at _ _ _ _ rfl]; rfl
theorem litB (Z : World) (x : Value) (o : Obj) {N : Nat} (hN : N = Z.heap.size) : ((Z.alloc (.cells #[x] 3)).alloc o).cell? ⟨N, 0, none⟩ = some x := by
  have hB : Below (Z.alloc (.cells #[x] 3)).heap.size (Z.alloc (.cells #[x] 3)) ((Z.alloc (.cells #[x] 3)).alloc o) := (Below.refl _ _).alloc (Nat.le_refl _) _
  rw [hB.cell (p := ⟨N, 0, none⟩) (by subst hN; simp)]
  exact litA Z x hN
/-- One more number at the end of the first list. -/
theorem st2_app {w0 w : World} {base A N : Nat} {v u : Value} {us vs : List Int} {x y z : Int} (ty : TypeId) (h : St2 w0 w base A v u us vs x y) (hl : us.length ≤ 8796093022208) (hc : w.cell? ⟨N, 0, none⟩ = some (.int .i64 z)) :
    ∃ v' w', (Builtin.append_ #[22, 22] ty #[v, .slice (some ⟨N, 0, none⟩) 1 1]).run Try.prog w = .ok v' w' ∧ St2 w0 w' base A v' u (us ++ [z]) vs x y ∧ Below base w w' ∧ KeepB v v' w w' := by
  obtain ⟨v', w', hrun, r1, r2, r3⟩ := run_append_kb elem_int ty (vals_of_owns h.ov) (news := [.int .i64 z]) ⟨N, 0, none⟩ 1 (fun j q hj => by
    match j, hj with
    | 0, hj => simp at hj; subst hj; rw [Addr.add_lit]; exact hc) (fun q hq => by simp at hq; subst hq; rfl) (by rw [List.length_map]; unfold maxLen; simp; omega) (by rw [List.length_map]; simp; omega) h.hb
  refine ⟨v', w', hrun, ⟨owns_of_vals r1, ?_, fun g h1 h2 => ?_, ?_, ?_, Nat.lt_of_lt_of_le h.lt r3.size, fun e => ?_, h.nu, Nat.le_trans h.hb r3.size, h.bl.trans r2⟩, r2, r3⟩
  · exact ownsRow_blocks h.ou (fun k hk => r3.block k ((h.ou.lt hk).2) (fun e => h.ap k e hk))
  · rcases r3.lies g h1 with q | q
    · exact h.ap g q h2
    · have := (h.ou.lt h2).2; omega
  · rw [World.cell?_of_block (r3.block A h.lt h.nv)]; exact h.c0
  · rw [World.cell?_of_block (r3.block A h.lt h.nv)]; exact h.c1
  · rcases r3.lies A e with q | q
    · exact h.nv q
    · have := h.lt; omega
theorem St2.swap {w0 w : World} {base A : Nat} {v u : Value} {us vs : List Int} {x y : Int} (h : St2 w0 w base A v u us vs x y) : St2 w0 w base A u v vs us x y := ⟨h.ou, h.ov, h.ap.symm, h.c0, h.c1, h.lt, h.nu, h.nv, h.hb, h.bl⟩
theorem step_st {w0 w : World} {base A N : Nat} {v u : Value} {us vs : List Int} {x y z : Int} {ops : Array Oper} {o : Oper} {a : Act} {K : Act → World → Prop} {Q : Exit → Act → World → Prop} {EE : Prop} (hgd : o.guard = none) (s t : Operand)
    (ho : o.op = .call { callee := .builtin .append, args := #[s, t], argTypes := #[22, 22] }) (hs : a.eval s = v) (hx : a.eval t = .slice (some ⟨N, 0, none⟩) 1 1) (h : St2 w0 w base A v u us vs x y) (hl : us.length ≤ 8796093022208) (hc : w.cell? ⟨N, 0, none⟩ = some (.int .i64 z))
    (hK : ∀ v' w', St2 w0 w' base A v' u (us ++ [z]) vs x y → Below base w w' → KeepB v v' w w' → K (a.put o.dst v') w') :
    if Region.wanted o (yielded ops a.tmps) = true then Oper.wp Try.prog o a w K Q else EE := by
  have hw : Region.wanted o (yielded ops a.tmps) = true := by simp [Region.wanted, hgd]
  rw [if_pos hw]
  obtain ⟨v', w', hrun, r1, r2, r3⟩ := st2_app o.type h hl hc
  unfold Oper.wp
  simp [execOp, ho, resolve, invoke, builtin, hs, hx, hrun, Result.andThen]
  exact hK v' w' r1 r2 r3

/-- What the law asks of pair i. -/
def okPB (l : List (Int × Int)) (i : Nat) : Bool := decide (((1 ≤ (l.getD i (0, 0)).1 ∧ (l.getD i (0, 0)).1 ≤ 99) ∧ 1 ≤ (l.getD i (0, 0)).2 ∧ (l.getD i (0, 0)).2 ≤ 99) ∧ (0 < i → (l.getD (i - 1) (0, 0)).1 < (l.getD i (0, 0)).1 ∨ (l.getD (i - 1) (0, 0)).1 = (l.getD i (0, 0)).1 ∧ (l.getD (i - 1) (0, 0)).2 ≤ (l.getD i (0, 0)).2))
def badF (l : List (Int × Int)) (k : Nat) : Int := if (List.range k).all (okPB l) = true then 0 else 1
theorem badF_step (l : List (Int × Int)) (k : Nat) : badF l (k + 1) = if okPB l k = true then badF l k else 1 := by
  unfold badF
  rw [List.range_succ, List.all_append]
  by_cases h : okPB l k = true
  · rw [if_pos h]; simp [h]
  · rw [if_neg h]; simp [h]
theorem badF_end (l : List (Int × Int)) : badF l l.length = 0 ↔ PLet l ∧ Ordered l := by
  have hr : badF l l.length = 0 ↔ ∀ i, i < l.length → okPB l i = true := by
    unfold badF
    constructor
    · intro h i hi
      by_cases c : (List.range l.length).all (okPB l) = true
      · exact List.all_eq_true.1 c i (List.mem_range.2 hi)
      · rw [if_neg c] at h; omega
    · intro h; rw [if_pos (List.all_eq_true.2 (fun i hi => h i (List.mem_range.1 hi)))]
  rw [hr]
  constructor
  · intro h
    refine ⟨plet_of (fun k hk => (of_decide_eq_true (h k hk)).1), fun i hi => ?_⟩
    exact (of_decide_eq_true (h (i + 1) hi)).2 (by omega)
  · rintro ⟨h1, h2⟩ i hi
    refine decide_eq_true ⟨h1 _ (pair_mem hi), fun q => ?_⟩
    have := h2 (i - 1) (by omega)
    rw [show i - 1 + 1 = i by omega] at this
    exact this
theorem badF_pair (l : List (Int × Int)) : PairC l (if 40 < l.length then 2 else badF l l.length) := by
  by_cases c : 40 < l.length
  · rw [if_pos c]; exact Or.inl ⟨c, rfl⟩
  · rw [if_neg c]
    by_cases h : PLet l ∧ Ordered l
    · exact Or.inr (Or.inl ⟨by omega, h.1, h.2, (badF_end l).2 h⟩)
    · refine Or.inr (Or.inr ⟨by omega, h, ?_⟩)
      have := mt (badF_end l).1 h
      unfold badF at this ⊢
      by_cases c2 : (List.range l.length).all (okPB l) = true
      · rw [if_pos c2] at this; exact absurd rfl this
      · rw [if_neg c2]
theorem pmap_take {l : List (Int × Int)} {k : Nat} (hk : k < l.length) {x y : Int} (he : (x, y) = l.getD k (0, 0)) : (l.take (k + 1)).map Prod.snd = (l.take k).map Prod.snd ++ [y] ∧ (l.take (k + 1)).map Prod.fst = (l.take k).map Prod.fst ++ [x] := by
  have : l.take (k + 1) = l.take k ++ [(x, y)] := by
    rw [List.take_succ_eq_append_getElem hk, he]
    simp [List.getD, List.getElem?_eq_getElem hk]
  rw [this]; simp

set_option maxHeartbeats 16000000 in
set_option maxRecDepth 100000 in
theorem ipairs_at (al ap aq : Option Addr) (cpl cpp cpq : Nat) (l : List (Int × Int)) (p q : List (List Int)) (w : World) (hsl : ShowsP w al l) (htp : Table w ap p) (htq : Table w aq q) (hlp : p.length ≤ 2000000 ∧ p.flatten.length ≤ 2000000) (hlq : q.length ≤ 2000000 ∧ q.flatten.length ≤ 2000000) :
    Calls Try.prog 4 #[.slice al l.length cpl, .slice ap p.length cpp, .slice aq q.length cpq] w fun e w' => e = .returned (.bool true) ∧ Below w.heap.size w w' := by
  have HSl : Hid (ShowsP w al l) := hsl
  have HTp : Hid (Table w ap p) := htp
  have HTq : Hid (Table w aq q) := htq
  have HLp : Hid (p.length ≤ 2000000 ∧ p.flatten.length ≤ 2000000) := hlp
  have HLq : Hid (q.length ≤ 2000000 ∧ q.flatten.length ≤ 2000000) := hlq
  have hll := hsl.len
  obtain ⟨c, HCd⟩ : ∃ c, Hid (c = if 40 < l.length then 2 else badF l l.length) := ⟨_, rfl⟩
  have HC : Hid (PairC l c) := by rw [HCd.out]; exact badF_pair l
  obtain ⟨P, HPd⟩ : ∃ P, Hid (P = if c = 0 then (mk l).1 else []) := ⟨_, rfl⟩
  obtain ⟨Q, HQd⟩ : ∃ Q, Hid (Q = if c = 0 then (mk l).2 else []) := ⟨_, rfl⟩
  have HMp : Hid (MpR l c P Q) := ⟨HC.out, HPd.out, HQd.out⟩
  clear hsl htp htq hlp hlq
  go_enter Try.func4, Try.ntmps4
  go_wp2_with fail
  refine (MakePairs_at _ _ _ w HSl.out rfl HMp.out).mono ?_
  rintro e w1 ⟨v1, u1, rfl, hT1, hb1⟩
  have HB1 : Hid (Below w.heap.size w w1) := hb1
  have HV1 : Hid (Tbl w1 w.heap.size v1 P) := hT1.fst
  have HU1 : Hid (Tbl w1 w.heap.size u1 Q) := hT1.snd
  clear hT1 hb1
  go_wp2
  go_loopw [10, 11, 12, 28] (fun f v u iv wr => ∃ (k : Nat) (fv : Int), k ≤ l.length ∧ iv = .int .i64 k ∧ f = .int .i64 fv ∧ Hid (fv = badF l k) ∧ Hid (Owns wr w1.heap.size v ((l.take k).map Prod.snd) ∧ Owns wr w1.heap.size u ((l.take k).map Prod.fst) ∧ Apart v u) ∧ Hid (Below w1.heap.size w1 wr)) (fun _ _ _ iv _ => l.length - (intOf iv).toNat)
  case atStart => exact ⟨0, 0, Nat.zero_le _, rfl, rfl, rfl, ⟨World.ownsRow_nil _ _ _ _, World.ownsRow_nil _ _ _ _, fun g h => by simp [Value.ownBlock] at h⟩, Below.refl _ _⟩
  case round =>
    obtain ⟨k, fv, hk, rfl, rfl, HFv, HO, HB⟩ := hrel
    by_cases hlt : k < l.length
    · have hlt' : (k : Int) < (l.length : Int) := by omega
      have HKl : Hid (k < l.length) := hlt
      have HBw : Hid (Below w.heap.size w wr) := HB1.out.trans (HB.out.mono HB1.out.size)
      obtain ⟨b, off, x, y, rfl, hbl, HE, hc0, hc1⟩ := (HSl.out.below HBw.out).elem hlt
      obtain ⟨bad, HBad⟩ : ∃ bad, Hid (bad = !(okPB l k)) := ⟨_, rfl⟩
      have HBe : Hid (Below w.heap.size w (wr.alloc (.cells #[.int .i64 x, .int .i64 y] 39))) := HBw.out.alloc HBw.out.size _
      have hA0 : (wr.alloc (.cells #[.int .i64 x, .int .i64 y] 39)).cell? ⟨wr.heap.size, 0, none⟩ = some (.int .i64 x) := by rw [World.cell?_alloc_at _ _ _ _ rfl]; rfl
      have hA1 : (wr.alloc (.cells #[.int .i64 x, .int .i64 y] 39)).cell? ⟨wr.heap.size, 1, none⟩ = some (.int .i64 y) := by rw [World.cell?_alloc_at _ _ _ _ rfl]; rfl
      obtain ⟨w2, HW2⟩ : ∃ w2, Hid (w2 = wr.alloc (.cells #[.int .i64 x, .int .i64 y] 39)) := ⟨_, rfl⟩
      obtain ⟨A, HAd⟩ : ∃ A, Hid (A = wr.heap.size) := ⟨_, rfl⟩
      have HSt : Hid (St2 w1 w2 w1.heap.size A u11 u12 ((l.take k).map Prod.snd) ((l.take k).map Prod.fst) x y) := by
        rw [HW2.out, HAd.out]
        have hB : Below wr.heap.size wr (wr.alloc (.cells #[.int .i64 x, .int .i64 y] 39)) := (Below.refl _ _).alloc (Nat.le_refl _) _
        obtain ⟨h1, h2, h3⟩ := HO.out
        exact ⟨h1.below hB, h2.below hB, h3, hA0, hA1, by simp, fun e => by have := (h1.lt e).2; omega, fun e => by have := (h2.lt e).2; omega, Nat.le_trans HB.out.size hB.size, HB.out.trans (hB.mono HB.out.size)⟩
      have HB2 : Hid (Below w1.heap.size w1 w2) := by rw [HW2.out]; exact HB.out.alloc HB.out.size _
      have HPk : Hid (∀ m, m + 1 = k → ∃ x' y' : Int, (x', y') = l.getD m (0, 0) ∧ w2.cell? ⟨b, off + m * 2, none⟩ = some (.int .i64 x') ∧ w2.cell? ⟨b, off + m * 2 + 1, none⟩ = some (.int .i64 y')) := fun m hm => by
        rw [HW2.out]
        obtain ⟨b', off', x', y', hab, -, he, h0, h1⟩ := (HSl.out.below HBe.out).elem (k := m) (by have := HKl.out; omega)
        simp only [Option.some.injEq, Addr.mk.injEq, and_true] at hab
        obtain ⟨rfl, rfl⟩ := hab
        exact ⟨x', y', he.out, h0, h1⟩
      go_upto_region 7 with fail
      rw [← HW2.out, ← HAd.out]
      rw [← HW2.out, ← HAd.out] at hA0 hA1
      go_cut [87] (fun s87 wc => s87 = .bool bad ∧ Hid (∃ d, wc = w2.drewN d))
      case first =>
        by_cases h1 : x < 1
        · have d1 : decide (x < 1) = true := by simp; omega
          have HBd : Hid (bad = true) := by
            show _ = _
            rw [HBad.out]
            have hn : okPB l k = false := decide_eq_false (by rw [← HE.out]; intro h; have := h.1.1.1; simp at this; omega)
            rw [hn]; rfl
          go_quiet (fail)
          go_wp2_with fail
          go_meet
          exact ⟨by rw [HBd.out], ⟨_, rfl⟩⟩
        have d1 : decide (x < 1) = false := by simp; omega
        by_cases h2 : x > 99
        · have d2 : decide (x > 99) = true := by simp; omega
          have HBd : Hid (bad = true) := by
            show _ = _
            rw [HBad.out]
            have hn : okPB l k = false := decide_eq_false (by rw [← HE.out]; intro h; have := h.1.1.2; simp at this; omega)
            rw [hn]; rfl
          go_quiet (fail)
          go_wp2_with fail
          go_meet
          exact ⟨by rw [HBd.out], ⟨_, rfl⟩⟩
        have d2 : decide (x > 99) = false := by simp; omega
        by_cases h3 : y < 1
        · have d3 : decide (y < 1) = true := by simp; omega
          have HBd : Hid (bad = true) := by
            show _ = _
            rw [HBad.out]
            have hn : okPB l k = false := decide_eq_false (by rw [← HE.out]; intro h; have := h.1.2.1; simp at this; omega)
            rw [hn]; rfl
          go_quiet (fail)
          go_wp2_with fail
          go_meet
          exact ⟨by rw [HBd.out], ⟨_, rfl⟩⟩
        have d3 : decide (y < 1) = false := by simp; omega
        by_cases h4 : y > 99
        · have d4 : decide (y > 99) = true := by simp; omega
          have HBd : Hid (bad = true) := by
            show _ = _
            rw [HBad.out]
            have hn : okPB l k = false := decide_eq_false (by rw [← HE.out]; intro h; have := h.1.2.2; simp at this; omega)
            rw [hn]; rfl
          go_quiet (fail)
          go_wp2_with fail
          go_meet
          exact ⟨by rw [HBd.out], ⟨_, rfl⟩⟩
        have d4 : decide (y > 99) = false := by simp; omega
        by_cases h5 : k = 0
        · have d5 : decide ((k : Int) > 0) = false := by simp; omega
          have d5b : decide (0 < k) = false := by simp; omega
          have HBd : Hid (bad = false) := by
            show _ = _
            rw [HBad.out]
            have hn : okPB l k = true := decide_eq_true (by rw [← HE.out]; exact ⟨⟨⟨by simp; omega, by simp; omega⟩, by simp; omega, by simp; omega⟩, fun q => by omega⟩)
            rw [hn]; rfl
          clear h5
          go_quiet (fail)
          go_wp2_with fail
          go_meet
          exact ⟨by rw [HBd.out], ⟨_, rfl⟩⟩
        have d5 : decide ((k : Int) > 0) = true := by simp; omega
        have d5b : decide (0 < k) = true := by simp; omega
        obtain ⟨m, hm⟩ : ∃ m, m + 1 = k := ⟨k - 1, by omega⟩
        obtain ⟨x', y', he', hp0, hp1⟩ := HPk.out m hm
        have HE' : Hid ((x', y') = l.getD (k - 1) (0, 0)) := by show _ = _; rw [show k - 1 = m by omega]; exact he'
        have hks : IntKind.i64.wrap ((k : Int) - 1) = (m : Int) := by rw [IntWalk.i64_left, IntWalk.wrap64_in _ (by omega)]; omega
        have hml : (m : Int) < (l.length : Int) := by omega
        clear he' hm
        by_cases h6 : x < x'
        · have d6 : decide (x < x') = true := by simp; omega
          have HBd : Hid (bad = true) := by
            show _ = _
            rw [HBad.out]
            have hn : okPB l k = false := decide_eq_false (by rw [← HE.out, ← HE'.out]; intro h; have h0 := h.2 (by omega); simp at h0; omega)
            rw [hn]; rfl
          go_quiet (fail)
          go_wp2_with fail
          go_meet
          exact ⟨by rw [HBd.out], ⟨_, rfl⟩⟩
        have d6 : decide (x < x') = false := by simp; omega
        by_cases h7 : x = x'
        · have d7 : (x == x') = true := by simp [h7]
          by_cases h8 : y < y'
          · have d8 : decide (y < y') = true := by simp; omega
            have HBd : Hid (bad = true) := by
              show _ = _
              rw [HBad.out]
              have hn : okPB l k = false := decide_eq_false (by rw [← HE.out, ← HE'.out]; intro h; have h0 := h.2 (by omega); simp at h0; omega)
              rw [hn]; rfl
            clear h7
            go_quiet (fail)
            go_wp2_with fail
            go_meet
            exact ⟨by rw [HBd.out], ⟨_, rfl⟩⟩
          · have d8 : decide (y < y') = false := by simp; omega
            have HBd : Hid (bad = false) := by
              show _ = _
              rw [HBad.out]
              have hn : okPB l k = true := decide_eq_true (by rw [← HE.out, ← HE'.out]; exact ⟨⟨⟨by simp; omega, by simp; omega⟩, by simp; omega, by simp; omega⟩, fun q => by simp; omega⟩)
              rw [hn]; rfl
            clear h7
            go_quiet (fail)
            go_wp2_with fail
            go_meet
            exact ⟨by rw [HBd.out], ⟨_, rfl⟩⟩
        · have d7 : (x == x') = false := beq_false_of_ne h7
          have HBd : Hid (bad = false) := by
            show _ = _
            rw [HBad.out]
            have hn : okPB l k = true := decide_eq_true (by rw [← HE.out, ← HE'.out]; exact ⟨⟨⟨by simp; omega, by simp; omega⟩, by simp; omega, by simp; omega⟩, fun q => by simp; omega⟩)
            rw [hn]; rfl
          go_quiet (fail)
          go_wp2_with fail
          go_meet
          exact ⟨by rw [HBd.out], ⟨_, rfl⟩⟩
      case rest =>
        obtain ⟨rfl, HDc⟩ := hcut
        obtain ⟨gv, HGv⟩ : ∃ gv, Hid (gv = badF l (k + 1)) := ⟨_, rfl⟩
        go_upto_if 87 with fail
        go_cut [10] (fun s10 wx => s10 = .int .i64 gv ∧ Hid (wx = wc))
        case first =>
          cases bad with
          | true =>
            have HGe : Hid (gv = 1) := by
              show _ = _
              rw [HGv.out, badF_step, if_neg (fun e => by have := HBad.out; rw [e] at this; cases this)]
            go_wp2_with fail
            go_meet
            exact ⟨by rw [HGe.out], rfl⟩
          | false =>
            have HGe : Hid (gv = fv) := by
              show _ = _
              rw [HGv.out, badF_step, if_pos (by have := HBad.out; revert this; cases okPB l k <;> simp), HFv.out]
            go_wp2_with fail
            go_meet
            exact ⟨by rw [HGe.out], rfl⟩
        case rest =>
          obtain ⟨rfl, hwx⟩ := hcut
          have HStc : Hid (St2 w1 wc w1.heap.size A u11 u12 ((l.take k).map Prod.snd) ((l.take k).map Prod.fst) x y) := by
            have h1 := hwx.out
            obtain ⟨d, hd⟩ := HDc.out
            rw [h1, hd]
            have h := HSt.out
            have hB : Below w2.heap.size w2 (w2.drewN d) := below_drewN (Below.refl _ _) d
            exact ⟨h.ov.below hB, h.ou.below hB, h.ap, h.c0, h.c1, h.lt, h.nv, h.nu, h.hb, below_drewN h.bl d⟩
          have HBc : Hid (Below w1.heap.size w1 wc) := by
            have h1 := hwx.out
            obtain ⟨d, hd⟩ := HDc.out
            rw [h1, hd]; exact below_drewN HB2.out d
          clear hwx HDc
          obtain ⟨us, HUs⟩ : ∃ us, Hid (us = (l.take k).map Prod.snd) := ⟨_, rfl⟩
          obtain ⟨vs, HVs⟩ : ∃ vs, Hid (vs = (l.take k).map Prod.fst) := ⟨_, rfl⟩
          rw [← HUs.out, ← HVs.out] at HStc
          have HLn : Hid (us.length ≤ 8796093022208 ∧ vs.length ≤ 8796093022208) := by
            rw [HUs.out, HVs.out]; show _ ∧ _; rw [List.length_map, List.length_map, List.length_take]; omega
          have HSt0 : St2 w1 wc.drew w1.heap.size A u11 u12 us vs x y := by
            have h := HStc.out
            have hB : Below wc.heap.size wc wc.drew := below_drewN (Below.refl _ _) 1
            exact ⟨h.ov.below hB, h.ou.below hB, h.ap, h.c0, h.c1, h.lt, h.nv, h.nu, h.hb, below_drewN h.bl 1⟩
          have HOv : Hid (∀ N, wc.heap.size ≤ N → u11.ownBlock ≠ some N) := fun N hN e => by have := (HStc.out.ov.lt e).2; omega
          have HOu : Hid (∀ N, wc.heap.size ≤ N → u12.ownBlock ≠ some N) := fun N hN e => by have := (HStc.out.ou.lt e).2; omega
          have f0 := HStc.out.c0
          have f1 := HStc.out.c1
          have f2 := HStc.out.lt
          go_upto_region 9 with fail
          have HFin : Hid (∀ wx a b, Owns wx w1.heap.size a (us ++ [y]) → Owns wx w1.heap.size b (vs ++ [x]) → Apart a b → Hid (Owns wx w1.heap.size a ((l.take (k + 1)).map Prod.snd) ∧ Owns wx w1.heap.size b ((l.take (k + 1)).map Prod.fst) ∧ Apart a b)) := fun wx a b h1 h2 h3 => by
            obtain ⟨e1, e2⟩ := pmap_take HKl.out HE.out
            rw [e1, e2, ← HUs.out, ← HVs.out]; exact ⟨h1, h2, h3⟩
          go_region_law (first | (refine step_st (z := x) rfl (.tmp 93) (.tmp 96) rfl (by first | (simp [Act.eval]; done) | (simp [Act.eval]; rfl)) (by first | (simp [Act.eval]; done) | (simp [Act.eval]; rfl)) (by first | exact hstA.swap | exact hstA.swap.alloc _) HLn.out.2 (by first | exact litA _ _ (by simp) | exact litB _ _ _ (by simp) | (rw [World.cell?_of_block (hkA.block _ (by first | (simp; done) | (simp; omega)) (HOv.out _ (by first | (simp; done) | (simp; omega))))]; first | exact litA _ _ (by simp) | exact litB _ _ _ (by simp))) ?_; intro v2 w7 hstAB _ _) | (refine step_st (z := y) rfl (.tmp 88) (.tmp 91) rfl (by first | (simp [Act.eval]; done) | (simp [Act.eval]; rfl)) (by first | (simp [Act.eval]; done) | (simp [Act.eval]; rfl)) (by first | exact hstB.swap | exact hstB.swap.alloc _) HLn.out.1 (by first | exact litA _ _ (by simp) | exact litB _ _ _ (by simp) | (rw [World.cell?_of_block (hkB.block _ (by first | (simp; done) | (simp; omega)) (HOu.out _ (by first | (simp; done) | (simp; omega))))]; first | exact litA _ _ (by simp) | exact litB _ _ _ (by simp))) ?_; intro v2 w7 hstBA _ _) | (refine step_st (z := y) rfl (.tmp 88) (.tmp 91) rfl (by first | (simp [Act.eval]; done) | (simp [Act.eval]; rfl)) (by first | (simp [Act.eval]; done) | (simp [Act.eval]; rfl)) (by first | exact HSt0.alloc _ | exact (HSt0.alloc _).alloc _) HLn.out.1 (by first | exact litA _ _ (by simp) | exact litB _ _ _ (by simp)) ?_; intro v1 w6 hstA _ hkA; have g0 := hstA.c0; have g1 := hstA.c1; have g2 := hstA.lt) | (refine step_st (z := x) rfl (.tmp 93) (.tmp 96) rfl (by first | (simp [Act.eval]; done) | (simp [Act.eval]; rfl)) (by first | (simp [Act.eval]; done) | (simp [Act.eval]; rfl)) (by first | exact HSt0.swap.alloc _ | exact (HSt0.swap.alloc _).alloc _) HLn.out.2 (by first | exact litA _ _ (by simp) | exact litB _ _ _ (by simp)) ?_; intro v1 w6 hstB _ hkB; have g0 := hstB.c0; have g1 := hstB.c1; have g2 := hstB.lt))
          all_goals (
            go_wp2
            go_roundw
            case rel => first | exact ⟨k + 1, gv, by omega, by go_num, rfl, HGv, HFin.out _ _ _ hstAB.ou hstAB.ov hstAB.ap.symm, hstAB.bl⟩ | exact ⟨k + 1, gv, by omega, by go_num, rfl, HGv, HFin.out _ _ _ hstBA.ov hstBA.ou hstBA.ap, hstBA.bl⟩
            case measure => simp [intOf]; omega)
    · obtain rfl : k = l.length := by omega
      have hlt' : ¬ (l.length : Int) < (l.length : Int) := by omega
      have HBr : Hid (Below w.heap.size w wr) := HB1.out.trans (HB.out.mono HB1.out.size)
      by_cases h40 : 40 < l.length
      · have hb4 : decide ((l.length : Int) > 40) = true := by simp; omega
        have HCe : Hid (c = 2) := by show _ = _; rw [HCd.out, if_pos h40]
        clear h40
        have hP0 : P = [] := by rw [HPd.out, HCe.out, if_neg (by simp)]
        have hQ0 : Q = [] := by rw [HQd.out, HCe.out, if_neg (by simp)]
        obtain ⟨av, cv, hv1⟩ : ∃ a c, v1 = .slice a 0 c := by have := HV1.out; rw [hP0] at this; obtain ⟨q1, h⟩ := this; exact h.shape
        obtain ⟨au, cu, hu1⟩ : ∃ a c, u1 = .slice a 0 c := by have := HU1.out; rw [hQ0] at this; obtain ⟨q1, h⟩ := this; exact h.shape
        have hce := HCe.out
        subst hce; subst hv1; subst hu1
        clear hP0 hQ0
        go_wp2_with fail
        refine (tabi_err _ _ _ _ _ wr 2 (by decide)).mono ?_
        rintro e wm ⟨rfl, dm, hwm⟩
        have HBm : Hid (Below w.heap.size w wm) := by rw [hwm]; exact below_drewN HBr.out dm
        clear hwm
        go_wp2_with fail
        refine (tabi_err _ _ _ _ _ wm 2 (by decide)).mono ?_
        rintro e wn ⟨rfl, dn, hwn⟩
        have HBn : Hid (Below w.heap.size w wn) := by rw [hwn]; exact below_drewN HBm.out dn
        clear hwn
        obtain ⟨d, HD⟩ : ∃ d, Hid (bothC p q = d) := ⟨_, rfl⟩
        obtain ⟨L, HLd⟩ : ∃ L, Hid (L = if d = 0 then undo q.flatten.length p q else []) := ⟨_, rfl⟩
        have HBp : Hid (BpR p q d L) := ⟨HD.out.symm, HLd.out⟩
        go_wp2_with fail
        refine (BackPairs_at _ _ _ _ _ _ wn (HTp.out.below HBn.out) (HTq.out.below HBn.out) rfl rfl (by have := HLp.out; omega) (by have := HLq.out; omega) HBp.out).mono ?_
        rintro e wa ⟨va, rfl, hOa, hba⟩
        have HBa : Hid (Below w.heap.size w wa) := HBn.out.trans (hba.mono HBn.out.size)
        have HLl : Hid (L.length ≤ 40) := by
          rw [HLd.out]
          by_cases e0 : d = 0
          · rw [if_pos e0, undo_length]
            exact (PQ.of_both (by rw [HD.out]; exact e0)).2.1
          · rw [if_neg e0]; exact Nat.zero_le _
        obtain ⟨aa, ca, rfl, hSa⟩ := hOa.shows (by have := HLl.out; omega)
        have HSa : Hid (ShowsP wa aa L) := hSa
        obtain ⟨nL, HnL⟩ : ∃ nL, Hid (nL = L.length) := ⟨_, rfl⟩
        rw [← HnL.out]
        clear hOa hba hSa
        go_wp2_with fail
        refine (shapes_at _ _ _ _ _ _ wa (HTp.out.below HBa.out) (HTq.out.below HBa.out) rfl rfl HLp.out HLq.out HD).mono ?_
        rintro e wb ⟨rfl, hbb⟩
        have HBb : Hid (Below w.heap.size w wb) := HBa.out.trans (hbb.mono HBa.out.size)
        have HSb : Hid (ShowsP wb aa L) := HSa.out.below hbb
        clear hbb
        by_cases hd : d = 0
        · subst hd
          obtain ⟨h1, h2, h3⟩ := PQ.of_both HD.out
          have HPQ : Hid (PQ q.flatten.length p q ∧ q.flatten.length ≤ 40 ∧ (∀ z ∈ p.flatten, 1 ≤ z ∧ z ≤ 99)) := ⟨h1, h2, h3⟩
          have HLe : Hid (L = undo q.flatten.length p q) := by rw [HLd.out]; show _ = _; rw [if_pos rfl]
          clear h1 h2 h3
          go_wp2_with fail
          refine (Undone_at q.flatten.length _ _ _ _ _ _ wb (HTp.out.below HBb.out) (HTq.out.below HBb.out) rfl rfl HPQ.out.1 HPQ.out.2.1 HPQ.out.2.2).mono ?_
          rintro e wd ⟨vd, rfl, hOd, hbd⟩
          rw [← HLe.out] at hOd
          have HBd : Hid (Below w.heap.size w wd) := HBb.out.trans (hbd.mono HBb.out.size)
          have HSd : Hid (ShowsP wd aa L) := HSb.out.below hbd
          obtain ⟨ad, cd, rfl, hSd⟩ := hOd.shows (by have := HLl.out; omega)
          have HSd2 : Hid (ShowsP wd ad L) := hSd
          clear hOd hbd hSd
          go_wp2_with fail
          refine (SameP_same _ _ _ _ _ _ L wd HSd.out HSd2.out HnL.out rfl).mono ?_
          rintro e we ⟨rfl, de, hwe⟩
          have HBe : Hid (Below w.heap.size w we) := by rw [hwe]; exact below_drewN HBd.out de
          clear hwe
          go_wp2
          go_ret
          exact ⟨rfl, HBe.out⟩
        · have hdn : (d != 0) = true := bne_iff_ne.2 hd
          have hdd : (d == d) = true := by simp
          have hn0 : nL = 0 := by rw [HnL.out, HLd.out, if_neg hd]; rfl
          subst hn0
          go_wp2
          go_ret
          exact ⟨rfl, HBb.out⟩
      · have hb4 : decide ((l.length : Int) > 40) = false := by simp; omega
        have HCv : Hid (c = fv) := by show _ = _; rw [HCd.out, if_neg h40, HFv.out]
        have h40' : l.length ≤ 40 := by omega
        clear h40
        by_cases hf : fv = 0
        · have HCe : Hid (c = 0) := by rw [HCv.out]; exact hf
          subst hf
          have hce := HCe.out
          subst hce
          have HPe : Hid (P = (mk l).1 ∧ Q = (mk l).2) := by rw [HPd.out, HQd.out]; exact ⟨if_pos rfl, if_pos rfl⟩
          have HPL : Hid (PLet l) := by
            have := (badF_end l).1 HFv.out.symm
            exact this.1
          have hbd : ∀ {t : List (List Int)}, IsTab t → ∀ r ∈ t, r.length ≤ 17592186044416 ∧ ∀ z ∈ r, -9223372036854775808 ≤ z ∧ z ≤ 9223372036854775807 := fun {t} h r hr => by
            obtain ⟨m, hm, rfl⟩ := mem_row hr
            refine ⟨by have := h.width hm; omega, fun z hz => ?_⟩
            have := h.mem (List.mem_flatten.2 ⟨_, hr, hz⟩); omega
          have HTT : Hid (IsTab P ∧ IsTab Q) := by
            rw [HPe.out.1, HPe.out.2]
            obtain ⟨b1, _, _⟩ := mk_both (l := l) h40' HPL.out ((badF_end l).1 HFv.out.symm).2
            obtain ⟨t1, t2, _⟩ := bothC_ok.1 b1
            exact ⟨t1, t2⟩
          have HPb : Hid (∀ r ∈ P, r.length ≤ 17592186044416 ∧ ∀ z ∈ r, -9223372036854775808 ≤ z ∧ z ≤ 9223372036854775807) := hbd HTT.out.1
          have HQb : Hid (∀ r ∈ Q, r.length ≤ 17592186044416 ∧ ∀ z ∈ r, -9223372036854775808 ≤ z ∧ z ≤ 9223372036854775807) := hbd HTT.out.2
          have HLL : Hid (P.length ≤ 17592186044416 ∧ Q.length ≤ 17592186044416) := ⟨by have := HTT.out.1.rows; omega, by have := HTT.out.2.rows; omega⟩
          obtain ⟨hOs, hOf, -⟩ := HO.out
          rw [List.take_length] at hOs hOf
          obtain ⟨W, HWd⟩ : ∃ W, Hid (W = l.map Prod.snd) := ⟨_, rfl⟩
          obtain ⟨V, HVd⟩ : ∃ V, Hid (V = l.map Prod.fst) := ⟨_, rfl⟩
          rw [← HWd.out] at hOs
          rw [← HVd.out] at hOf
          have HWb : Hid (∀ z ∈ W, 0 ≤ z ∧ z ≤ 1000) := fun z hz => by
            rw [HWd.out] at hz; obtain ⟨c, hc, rfl⟩ := List.mem_map.1 hz; have := HPL.out c hc; omega
          have HVb : Hid (∀ z ∈ V, 0 ≤ z ∧ z ≤ 1000) := fun z hz => by
            rw [HVd.out] at hz; obtain ⟨c, hc, rfl⟩ := List.mem_map.1 hz; have := HPL.out c hc; omega
          have HWl : Hid (W.length = l.length ∧ V.length = l.length) := by rw [HWd.out, HVd.out]; exact ⟨List.length_map .., List.length_map ..⟩
          obtain ⟨asx, ns, cs, rfl, hSs, hns, -⟩ := hOs.opened (by have := HWl.out; omega) (small_wf HWb.out)
          obtain ⟨af, nf, cf, rfl, hSf, hnf, -⟩ := hOf.opened (by have := HWl.out; omega) (small_wf HVb.out)
          have HSs : Hid (Shows wr asx W) := hSs
          have HSf : Hid (Shows wr af V) := hSf
          have HNs : Hid (ns = W.length) := hns
          have HNf : Hid (nf = V.length) := hnf
          have HZp : Hid (zipP W V = l) := by
            show _ = _
            rw [HWd.out, HVd.out]
            unfold zipP
            refine List.ext_getElem (by simp) (fun i h1 h2 => ?_)
            simp [List.getD, h2]
          clear hOs hOf hSs hSf hns hnf hbd
          go_wp2_with fail
          refine (OfWord_at _ _ _ _ _ _ W V wr HSs.out HSf.out HNs.out HNf.out (by have := HWl.out; omega) (by have := HWl.out; omega) HWb.out).mono ?_
          rintro e wm ⟨vm, um, rfl, hTm, hUm, hbm⟩
          rw [HZp.out, ← HPe.out.1] at hTm
          rw [HZp.out, ← HPe.out.2] at hUm
          have HBm : Hid (Below w.heap.size w wm) := HBr.out.trans (hbm.mono HBr.out.size)
          have HB1m : Hid (Below w1.heap.size w1 wm) := HB.out.trans (hbm.mono HB.out.size)
          obtain ⟨b1, n1, k1, hv1, hR1, HN1⟩ := (HV1.out.below HB1m.out).table HPb.out
          obtain ⟨b2, n2, k2, hu1, hR2, HN2⟩ := (HU1.out.below HB1m.out).table HQb.out
          subst hv1; subst hu1
          obtain ⟨b3, n3, k3, rfl, hR3, HN3⟩ := hTm.table HPb.out
          obtain ⟨b4, n4, k4, rfl, hR4, HN4⟩ := hUm.table HQb.out
          have HR1 : Hid (Table wm b1 P) := hR1
          have HR2 : Hid (Table wm b2 Q) := hR2
          have HR3 : Hid (Table wm b3 P) := hR3
          have HR4 : Hid (Table wm b4 Q) := hR4
          clear hTm hUm hbm hR1 hR2 hR3 hR4
          go_wp2_with fail
          refine (tabi_ok _ _ _ _ _ _ wm P HR1.out HR3.out HN1 HN3 HLL.out.1).mono ?_
          rintro e wn ⟨rfl, dn, rfl⟩
          go_wp2_with fail
          refine (tabi_ok _ _ _ _ _ _ _ Q (HR2.out.drewN _) (HR4.out.drewN _) HN2 HN4 HLL.out.2).mono ?_
          rintro e wo ⟨rfl, dq, hwo⟩
          have HBo : Hid (Below w.heap.size w wo) := by rw [hwo]; exact below_drewN (below_drewN HBm.out dn) dq
          clear hwo
          obtain ⟨d, HD⟩ : ∃ d, Hid (bothC p q = d) := ⟨_, rfl⟩
          obtain ⟨L, HLd⟩ : ∃ L, Hid (L = if d = 0 then undo q.flatten.length p q else []) := ⟨_, rfl⟩
          have HBp : Hid (BpR p q d L) := ⟨HD.out.symm, HLd.out⟩
          go_wp2_with fail
          refine (BackPairs_at _ _ _ _ _ _ wo (HTp.out.below HBo.out) (HTq.out.below HBo.out) rfl rfl (by have := HLp.out; omega) (by have := HLq.out; omega) HBp.out).mono ?_
          rintro e wa ⟨va, rfl, hOa, hba⟩
          have HBa : Hid (Below w.heap.size w wa) := HBo.out.trans (hba.mono HBo.out.size)
          have HLl : Hid (L.length ≤ 40) := by
            rw [HLd.out]
            by_cases e0 : d = 0
            · rw [if_pos e0, undo_length]
              exact (PQ.of_both (by rw [HD.out]; exact e0)).2.1
            · rw [if_neg e0]; exact Nat.zero_le _
          obtain ⟨aa, ca, rfl, hSa⟩ := hOa.shows (by have := HLl.out; omega)
          have HSa : Hid (ShowsP wa aa L) := hSa
          obtain ⟨nL, HnL⟩ : ∃ nL, Hid (nL = L.length) := ⟨_, rfl⟩
          rw [← HnL.out]
          clear hOa hba hSa
          go_wp2_with fail
          refine (shapes_at _ _ _ _ _ _ wa (HTp.out.below HBa.out) (HTq.out.below HBa.out) rfl rfl HLp.out HLq.out HD).mono ?_
          rintro e wb ⟨rfl, hbb⟩
          have HBb : Hid (Below w.heap.size w wb) := HBa.out.trans (hbb.mono HBa.out.size)
          have HSb : Hid (ShowsP wb aa L) := HSa.out.below hbb
          clear hbb
          by_cases hd : d = 0
          · subst hd
            obtain ⟨h1, h2, h3⟩ := PQ.of_both HD.out
            have HPQ : Hid (PQ q.flatten.length p q ∧ q.flatten.length ≤ 40 ∧ (∀ z ∈ p.flatten, 1 ≤ z ∧ z ≤ 99)) := ⟨h1, h2, h3⟩
            have HLe : Hid (L = undo q.flatten.length p q) := by rw [HLd.out]; show _ = _; rw [if_pos rfl]
            clear h1 h2 h3
            go_wp2_with fail
            refine (Undone_at q.flatten.length _ _ _ _ _ _ wb (HTp.out.below HBb.out) (HTq.out.below HBb.out) rfl rfl HPQ.out.1 HPQ.out.2.1 HPQ.out.2.2).mono ?_
            rintro e wd ⟨vd, rfl, hOd, hbd⟩
            rw [← HLe.out] at hOd
            have HBd : Hid (Below w.heap.size w wd) := HBb.out.trans (hbd.mono HBb.out.size)
            have HSd : Hid (ShowsP wd aa L) := HSb.out.below hbd
            obtain ⟨ad, cd, rfl, hSd⟩ := hOd.shows (by have := HLl.out; omega)
            have HSd2 : Hid (ShowsP wd ad L) := hSd
            clear hOd hbd hSd
            go_wp2_with fail
            refine (SameP_same _ _ _ _ _ _ L wd HSd.out HSd2.out HnL.out rfl).mono ?_
            rintro e we ⟨rfl, de, hwe⟩
            have HBe : Hid (Below w.heap.size w we) := by rw [hwe]; exact below_drewN HBd.out de
            clear hwe
            go_wp2
            go_ret
            exact ⟨rfl, HBe.out⟩
          · have hdn : (d != 0) = true := bne_iff_ne.2 hd
            have hdd : (d == d) = true := by simp
            have hn0 : nL = 0 := by rw [HnL.out, HLd.out, if_neg hd]; rfl
            subst hn0
            go_wp2
            go_ret
            exact ⟨rfl, HBb.out⟩
        · have hf1 : fv = 1 := by
            have h1 := HFv.out
            unfold badF at h1
            by_cases c2 : (List.range l.length).all (okPB l) = true
            · rw [if_pos c2] at h1; exact absurd h1 hf
            · rw [if_neg c2] at h1; exact h1
          subst hf1
          have HCe : Hid (c = 1) := HCv
          clear hf
          have hP0 : P = [] := by rw [HPd.out, HCe.out, if_neg (by simp)]
          have hQ0 : Q = [] := by rw [HQd.out, HCe.out, if_neg (by simp)]
          obtain ⟨av, cv, hv1⟩ : ∃ a c, v1 = .slice a 0 c := by have := HV1.out; rw [hP0] at this; obtain ⟨q1, h⟩ := this; exact h.shape
          obtain ⟨au, cu, hu1⟩ : ∃ a c, u1 = .slice a 0 c := by have := HU1.out; rw [hQ0] at this; obtain ⟨q1, h⟩ := this; exact h.shape
          have hce := HCe.out
          subst hce; subst hv1; subst hu1
          clear hP0 hQ0
          go_wp2_with fail
          refine (tabi_err _ _ _ _ _ wr 1 (by decide)).mono ?_
          rintro e wm ⟨rfl, dm, hwm⟩
          have HBm : Hid (Below w.heap.size w wm) := by rw [hwm]; exact below_drewN HBr.out dm
          clear hwm
          go_wp2_with fail
          refine (tabi_err _ _ _ _ _ wm 1 (by decide)).mono ?_
          rintro e wn ⟨rfl, dn, hwn⟩
          have HBn : Hid (Below w.heap.size w wn) := by rw [hwn]; exact below_drewN HBm.out dn
          clear hwn
          obtain ⟨d, HD⟩ : ∃ d, Hid (bothC p q = d) := ⟨_, rfl⟩
          obtain ⟨L, HLd⟩ : ∃ L, Hid (L = if d = 0 then undo q.flatten.length p q else []) := ⟨_, rfl⟩
          have HBp : Hid (BpR p q d L) := ⟨HD.out.symm, HLd.out⟩
          go_wp2_with fail
          refine (BackPairs_at _ _ _ _ _ _ wn (HTp.out.below HBn.out) (HTq.out.below HBn.out) rfl rfl (by have := HLp.out; omega) (by have := HLq.out; omega) HBp.out).mono ?_
          rintro e wa ⟨va, rfl, hOa, hba⟩
          have HBa : Hid (Below w.heap.size w wa) := HBn.out.trans (hba.mono HBn.out.size)
          have HLl : Hid (L.length ≤ 40) := by
            rw [HLd.out]
            by_cases e0 : d = 0
            · rw [if_pos e0, undo_length]
              exact (PQ.of_both (by rw [HD.out]; exact e0)).2.1
            · rw [if_neg e0]; exact Nat.zero_le _
          obtain ⟨aa, ca, rfl, hSa⟩ := hOa.shows (by have := HLl.out; omega)
          have HSa : Hid (ShowsP wa aa L) := hSa
          obtain ⟨nL, HnL⟩ : ∃ nL, Hid (nL = L.length) := ⟨_, rfl⟩
          rw [← HnL.out]
          clear hOa hba hSa
          go_wp2_with fail
          refine (shapes_at _ _ _ _ _ _ wa (HTp.out.below HBa.out) (HTq.out.below HBa.out) rfl rfl HLp.out HLq.out HD).mono ?_
          rintro e wb ⟨rfl, hbb⟩
          have HBb : Hid (Below w.heap.size w wb) := HBa.out.trans (hbb.mono HBa.out.size)
          have HSb : Hid (ShowsP wb aa L) := HSa.out.below hbb
          clear hbb
          by_cases hd : d = 0
          · subst hd
            obtain ⟨h1, h2, h3⟩ := PQ.of_both HD.out
            have HPQ : Hid (PQ q.flatten.length p q ∧ q.flatten.length ≤ 40 ∧ (∀ z ∈ p.flatten, 1 ≤ z ∧ z ≤ 99)) := ⟨h1, h2, h3⟩
            have HLe : Hid (L = undo q.flatten.length p q) := by rw [HLd.out]; show _ = _; rw [if_pos rfl]
            clear h1 h2 h3
            go_wp2_with fail
            refine (Undone_at q.flatten.length _ _ _ _ _ _ wb (HTp.out.below HBb.out) (HTq.out.below HBb.out) rfl rfl HPQ.out.1 HPQ.out.2.1 HPQ.out.2.2).mono ?_
            rintro e wd ⟨vd, rfl, hOd, hbd⟩
            rw [← HLe.out] at hOd
            have HBd : Hid (Below w.heap.size w wd) := HBb.out.trans (hbd.mono HBb.out.size)
            have HSd : Hid (ShowsP wd aa L) := HSb.out.below hbd
            obtain ⟨ad, cd, rfl, hSd⟩ := hOd.shows (by have := HLl.out; omega)
            have HSd2 : Hid (ShowsP wd ad L) := hSd
            clear hOd hbd hSd
            go_wp2_with fail
            refine (SameP_same _ _ _ _ _ _ L wd HSd.out HSd2.out HnL.out rfl).mono ?_
            rintro e we ⟨rfl, de, hwe⟩
            have HBe : Hid (Below w.heap.size w we) := by rw [hwe]; exact below_drewN HBd.out de
            clear hwe
            go_wp2
            go_ret
            exact ⟨rfl, HBe.out⟩
          · have hdn : (d != 0) = true := bne_iff_ne.2 hd
            have hdd : (d == d) = true := by simp
            have hn0 : nL = 0 := by rw [HnL.out, HLd.out, if_neg hd]; rfl
            subst hn0
            go_wp2
            go_ret
            exact ⟨rfl, HBb.out⟩

end Go.Proofs.Ytpbmcaoomcippad
