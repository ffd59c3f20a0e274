/-
  Lists of pairs of the call's own; the contract of insert.takenPairs.
-/
import Derived.Test.YtpbmcaoomcippadITkf
import Derived.Test.YtpbmcaoomcippadIMak
import Derived.Test.YtpbmcaoomcippadICpy
namespace Go.Proofs.Ytpbmcaoomcippad
open Go.RowKit

/-- The cells of pairs. -/
def pc (l : List (Int × Int)) : List Value := (l.map (fun c => [Value.int .i64 c.1, Value.int .i64 c.2])).flatten
theorem pc_cons (c : Int × Int) (l : List (Int × Int)) : pc (c :: l) = .int .i64 c.1 :: .int .i64 c.2 :: pc l := rfl
theorem pc_length (l : List (Int × Int)) : (pc l).length = l.length * 2 := by
  induction l with
  | nil => rfl
  | cons c l ih => rw [pc_cons, List.length_cons, List.length_cons, List.length_cons, ih]; omega
theorem pc_get : ∀ (l : List (Int × Int)) (i : Nat), i < l.length → (pc l)[i * 2]? = some (.int .i64 (l.getD i (0, 0)).1) ∧ (pc l)[i * 2 + 1]? = some (.int .i64 (l.getD i (0, 0)).2) := by
  intro l
  induction l with
  | nil => intro i h; simp at h
  | cons c l ih =>
    intro i hi
    rw [pc_cons]
    cases i with
    | zero => simp
    | succ i =>
      have := ih i (by simpa using hi)
      rw [show (i + 1) * 2 = i * 2 + 1 + 1 by omega, show i * 2 + 1 + 1 + 1 = i * 2 + 1 + 1 + 1 from rfl]
      simpa using this
theorem pc_set1 : ∀ (l : List (Int × Int)) (i : Nat) (x : Int), (pc l).set (i * 2) (.int .i64 x) = pc (l.set i (x, (l.getD i (0, 0)).2)) := by
  intro l
  induction l with
  | nil => intro i x; simp [pc]
  | cons c l ih =>
    intro i x
    cases i with
    | zero => rfl
    | succ i =>
      rw [show (i + 1) * 2 = i * 2 + 1 + 1 by omega, pc_cons, List.set_cons_succ, List.set_cons_succ, ih]
      rfl
theorem pc_set2 : ∀ (l : List (Int × Int)) (i : Nat) (x : Int), (pc l).set (i * 2 + 1) (.int .i64 x) = pc (l.set i ((l.getD i (0, 0)).1, x)) := by
  intro l
  induction l with
  | nil => intro i x; simp [pc]
  | cons c l ih =>
    intro i x
    cases i with
    | zero => rfl
    | succ i =>
      rw [show (i + 1) * 2 + 1 = i * 2 + 1 + 1 + 1 by omega, pc_cons, List.set_cons_succ, List.set_cons_succ, ih]
      rfl
def OwnsP (w : World) (lo : Nat) (v : Value) (l : List (Int × Int)) : Prop := w.ownsRow lo 39 2 v l.length (pc l)
theorem pc_made (n : Nat) : (madeCells #[Value.int .i64 0, Value.int .i64 0] (n * 2)).toList = pc (List.replicate n (0, 0)) := by
  have h1 : ∀ n, pc (List.replicate n (0, 0)) = List.replicate (n * 2) (.int .i64 0) := by
    intro n
    induction n with
    | zero => rfl
    | succ n ih => rw [List.replicate_succ, pc_cons, ih, show (n + 1) * 2 = n * 2 + 1 + 1 by omega]; rfl
  rw [h1]
  refine List.ext_getElem? (fun i => ?_)
  unfold madeCells
  simp only [Array.toList_map, Array.toList_range, List.getElem?_map, List.getElem?_replicate]
  by_cases h : i < n * 2
  · rw [if_pos h, List.getElem?_range h]
    simp only [Option.map_some, Option.some.injEq]
    have : i % 2 = 0 ∨ i % 2 = 1 := by omega
    rcases this with e | e <;> simp [e]
  · rw [if_neg h, List.getElem?_eq_none (by simpa using h)]; rfl
theorem OwnsP.mono {w : World} {lo lo' : Nat} {v : Value} {l : List (Int × Int)} (h : OwnsP w lo v l) (hl : lo' ≤ lo) : OwnsP w lo' v l := ownsRow_down h hl
theorem OwnsP.below {w w' : World} {lo : Nat} {v : Value} {l : List (Int × Int)} (h : OwnsP w lo v l) (hb : Below w.heap.size w w') : OwnsP w' lo v l := ownsRow_blocks h (fun k e => hb.block k (h.lt k e).2)

/-- Two tableaux of one shape with n boxes. -/
structure PQ (n : Nat) (p q : List (List Int)) : Prop where
  tp : T p
  tq : T q
  lens : ∀ i, (row p i).length = (row q i).length
  len : p.length = q.length
  cnt : q.flatten.length = n
  bd : ∀ z ∈ q.flatten, 1 ≤ z ∧ z ≤ 99
theorem PQ.some {n : Nat} {p q : List (List Int)} (h : PQ (n + 1) p q) : 0 < q.length := Nat.pos_of_ne_zero (fun e => by have := h.cnt; rw [List.eq_nil_of_length_eq_zero e] at this; simp at this)
theorem PQ.step {n : Nat} {p q : List (List Int)} (h : PQ (n + 1) p q) : PQ n (un (top q) p).2 (tk q (top q)) := by
  have h0 := h.some
  have ht := top_is h0
  have hc := corner_top h.tq h0
  have hip : top q < p.length := by rw [h.len]; exact ht.lt
  have hcp : (row p (top q + 1)).length < (row p (top q)).length := by rw [h.lens, h.lens]; exact hc
  obtain ⟨u1, u2, u3, _⟩ := un_T h.tp hip hcp
  have hq1 := tk_T h.tq ht.lt hc
  obtain ⟨hq2, hq3⟩ := lng_tk h.tq.shp ht.lt hc
  have hqr := tk_row h.tq.shp ht.lt hc
  have hcor := at_corner (x := (un (top q) p).1) u1
  rw [u2, u3] at hcor
  have hone : 0 < (row q (top q)).length := h.tq.shp.one _ ht.lt
  have hs' : ∀ k, (row (un (top q) p).2 k).length = (row (tk q (top q)) k).length := fun k => by
    have h1 := hcor k
    have h2 := h.lens k
    rw [hqr]
    by_cases e : k = top q
    · subst e; rw [if_pos rfl] at h1 ⊢; rw [List.length_dropLast]; omega
    · rw [if_neg e] at h1 ⊢; omega
  have f1 : ∀ {A B : List (List Int)}, (∀ k, k < A.length → 0 < (row A k).length) → (∀ k, (row A k).length = (row B k).length) → A.length ≤ B.length := fun {A B} hA hAB => by
    refine Nat.le_of_not_lt (fun hlt => ?_)
    have := hA B.length hlt
    rw [hAB, row_out (Nat.le_refl _)] at this; simp at this
  refine ⟨u1, hq1, hs', Nat.le_antisymm (f1 u1.shp.one hs') (f1 hq1.shp.one (fun k => (hs' k).symm)), ?_, fun z hz => h.bd z ?_⟩
  · have := (lng_flat hq3 (lastOf (row q (top q)))).1
    rw [hq2, h.cnt] at this; omega
  · obtain ⟨a, c, ha, hc2, rfl⟩ := flat_mem hz
    unfold box
    rw [hqr] at hc2 ⊢
    have ha' : a < q.length := by rw [tk_length ht.lt] at ha; split at ha <;> have := ht.lt <;> omega
    by_cases e : a = top q
    · rw [if_pos e] at hc2 ⊢
      rw [List.length_dropLast] at hc2
      rw [getD_drop, if_pos (by omega)]
      exact box_mem ht.lt (by omega)
    · rw [if_neg e] at hc2 ⊢
      exact box_mem ha' hc2
theorem PQ.small {n : Nat} {p q : List (List Int)} (h : PQ n p q) (hn : n ≤ 40) : (q.length ≤ 1000 ∧ ∀ r ∈ q, 0 < r.length ∧ r.length ≤ 1000) ∧ (p.length ≤ 1000 ∧ ∀ r ∈ p, 0 < r.length ∧ r.length ≤ 1000) ∧ (∀ l ∈ q, l.length ≤ 17592186044416 ∧ ∀ z ∈ l, -9223372036854775808 ≤ z ∧ z ≤ 9223372036854775807) := by
  have h1 := flat_rows (p := q) (fun r hr => by obtain ⟨k, hk, rfl⟩ := mem_row hr; exact h.tq.shp.one k hk) h.cnt
  refine ⟨⟨by omega, fun r hr => by have := h1.2 r hr; omega⟩, ⟨by rw [h.len]; omega, fun r hr => ?_⟩, fun l hl => ⟨by have := (h1.2 l hl).2; omega, fun z hz => ?_⟩⟩
  · obtain ⟨k, hk, rfl⟩ := mem_row hr
    rw [h.lens]
    have := h1.2 _ (row_mem (ls := q) (a := k) (by rw [← h.len]; exact hk)); omega
  · have := h.bd z (List.mem_flatten.2 ⟨l, hl, hz⟩); omega

theorem Try.infoP : (Try.prog.info? 39).map (fun i => (i.zero, i.size, i.bytes)) = some (some (.agg #[.int .i64 0, .int .i64 0]), 2, 16) := by kernel_rfl
theorem Try.underlyingP : Try.prog.underlying 36 = some (.slice 39) := by kernel_rfl

theorem drop_set_pair {l : List (Int × Int)} {k : Nat} (hk : k < l.length) (c : Int × Int) : (l.set k c).drop k = c :: l.drop (k + 1) := by
  rw [List.drop_set, if_neg (by omega), Nat.sub_self, List.drop_eq_getElem_cons hk]; rfl

set_option maxHeartbeats 8000000 in
theorem takenPairs_at {p q : List (List Int)} {N : Nat} (a b : Option Addr) (n m ca cb : Nat) (w : World) (hp : Table w a p) (hq : Table w b q) (hn : n = p.length) (hm : m = q.length) (h : PQ N p q) (hN : N ≤ 40) (hbp : ∀ z ∈ p.flatten, 1 ≤ z ∧ z ≤ 99) :
    Calls Try.prog 41 #[.slice a n ca, .slice b m cb] w fun e w' => ∃ v, e = .returned v ∧ OwnsP w' w.heap.size v (undo N p q) ∧ Below w.heap.size w w' := by
  subst hn; subst hm
  have HPt : Hid (Table w a p) := hp
  have HQt : Hid (Table w b q) := hq
  have H : Hid (PQ N p q) := h
  have hsm := h.small hN
  have HSm : Hid ((q.length ≤ 1000 ∧ ∀ r ∈ q, 0 < r.length ∧ r.length ≤ 1000) ∧ (p.length ≤ 1000 ∧ ∀ r ∈ p, 0 < r.length ∧ r.length ≤ 1000)) := ⟨hsm.1, hsm.2.1⟩
  have HCp : Hid (p.flatten.length = N) := by
    show _ = _
    rw [flat_sum, ← h.cnt, flat_sum, h.len]; exact S_congr (fun a _ => h.lens a)
  have HPb : Hid (∀ l ∈ p, l.length ≤ 17592186044416 ∧ ∀ z ∈ l, -9223372036854775808 ≤ z ∧ z ≤ 9223372036854775807) := fun l hl => ⟨by have := (hsm.2.1.2 l hl).2; omega, fun z hz => by have := hbp z (List.mem_flatten.2 ⟨l, hl, hz⟩); omega⟩
  obtain ⟨i0, hi, hz0, hz1, hz2⟩ := info_parts Try.infoP
  clear hp hq h hsm
  go_enter Try.func41, Try.ntmps41
  go_wp2_with fail
  refine (icopied_at _ _ _ _ _ HPt.out rfl HSm.out.2.1 HSm.out.2.2).mono ?_
  rintro e w1 ⟨v1, rfl, hT1, hb1⟩
  have HT1 : Hid (Tbl w1 w.heap.size v1 p) := hT1
  have HB1 : Hid (Below w.heap.size w w1) := hb1
  clear hT1 hb1
  go_wp2_with fail
  refine (icopied_at _ _ _ _ _ (HQt.out.below HB1.out) rfl HSm.out.1.1 HSm.out.1.2).mono ?_
  rintro e w2 ⟨u1, rfl, hU1, hb2⟩
  obtain ⟨Sp, HSp⟩ : ∃ S : Nat → Prop, Hid (S = fun k => w.heap.size ≤ k ∧ k < w1.heap.size) := ⟨_, rfl⟩
  obtain ⟨Sq, HSq⟩ : ∃ S : Nat → Prop, Hid (S = fun k => w1.heap.size ≤ k ∧ k < w2.heap.size) := ⟨_, rfl⟩
  have HP2 : Hid (TIn w2 w.heap.size Sp v1 p) := by
    have := TIn.of_tbl HT1.out
    rw [← HSp.out] at this
    exact this.same (fun k hk => by rw [HSp.out] at hk; exact hb2.block k hk.2)
  have HQ2 : Hid (TIn w2 w.heap.size Sq u1 q) := by
    have := TIn.of_tbl hU1
    rw [← HSq.out] at this
    obtain ⟨vs, this⟩ := this
    exact ⟨vs, this.mono HB1.out.size⟩
  have HB2 : Hid (Below w.heap.size w w2) := HB1.out.trans (hb2.mono HB1.out.size)
  have HSd : Hid ((∀ k, Sp k → w.heap.size ≤ k ∧ k < w2.heap.size) ∧ (∀ k, Sq k → w.heap.size ≤ k ∧ k < w2.heap.size) ∧ ∀ k, Sp k → ¬ Sq k) := by
    have s1 := HB1.out.size
    have s2 := hb2.size
    rw [HSp.out, HSq.out]
    exact ⟨fun k hk => by omega, fun k hk => by omega, fun k hk hk2 => by omega⟩
  have hT2 : Tbl w2 w.heap.size v1 p := HP2.out.tbl
  obtain ⟨pa, pn, pcp, rfl, hPT, HPn⟩ := hT2.table HPb.out
  obtain ⟨qa, qcp, hqv⟩ : ∃ a c, u1 = .slice a q.length c := by obtain ⟨vs, h⟩ := HQ2.out; exact h.t.shape
  subst hqv
  have HPT : Hid (Table w2 pa p) := hPT
  clear hT2 hPT hU1 hb2
  go_wp2_with fail
  refine (boxesOf_at _ _ _ _ _ HPT.out HPn.out (by have := HSm.out.2.1; omega) (by rw [HCp.out]; omega)).mono ?_
  rintro e w3 ⟨rfl, hw3⟩
  obtain rfl : w2 = w3 := hw3.symm
  clear hw3
  rw [HCp.out]
  go_wp2_with (at_make; refine wpList_make_full _ rfl _ _ 36 rfl w2.heap.size 39 i0 (.agg #[.int .i64 0, .int .i64 0]) 2 Try.underlyingP hi hz0 hz1 _ _ _ _ N rfl rfl rfl rfl ?b1 ?b2 ?b3 ?_)
  case b1 => rw [hz2]; omega
  case b2 => unfold maxLen; omega
  case b3 => exact Nat.le_refl _
  intro w4 hown hgrow
  have hbg : Below w2.heap.size w2 w4 := (Below.refl _ _).grown hgrow (Nat.le_refl _) (fun k h => by cases h)
  obtain ⟨G, HG⟩ : ∃ G, Hid (G = w2.heap.size) := ⟨_, rfl⟩
  have HL0 : Hid (OwnsP w4 G (.slice (some ⟨G, 0, none⟩) N N) (List.replicate N (0, 0))) := by
    show World.ownsRow _ _ _ _ _ _ _
    rw [List.length_replicate, ← pc_made, HG.out]; exact hown
  have HP4 : Hid (TIn w4 w.heap.size Sp (.slice pa pn pcp) p) := HP2.out.same (fun k hk => hbg.block k (HSd.out.1 k hk).2)
  have HQ4 : Hid (TIn w4 w.heap.size Sq (.slice qa q.length qcp) q) := HQ2.out.same (fun k hk => hbg.block k (HSd.out.2.1 k hk).2)
  have HB4 : Hid (Below w.heap.size w w4) := HB2.out.trans (hbg.mono HB2.out.size)
  have HGw : Hid (w.heap.size ≤ G) := by rw [HG.out]; exact HB2.out.size
  have HSG : Hid ((∀ k, Sp k → w.heap.size ≤ k ∧ k < G) ∧ (∀ k, Sq k → w.heap.size ≤ k ∧ k < G) ∧ ∀ k, Sp k → ¬ Sq k) := by rw [HG.out]; exact HSd.out
  have HGs : Hid (G < w4.heap.size) := by
    have := HL0.out.lt G rfl; exact this.2
  rw [← HG.out]
  obtain ⟨n1, Hn1⟩ : ∃ n1 : Int, Hid (n1 = (N : Int) - 1) := ⟨_, rfl⟩
  have hsub : IntKind.i64.wrap ((N : Int) - 1) = n1 := by rw [IntWalk.i64_left, IntWalk.wrap64_in _ (by omega)]; exact Hn1.out.symm
  have hn1a : -1 ≤ n1 := by rw [Hn1.out]; omega
  have hn1b : n1 < 40 := by rw [Hn1.out]; omega
  clear hown hgrow hbg HP2 HQ2 HPT HB2 HT1
  go_wp2
  go_loopw [0, 1, 6] (fun pv qv nv wr => ∃ (k : Nat) (p' q' : List (List Int)) (l : List (Int × Int)), k ≤ N ∧ nv = .int .i64 ((k : Int) - 1) ∧ Hid (TIn wr w.heap.size Sp pv p') ∧ Hid (TIn wr w.heap.size Sq qv q') ∧ Hid (OwnsP wr G (.slice (some ⟨G, 0, none⟩) N N) l) ∧ Hid (l.length = N) ∧
    Hid (Below w.heap.size w wr) ∧ Hid (wr.heap.size = w4.heap.size) ∧ Hid (PQ k p' q') ∧ Hid (undo N p q = undo k p' q' ++ l.drop k)) (fun _ _ nv _ => ((intOf nv) + 1).toNat)
  case atStart => exact ⟨N, p, q, List.replicate N (0, 0), Nat.le_refl _, by rw [Hn1.out], HP4, HQ4, HL0, by simp [Hid], HB4, rfl, H, by show _ = _; simp⟩
  case round =>
    obtain ⟨k, p', q', l, hk, rfl, HP, HQ, HL, HLl, HB, HZ, HPQ, HU⟩ := hrel
    rcases Nat.eq_zero_or_pos k with hk0 | hk0
    · subst hk0
      have hg : decide (((0 : Nat) : Int) - 1 ≥ 0) = false := by decide
      have HE : Hid (OwnsP wr w.heap.size (.slice (some ⟨G, 0, none⟩) N N) (undo N p q)) := by
        show OwnsP _ _ _ _
        rw [HU.out]
        simpa [undo] using HL.out.mono HGw.out
      go_wp2
      go_ret
      exact ⟨_, rfl, HE.out, HB.out⟩
    · obtain ⟨k', hk'⟩ : ∃ k', k = k' + 1 := ⟨k - 1, by omega⟩
      subst hk'
      have hk1 : ((k' + 1 : Nat) : Int) - 1 = (k' : Int) := by omega
      rw [hk1]
      have hg : decide ((k' : Int) ≥ 0) = true := by simp
      have hkN : (k' : Int) < (N : Int) := by omega
      have hsmk := HPQ.out.small (by omega)
      have HSk : Hid ((q'.length ≤ 1000 ∧ ∀ r ∈ q', 0 < r.length ∧ r.length ≤ 1000) ∧ (p'.length ≤ 1000 ∧ ∀ r ∈ p', 0 < r.length ∧ r.length ≤ 1000)) := ⟨hsmk.1, hsmk.2.1⟩
      obtain ⟨qb, qn, qc, hqv, hQT, HQn⟩ := HQ.out.tbl.table hsmk.2.2
      subst hqv
      have HQT : Hid (Table wr qb q') := hQT
      obtain ⟨pb, pc', hpv⟩ : ∃ a c, u0 = .slice a p'.length c := by obtain ⟨vs, h⟩ := HP.out; exact h.t.shape
      subst hpv
      have HTop : Hid (top q' < q'.length ∧ top q' < p'.length) := by
        have := (top_is HPQ.out.some).lt
        exact ⟨this, by rw [HPQ.out.len]; exact this⟩
      clear hsmk hQT
      go_wp2_with fail
      refine (rowOfGreatest_at _ _ _ _ _ HQT.out HQn.out HSk.out.1.1 HSk.out.1.2 HPQ.out.bd).mono ?_
      rintro e w5 ⟨rfl, hw5⟩
      obtain rfl : wr = w5 := hw5.symm
      clear hw5
      obtain ⟨i, HI⟩ : ∃ i, Hid (i = top q') := ⟨_, rfl⟩
      rw [← HI.out]
      go_wp2_with fail
      refine (taken_at (ls := q') _ i wr HQ.out (by rw [HI.out]; exact HTop.out.1) HSk.out.1.1 HSk.out.1.2).mono ?_
      rintro e w6 ⟨v6, rfl, hT6, hO6, hz6⟩
      obtain ⟨x, HX⟩ : ∃ x, Hid (x = lastOf (row q' i)) := ⟨_, rfl⟩
      rw [← HX.out]
      have hL6 : OwnsP w6 G (.slice (some ⟨G, 0, none⟩) N N) l := ownsRow_blocks HL.out (fun b e => by
        cases e
        exact hO6.block G (by rw [HZ.out]; exact HGs.out) (fun hs => by have := HSG.out.2.1 _ hs; omega))
      have HP6 : Hid (TIn w6 w.heap.size Sp (.slice pb p'.length pc') p') := HP.out.same (fun b hb => hO6.block b (by rw [HZ.out]; have := HSG.out.1 b hb; have := HGs.out; omega) (fun hs => HSG.out.2.2 b hb hs))
      have HB6 : Hid (Below w.heap.size w w6) := HB.out.trans (hO6.below HB.out.size (fun b hb => (HSG.out.2.1 b hb).1))
      have hLen := HLl.out
      have hkl : k' < l.length := by rw [HLl.out]; omega
      have hL6' : w6.ownsRow G 39 2 (.slice (some ⟨G, 0, none⟩) N N) N (pc l) := by have := hL6; unfold OwnsP at this; rw [hLen] at this; exact this
      have hc6 : w6.cell? ⟨G, k' * 2, none⟩ = some (.int .i64 (l.getD k' (0, 0)).1) := by rw [World.ownsRow.cellAt hL6' (k' * 2) (by omega)]; exact (pc_get l k' hkl).1
      have hf6 : w6.frozen? ⟨G, k' * 2, none⟩ = false := World.ownsRow.frozenAt hL6' _
      have hL7 : (w6.setCell ⟨G, k' * 2, none⟩ (.int .i64 x)).ownsRow G 39 2 (.slice (some ⟨G, 0, none⟩) N N) N (pc (l.set k' (x, (l.getD k' (0, 0)).2))) := by
        rw [← pc_set1]; exact (World.ownsRow.stored hL6' (k' * 2) (.int .i64 x)).1
      have HL7 : Hid ((w6.setCell ⟨G, k' * 2, none⟩ (.int .i64 x)).ownsRow G 39 2 (.slice (some ⟨G, 0, none⟩) N N) N (pc (l.set k' (x, (l.getD k' (0, 0)).2)))) := hL7
      have HQ7 : Hid (TIn (w6.setCell ⟨G, k' * 2, none⟩ (.int .i64 x)) w.heap.size Sq v6 (tk q' i)) := hT6.same (fun b hb => heap_setCell_other _ _ _ _ (fun e => by have := HSG.out.2.1 b hb; simp only at e; omega))
      have HP7 : Hid (TIn (w6.setCell ⟨G, k' * 2, none⟩ (.int .i64 x)) w.heap.size Sp (.slice pb p'.length pc') p') := HP6.out.same (fun b hb => heap_setCell_other _ _ _ _ (fun e => by have := HSG.out.1 b hb; simp only at e; omega))
      have HB7 : Hid (Below w.heap.size w (w6.setCell ⟨G, k' * 2, none⟩ (.int .i64 x))) := HB6.out.setCell (p := ⟨G, k' * 2, none⟩) HGw.out _
      have HZ7 : Hid ((w6.setCell ⟨G, k' * 2, none⟩ (.int .i64 x)).heap.size = w4.heap.size) := by show _ = _; simp; rw [hz6, HZ.out]
      obtain ⟨a6, c6, hs6⟩ : ∃ a c, v6 = .slice a (tk q' i).length c := by obtain ⟨vs, h⟩ := hT6; exact h.t.shape
      obtain ⟨n6, Hn6⟩ : ∃ n6, Hid (n6 = (tk q' i).length) := ⟨_, rfl⟩
      rw [← Hn6.out] at hs6
      subst hs6
      clear hT6 hO6 hz6 hL6 hL6' hL7 hLen
      go_wp2_with fail
      obtain ⟨w7, HW7⟩ : ∃ w7, Hid (w7 = w6.setCell ⟨G, k' * 2, none⟩ (.int .i64 x)) := ⟨_, rfl⟩
      rw [← HW7.out]
      rw [← HW7.out] at HL7 HQ7 HP7 HB7 HZ7
      refine (takenFromRows_at (ls := p') _ i w7 HP7.out (by rw [HI.out]; exact HTop.out.2) HSk.out.2.1 HSk.out.2.2 HPQ.out.tp).mono ?_
      rintro e w8 ⟨v8, rfl, hT8, hO8, hz8⟩
      obtain ⟨y, HY⟩ : ∃ y, Hid (y = (un i p').1) := ⟨_, rfl⟩
      rw [← HY.out]
      have hL8 : w8.ownsRow G 39 2 (.slice (some ⟨G, 0, none⟩) N N) N (pc (l.set k' (x, (l.getD k' (0, 0)).2))) := ownsRow_blocks HL7.out (fun b e => by
        cases e
        exact hO8.block G (by rw [HZ7.out]; exact HGs.out) (fun hs => by have := HSG.out.1 _ hs; omega))
      have hkl2 : k' < (l.set k' (x, (l.getD k' (0, 0)).2)).length := by rw [List.length_set]; exact hkl
      have hc8 : w8.cell? ⟨G, k' * 2 + 1, none⟩ = some (.int .i64 ((l.set k' (x, (l.getD k' (0, 0)).2)).getD k' (0, 0)).2) := by rw [World.ownsRow.cellAt hL8 (k' * 2 + 1) (by omega)]; exact (pc_get _ k' hkl2).2
      have hf8 : w8.frozen? ⟨G, k' * 2 + 1, none⟩ = false := World.ownsRow.frozenAt hL8 _
      have eset : (pc (l.set k' (x, (l.getD k' (0, 0)).2))).set (k' * 2 + 1) (.int .i64 y) = pc (l.set k' (x, y)) := by
        have e1 : ((l.set k' (x, (l.getD k' (0, 0)).2)).getD k' (0, 0)).1 = x := by
          simp only [List.getD, List.getElem?_set]
          rw [if_pos trivial, if_pos hkl]; rfl
        rw [pc_set2, List.set_set, e1]
      have HL9 : Hid (OwnsP (w8.setCell ⟨G, k' * 2 + 1, none⟩ (.int .i64 y)) G (.slice (some ⟨G, 0, none⟩) N N) (l.set k' (x, y))) := by
        show World.ownsRow _ _ _ _ _ _ _
        rw [List.length_set, HLl.out, ← eset]; exact (World.ownsRow.stored hL8 (k' * 2 + 1) (.int .i64 y)).1
      have HQ9 : Hid (TIn (w8.setCell ⟨G, k' * 2 + 1, none⟩ (.int .i64 y)) w.heap.size Sq (.slice a6 n6 c6) (tk q' (top q'))) := by
        rw [← HI.out]
        refine (HQ7.out.same (fun b hb => hO8.block b ?_ (fun hs => HSG.out.2.2 b hs hb))).same (fun b hb => heap_setCell_other _ _ _ _ (fun e => by have := HSG.out.2.1 b hb; simp only at e; omega))
        rw [HZ7.out]; have := HSG.out.2.1 b hb; have := HGs.out; omega
      have HP9 : Hid (TIn (w8.setCell ⟨G, k' * 2 + 1, none⟩ (.int .i64 y)) w.heap.size Sp v8 (un (top q') p').2) := by
        rw [← HI.out]
        exact hT8.same (fun b hb => heap_setCell_other _ _ _ _ (fun e => by have := HSG.out.1 b hb; simp only at e; omega))
      have HB9 : Hid (Below w.heap.size w (w8.setCell ⟨G, k' * 2 + 1, none⟩ (.int .i64 y))) := (HB7.out.trans (hO8.below HB7.out.size (fun b hb => (HSG.out.1 b hb).1))).setCell (p := ⟨G, k' * 2 + 1, none⟩) HGw.out _
      have HZ9 : Hid ((w8.setCell ⟨G, k' * 2 + 1, none⟩ (.int .i64 y)).heap.size = w4.heap.size) := by show _ = _; simp; rw [hz8, HZ7.out]
      have HU9 : Hid (undo N p q = undo k' (un (top q') p').2 (tk q' (top q')) ++ (l.set k' (x, y)).drop k') := by
        show _ = _
        rw [HU.out, drop_set_pair (by rw [HLl.out]; omega)]
        simp only [undo]
        rw [List.append_assoc, HX.out, HY.out, HI.out]; rfl
      have HS9 : Hid (PQ k' (un (top q') p').2 (tk q' (top q'))) := HPQ.out.step
      have hsub4 : IntKind.i64.wrap ((k' : Int) - 1) = (k' : Int) - 1 := by rw [IntWalk.i64_left, IntWalk.wrap64_in _ (by omega)]
      obtain ⟨a8, c8, hs8⟩ : ∃ a c, v8 = .slice a (un i p').2.length c := by obtain ⟨vs, h⟩ := hT8; exact h.t.shape
      obtain ⟨n8, Hn8⟩ : ∃ n8, Hid (n8 = (un i p').2.length) := ⟨_, rfl⟩
      rw [← Hn8.out] at hs8
      subst hs8
      clear hT8 hO8 hz8 hL8 eset hkl2
      go_wp2
      go_roundw
      case rel => exact ⟨k', _, _, l.set k' (x, y), by omega, rfl, HP9, HQ9, HL9, by show _ = _; rw [List.length_set]; exact HLl.out, HB9, HZ9, HS9, HU9⟩
      case measure => simp [intOf]

end Go.Proofs.Ytpbmcaoomcippad
