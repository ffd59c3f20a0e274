/-
  Two tables of the call's own, apart from each other; the contracts of insert.putPair, insert.Make.
-/
import Derived.Test.YtpbmcaoomcippadIPut
import Derived.Test.YtpbmcaoomcippadILet
import Derived.Test.YtpbmcaoomcippadIKnu
namespace Go.Proofs.Ytpbmcaoomcippad
open Go.RowKit

def Two (w : World) (lo : Nat) (v u : Value) (p q : List (List Int)) : Prop := ∃ Sp Sq : Nat → Prop, TIn w lo Sp v p ∧ TIn w lo Sq u q ∧ InS Sp lo w ∧ InS Sq lo w ∧ ∀ k, Sp k → ¬ Sq k
theorem Two.nil (w : World) (lo : Nat) : Two w lo (.slice none 0 0) (.slice none 0 0) [] [] := ⟨_, _, TIn.nil w lo, TIn.nil w lo, fun _ h => h.elim, fun _ h => h.elim, fun _ h => h.elim⟩
theorem Two.below {w w' : World} {lo : Nat} {v u : Value} {p q : List (List Int)} (h : Two w lo v u p q) (hb : Below w.heap.size w w') : Two w' lo v u p q := by
  obtain ⟨Sp, Sq, h1, h2, h3, h4, h5⟩ := h
  exact ⟨Sp, Sq, h1.same (fun k hk => hb.block k (h3 k hk).2), h2.same (fun k hk => hb.block k (h4 k hk).2), fun k hk => ⟨(h3 k hk).1, Nat.lt_of_lt_of_le (h3 k hk).2 hb.size⟩, fun k hk => ⟨(h4 k hk).1, Nat.lt_of_lt_of_le (h4 k hk).2 hb.size⟩, h5⟩
theorem Two.fst {w : World} {lo : Nat} {v u : Value} {p q : List (List Int)} (h : Two w lo v u p q) : Tbl w lo v p := by obtain ⟨Sp, Sq, h1, h2, h3, h4, h5⟩ := h; exact h1.tbl
theorem Two.snd {w : World} {lo : Nat} {v u : Value} {p q : List (List Int)} (h : Two w lo v u p q) : Tbl w lo u q := by obtain ⟨Sp, Sq, h1, h2, h3, h4, h5⟩ := h; exact h2.tbl
theorem Two.shape {w : World} {lo : Nat} {v u : Value} {p q : List (List Int)} (h : Two w lo v u p q) : (∃ a c, v = .slice a p.length c) ∧ ∃ a c, u = .slice a q.length c := by
  obtain ⟨Sp, Sq, ⟨vs, h1⟩, ⟨us, h2⟩, _⟩ := h
  exact ⟨h1.t.shape, h2.t.shape⟩

/-- Rows are not empty, and not long. -/
def Sml (p : List (List Int)) : Prop := p.length ≤ 900 ∧ ∀ r ∈ p, 0 < r.length ∧ r.length ≤ 900

set_option maxHeartbeats 4000000 in
theorem putPair_at {p q : List (List Int)} {lo : Nat} (v u : Value) (a b : Int) (w : World) (hT : Two w lo v u p q) (hlo : lo ≤ w.heap.size) (hp : Sml p) (hq : Sml q) (hpq : p.length = q.length) :
    Calls Try.prog 37 #[v, u, .agg #[.int .i64 a, .int .i64 b]] w fun e w' => ∃ v' u', e = .returned (.tuple #[v', u']) ∧ Two w' lo v' u' (put1 (p, q) (a, b)).1 (put1 (p, q) (a, b)).2 ∧ Below lo w w' := by
  obtain ⟨Sp, Sq, h1, h2, h3, h4, h5⟩ := hT
  have HB0 : Hid (Below w.heap.size w (w.alloc (.cells #[.int .i64 a, .int .i64 b] 39))) := (Below.refl _ _).alloc (Nat.le_refl _) _
  have HP : Hid (TIn (w.alloc (.cells #[.int .i64 a, .int .i64 b] 39)) lo Sp v p) := h1.same (fun k hk => HB0.out.block k (h3 k hk).2)
  have HQ : Hid (TIn (w.alloc (.cells #[.int .i64 a, .int .i64 b] 39)) lo Sq u q) := h2.same (fun k hk => HB0.out.block k (h4 k hk).2)
  have H3 : Hid (InS Sp lo w) := h3
  have H4 : Hid (InS Sq lo w) := h4
  have H5 : Hid (∀ k, Sp k → ¬ Sq k) := h5
  have HLo : Hid (lo ≤ w.heap.size) := hlo
  have HSp : Hid (Sml p) := hp
  have HSq : Hid (Sml q) := hq
  have HPQ : Hid (p.length = q.length) := hpq
  have hc0 : (w.alloc (.cells #[.int .i64 a, .int .i64 b] 39)).cell? ⟨w.heap.size, 0, none⟩ = some (.int .i64 a) := by rw [World.cell?_alloc_at _ _ _ _ rfl]; rfl
  have hc1 : (w.alloc (.cells #[.int .i64 a, .int .i64 b] 39)).cell? ⟨w.heap.size, 1, none⟩ = some (.int .i64 b) := by rw [World.cell?_alloc_at _ _ _ _ rfl]; rfl
  obtain ⟨w0, HW0⟩ : ∃ w0, Hid (w0 = w.alloc (.cells #[.int .i64 a, .int .i64 b] 39)) := ⟨_, rfl⟩
  have HW0s : Hid (w0.heap.size = w.heap.size + 1) := by rw [HW0.out]; show _ = _; simp
  rw [← HW0.out] at HB0 HP HQ hc0 hc1
  clear h1 h2 h3 h4 h5 hlo hp hq hpq
  go_enter Try.func37, Try.ntmps37
  go_wp2_with fail
  rw [← HW0.out]
  go_wp2_with fail
  refine (putInRows_at v b w0 HP.out (fun k hk => by have := H3.out k hk; have := HW0s.out; omega) (by have := HLo.out; have := HW0s.out; omega) (by have := HSp.out.1; omega) (fun r hr => by have := HSp.out.2 r hr; omega)).mono ?_
  rintro e w1 ⟨v1, rfl, hT1, hO1⟩
  have HT1 : Hid (TIn w1 lo (Gr Sp w0 w1) v1 (ins false b p)) := hT1
  have HO1 : Hid (Off Sp w0 w1) := hO1
  have hblk : w1.heap[w.heap.size]? = w0.heap[w.heap.size]? := hO1.block _ (by have := HW0s.out; omega) (fun hs => by have := H3.out _ hs; omega)
  have hc2 : w1.cell? ⟨w.heap.size, 0, none⟩ = some (.int .i64 a) := by rw [World.cell?_of_block hblk]; exact hc0
  have HQ1 : Hid (TIn w1 lo Sq u q) := HQ.out.same (fun k hk => hO1.block k (by have := H4.out k hk; have := HW0s.out; omega) (fun hs => H5.out k hs hk))
  have HI : Hid (insAt false b p ≤ q.length) := by show _ ≤ _; rw [← HPQ.out]; exact insAt_le
  clear hT1 hO1 hblk hc0 hc1
  go_wp2_with fail
  refine (lengthened_at u (insAt false b p) a w1 HQ1.out (fun k hk => by have := H4.out k hk; have := HW0s.out; have := HO1.out.size; omega) (by have := HLo.out; have := HW0s.out; have := HO1.out.size; omega) HI.out (by have := HSq.out.1; omega) (fun r hr => by have := HSq.out.2 r hr; omega)).mono ?_
  rintro e w2 ⟨u2, rfl, hT2, hO2⟩
  have HTw : Hid (Two w2 lo v1 u2 (put1 (p, q) (a, b)).1 (put1 (p, q) (a, b)).2) := by
    have s1 := HO1.out.size
    have s2 := hO2.size
    have s0 := HW0s.out
    have sl := HLo.out
    refine ⟨Gr Sp w0 w1, Gr Sq w1 w2, HT1.out.same (fun k hk => hO2.block k ?_ (fun hs => ?_)), hT2, fun k hk => ?_, fun k hk => ?_, fun k hk hk2 => ?_⟩
    · rcases hk with g | g
      · have := H3.out k g; omega
      · omega
    · have := H4.out k hs
      rcases hk with g | g
      · exact H5.out k g hs
      · omega
    · rcases hk with g | g
      · have := H3.out k g; omega
      · omega
    · rcases hk with g | g
      · have := H4.out k g; omega
      · omega
    · rcases hk with g | g
      · rcases hk2 with g2 | g2
        · exact H5.out k g g2
        · have := H3.out k g; omega
      · rcases hk2 with g2 | g2
        · have := H4.out k g2; omega
        · omega
  have HBw : Hid (Below lo w w2) := by
    have b0 : Below lo w w0 := HB0.out.mono HLo.out
    have b1 : Below lo w0 w1 := HO1.out.below (Nat.le_trans HLo.out HB0.out.size) (fun k hk => (H3.out k hk).1)
    have b2 : Below lo w1 w2 := hO2.below (Nat.le_trans (Nat.le_trans HLo.out HB0.out.size) HO1.out.size) (fun k hk => (H4.out k hk).1)
    exact (b0.trans b1).trans b2
  clear hT2 hO2
  go_wp2
  go_ret2
  exact ⟨_, _, rfl, HTw.out, HBw.out⟩

/-- A word's letters with the numbers of their places. -/
def numW (w : List Int) : List (Int × Int) := (List.range w.length).map (fun i => (((i : Nat) : Int) + 1, w.getD i 0))
theorem numW_take {w : List Int} {k : Nat} (hk : k < w.length) : (numW w).take (k + 1) = (numW w).take k ++ [((k : Int) + 1, w.getD k 0)] := by
  unfold numW
  rw [List.take_succ_eq_append_getElem (by simpa using hk)]
  simp
theorem numW_length (w : List Int) : (numW w).length = w.length := by simp [numW]

/-- What the first k steps make is small. -/
theorem put1_sml {p q : List (List Int)} {a b : Int} {n : Nat} (hp : T p) (hpn : p.flatten.length = n) (hqn : q.flatten.length = n) (hq : ∀ r ∈ q, 0 < r.length) (hl : p.length = q.length) :
    T (put1 (p, q) (a, b)).1 ∧ (put1 (p, q) (a, b)).1.flatten.length = n + 1 ∧ (put1 (p, q) (a, b)).2.flatten.length = n + 1 ∧ (∀ r ∈ (put1 (p, q) (a, b)).2, 0 < r.length) := by
  have hi : insAt false b p ≤ q.length := by rw [← hl]; exact insAt_le
  refine ⟨(ins_T hp).1, by show (ins false b p).flatten.length = _; rw [ins_count, hpn], by show (lng q _ a).flatten.length = _; rw [(lng_flat hi a).1, hqn], fun r hr => ?_⟩
  obtain ⟨k, hk, rfl⟩ := mem_row (show r ∈ lng q (insAt false b p) a from hr)
  rw [lng_row hi]
  by_cases e : k = insAt false b p
  · rw [if_pos e]; simp
  · rw [if_neg e]
    rw [lng_length] at hk
    exact hq _ (row_mem (by split at hk <;> omega))
theorem ins_length {x : Int} : ∀ {ls : List (List Int)}, (ins false x ls).length = if insAt false x ls = ls.length then ls.length + 1 else ls.length := by
  intro ls
  induction ls generalizing x with
  | nil => simp [ins, insAt]
  | cons r t ih =>
    by_cases e : spot false x r = r.length
    · have e1 : ins false x (r :: t) = (r ++ [x]) :: t := by simp only [ins]; rw [if_pos e]
      have e2 : insAt false x (r :: t) = 0 := by simp only [insAt]; rw [if_pos e]
      rw [e1, e2, if_neg (by simp)]; rfl
    · have e1 : ins false x (r :: t) = r.set (spot false x r) x :: ins false (r.getD (spot false x r) 0) t := by simp only [ins]; rw [if_neg e]
      have e2 : insAt false x (r :: t) = insAt false (r.getD (spot false x r) 0) t + 1 := by simp only [insAt]; rw [if_neg e]
      rw [e1, e2, List.length_cons, ih]
      by_cases e3 : insAt false (r.getD (spot false x r) 0) t = t.length
      · rw [if_pos e3, if_pos (by rw [List.length_cons]; omega)]; simp
      · rw [if_neg e3, if_neg (by rw [List.length_cons]; omega)]; simp
theorem put1_len {p q : List (List Int)} {a b : Int} (hl : p.length = q.length) : (put1 (p, q) (a, b)).1.length = (put1 (p, q) (a, b)).2.length := by
  show (ins false b p).length = (lng q _ a).length
  rw [ins_length, lng_length, hl]
/-- What holds of both tables on the way. -/
structure OnWay (n : Nat) (p q : List (List Int)) : Prop where
  t : T p
  cp : p.flatten.length = n
  cq : q.flatten.length = n
  pos : ∀ r ∈ q, 0 < r.length
  len : p.length = q.length
theorem OnWay.nil : OnWay 0 [] [] := ⟨trivial, rfl, rfl, fun r h => by simp at h, rfl⟩
theorem OnWay.step {n : Nat} {p q : List (List Int)} (h : OnWay n p q) (c : Int × Int) : OnWay (n + 1) (put1 (p, q) c).1 (put1 (p, q) c).2 := by
  obtain ⟨a, b⟩ := c
  obtain ⟨h1, h2, h3, h4⟩ := put1_sml (a := a) (b := b) h.t h.cp h.cq h.pos h.len
  exact ⟨h1, h2, h3, h4, put1_len h.len⟩
theorem flat_rows {p : List (List Int)} {n : Nat} (h : ∀ r ∈ p, 0 < r.length) (hn : p.flatten.length = n) : p.length ≤ n ∧ ∀ r ∈ p, 0 < r.length ∧ r.length ≤ n := by
  refine ⟨by rw [← hn]; exact len_le_flat (fun a ha => h _ (row_mem ha)), fun r hr => ⟨h r hr, ?_⟩⟩
  obtain ⟨k, hk, rfl⟩ := mem_row hr
  rw [← hn]; exact row_le_flat hk
theorem OnWay.sml {n : Nat} {p q : List (List Int)} (h : OnWay n p q) (hn : n ≤ 900) : Sml p ∧ Sml q := by
  have h1 := flat_rows (p := p) (fun r hr => by obtain ⟨k, hk, rfl⟩ := mem_row hr; exact h.t.shp.one k hk) h.cp
  have h2 := flat_rows h.pos h.cq
  exact ⟨⟨by omega, fun r hr => by have := h1.2 r hr; omega⟩, ⟨by omega, fun r hr => by have := h2.2 r hr; omega⟩⟩
theorem onWay_mk : ∀ (n : Nat) (l : List (Int × Int)), l.length = n → OnWay n (mk l).1 (mk l).2 := by
  intro n
  induction n with
  | zero => intro l hl; rw [List.eq_nil_of_length_eq_zero hl]; exact OnWay.nil
  | succ n ih =>
    intro l hl
    have hne : l ≠ [] := fun e => by rw [e] at hl; simp at hl
    obtain ⟨f, c, rfl⟩ : ∃ f c, l = f ++ [c] := ⟨l.dropLast, l.getLast hne, (List.dropLast_concat_getLast hne).symm⟩
    have := (ih f (by simpa using hl)).step c
    rw [mk_snoc]; exact this

set_option maxHeartbeats 4000000 in
theorem Make_at (a : Option Addr) (n cap : Nat) (zs : List Int) (w : World) (hs : Shows w a zs) (hn : n = zs.length) (hc : lchk zs = 0) :
    Calls Try.prog 9 #[.slice a n cap] w fun e w' => ∃ v u, e = .returned (.tuple #[v, u, .int .i64 0]) ∧ Two w' w.heap.size v u (mk (numW zs)).1 (mk (numW zs)).2 ∧ Below w.heap.size w w' := by
  subst hn
  have E : Hid (lchk zs = 0) := hc
  have h40 := (lchk_ok.1 hc).1
  have HS : Hid (Shows w a zs) := hs
  clear hc hs
  go_enter Try.func9, Try.ntmps9
  go_wp2_with fail
  refine (Letters_is _ _ _ _ _ HS.out rfl E).mono ?_
  rintro e w1 ⟨rfl, hw1⟩
  obtain rfl : w = w1 := hw1.symm
  clear hw1
  go_wp2
  go_loopw [2, 3, 14] (fun v u q wr => ∃ (k : Nat), k ≤ zs.length ∧ q = .int .i64 k ∧ Hid (Two wr w.heap.size v u (mk ((numW zs).take k)).1 (mk ((numW zs).take k)).2) ∧ Hid (Below w.heap.size w wr)) (fun _ _ q _ => zs.length - (intOf q).toNat)
  case atStart => exact ⟨0, Nat.zero_le _, rfl, Two.nil _ _, Below.refl _ _⟩
  case round =>
    obtain ⟨k, hk, rfl, HT, HB⟩ := hrel
    by_cases hlt : k < zs.length
    · have hlt' : (k : Int) < (zs.length : Int) := by omega
      obtain ⟨b, off, z, rfl, HZ, hz1, hz2, hc⟩ := (HS.out.below HB.out).elem hlt
      have hw := onWay_mk k ((numW zs).take k) (by rw [List.length_take, numW_length]; omega)
      have HW : Hid (OnWay k (mk ((numW zs).take k)).1 (mk ((numW zs).take k)).2) := hw
      have HSt : Hid (put1 ((mk ((numW zs).take k)).1, (mk ((numW zs).take k)).2) ((k : Int) + 1, z) = mk ((numW zs).take (k + 1))) := by
        show _ = _
        rw [numW_take hlt, mk_snoc, HZ.out]
      obtain ⟨⟨av, cv, hv⟩, ⟨au, cu, hu⟩⟩ := HT.out.shape
      obtain ⟨np, HNp⟩ : ∃ np, Hid (np = (mk ((numW zs).take k)).1.length) := ⟨_, rfl⟩
      obtain ⟨nq, HNq⟩ : ∃ nq, Hid (nq = (mk ((numW zs).take k)).2.length) := ⟨_, rfl⟩
      rw [← HNp.out] at hv
      rw [← HNq.out] at hu
      subst hv; subst hu
      clear hw HZ
      have hsum : IntKind.i64.wrap ((k : Int) + 1) = (k : Int) + 1 := by rw [IntWalk.i64_left, IntWalk.wrap64_in _ (by omega)]
      go_wp2_with fail
      refine (putPair_at (p := (mk ((numW zs).take k)).1) (q := (mk ((numW zs).take k)).2) _ _ ((k : Int) + 1) z wr HT.out HB.out.size (HW.out.sml (by omega)).1 (HW.out.sml (by omega)).2 HW.out.len).mono ?_
      rintro e w2 ⟨v2, u2, rfl, hT2, hb2⟩
      have HT2 : Hid (Two w2 w.heap.size v2 u2 (mk ((numW zs).take (k + 1))).1 (mk ((numW zs).take (k + 1))).2) := by rw [← HSt.out]; exact hT2
      have HB2 : Hid (Below w.heap.size w w2) := HB.out.trans hb2
      clear hT2 hb2
      go_wp2
      go_roundw
      case rel => exact ⟨k + 1, by omega, by go_num, HT2, HB2⟩
      case measure => simp [intOf]; omega
    · obtain rfl : k = zs.length := by omega
      have HE : Hid (Two wr w.heap.size u2 u3 (mk (numW zs)).1 (mk (numW zs)).2) := by
        have := HT.out
        rw [List.take_of_length_le (by rw [numW_length]; exact Nat.le_refl _)] at this; exact this
      go_wp2
      go_ret3
      exact ⟨_, _, rfl, HE.out, HB.out⟩

set_option maxHeartbeats 2000000 in
theorem Make_err (a : Option Addr) (n cap : Nat) (zs : List Int) (w : World) (hs : Shows w a zs) (hn : n = zs.length) (c : Int) (hc : lchk zs = c) (h0 : c ≠ 0) :
    Calls Try.prog 9 #[.slice a n cap] w fun e w' => e = .returned (.tuple #[.slice none 0 0, .slice none 0 0, .int .i64 c]) ∧ w' = w := by
  subst hn
  have E : Hid (lchk zs = c) := hc
  have hcb : (c != 0) = true := bne_iff_ne.2 h0
  clear hc h0
  go_enter Try.func9, Try.ntmps9
  go_wp2_with fail
  refine (Letters_is _ _ _ _ _ hs rfl E).mono ?_
  rintro e w1 ⟨rfl, hw1⟩
  obtain rfl : w = w1 := hw1.symm
  go_wp2
  go_ret3
  exact ⟨rfl, rfl⟩

end Go.Proofs.Ytpbmcaoomcippad
