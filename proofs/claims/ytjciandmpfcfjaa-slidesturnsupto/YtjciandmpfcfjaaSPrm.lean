/-
  The contracts of slides.Promote, slides.Demote.
-/
import Derived.Test.YtjciandmpfcfjaaSBck
namespace Go.Proofs.Ytjciandmpfcfjaa
open Go.RowKit

theorem std_nil {ls : List (List Int)} (h : Std ls.flatten.length ls) (h0 : ls.flatten.length = 0) : ls = [] := by
  cases ls with
  | nil => rfl
  | cons r t =>
    have := h.tab.1
    rw [List.flatten_cons, List.length_append] at h0
    omega
def proT (ls : List (List Int)) : List (List Int) := if ls.flatten.length = 0 then [] else pr ls.flatten.length ls
theorem few_std {n : Nat} {ls : List (List Int)} (h : Std n ls) : Few ls := h.tabs.few'
theorem few500 {ls : List (List Int)} (h : ∀ a b, b < (row ls a).length → -500 ≤ box ls a b ∧ box ls a b ≤ 500) : ∀ r ∈ ls, ∀ z ∈ r, -500 ≤ z ∧ z ≤ 500 := fun r hr z hz => by
  obtain ⟨a, ha, rfl⟩ := mem_row hr
  obtain ⟨b, hb, rfl⟩ := List.mem_iff_getElem.1 hz
  have := h a b hb
  unfold box at this
  simpa [List.getD, List.getElem?_eq_getElem hb] using this

/-- Before the letters are made less. -/
def prB (n : Nat) (t : List (List Int)) : List (List Int) := sb (mv (left t 0 0) t 0 0).1 (mv (left t 0 0) t 0 0).2.1 (mv (left t 0 0) t 0 0).2.2 ((n : Int) + 1)
theorem prB_bd {n : Nat} {t : List (List Int)} (h : Std n t) (h0 : 0 < n) : ∀ r ∈ prB n t, ∀ z ∈ r, -500 ≤ z ∧ z ≤ 500 := by
  refine few500 (fun a b hb => ?_)
  have hs := (pr_ok h h0).1
  have e : pr n t = rais (-1) (prB n t) := rfl
  have hb2 : b < (row (pr n t) a).length := by rw [e, rais_len]; exact hb
  have := hs.box hb2
  rw [e, rais_box hb] at this
  have h40 := h.perm.len
  rw [h.len] at h40
  omega

set_option maxHeartbeats 8000000 in
theorem Promote_ok (a : Option Addr) (n cap : Nat) (ls : List (List Int)) (w : World) (hs : Table w a ls) (hn : n = ls.length) (hl : ls.length ≤ 17592186044416) (hc : scode ls = 0) :
    Calls Try.prog 31 #[.slice a n cap] w fun e w' => ∃ v, e = .returned (.tuple #[v, .int .i64 0]) ∧ Tbl w' w.heap.size v (proT ls) ∧ Below w.heap.size w w' := by
  subst hn
  obtain ⟨hS, h40⟩ := scode_ok.1 hc
  have HS : Hid (Table w a ls) := hs
  have HStd : Hid (Std ls.flatten.length ls) := hS
  have HF : Hid (Few ls) := few_std hS
  have HC : Hid (scode ls = 0) := hc
  obtain ⟨N, HN⟩ : ∃ N, Hid (N = ls.flatten.length) := ⟨_, rfl⟩
  have hN : N ≤ 40 := by rw [HN.out]; exact h40
  clear hs hS hc h40
  go_enter Try.func31, Try.ntmps31
  go_wp2_with fail
  refine (checkStandard_at a ls.length cap ls w HS.out hl rfl).mono ?_
  rintro e w1 ⟨rfl, hb1⟩
  have HB1 : Hid (Below w.heap.size w w1) := hb1
  rw [HC.out]
  clear hb1
  go_wp2_with fail
  refine (scopied_at a ls.length cap ls w1 (HS.out.below HB1.out) rfl HF.out.len HF.out.one).mono ?_
  rintro e w2 ⟨v, rfl, hT2, hb2⟩
  have HB2 : Hid (Below w.heap.size w w2) := HB1.out.trans (hb2.mono HB1.out.size)
  have HT2 : Hid (Tbl w2 w.heap.size v ls) := hT2.mono HB1.out.size
  clear hT2 hb2
  go_wp2_with fail
  refine (sboxesOf_at a ls.length cap ls w2 (HS.out.below HB2.out) rfl (by have := HF.out.len; omega) (by rw [← HN.out]; omega)).mono ?_
  rintro e w3 ⟨rfl, rfl⟩
  rw [← HN.out]
  by_cases h0 : N = 0
  · have hg : ¬ (N : Int) > 0 := by omega
    have HE : Hid (proT ls = ls) := by
      show _ = _
      have e := HN.out
      rw [h0] at e
      unfold proT
      rw [if_pos e.symm, std_nil HStd.out e.symm]
    obtain ⟨va, vc, hv⟩ : ∃ va vc, v = .slice va ls.length vc := by obtain ⟨vs, h⟩ := HT2.out; exact h.shape
    subst hv
    subst h0
    go_wp2
    go_ret2
    exact ⟨_, rfl, by rw [HE.out]; exact HT2.out, HB2.out⟩
  · have hg : (N : Int) > 0 := by omega
    have hg2 : 0 < N := by omega
    have HE : Hid (proT ls = rais (-1) (prB N ls)) := by
      show _ = _
      unfold proT
      rw [← HN.out, if_neg h0]; rfl
    have HStN : Hid (Std N ls) := by have := HStd.out; rw [← HN.out] at this; exact this
    obtain ⟨vs, hTI⟩ := TIn.of_tbl HT2.out
    obtain ⟨va, vc, hv⟩ := hTI.t.shape
    subst hv
    have HTI : Hid (TblIn w3 w.heap.size (fun k => w.heap.size ≤ k ∧ k < w3.heap.size) (.slice va ls.length vc) vs ls) := hTI
    clear hTI
    have HH := T_hol HStN.out.tab HStN.out.pos (HStN.out.some hg2)
    go_wp2_with fail
    refine (moved_at va ls.length vc vs 0 0 w3 HTI.out HF.out HH).mono ?_
    rintro e w4 ⟨rfl, hT4, hO4, hz4, hF4⟩
    have HEnd := mv_ends _ _ ls 0 0 HH (Nat.le_refl _)
    have HBd : Hid (∀ r ∈ prB N ls, ∀ z ∈ r, -500 ≤ z ∧ z ≤ 500) := prB_bd HStN.out hg2
    unfold prB at HE HBd
    obtain ⟨ms, mi, mj, hM⟩ : ∃ ms mi mj, mv (left ls 0 0) ls 0 0 = (ms, mi, mj) := ⟨_, _, _, rfl⟩
    rw [hM] at hT4 hF4 HEnd HE HBd ⊢
    simp only at hT4 hF4 HEnd HE HBd ⊢
    have HHol : Hid (Hol (fun _ => 0) ms mi mj) := HEnd.hol
    have HT4 : Hid (TblIn w4 w.heap.size (fun k => w.heap.size ≤ k ∧ k < w3.heap.size) (.slice va ls.length vc) vs ms) := hT4
    have HF4 : Hid (Few ms) := hF4
    have HO4 : Hid (Off (fun k => w.heap.size ≤ k ∧ k < w3.heap.size) w3 w4) := hO4
    clear HEnd hT4 hF4 hO4 hM HH
    obtain ⟨g, hb, ch, m, rfl, hnl, HRv, HMm, hjm, hm1, hcg, hcb, hfb, HSh, hgl, hhl⟩ := HT4.out.open HF4.out (i := mi) HHol.out.lt
    have hmi : (mi : Int) < (ls.length : Int) := by have := HHol.out.row; omega
    have hmj : (mj : Int) < (m : Int) := by omega
    have hN1 : IntKind.i64.wrap ((N : Int) + 1) = (N : Int) + 1 := by rw [IntWalk.i64_left, IntWalk.wrap64_in _ (by omega)]
    have HT5 : Hid (TblIn (w4.setCell ⟨hb, mj, none⟩ (.int .i64 ((N : Int) + 1))) w.heap.size (fun k => w.heap.size ≤ k ∧ k < w3.heap.size) (.slice (some ⟨g, 0, none⟩) ls.length vc) vs (sb ms mi mj ((N : Int) + 1))) := HT4.out.sbox HHol.out.row HRv.out HMm.out _
    have HF5 : Hid (Few (sb ms mi mj ((N : Int) + 1))) := HF4.out.sb _ _ (by omega)
    have HO5 : Hid (Off (fun k => w.heap.size ≤ k ∧ k < w3.heap.size) w3 (w4.setCell ⟨hb, mj, none⟩ (.int .i64 ((N : Int) + 1)))) := HO4.out.setCell HSh.out _
    clear hnl
    go_wp2_with fail
    refine (raise_at _ _ _ _ (-1) _ HT5.out HF5.out HBd.out (by omega)).mono ?_
    rintro e w6 ⟨rfl, hT6, hO6, hz6⟩
    have HT6 : Hid (Tbl w6 w.heap.size (.slice (some ⟨g, 0, none⟩) ls.length vc) (proT ls)) := by show Tbl _ _ _ _; rw [HE.out]; exact TIn.tbl ⟨_, hT6⟩
    have HB6 : Hid (Below w.heap.size w w6) := by
      have h1 := HO5.out.below (B := w.heap.size) HB2.out.size (fun k hk => hk.1)
      have h2 := hO6.below (B := w.heap.size) (Nat.le_trans HB2.out.size h1.size) (fun k hk => hk.1)
      exact HB2.out.trans (h1.trans h2)
    clear hT6 hO6 hz6
    go_wp2
    go_ret2
    exact ⟨_, rfl, HT6.out, HB6.out⟩

/-- Where the greatest number stands. -/
theorem std_last {n : Nat} {ls : List (List Int)} (h : Std n ls) (h0 : 0 < n) : ∃ i, i < ls.length ∧ lastOf (row ls i) = (n : Int) := by
  obtain ⟨a, b, ha, hb, e⟩ := flat_mem (wrd_mem.1 (h.all (v := (n : Int)) (by omega) (by omega)))
  refine ⟨a, ha, ?_⟩
  have h1 := row_le_last (T_row.1 h.tab a ha).2.1 hb
  have h2 := (h.box (a := a) (b := (row ls a).length - 1) (by omega)).2
  unfold box at e h2
  unfold lastOf at h1 ⊢
  omega
/-- What Promote makes it of. -/
def demT (ls : List (List Int)) : List (List Int) := if ls.flatten.length = 0 then [] else evT ls.flatten.length (pr ls.flatten.length (evT ls.flatten.length ls))
theorem demT_is {n : Nat} {ls : List (List Int)} (h : Std n ls) (h0 : 0 < n) {i j : Nat} (hj : j < (row ls i).length) (hb : box ls i j = n) : demT ls = dm ls i j := by
  unfold demT
  rw [h.flat, if_neg (by omega)]
  obtain ⟨d1, d2⟩ := dm_ok h hj hb
  obtain ⟨p1, p2⟩ := pr_ok (evT_std h) h0
  exact d2.back d1 h p2 p1
theorem dmB_bd {n : Nat} {t : List (List Int)} (h : Std n t) {i j : Nat} (hj : j < (row t i).length) (hb : box t i j = n) : ∀ r ∈ sb (mb (i + j) t i j) 0 0 0, ∀ z ∈ r, -500 ≤ z ∧ z ≤ 500 := by
  refine few500 (fun a b hb' => ?_)
  have hs := (dm_ok h hj hb).1
  have e : dm t i j = rais 1 (sb (mb (i + j) t i j) 0 0 0) := rfl
  have hb2 : b < (row (dm t i j) a).length := by rw [e, rais_len]; exact hb'
  have := hs.box hb2
  rw [e, rais_box hb'] at this
  have h40 := h.perm.len
  rw [h.len] at h40
  omega

set_option maxHeartbeats 8000000 in
theorem Demote_ok (a : Option Addr) (n cap : Nat) (ls : List (List Int)) (w : World) (hs : Table w a ls) (hn : n = ls.length) (hl : ls.length ≤ 17592186044416) (hc : scode ls = 0) :
    Calls Try.prog 32 #[.slice a n cap] w fun e w' => ∃ v, e = .returned (.tuple #[v, .int .i64 0]) ∧ Tbl w' w.heap.size v (demT ls) ∧ Below w.heap.size w w' := by
  subst hn
  obtain ⟨hS, h40⟩ := scode_ok.1 hc
  have HS : Hid (Table w a ls) := hs
  have HStd : Hid (Std ls.flatten.length ls) := hS
  have HF : Hid (Few ls) := few_std hS
  have HC : Hid (scode ls = 0) := hc
  obtain ⟨N, HN⟩ : ∃ N, Hid (N = ls.flatten.length) := ⟨_, rfl⟩
  have hN : N ≤ 40 := by rw [HN.out]; exact h40
  clear hs hS hc h40
  go_enter Try.func32, Try.ntmps32
  go_wp2_with fail
  refine (checkStandard_at a ls.length cap ls w HS.out hl rfl).mono ?_
  rintro e w1 ⟨rfl, hb1⟩
  have HB1 : Hid (Below w.heap.size w w1) := hb1
  rw [HC.out]
  clear hb1
  go_wp2_with fail
  refine (scopied_at a ls.length cap ls w1 (HS.out.below HB1.out) rfl HF.out.len HF.out.one).mono ?_
  rintro e w2 ⟨v, rfl, hT2, hb2⟩
  have HB2 : Hid (Below w.heap.size w w2) := HB1.out.trans (hb2.mono HB1.out.size)
  have HT2 : Hid (Tbl w2 w.heap.size v ls) := hT2.mono HB1.out.size
  clear hT2 hb2
  go_wp2_with fail
  refine (sboxesOf_at a ls.length cap ls w2 (HS.out.below HB2.out) rfl (by have := HF.out.len; omega) (by rw [← HN.out]; omega)).mono ?_
  rintro e w3 ⟨rfl, rfl⟩
  rw [← HN.out]
  by_cases h0 : N = 0
  · have hg : ¬ (N : Int) > 0 := by omega
    have HE : Hid (demT ls = ls) := by
      show _ = _
      have e := HN.out
      rw [h0] at e
      unfold demT
      rw [if_pos e.symm, std_nil HStd.out e.symm]
    obtain ⟨va, vc, hv⟩ : ∃ va vc, v = .slice va ls.length vc := by obtain ⟨vs, h⟩ := HT2.out; exact h.shape
    subst hv
    subst h0
    go_wp2
    go_ret2
    exact ⟨_, rfl, by rw [HE.out]; exact HT2.out, HB2.out⟩
  · have hg : (N : Int) > 0 := by omega
    have hg2 : 0 < N := by omega
    have HStN : Hid (Std N ls) := by have := HStd.out; rw [← HN.out] at this; exact this
    have HE : Hid (∀ i j, j < (row ls i).length → box ls i j = N → demT ls = dm ls i j) := fun i j hj hb => by
      show _ = _
      exact demT_is HStN.out hg2 hj hb
    obtain ⟨vs, hTI⟩ := TIn.of_tbl HT2.out
    obtain ⟨va, vc, hv⟩ := hTI.t.shape
    subst hv
    have HTI : Hid (TblIn w3 w.heap.size (fun k => w.heap.size ≤ k ∧ k < w3.heap.size) (.slice va ls.length vc) vs ls) := hTI
    clear hTI
    obtain ⟨pa, pn, pc, hsl, hTb, hnn⟩ := (TIn.tbl ⟨vs, HTI.out⟩).table HF.out.bd
    simp only [Value.slice.injEq] at hsl
    obtain ⟨rfl, rfl, rfl⟩ := hsl
    have HTb : Hid (Table w3 va ls) := hTb
    clear hTb hnn
    go_wp2_with fail
    refine (boxOf_at va ls.length vc ls (N : Int) w3 HTb.out rfl HF.out (std_last HStN.out hg2)).mono ?_
    rintro e w4 ⟨i, j, rfl, hi, hj, hla, d4, hw4⟩
    have HJ : Hid (j < (row ls i).length) := by show _ < _; omega
    have HBx : Hid (box ls i j = N) := by show _ = _; rw [← hla]; unfold lastOf box; rw [← hj]; simp
    have HHol : Hid (Hol (fun _ => 0) ls i j) := ⟨T_sk HStN.out.tab HStN.out.pos _, Nat.zero_le _, HJ.out⟩
    have HT4 : Hid (TblIn w4 w.heap.size (fun k => w.heap.size ≤ k ∧ k < w3.heap.size) (.slice va ls.length vc) vs ls) := by rw [hw4]; exact HTI.out.same (fun _ _ => rfl)
    have HO4 : Hid (Off (fun k => w.heap.size ≤ k ∧ k < w3.heap.size) w3 w4) := by rw [hw4]; exact (Off.refl _ _).drewN d4
    have HZ4 : Hid (w4.heap.size = w3.heap.size) := by rw [hw4]; rfl
    clear hla hw4 hi hj
    go_wp2_with fail
    refine (moveBack_at va ls.length vc vs i j w4 HT4.out HF.out HHol.out (HStN.out.dis i j)).mono ?_
    rintro e w5 ⟨rfl, hT5, hO5, hz5, hF5⟩
    obtain ⟨k1, k2, k3, -⟩ := mb_ok (i + j) ls i j rfl HHol.out (HStN.out.dis i j)
    have HBd : Hid (∀ r ∈ sb (mb (i + j) ls i j) 0 0 0, ∀ z ∈ r, -500 ≤ z ∧ z ≤ 500) := dmB_bd HStN.out HJ.out HBx.out
    have HE2 : Hid (demT ls = rais 1 (sb (mb (i + j) ls i j) 0 0 0)) := HE.out i j HJ.out HBx.out
    obtain ⟨ms, hM⟩ : ∃ ms, mb (i + j) ls i j = ms := ⟨_, rfl⟩
    rw [hM] at hT5 hF5 k1 k2 k3 HBd HE2
    have HHo2 : Hid (Hol (fun _ => 0) ms 0 0) := k1
    have HT5 : Hid (TblIn w5 w.heap.size (fun k => w.heap.size ≤ k ∧ k < w3.heap.size) (.slice va ls.length vc) vs ms) := hT5
    have HF5 : Hid (Few ms) := hF5
    have HO5 : Hid (Off (fun k => w.heap.size ≤ k ∧ k < w3.heap.size) w3 w5) := HO4.out.trans ⟨hO5.low, fun k hk hs => hO5.block k hk (fun q => hs (Or.inl q))⟩
    clear k1 k2 k3 hT5 hF5 hO5 hM hz5 HE
    obtain ⟨g, hb, ch, m, rfl, hnl, HRv, HMm, hjm, hm1, hcg, hcb, hfb, HSh, hgl, hhl⟩ := HT5.out.open HF5.out (i := 0) HHo2.out.lt
    have hmi : (0 : Int) < (ls.length : Int) := by have := HHo2.out.row; omega
    have hmj : (0 : Int) < (m : Int) := by omega
    have HT6 : Hid (TblIn (w5.setCell ⟨hb, 0, none⟩ (.int .i64 0)) w.heap.size (fun k => w.heap.size ≤ k ∧ k < w3.heap.size) (.slice (some ⟨g, 0, none⟩) ls.length vc) vs (sb ms 0 0 0)) := HT5.out.sbox HHo2.out.row HRv.out HMm.out _
    have HF6 : Hid (Few (sb ms 0 0 0)) := HF5.out.sb _ _ (by omega)
    have HO6 : Hid (Off (fun k => w.heap.size ≤ k ∧ k < w3.heap.size) w3 (w5.setCell ⟨hb, 0, none⟩ (.int .i64 0))) := HO5.out.setCell HSh.out _
    clear hnl
    go_wp2_with fail
    refine (raise_at _ _ _ _ 1 _ HT6.out HF6.out HBd.out (by omega)).mono ?_
    rintro e w6 ⟨rfl, hT7, hO7, hz7⟩
    have HT7 : Hid (Tbl w6 w.heap.size (.slice (some ⟨g, 0, none⟩) ls.length vc) (demT ls)) := by show Tbl _ _ _ _; rw [HE2.out]; exact TIn.tbl ⟨_, hT7⟩
    have HB7 : Hid (Below w.heap.size w w6) := by
      have h1 := HO6.out.below (B := w.heap.size) HB2.out.size (fun k hk => hk.1)
      have h2 := hO7.below (B := w.heap.size) (Nat.le_trans HB2.out.size h1.size) (fun k hk => hk.1)
      exact HB2.out.trans (h1.trans h2)
    clear hT7 hO7 hz7
    go_wp2
    go_ret2
    exact ⟨_, rfl, HT7.out, HB7.out⟩
set_option maxHeartbeats 2000000 in
theorem Promote_err (a : Option Addr) (n cap : Nat) (ls : List (List Int)) (w : World) (hs : Table w a ls) (hn : n = ls.length) (hl : ls.length ≤ 17592186044416) (hc : scode ls ≠ 0) :
    Calls Try.prog 31 #[.slice a n cap] w fun e w' => e = .returned (.tuple #[.slice none 0 0, .int .i64 (scode ls)]) ∧ Below w.heap.size w w' := by
  subst hn
  have HS : Hid (Table w a ls) := hs
  obtain ⟨c, HC⟩ : ∃ c, Hid (c = scode ls) := ⟨_, rfl⟩
  have hc0 : (c != 0) = true := by rw [HC.out]; exact bne_iff_ne.2 hc
  rw [← HC.out]
  clear hs hc
  go_enter Try.func31, Try.ntmps31
  go_wp2_with fail
  refine (checkStandard_at a ls.length cap ls w HS.out hl rfl).mono ?_
  rintro e w1 ⟨rfl, hb1⟩
  have HB1 : Hid (Below w.heap.size w w1) := hb1
  rw [← HC.out]
  clear hb1
  go_wp2
  go_ret2
  exact ⟨rfl, HB1.out⟩
/-- In both cases. -/
theorem Promote_at (a : Option Addr) (n cap : Nat) (ls : List (List Int)) (w : World) (hs : Table w a ls) (hn : n = ls.length) (hl : ls.length ≤ 17592186044416) :
    Calls Try.prog 31 #[.slice a n cap] w fun e w' => ∃ v, e = .returned (.tuple #[v, .int .i64 (scode ls)]) ∧ Tbl w' w.heap.size v (if scode ls = 0 then proT ls else []) ∧ Below w.heap.size w w' := by
  by_cases c : scode ls = 0
  · refine (Promote_ok a n cap ls w hs hn hl c).mono ?_
    rintro e w' ⟨v, rfl, h1, h2⟩
    exact ⟨v, by rw [c], by rw [if_pos c]; exact h1, h2⟩
  · refine (Promote_err a n cap ls w hs hn hl c).mono ?_
    rintro e w' ⟨rfl, h2⟩
    exact ⟨_, rfl, by rw [if_neg c]; exact Tbl.nil _ _, h2⟩
set_option maxHeartbeats 2000000 in
theorem Demote_err (a : Option Addr) (n cap : Nat) (ls : List (List Int)) (w : World) (hs : Table w a ls) (hn : n = ls.length) (hl : ls.length ≤ 17592186044416) (hc : scode ls ≠ 0) :
    Calls Try.prog 32 #[.slice a n cap] w fun e w' => e = .returned (.tuple #[.slice none 0 0, .int .i64 (scode ls)]) ∧ Below w.heap.size w w' := by
  subst hn
  have HS : Hid (Table w a ls) := hs
  obtain ⟨c, HC⟩ : ∃ c, Hid (c = scode ls) := ⟨_, rfl⟩
  have hc0 : (c != 0) = true := by rw [HC.out]; exact bne_iff_ne.2 hc
  rw [← HC.out]
  clear hs hc
  go_enter Try.func32, Try.ntmps32
  go_wp2_with fail
  refine (checkStandard_at a ls.length cap ls w HS.out hl rfl).mono ?_
  rintro e w1 ⟨rfl, hb1⟩
  have HB1 : Hid (Below w.heap.size w w1) := hb1
  rw [← HC.out]
  clear hb1
  go_wp2
  go_ret2
  exact ⟨rfl, HB1.out⟩
/-- In both cases. -/
theorem Demote_at (a : Option Addr) (n cap : Nat) (ls : List (List Int)) (w : World) (hs : Table w a ls) (hn : n = ls.length) (hl : ls.length ≤ 17592186044416) :
    Calls Try.prog 32 #[.slice a n cap] w fun e w' => ∃ v, e = .returned (.tuple #[v, .int .i64 (scode ls)]) ∧ Tbl w' w.heap.size v (if scode ls = 0 then demT ls else []) ∧ Below w.heap.size w w' := by
  by_cases c : scode ls = 0
  · refine (Demote_ok a n cap ls w hs hn hl c).mono ?_
    rintro e w' ⟨v, rfl, h1, h2⟩
    exact ⟨v, by rw [c], by rw [if_pos c]; exact h1, h2⟩
  · refine (Demote_err a n cap ls w hs hn hl c).mono ?_
    rintro e w' ⟨rfl, h2⟩
    exact ⟨_, rfl, by rw [if_neg c]; exact Tbl.nil _ _, h2⟩

end Go.Proofs.Ytjciandmpfcfjaa
