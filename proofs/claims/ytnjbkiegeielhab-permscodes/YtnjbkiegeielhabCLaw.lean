/-
  The walk of the law PermsCodes: for every three slices that can be read it returns true; nothing old has turned.
-/
import Derived.Test.YtnjbkiegeielhabCOfc
import Derived.Test.YtnjbkiegeielhabHMath
namespace Go.Proofs.Ytnjbkiegeielhab
open Go.RowKit

/-- A list of small numbers. -/
def Smal (l : List Int) : Prop := l.length ≤ 1600 ∧ ∀ z ∈ l, 0 ≤ z ∧ z ≤ 1000
theorem Smal.len {l : List Int} (h : Smal l) : l.length ≤ 17592186044416 := by have := h.1; omega
theorem Smal.wf {l : List Int} (h : Smal l) : ∀ z ∈ l, -9223372036854775808 ≤ z ∧ z ≤ 9223372036854775807 := small_wf h.2
theorem Smal.perm {l : List Int} (h : IsPerm l) : Smal l := ⟨by have := h.len; omega, fun z hz => by have := h.low z hz; have := h.high z hz; have := h.len; omega⟩
theorem Smal.nil : Smal [] := ⟨by simp, fun z h => by simp at h⟩
theorem fc_small (cs : List Int) : Smal (fcL cs) ∧ (fcC cs ≠ 0 → fcL cs = []) := by
  by_cases hc : fcC cs = 0
  · exact ⟨Smal.perm (fc_ok hc).1, fun h => absurd hc h⟩
  · have hfl : fcL cs = [] := by
      unfold fcC at hc
      unfold fcL
      by_cases h40 : 40 < cs.length
      · rw [if_pos h40]
      · rw [if_neg h40] at hc ⊢
        cases hf : fromC (orderL cs.length) cs with
        | none => rfl
        | some p => rw [hf] at hc; exact absurd rfl hc
    rw [hfl]; exact ⟨Smal.nil, fun _ => rfl⟩
theorem OfCode_at (a : Option Addr) (m cap : Nat) (cs q : List Int) (c : Int) (w : World) (hs : Shows w a cs) (hm : m = cs.length) (hc : fcC cs = c) (hq : fcL cs = q) :
    Calls Try.prog 20 #[.slice a m cap] w fun e w' => ∃ v, e = .returned (.tuple #[v, .int .i64 c]) ∧ Owns w' w.heap.size v q ∧ Below w.heap.size w w' := by
  subst hc; subst hq; exact OfCode_any a m cap cs w hs hm

set_option maxHeartbeats 4000000 in
set_option maxRecDepth 100000 in
theorem codes_err (a b d : Option Addr) (ca cb cd : Nat) (ps qs cs : List Int) (w : World) (hp : Shows w a ps) (hq : Shows w b qs) (hk : Shows w d cs) (hca : ps.length ≤ ca) (fl : List Int) (cc : Int) (r1 : Hid (fcC cs = cc)) (r2 : Hid (fcL cs = fl)) (hfl : Hid (Smal fl)) (hfe : Hid (cc ≠ 0 → fl = [])) (c0 : Int) (hc : (c0 != 0) = true) (E : Hid (pchk ps = c0)) (HA : Hid (PermR invL ps c0 [])) (HB : Hid (PermR codeL ps c0 [])) (HM : Hid (MeasR ps c0 0 0 [])) (HT : Hid (TimR ps qs c0 [])) :
    Calls Try.prog 3 #[.slice a ps.length ca, .slice b qs.length cb, .slice d cs.length cd] w fun e w' => e = .returned (.bool true) ∧ Below w.heap.size w w' := by
  have hne : Hid (c0 ≠ 0) := bne_iff_ne.1 hc
  have hne1 : (c0 == 0) = false := beq_eq_false_iff_ne.2 hne.out
  go_enter Try.func3, Try.ntmps3
  go_wp2_with fail
  refine (RPerm_is _ _ _ _ _ hp rfl E).mono ?_
  rintro e w1 ⟨rfl, hw1⟩
  obtain rfl : w = w1 := hw1.symm
  go_wp2_with fail
  refine (Inverse_at _ _ _ _ hp rfl HA.out).mono ?_
  rintro e w2 ⟨v, rfl, hown, hb⟩
  have HB2 : Hid (Below w.heap.size w w2) := hb
  replace hp := hp.below hb
  replace hq := hq.below hb
  replace hk := hk.below hb
  obtain ⟨a2, n2, c2, rfl, S2, hn2, hc2⟩ := hown.opened (by decide) (by decide)
  have HN2 : Hid (n2 = [].length) := hn2
  have HC2 : Hid (n2 ≤ c2) := hc2
  clear hown hn2 hc2
  clear hb
  have hz2 := HN2.out
  simp only [List.length_nil] at hz2
  subst hz2
  go_wp2_with fail
  refine (Code_at _ _ _ _ hp rfl hca HB.out).mono ?_
  rintro e w3 ⟨v, rfl, hown, hb⟩
  have HB3 : Hid (Below w.heap.size w w3) := HB2.out.trans (hb.mono HB2.out.size)
  replace hp := hp.below hb
  replace hq := hq.below hb
  replace hk := hk.below hb
  obtain ⟨a3, n3, c3, rfl, S3, hn3, hc3⟩ := hown.opened (by decide) (by decide)
  have HN3 : Hid (n3 = [].length) := hn3
  have HC3 : Hid (n3 ≤ c3) := hc3
  clear hown hn3 hc3
  clear hb
  have hz3 := HN3.out
  simp only [List.length_nil] at hz3
  subst hz3
  go_wp2_with fail
  refine (Measure_at _ _ _ _ hp rfl hca HM.out).mono ?_
  rintro e w4 ⟨v, rfl, hown, hb⟩
  have HB4 : Hid (Below w.heap.size w w4) := HB3.out.trans (hb.mono HB3.out.size)
  replace hp := hp.below hb
  replace hq := hq.below hb
  replace hk := hk.below hb
  obtain ⟨a4, n4, c4, rfl, S4, hn4, hc4⟩ := hown.opened (by decide) (by decide)
  have HN4 : Hid (n4 = [].length) := hn4
  have HC4 : Hid (n4 ≤ c4) := hc4
  clear hown hn4 hc4
  clear hb
  have hz4 := HN4.out
  simp only [List.length_nil] at hz4
  subst hz4
  go_wp2_with fail
  refine (Check_is _ _ _ _ _ hp rfl E).mono ?_
  rintro e w5 ⟨rfl, hb⟩
  have HB5 : Hid (Below w.heap.size w w5) := HB4.out.trans (hb.mono HB4.out.size)
  replace hp := hp.below hb
  replace hq := hq.below hb
  replace hk := hk.below hb
  clear hb
  go_wp2_with fail
  refine (list_err _ _ _ _ _ _ c0 hc).mono ?_
  rintro e w6 ⟨rfl, hd⟩
  have hb : Below w5.heap.size w5 w6 := by
    obtain ⟨n, rfl⟩ := hd
    exact below_drewN (Below.refl _ _) n
  have HB6 : Hid (Below w.heap.size w w6) := HB5.out.trans (hb.mono HB5.out.size)
  replace hp := hp.below hb
  replace hq := hq.below hb
  replace hk := hk.below hb
  clear hb hd
  go_wp2_with fail
  refine (list_err _ _ _ _ _ _ c0 hc).mono ?_
  rintro e w7 ⟨rfl, hd⟩
  have hb : Below w6.heap.size w6 w7 := by
    obtain ⟨n, rfl⟩ := hd
    exact below_drewN (Below.refl _ _) n
  have HB7 : Hid (Below w.heap.size w w7) := HB6.out.trans (hb.mono HB6.out.size)
  replace hp := hp.below hb
  replace hq := hq.below hb
  replace hk := hk.below hb
  clear hb hd
  go_wp2_with fail
  refine (list_err _ _ _ _ _ _ c0 hc).mono ?_
  rintro e w8 ⟨rfl, hd⟩
  have hb : Below w7.heap.size w7 w8 := by
    obtain ⟨n, rfl⟩ := hd
    exact below_drewN (Below.refl _ _) n
  have HB8 : Hid (Below w.heap.size w w8) := HB7.out.trans (hb.mono HB7.out.size)
  replace hp := hp.below hb
  replace hq := hq.below hb
  replace hk := hk.below hb
  clear hb hd
  have hbn : (((0 : Nat) : Int) != 0) = false := by simp
  go_wp2_with fail
  refine (FromCode_at _ _ _ cs fl cc _ hk rfl r1.out r2.out).mono ?_
  rintro e w9 ⟨v, rfl, hown, hb⟩
  have HB9 : Hid (Below w.heap.size w w9) := HB8.out.trans (hb.mono HB8.out.size)
  replace hp := hp.below hb
  replace hq := hq.below hb
  replace hk := hk.below hb
  obtain ⟨a9, n9, c9, rfl, S9, hn9, hc9⟩ := hown.opened hfl.out.len hfl.out.wf
  have HN9 : Hid (n9 = fl.length) := hn9
  have HC9 : Hid (n9 ≤ c9) := hc9
  clear hown hn9 hc9
  clear hb
  go_wp2_with fail
  refine (OfCode_at _ _ _ cs fl cc _ hk rfl r1.out r2.out).mono ?_
  rintro e w10 ⟨v, rfl, hown, hb⟩
  have HB10 : Hid (Below w.heap.size w w10) := HB9.out.trans (hb.mono HB9.out.size)
  replace hp := hp.below hb
  replace hq := hq.below hb
  replace hk := hk.below hb
  replace S9 := S9.below hb
  obtain ⟨a10, n10, c10, rfl, S10, hn10, hc10⟩ := hown.opened hfl.out.len hfl.out.wf
  have HN10 : Hid (n10 = fl.length) := hn10
  have HC10 : Hid (n10 ≤ c10) := hc10
  clear hown hn10 hc10
  clear hb
  go_wp2_with fail
  refine (list_at _ _ _ _ _ _ _ fl cc hfe.out S9 S10 HN9.out HN10.out).mono ?_
  rintro e w11 ⟨rfl, hd⟩
  have hb : Below w10.heap.size w10 w11 := by
    obtain ⟨n, rfl⟩ := hd
    exact below_drewN (Below.refl _ _) n
  have HB11 : Hid (Below w.heap.size w w11) := HB10.out.trans (hb.mono HB10.out.size)
  replace hp := hp.below hb
  replace hq := hq.below hb
  replace hk := hk.below hb
  replace S9 := S9.below hb
  replace S10 := S10.below hb
  clear hb hd
  clear S9 S10
  go_wp2_with fail
  refine (Times_at _ _ _ _ _ _ _ hp hq rfl rfl HT.out).mono ?_
  rintro e w12 ⟨v, rfl, hown, hb⟩
  have HB12 : Hid (Below w.heap.size w w12) := HB11.out.trans (hb.mono HB11.out.size)
  replace hp := hp.below hb
  replace hq := hq.below hb
  replace hk := hk.below hb
  obtain ⟨a12, n12, c12, rfl, S12, hn12, hc12⟩ := hown.opened (by decide) (by decide)
  have HN12 : Hid (n12 = [].length) := hn12
  have HC12 : Hid (n12 ≤ c12) := hc12
  clear hown hn12 hc12
  clear hb
  have hz12 := HN12.out
  simp only [List.length_nil] at hz12
  subst hz12
  go_wp2_with fail
  go_loopw [28, 29] (fun v i wr => v = .slice none 0 0 ∧ i = .int .i64 0 ∧ wr = w12) (fun _ _ _ => 0)
  case atStart => exact ⟨rfl, rfl, rfl⟩
  case round =>
    obtain ⟨rfl, rfl, hwr⟩ := hrel
    obtain rfl : w12 = wr := hwr.symm
    go_wp2_with fail
    refine (list_err _ _ _ _ _ _ c0 hc).mono ?_
    rintro e w13 ⟨rfl, hd⟩
    have hb : Below w12.heap.size w12 w13 := by
      obtain ⟨n, rfl⟩ := hd
      exact below_drewN (Below.refl _ _) n
    have HB13 : Hid (Below w.heap.size w w13) := HB12.out.trans (hb.mono HB12.out.size)
    replace hp := hp.below hb
    replace hq := hq.below hb
    replace hk := hk.below hb
    clear hb hd
    go_wp2_with fail
    go_ret
    exact ⟨rfl, HB13.out⟩

set_option maxHeartbeats 4000000 in
set_option maxRecDepth 100000 in
theorem codes_q (a b d : Option Addr) (ca cb cd : Nat) (ps qs cs : List Int) (w : World) (hp : Shows w a ps) (hq : Shows w b qs) (hk : Shows w d cs) (hca : ps.length ≤ ca) (fl : List Int) (cc : Int) (r1 : Hid (fcC cs = cc)) (r2 : Hid (fcL cs = fl)) (hfl : Hid (Smal fl)) (hfe : Hid (cc ≠ 0 → fl = [])) (hpp : IsPerm ps) (c1 : Int) (hc1 : (c1 != 0) = true) (hc1e : (c1 == 0) = false) (E2 : Hid (pchk qs = c1)) (HT : Hid (TimR ps qs c1 [])) :
    Calls Try.prog 3 #[.slice a ps.length ca, .slice b qs.length cb, .slice d cs.length cd] w fun e w' => e = .returned (.bool true) ∧ Below w.heap.size w w' := by
  have h40 := hpp.len
  have HP : Hid (IsPerm ps) := hpp
  have E : Hid (pchk ps = 0) := pchk_ok.2 hpp
  have HAs : Hid (Smal (invL ps)) := Smal.perm ((invL_inv hpp).perm hpp)
  have HCs : Hid (Smal (codeL ps)) := ⟨by rw [codeL_length]; omega, codeL_small h40⟩
  have HDs : Hid (Smal (desc ps.length ps)) := ⟨by have := desc_len ps.length ps; omega, fun z hz => by have := desc_small ps.length ps z hz; omega⟩
  obtain ⟨N, hN⟩ : ∃ N, N = wrongs ps := ⟨_, rfl⟩
  obtain ⟨M, hM⟩ : ∃ M, M = major ps.length ps := ⟨_, rfl⟩
  obtain ⟨ds, hds⟩ : ∃ ds, ds = desc ps.length ps := ⟨_, rfl⟩
  rw [← hds] at HDs
  have HMe : Hid (MeasR ps 0 N M ds) := ⟨E.out, fun _ => ⟨hN, hM, hds⟩, fun h => absurd rfl h⟩
  have HN0 : Hid (wrongs ps = N) := hN.symm
  have HM0 : Hid (major ps.length ps = M) := hM.symm
  have HD0 : Hid (desc ps.length ps = ds) := hds.symm
  clear hpp hN hM hds
  go_enter Try.func3, Try.ntmps3
  go_wp2_with fail
  refine (RPerm_is _ _ _ _ _ hp rfl E).mono ?_
  rintro e w1 ⟨rfl, hw1⟩
  obtain rfl : w = w1 := hw1.symm
  go_wp2_with fail
  refine (Inverse_at _ _ _ _ hp rfl (PermR.ok HP.out)).mono ?_
  rintro e w2 ⟨v, rfl, hown, hb⟩
  have HB2 : Hid (Below w.heap.size w w2) := hb
  replace hp := hp.below hb
  replace hq := hq.below hb
  replace hk := hk.below hb
  obtain ⟨a2, n2, c2, rfl, S2, hn2, hc2⟩ := hown.opened HAs.out.len HAs.out.wf
  have HN2 : Hid (n2 = (invL ps).length) := hn2
  have HC2 : Hid (n2 ≤ c2) := hc2
  clear hown hn2 hc2
  clear hb
  go_wp2_with fail
  refine (Code_at _ _ _ _ hp rfl hca (PermR.ok HP.out)).mono ?_
  rintro e w3 ⟨v, rfl, hown, hb⟩
  have HB3 : Hid (Below w.heap.size w w3) := HB2.out.trans (hb.mono HB2.out.size)
  replace hp := hp.below hb
  replace hq := hq.below hb
  replace hk := hk.below hb
  replace S2 := S2.below hb
  obtain ⟨a3, n3, c3, rfl, S3, hn3, hc3⟩ := hown.opened HCs.out.len HCs.out.wf
  have HN3 : Hid (n3 = (codeL ps).length) := hn3
  have HC3 : Hid (n3 ≤ c3) := hc3
  clear hown hn3 hc3
  clear hb
  go_wp2_with fail
  refine (Measure_at _ _ _ _ hp rfl hca HMe.out).mono ?_
  rintro e w4 ⟨v, rfl, hown, hb⟩
  have HB4 : Hid (Below w.heap.size w w4) := HB3.out.trans (hb.mono HB3.out.size)
  replace hp := hp.below hb
  replace hq := hq.below hb
  replace hk := hk.below hb
  replace S2 := S2.below hb
  replace S3 := S3.below hb
  obtain ⟨a4, n4, c4, rfl, S4, hn4, hc4⟩ := hown.opened HDs.out.len HDs.out.wf
  have HN4 : Hid (n4 = ds.length) := hn4
  have HC4 : Hid (n4 ≤ c4) := hc4
  clear hown hn4 hc4
  clear hb
  go_wp2_with fail
  refine (Inverted_ok _ _ _ _ _ hp rfl HP.out).mono ?_
  rintro e w5 ⟨v, rfl, hown, hb⟩
  have HB5 : Hid (Below w.heap.size w w5) := HB4.out.trans (hb.mono HB4.out.size)
  replace hp := hp.below hb
  replace hq := hq.below hb
  replace hk := hk.below hb
  replace S2 := S2.below hb
  replace S3 := S3.below hb
  replace S4 := S4.below hb
  obtain ⟨a5, n5, c5, rfl, S5, hn5, hc5⟩ := hown.opened HAs.out.len HAs.out.wf
  have HN5 : Hid (n5 = (invL ps).length) := hn5
  have HC5 : Hid (n5 ≤ c5) := hc5
  clear hown hn5 hc5
  clear hb
  go_wp2_with fail
  refine (Behind_ok _ _ _ _ _ hp rfl h40).mono ?_
  rintro e w6 ⟨v, rfl, hown, hb⟩
  have HB6 : Hid (Below w.heap.size w w6) := HB5.out.trans (hb.mono HB5.out.size)
  replace hp := hp.below hb
  replace hq := hq.below hb
  replace hk := hk.below hb
  replace S2 := S2.below hb
  replace S3 := S3.below hb
  replace S4 := S4.below hb
  replace S5 := S5.below hb
  obtain ⟨a6, n6, c6, rfl, S6, hn6, hc6⟩ := hown.opened HCs.out.len HCs.out.wf
  have HN6 : Hid (n6 = (codeL ps).length) := hn6
  have HC6 : Hid (n6 ≤ c6) := hc6
  clear hown hn6 hc6
  clear hb
  go_wp2_with fail
  refine (Wrong_at _ _ _ ps _ hp rfl h40 N HN0.out).mono ?_
  rintro e w7 ⟨rfl, hd⟩
  have hb : Below w6.heap.size w6 w7 := by
    obtain ⟨n, rfl⟩ := hd
    exact below_drewN (Below.refl _ _) n
  have HB7 : Hid (Below w.heap.size w w7) := HB6.out.trans (hb.mono HB6.out.size)
  replace hp := hp.below hb
  replace hq := hq.below hb
  replace hk := hk.below hb
  replace S2 := S2.below hb
  replace S3 := S3.below hb
  replace S4 := S4.below hb
  replace S5 := S5.below hb
  replace S6 := S6.below hb
  clear hb hd
  go_wp2_with fail
  refine (Falls_at _ _ _ _ _ hp rfl h40 M ds HM0.out HD0.out).mono ?_
  rintro e w8 ⟨v, rfl, hown, hb⟩
  have HB8 : Hid (Below w.heap.size w w8) := HB7.out.trans (hb.mono HB7.out.size)
  replace hp := hp.below hb
  replace hq := hq.below hb
  replace hk := hk.below hb
  replace S2 := S2.below hb
  replace S3 := S3.below hb
  replace S4 := S4.below hb
  replace S5 := S5.below hb
  replace S6 := S6.below hb
  obtain ⟨a8, n8, c8, rfl, S8, hn8, hc8⟩ := hown.opened HDs.out.len HDs.out.wf
  have HN8 : Hid (n8 = ds.length) := hn8
  have HC8 : Hid (n8 ≤ c8) := hc8
  clear hown hn8 hc8
  clear hb
  go_wp2_with fail
  refine (Check_is _ _ _ _ _ hp rfl E).mono ?_
  rintro e w9 ⟨rfl, hb⟩
  have HB9 : Hid (Below w.heap.size w w9) := HB8.out.trans (hb.mono HB8.out.size)
  replace hp := hp.below hb
  replace hq := hq.below hb
  replace hk := hk.below hb
  replace S2 := S2.below hb
  replace S3 := S3.below hb
  replace S4 := S4.below hb
  replace S5 := S5.below hb
  replace S6 := S6.below hb
  replace S8 := S8.below hb
  clear hb
  go_wp2_with fail
  refine (list_ok _ _ _ _ _ _ _ (invL ps) S2 S5 HN2 HN5).mono ?_
  rintro e w10 ⟨rfl, hd⟩
  have hb : Below w9.heap.size w9 w10 := by
    obtain ⟨n, rfl⟩ := hd
    exact below_drewN (Below.refl _ _) n
  have HB10 : Hid (Below w.heap.size w w10) := HB9.out.trans (hb.mono HB9.out.size)
  replace hp := hp.below hb
  replace hq := hq.below hb
  replace hk := hk.below hb
  replace S2 := S2.below hb
  replace S3 := S3.below hb
  replace S4 := S4.below hb
  replace S5 := S5.below hb
  replace S6 := S6.below hb
  replace S8 := S8.below hb
  clear hb hd
  clear S2 S5
  go_wp2_with fail
  refine (list_ok _ _ _ _ _ _ _ (codeL ps) S3 S6 HN3 HN6).mono ?_
  rintro e w11 ⟨rfl, hd⟩
  have hb : Below w10.heap.size w10 w11 := by
    obtain ⟨n, rfl⟩ := hd
    exact below_drewN (Below.refl _ _) n
  have HB11 : Hid (Below w.heap.size w w11) := HB10.out.trans (hb.mono HB10.out.size)
  replace hp := hp.below hb
  replace hq := hq.below hb
  replace hk := hk.below hb
  replace S3 := S3.below hb
  replace S4 := S4.below hb
  replace S6 := S6.below hb
  replace S8 := S8.below hb
  clear hb hd
  clear S3 S6
  go_wp2_with fail
  refine (list_ok _ _ _ _ _ _ _ ds S4 S8 HN4 HN8).mono ?_
  rintro e w12 ⟨rfl, hd⟩
  have hb : Below w11.heap.size w11 w12 := by
    obtain ⟨n, rfl⟩ := hd
    exact below_drewN (Below.refl _ _) n
  have HB12 : Hid (Below w.heap.size w w12) := HB11.out.trans (hb.mono HB11.out.size)
  replace hp := hp.below hb
  replace hq := hq.below hb
  replace hk := hk.below hb
  replace S4 := S4.below hb
  replace S8 := S8.below hb
  clear hb hd
  clear S4 S8
  have hbn : ((N : Int) != (N : Int)) = false := by simp
  have hbm : ((M : Int) != (M : Int)) = false := by simp
  go_wp2_with fail
  refine (FromCode_at _ _ _ cs fl cc _ hk rfl r1.out r2.out).mono ?_
  rintro e w13 ⟨v, rfl, hown, hb⟩
  have HB13 : Hid (Below w.heap.size w w13) := HB12.out.trans (hb.mono HB12.out.size)
  replace hp := hp.below hb
  replace hq := hq.below hb
  replace hk := hk.below hb
  obtain ⟨a13, n13, c13, rfl, S13, hn13, hc13⟩ := hown.opened hfl.out.len hfl.out.wf
  have HN13 : Hid (n13 = fl.length) := hn13
  have HC13 : Hid (n13 ≤ c13) := hc13
  clear hown hn13 hc13
  clear hb
  go_wp2_with fail
  refine (OfCode_at _ _ _ cs fl cc _ hk rfl r1.out r2.out).mono ?_
  rintro e w14 ⟨v, rfl, hown, hb⟩
  have HB14 : Hid (Below w.heap.size w w14) := HB13.out.trans (hb.mono HB13.out.size)
  replace hp := hp.below hb
  replace hq := hq.below hb
  replace hk := hk.below hb
  replace S13 := S13.below hb
  obtain ⟨a14, n14, c14, rfl, S14, hn14, hc14⟩ := hown.opened hfl.out.len hfl.out.wf
  have HN14 : Hid (n14 = fl.length) := hn14
  have HC14 : Hid (n14 ≤ c14) := hc14
  clear hown hn14 hc14
  clear hb
  go_wp2_with fail
  refine (list_at _ _ _ _ _ _ _ fl cc hfe.out S13 S14 HN13.out HN14.out).mono ?_
  rintro e w15 ⟨rfl, hd⟩
  have hb : Below w14.heap.size w14 w15 := by
    obtain ⟨n, rfl⟩ := hd
    exact below_drewN (Below.refl _ _) n
  have HB15 : Hid (Below w.heap.size w w15) := HB14.out.trans (hb.mono HB14.out.size)
  replace hp := hp.below hb
  replace hq := hq.below hb
  replace hk := hk.below hb
  replace S13 := S13.below hb
  replace S14 := S14.below hb
  clear hb hd
  clear S13 S14
  go_wp2_with fail
  refine (Times_at _ _ _ _ _ _ _ hp hq rfl rfl HT.out).mono ?_
  rintro e w16 ⟨v, rfl, hown, hb⟩
  have HB16 : Hid (Below w.heap.size w w16) := HB15.out.trans (hb.mono HB15.out.size)
  replace hp := hp.below hb
  replace hq := hq.below hb
  replace hk := hk.below hb
  obtain ⟨a16, n16, c16, rfl, S16, hn16, hc16⟩ := hown.opened (by decide) (by decide)
  have HN16 : Hid (n16 = [].length) := hn16
  have HC16 : Hid (n16 ≤ c16) := hc16
  clear hown hn16 hc16
  clear hb
  have hz16 := HN16.out
  simp only [List.length_nil] at hz16
  subst hz16
  go_wp2_with fail
  refine (RPerm_is _ _ _ _ _ hq rfl E2).mono ?_
  rintro e w17 ⟨rfl, hw17⟩
  obtain rfl : w16 = w17 := hw17.symm
  go_wp2_with fail
  go_loopw [28, 29] (fun v i wr => v = .slice none 0 0 ∧ i = .int .i64 0 ∧ wr = w16) (fun _ _ _ => 0)
  case atStart => exact ⟨rfl, rfl, rfl⟩
  case round =>
    obtain ⟨rfl, rfl, hwr⟩ := hrel
    obtain rfl : w16 = wr := hwr.symm
    go_wp2_with fail
    refine (list_err _ _ _ _ _ _ c1 hc1).mono ?_
    rintro e w18 ⟨rfl, hd⟩
    have hb : Below w16.heap.size w16 w18 := by
      obtain ⟨n, rfl⟩ := hd
      exact below_drewN (Below.refl _ _) n
    have HB18 : Hid (Below w.heap.size w w18) := HB16.out.trans (hb.mono HB16.out.size)
    replace hp := hp.below hb
    replace hq := hq.below hb
    replace hk := hk.below hb
    clear hb hd
    go_wp2_with fail
    go_ret
    exact ⟨rfl, HB18.out⟩

set_option maxHeartbeats 4000000 in
set_option maxRecDepth 100000 in
theorem codes_3 (a b d : Option Addr) (ca cb cd : Nat) (ps qs cs : List Int) (w : World) (hp : Shows w a ps) (hq : Shows w b qs) (hk : Shows w d cs) (hca : ps.length ≤ ca) (fl : List Int) (cc : Int) (r1 : Hid (fcC cs = cc)) (r2 : Hid (fcL cs = fl)) (hfl : Hid (Smal fl)) (hfe : Hid (cc ≠ 0 → fl = [])) (hpp : IsPerm ps) (E2 : Hid (pchk qs = 0)) (hln : ((ps.length : Int) != (qs.length : Int)) = true) (HT : Hid (TimR ps qs 3 [])) :
    Calls Try.prog 3 #[.slice a ps.length ca, .slice b qs.length cb, .slice d cs.length cd] w fun e w' => e = .returned (.bool true) ∧ Below w.heap.size w w' := by
  have h40 := hpp.len
  have HP : Hid (IsPerm ps) := hpp
  have E : Hid (pchk ps = 0) := pchk_ok.2 hpp
  have HAs : Hid (Smal (invL ps)) := Smal.perm ((invL_inv hpp).perm hpp)
  have HCs : Hid (Smal (codeL ps)) := ⟨by rw [codeL_length]; omega, codeL_small h40⟩
  have HDs : Hid (Smal (desc ps.length ps)) := ⟨by have := desc_len ps.length ps; omega, fun z hz => by have := desc_small ps.length ps z hz; omega⟩
  obtain ⟨N, hN⟩ : ∃ N, N = wrongs ps := ⟨_, rfl⟩
  obtain ⟨M, hM⟩ : ∃ M, M = major ps.length ps := ⟨_, rfl⟩
  obtain ⟨ds, hds⟩ : ∃ ds, ds = desc ps.length ps := ⟨_, rfl⟩
  rw [← hds] at HDs
  have HMe : Hid (MeasR ps 0 N M ds) := ⟨E.out, fun _ => ⟨hN, hM, hds⟩, fun h => absurd rfl h⟩
  have HN0 : Hid (wrongs ps = N) := hN.symm
  have HM0 : Hid (major ps.length ps = M) := hM.symm
  have HD0 : Hid (desc ps.length ps = ds) := hds.symm
  clear hpp hN hM hds
  go_enter Try.func3, Try.ntmps3
  go_wp2_with fail
  refine (RPerm_is _ _ _ _ _ hp rfl E).mono ?_
  rintro e w1 ⟨rfl, hw1⟩
  obtain rfl : w = w1 := hw1.symm
  go_wp2_with fail
  refine (Inverse_at _ _ _ _ hp rfl (PermR.ok HP.out)).mono ?_
  rintro e w2 ⟨v, rfl, hown, hb⟩
  have HB2 : Hid (Below w.heap.size w w2) := hb
  replace hp := hp.below hb
  replace hq := hq.below hb
  replace hk := hk.below hb
  obtain ⟨a2, n2, c2, rfl, S2, hn2, hc2⟩ := hown.opened HAs.out.len HAs.out.wf
  have HN2 : Hid (n2 = (invL ps).length) := hn2
  have HC2 : Hid (n2 ≤ c2) := hc2
  clear hown hn2 hc2
  clear hb
  go_wp2_with fail
  refine (Code_at _ _ _ _ hp rfl hca (PermR.ok HP.out)).mono ?_
  rintro e w3 ⟨v, rfl, hown, hb⟩
  have HB3 : Hid (Below w.heap.size w w3) := HB2.out.trans (hb.mono HB2.out.size)
  replace hp := hp.below hb
  replace hq := hq.below hb
  replace hk := hk.below hb
  replace S2 := S2.below hb
  obtain ⟨a3, n3, c3, rfl, S3, hn3, hc3⟩ := hown.opened HCs.out.len HCs.out.wf
  have HN3 : Hid (n3 = (codeL ps).length) := hn3
  have HC3 : Hid (n3 ≤ c3) := hc3
  clear hown hn3 hc3
  clear hb
  go_wp2_with fail
  refine (Measure_at _ _ _ _ hp rfl hca HMe.out).mono ?_
  rintro e w4 ⟨v, rfl, hown, hb⟩
  have HB4 : Hid (Below w.heap.size w w4) := HB3.out.trans (hb.mono HB3.out.size)
  replace hp := hp.below hb
  replace hq := hq.below hb
  replace hk := hk.below hb
  replace S2 := S2.below hb
  replace S3 := S3.below hb
  obtain ⟨a4, n4, c4, rfl, S4, hn4, hc4⟩ := hown.opened HDs.out.len HDs.out.wf
  have HN4 : Hid (n4 = ds.length) := hn4
  have HC4 : Hid (n4 ≤ c4) := hc4
  clear hown hn4 hc4
  clear hb
  go_wp2_with fail
  refine (Inverted_ok _ _ _ _ _ hp rfl HP.out).mono ?_
  rintro e w5 ⟨v, rfl, hown, hb⟩
  have HB5 : Hid (Below w.heap.size w w5) := HB4.out.trans (hb.mono HB4.out.size)
  replace hp := hp.below hb
  replace hq := hq.below hb
  replace hk := hk.below hb
  replace S2 := S2.below hb
  replace S3 := S3.below hb
  replace S4 := S4.below hb
  obtain ⟨a5, n5, c5, rfl, S5, hn5, hc5⟩ := hown.opened HAs.out.len HAs.out.wf
  have HN5 : Hid (n5 = (invL ps).length) := hn5
  have HC5 : Hid (n5 ≤ c5) := hc5
  clear hown hn5 hc5
  clear hb
  go_wp2_with fail
  refine (Behind_ok _ _ _ _ _ hp rfl h40).mono ?_
  rintro e w6 ⟨v, rfl, hown, hb⟩
  have HB6 : Hid (Below w.heap.size w w6) := HB5.out.trans (hb.mono HB5.out.size)
  replace hp := hp.below hb
  replace hq := hq.below hb
  replace hk := hk.below hb
  replace S2 := S2.below hb
  replace S3 := S3.below hb
  replace S4 := S4.below hb
  replace S5 := S5.below hb
  obtain ⟨a6, n6, c6, rfl, S6, hn6, hc6⟩ := hown.opened HCs.out.len HCs.out.wf
  have HN6 : Hid (n6 = (codeL ps).length) := hn6
  have HC6 : Hid (n6 ≤ c6) := hc6
  clear hown hn6 hc6
  clear hb
  go_wp2_with fail
  refine (Wrong_at _ _ _ ps _ hp rfl h40 N HN0.out).mono ?_
  rintro e w7 ⟨rfl, hd⟩
  have hb : Below w6.heap.size w6 w7 := by
    obtain ⟨n, rfl⟩ := hd
    exact below_drewN (Below.refl _ _) n
  have HB7 : Hid (Below w.heap.size w w7) := HB6.out.trans (hb.mono HB6.out.size)
  replace hp := hp.below hb
  replace hq := hq.below hb
  replace hk := hk.below hb
  replace S2 := S2.below hb
  replace S3 := S3.below hb
  replace S4 := S4.below hb
  replace S5 := S5.below hb
  replace S6 := S6.below hb
  clear hb hd
  go_wp2_with fail
  refine (Falls_at _ _ _ _ _ hp rfl h40 M ds HM0.out HD0.out).mono ?_
  rintro e w8 ⟨v, rfl, hown, hb⟩
  have HB8 : Hid (Below w.heap.size w w8) := HB7.out.trans (hb.mono HB7.out.size)
  replace hp := hp.below hb
  replace hq := hq.below hb
  replace hk := hk.below hb
  replace S2 := S2.below hb
  replace S3 := S3.below hb
  replace S4 := S4.below hb
  replace S5 := S5.below hb
  replace S6 := S6.below hb
  obtain ⟨a8, n8, c8, rfl, S8, hn8, hc8⟩ := hown.opened HDs.out.len HDs.out.wf
  have HN8 : Hid (n8 = ds.length) := hn8
  have HC8 : Hid (n8 ≤ c8) := hc8
  clear hown hn8 hc8
  clear hb
  go_wp2_with fail
  refine (Check_is _ _ _ _ _ hp rfl E).mono ?_
  rintro e w9 ⟨rfl, hb⟩
  have HB9 : Hid (Below w.heap.size w w9) := HB8.out.trans (hb.mono HB8.out.size)
  replace hp := hp.below hb
  replace hq := hq.below hb
  replace hk := hk.below hb
  replace S2 := S2.below hb
  replace S3 := S3.below hb
  replace S4 := S4.below hb
  replace S5 := S5.below hb
  replace S6 := S6.below hb
  replace S8 := S8.below hb
  clear hb
  go_wp2_with fail
  refine (list_ok _ _ _ _ _ _ _ (invL ps) S2 S5 HN2 HN5).mono ?_
  rintro e w10 ⟨rfl, hd⟩
  have hb : Below w9.heap.size w9 w10 := by
    obtain ⟨n, rfl⟩ := hd
    exact below_drewN (Below.refl _ _) n
  have HB10 : Hid (Below w.heap.size w w10) := HB9.out.trans (hb.mono HB9.out.size)
  replace hp := hp.below hb
  replace hq := hq.below hb
  replace hk := hk.below hb
  replace S2 := S2.below hb
  replace S3 := S3.below hb
  replace S4 := S4.below hb
  replace S5 := S5.below hb
  replace S6 := S6.below hb
  replace S8 := S8.below hb
  clear hb hd
  clear S2 S5
  go_wp2_with fail
  refine (list_ok _ _ _ _ _ _ _ (codeL ps) S3 S6 HN3 HN6).mono ?_
  rintro e w11 ⟨rfl, hd⟩
  have hb : Below w10.heap.size w10 w11 := by
    obtain ⟨n, rfl⟩ := hd
    exact below_drewN (Below.refl _ _) n
  have HB11 : Hid (Below w.heap.size w w11) := HB10.out.trans (hb.mono HB10.out.size)
  replace hp := hp.below hb
  replace hq := hq.below hb
  replace hk := hk.below hb
  replace S3 := S3.below hb
  replace S4 := S4.below hb
  replace S6 := S6.below hb
  replace S8 := S8.below hb
  clear hb hd
  clear S3 S6
  go_wp2_with fail
  refine (list_ok _ _ _ _ _ _ _ ds S4 S8 HN4 HN8).mono ?_
  rintro e w12 ⟨rfl, hd⟩
  have hb : Below w11.heap.size w11 w12 := by
    obtain ⟨n, rfl⟩ := hd
    exact below_drewN (Below.refl _ _) n
  have HB12 : Hid (Below w.heap.size w w12) := HB11.out.trans (hb.mono HB11.out.size)
  replace hp := hp.below hb
  replace hq := hq.below hb
  replace hk := hk.below hb
  replace S4 := S4.below hb
  replace S8 := S8.below hb
  clear hb hd
  clear S4 S8
  have hbn : ((N : Int) != (N : Int)) = false := by simp
  have hbm : ((M : Int) != (M : Int)) = false := by simp
  go_wp2_with fail
  refine (FromCode_at _ _ _ cs fl cc _ hk rfl r1.out r2.out).mono ?_
  rintro e w13 ⟨v, rfl, hown, hb⟩
  have HB13 : Hid (Below w.heap.size w w13) := HB12.out.trans (hb.mono HB12.out.size)
  replace hp := hp.below hb
  replace hq := hq.below hb
  replace hk := hk.below hb
  obtain ⟨a13, n13, c13, rfl, S13, hn13, hc13⟩ := hown.opened hfl.out.len hfl.out.wf
  have HN13 : Hid (n13 = fl.length) := hn13
  have HC13 : Hid (n13 ≤ c13) := hc13
  clear hown hn13 hc13
  clear hb
  go_wp2_with fail
  refine (OfCode_at _ _ _ cs fl cc _ hk rfl r1.out r2.out).mono ?_
  rintro e w14 ⟨v, rfl, hown, hb⟩
  have HB14 : Hid (Below w.heap.size w w14) := HB13.out.trans (hb.mono HB13.out.size)
  replace hp := hp.below hb
  replace hq := hq.below hb
  replace hk := hk.below hb
  replace S13 := S13.below hb
  obtain ⟨a14, n14, c14, rfl, S14, hn14, hc14⟩ := hown.opened hfl.out.len hfl.out.wf
  have HN14 : Hid (n14 = fl.length) := hn14
  have HC14 : Hid (n14 ≤ c14) := hc14
  clear hown hn14 hc14
  clear hb
  go_wp2_with fail
  refine (list_at _ _ _ _ _ _ _ fl cc hfe.out S13 S14 HN13.out HN14.out).mono ?_
  rintro e w15 ⟨rfl, hd⟩
  have hb : Below w14.heap.size w14 w15 := by
    obtain ⟨n, rfl⟩ := hd
    exact below_drewN (Below.refl _ _) n
  have HB15 : Hid (Below w.heap.size w w15) := HB14.out.trans (hb.mono HB14.out.size)
  replace hp := hp.below hb
  replace hq := hq.below hb
  replace hk := hk.below hb
  replace S13 := S13.below hb
  replace S14 := S14.below hb
  clear hb hd
  clear S13 S14
  go_wp2_with fail
  refine (Times_at _ _ _ _ _ _ _ hp hq rfl rfl HT.out).mono ?_
  rintro e w16 ⟨v, rfl, hown, hb⟩
  have HB16 : Hid (Below w.heap.size w w16) := HB15.out.trans (hb.mono HB15.out.size)
  replace hp := hp.below hb
  replace hq := hq.below hb
  replace hk := hk.below hb
  obtain ⟨a16, n16, c16, rfl, S16, hn16, hc16⟩ := hown.opened (by decide) (by decide)
  have HN16 : Hid (n16 = [].length) := hn16
  have HC16 : Hid (n16 ≤ c16) := hc16
  clear hown hn16 hc16
  clear hb
  have hz16 := HN16.out
  simp only [List.length_nil] at hz16
  subst hz16
  go_wp2_with fail
  refine (RPerm_is _ _ _ _ _ hq rfl E2).mono ?_
  rintro e w17 ⟨rfl, hw17⟩
  obtain rfl : w16 = w17 := hw17.symm
  go_wp2_with fail
  go_loopw [28, 29] (fun v i wr => v = .slice none 0 0 ∧ i = .int .i64 0 ∧ wr = w16) (fun _ _ _ => 0)
  case atStart => exact ⟨rfl, rfl, rfl⟩
  case round =>
    obtain ⟨rfl, rfl, hwr⟩ := hrel
    obtain rfl : w16 = wr := hwr.symm
    go_wp2_with fail
    refine (list_err _ _ _ _ _ _ 3 (by decide)).mono ?_
    rintro e w18 ⟨rfl, hd⟩
    have hb : Below w16.heap.size w16 w18 := by
      obtain ⟨n, rfl⟩ := hd
      exact below_drewN (Below.refl _ _) n
    have HB18 : Hid (Below w.heap.size w w18) := HB16.out.trans (hb.mono HB16.out.size)
    replace hp := hp.below hb
    replace hq := hq.below hb
    replace hk := hk.below hb
    clear hb hd
    go_wp2_with fail
    go_ret
    exact ⟨rfl, HB18.out⟩

set_option maxHeartbeats 4000000 in
set_option maxRecDepth 100000 in
theorem codes_0 (a b d : Option Addr) (ca cb cd : Nat) (ps qs cs : List Int) (w : World) (hp : Shows w a ps) (hq : Shows w b qs) (hk : Shows w d cs) (hca : ps.length ≤ ca) (fl : List Int) (cc : Int) (r1 : Hid (fcC cs = cc)) (r2 : Hid (fcL cs = fl)) (hfl : Hid (Smal fl)) (hfe : Hid (cc ≠ 0 → fl = [])) (hpp : IsPerm ps) (E2 : Hid (pchk qs = 0)) (HQ : Hid (IsPerm qs)) (hq40 : qs.length ≤ 40) (HLen : Hid (ps.length = qs.length)) (hln : ((ps.length : Int) != (qs.length : Int)) = false) (HT : Hid (TimR ps qs 0 (timesL ps qs))) (HTs : Hid (Smal (timesL ps qs))) :
    Calls Try.prog 3 #[.slice a ps.length ca, .slice b qs.length cb, .slice d cs.length cd] w fun e w' => e = .returned (.bool true) ∧ Below w.heap.size w w' := by
  have h40 := hpp.len
  have HP : Hid (IsPerm ps) := hpp
  have E : Hid (pchk ps = 0) := pchk_ok.2 hpp
  have HAs : Hid (Smal (invL ps)) := Smal.perm ((invL_inv hpp).perm hpp)
  have HCs : Hid (Smal (codeL ps)) := ⟨by rw [codeL_length]; omega, codeL_small h40⟩
  have HDs : Hid (Smal (desc ps.length ps)) := ⟨by have := desc_len ps.length ps; omega, fun z hz => by have := desc_small ps.length ps z hz; omega⟩
  obtain ⟨N, hN⟩ : ∃ N, N = wrongs ps := ⟨_, rfl⟩
  obtain ⟨M, hM⟩ : ∃ M, M = major ps.length ps := ⟨_, rfl⟩
  obtain ⟨ds, hds⟩ : ∃ ds, ds = desc ps.length ps := ⟨_, rfl⟩
  rw [← hds] at HDs
  have HMe : Hid (MeasR ps 0 N M ds) := ⟨E.out, fun _ => ⟨hN, hM, hds⟩, fun h => absurd rfl h⟩
  have HN0 : Hid (wrongs ps = N) := hN.symm
  have HM0 : Hid (major ps.length ps = M) := hM.symm
  have HD0 : Hid (desc ps.length ps = ds) := hds.symm
  clear hpp hN hM hds
  go_enter Try.func3, Try.ntmps3
  go_wp2_with fail
  refine (RPerm_is _ _ _ _ _ hp rfl E).mono ?_
  rintro e w1 ⟨rfl, hw1⟩
  obtain rfl : w = w1 := hw1.symm
  go_wp2_with fail
  refine (Inverse_at _ _ _ _ hp rfl (PermR.ok HP.out)).mono ?_
  rintro e w2 ⟨v, rfl, hown, hb⟩
  have HB2 : Hid (Below w.heap.size w w2) := hb
  replace hp := hp.below hb
  replace hq := hq.below hb
  replace hk := hk.below hb
  obtain ⟨a2, n2, c2, rfl, S2, hn2, hc2⟩ := hown.opened HAs.out.len HAs.out.wf
  have HN2 : Hid (n2 = (invL ps).length) := hn2
  have HC2 : Hid (n2 ≤ c2) := hc2
  clear hown hn2 hc2
  clear hb
  go_wp2_with fail
  refine (Code_at _ _ _ _ hp rfl hca (PermR.ok HP.out)).mono ?_
  rintro e w3 ⟨v, rfl, hown, hb⟩
  have HB3 : Hid (Below w.heap.size w w3) := HB2.out.trans (hb.mono HB2.out.size)
  replace hp := hp.below hb
  replace hq := hq.below hb
  replace hk := hk.below hb
  replace S2 := S2.below hb
  obtain ⟨a3, n3, c3, rfl, S3, hn3, hc3⟩ := hown.opened HCs.out.len HCs.out.wf
  have HN3 : Hid (n3 = (codeL ps).length) := hn3
  have HC3 : Hid (n3 ≤ c3) := hc3
  clear hown hn3 hc3
  clear hb
  go_wp2_with fail
  refine (Measure_at _ _ _ _ hp rfl hca HMe.out).mono ?_
  rintro e w4 ⟨v, rfl, hown, hb⟩
  have HB4 : Hid (Below w.heap.size w w4) := HB3.out.trans (hb.mono HB3.out.size)
  replace hp := hp.below hb
  replace hq := hq.below hb
  replace hk := hk.below hb
  replace S2 := S2.below hb
  replace S3 := S3.below hb
  obtain ⟨a4, n4, c4, rfl, S4, hn4, hc4⟩ := hown.opened HDs.out.len HDs.out.wf
  have HN4 : Hid (n4 = ds.length) := hn4
  have HC4 : Hid (n4 ≤ c4) := hc4
  clear hown hn4 hc4
  clear hb
  go_wp2_with fail
  refine (Inverted_ok _ _ _ _ _ hp rfl HP.out).mono ?_
  rintro e w5 ⟨v, rfl, hown, hb⟩
  have HB5 : Hid (Below w.heap.size w w5) := HB4.out.trans (hb.mono HB4.out.size)
  replace hp := hp.below hb
  replace hq := hq.below hb
  replace hk := hk.below hb
  replace S2 := S2.below hb
  replace S3 := S3.below hb
  replace S4 := S4.below hb
  obtain ⟨a5, n5, c5, rfl, S5, hn5, hc5⟩ := hown.opened HAs.out.len HAs.out.wf
  have HN5 : Hid (n5 = (invL ps).length) := hn5
  have HC5 : Hid (n5 ≤ c5) := hc5
  clear hown hn5 hc5
  clear hb
  go_wp2_with fail
  refine (Behind_ok _ _ _ _ _ hp rfl h40).mono ?_
  rintro e w6 ⟨v, rfl, hown, hb⟩
  have HB6 : Hid (Below w.heap.size w w6) := HB5.out.trans (hb.mono HB5.out.size)
  replace hp := hp.below hb
  replace hq := hq.below hb
  replace hk := hk.below hb
  replace S2 := S2.below hb
  replace S3 := S3.below hb
  replace S4 := S4.below hb
  replace S5 := S5.below hb
  obtain ⟨a6, n6, c6, rfl, S6, hn6, hc6⟩ := hown.opened HCs.out.len HCs.out.wf
  have HN6 : Hid (n6 = (codeL ps).length) := hn6
  have HC6 : Hid (n6 ≤ c6) := hc6
  clear hown hn6 hc6
  clear hb
  go_wp2_with fail
  refine (Wrong_at _ _ _ ps _ hp rfl h40 N HN0.out).mono ?_
  rintro e w7 ⟨rfl, hd⟩
  have hb : Below w6.heap.size w6 w7 := by
    obtain ⟨n, rfl⟩ := hd
    exact below_drewN (Below.refl _ _) n
  have HB7 : Hid (Below w.heap.size w w7) := HB6.out.trans (hb.mono HB6.out.size)
  replace hp := hp.below hb
  replace hq := hq.below hb
  replace hk := hk.below hb
  replace S2 := S2.below hb
  replace S3 := S3.below hb
  replace S4 := S4.below hb
  replace S5 := S5.below hb
  replace S6 := S6.below hb
  clear hb hd
  go_wp2_with fail
  refine (Falls_at _ _ _ _ _ hp rfl h40 M ds HM0.out HD0.out).mono ?_
  rintro e w8 ⟨v, rfl, hown, hb⟩
  have HB8 : Hid (Below w.heap.size w w8) := HB7.out.trans (hb.mono HB7.out.size)
  replace hp := hp.below hb
  replace hq := hq.below hb
  replace hk := hk.below hb
  replace S2 := S2.below hb
  replace S3 := S3.below hb
  replace S4 := S4.below hb
  replace S5 := S5.below hb
  replace S6 := S6.below hb
  obtain ⟨a8, n8, c8, rfl, S8, hn8, hc8⟩ := hown.opened HDs.out.len HDs.out.wf
  have HN8 : Hid (n8 = ds.length) := hn8
  have HC8 : Hid (n8 ≤ c8) := hc8
  clear hown hn8 hc8
  clear hb
  go_wp2_with fail
  refine (Check_is _ _ _ _ _ hp rfl E).mono ?_
  rintro e w9 ⟨rfl, hb⟩
  have HB9 : Hid (Below w.heap.size w w9) := HB8.out.trans (hb.mono HB8.out.size)
  replace hp := hp.below hb
  replace hq := hq.below hb
  replace hk := hk.below hb
  replace S2 := S2.below hb
  replace S3 := S3.below hb
  replace S4 := S4.below hb
  replace S5 := S5.below hb
  replace S6 := S6.below hb
  replace S8 := S8.below hb
  clear hb
  go_wp2_with fail
  refine (list_ok _ _ _ _ _ _ _ (invL ps) S2 S5 HN2 HN5).mono ?_
  rintro e w10 ⟨rfl, hd⟩
  have hb : Below w9.heap.size w9 w10 := by
    obtain ⟨n, rfl⟩ := hd
    exact below_drewN (Below.refl _ _) n
  have HB10 : Hid (Below w.heap.size w w10) := HB9.out.trans (hb.mono HB9.out.size)
  replace hp := hp.below hb
  replace hq := hq.below hb
  replace hk := hk.below hb
  replace S2 := S2.below hb
  replace S3 := S3.below hb
  replace S4 := S4.below hb
  replace S5 := S5.below hb
  replace S6 := S6.below hb
  replace S8 := S8.below hb
  clear hb hd
  clear S2 S5
  go_wp2_with fail
  refine (list_ok _ _ _ _ _ _ _ (codeL ps) S3 S6 HN3 HN6).mono ?_
  rintro e w11 ⟨rfl, hd⟩
  have hb : Below w10.heap.size w10 w11 := by
    obtain ⟨n, rfl⟩ := hd
    exact below_drewN (Below.refl _ _) n
  have HB11 : Hid (Below w.heap.size w w11) := HB10.out.trans (hb.mono HB10.out.size)
  replace hp := hp.below hb
  replace hq := hq.below hb
  replace hk := hk.below hb
  replace S3 := S3.below hb
  replace S4 := S4.below hb
  replace S6 := S6.below hb
  replace S8 := S8.below hb
  clear hb hd
  clear S3 S6
  go_wp2_with fail
  refine (list_ok _ _ _ _ _ _ _ ds S4 S8 HN4 HN8).mono ?_
  rintro e w12 ⟨rfl, hd⟩
  have hb : Below w11.heap.size w11 w12 := by
    obtain ⟨n, rfl⟩ := hd
    exact below_drewN (Below.refl _ _) n
  have HB12 : Hid (Below w.heap.size w w12) := HB11.out.trans (hb.mono HB11.out.size)
  replace hp := hp.below hb
  replace hq := hq.below hb
  replace hk := hk.below hb
  replace S4 := S4.below hb
  replace S8 := S8.below hb
  clear hb hd
  clear S4 S8
  have hbn : ((N : Int) != (N : Int)) = false := by simp
  have hbm : ((M : Int) != (M : Int)) = false := by simp
  go_wp2_with fail
  refine (FromCode_at _ _ _ cs fl cc _ hk rfl r1.out r2.out).mono ?_
  rintro e w13 ⟨v, rfl, hown, hb⟩
  have HB13 : Hid (Below w.heap.size w w13) := HB12.out.trans (hb.mono HB12.out.size)
  replace hp := hp.below hb
  replace hq := hq.below hb
  replace hk := hk.below hb
  obtain ⟨a13, n13, c13, rfl, S13, hn13, hc13⟩ := hown.opened hfl.out.len hfl.out.wf
  have HN13 : Hid (n13 = fl.length) := hn13
  have HC13 : Hid (n13 ≤ c13) := hc13
  clear hown hn13 hc13
  clear hb
  go_wp2_with fail
  refine (OfCode_at _ _ _ cs fl cc _ hk rfl r1.out r2.out).mono ?_
  rintro e w14 ⟨v, rfl, hown, hb⟩
  have HB14 : Hid (Below w.heap.size w w14) := HB13.out.trans (hb.mono HB13.out.size)
  replace hp := hp.below hb
  replace hq := hq.below hb
  replace hk := hk.below hb
  replace S13 := S13.below hb
  obtain ⟨a14, n14, c14, rfl, S14, hn14, hc14⟩ := hown.opened hfl.out.len hfl.out.wf
  have HN14 : Hid (n14 = fl.length) := hn14
  have HC14 : Hid (n14 ≤ c14) := hc14
  clear hown hn14 hc14
  clear hb
  go_wp2_with fail
  refine (list_at _ _ _ _ _ _ _ fl cc hfe.out S13 S14 HN13.out HN14.out).mono ?_
  rintro e w15 ⟨rfl, hd⟩
  have hb : Below w14.heap.size w14 w15 := by
    obtain ⟨n, rfl⟩ := hd
    exact below_drewN (Below.refl _ _) n
  have HB15 : Hid (Below w.heap.size w w15) := HB14.out.trans (hb.mono HB14.out.size)
  replace hp := hp.below hb
  replace hq := hq.below hb
  replace hk := hk.below hb
  replace S13 := S13.below hb
  replace S14 := S14.below hb
  clear hb hd
  clear S13 S14
  go_wp2_with fail
  refine (Times_at _ _ _ _ _ _ _ hp hq rfl rfl HT.out).mono ?_
  rintro e w16 ⟨v, rfl, hown, hb⟩
  have HB16 : Hid (Below w.heap.size w w16) := HB15.out.trans (hb.mono HB15.out.size)
  replace hp := hp.below hb
  replace hq := hq.below hb
  replace hk := hk.below hb
  obtain ⟨a16, n16, c16, rfl, S16, hn16, hc16⟩ := hown.opened HTs.out.len HTs.out.wf
  have HN16 : Hid (n16 = (timesL ps qs).length) := hn16
  have HC16 : Hid (n16 ≤ c16) := hc16
  clear hown hn16 hc16
  clear hb
  go_wp2_with fail
  refine (RPerm_is _ _ _ _ _ hq rfl E2).mono ?_
  rintro e w17 ⟨rfl, hw17⟩
  obtain rfl : w16 = w17 := hw17.symm
  go_wp2_with fail
  go_loopw [28, 29] (fun v i wr => ∃ k : Nat, k ≤ qs.length ∧ i = .int .i64 k ∧ Hid (Owns wr w16.heap.size v ((timesL ps qs).take k)) ∧ Hid (Below w16.heap.size w16 wr)) (fun _ i _ => qs.length - (intOf i).toNat)
  case atStart => exact ⟨0, Nat.zero_le _, rfl, World.ownsRow_nil _ _ _ _, Below.refl _ _⟩
  case round =>
    obtain ⟨k, hk2, rfl, HO, HBk⟩ := hrel
    by_cases hlt : k < qs.length
    · have hlt' : (k : Int) < (qs.length : Int) := by omega
      obtain ⟨bq, oq, z, rfl, HZ, -, -, hcq⟩ := (hq.below HBk.out).elem hlt
      have hzb := HQ.out.bounds hlt
      rw [← HZ.out] at hzb
      obtain ⟨j, rfl⟩ : ∃ j : Nat, z = (j : Int) + 1 := ⟨(z - 1).toNat, by omega⟩
      have hj : j < ps.length := by have := HLen.out; omega
      have hj' : (j : Int) < (ps.length : Int) := by omega
      obtain ⟨bp, op, x, rfl, HX, -, -, hcp⟩ := (hp.below HBk.out).elem hj
      have hw1 : IntKind.i64.wrap ((j : Int) + 1 - 1) = (j : Int) := by rw [IntWalk.i64_left, IntWalk.wrap64_in _ (by omega)]; omega
      have HE : Hid ((timesL ps qs).take (k + 1) = (timesL ps qs).take k ++ [x]) := by
        show _ = _
        rw [take_snoc _ k (by rw [timesL_length]; exact hlt), timesL_getD hlt, ← HZ.out, show ((j : Int) + 1).toNat - 1 = j by omega, HX.out]
      have HLT : Hid (k < qs.length) := hlt
      go_wp2_with (at_builtin; refine append_int (x := x) rfl _ _ rfl rfl HO.out rfl ?c1 ?c2 ?_)
      case c1 => rw [List.length_take]; omega
      case c2 => exact HBk.out.size
      intro v' w2 hO' hb'
      have HO3 : Hid (Owns w2 w16.heap.size v' ((timesL ps qs).take (k + 1))) := by show Owns _ _ _ _; rw [HE.out]; exact hO'
      have HB3 : Hid (Below w16.heap.size w16 w2) := HBk.out.trans hb'
      clear hO' hb'
      go_wp2
      go_roundw
      case rel => exact ⟨k + 1, HLT.out, by go_num, HO3, HB3⟩
      case measure => have := HLT.out; simp [intOf]; omega
    · obtain rfl : k = qs.length := by omega
      have HO4 : Hid (Owns wr w16.heap.size u28 (timesL ps qs)) := by
        have := HO.out
        rw [List.take_of_length_le (by rw [timesL_length]; exact Nat.le_refl _)] at this
        exact this
      obtain ⟨av, nv, cv, rfl, Sv, hnv, -⟩ := HO4.out.opened HTs.out.len HTs.out.wf
      have HNv : Hid (nv = (timesL ps qs).length) := hnv
      have hb := HBk.out
      have St := S16.below hb
      have HBx : Hid (Below w.heap.size w wr) := HB16.out.trans (hb.mono HB16.out.size)
      clear hnv hb
      go_wp2_with fail
      refine (list_ok _ _ _ _ _ _ _ (timesL ps qs) St Sv HN16 HNv).mono ?_
      rintro e wz ⟨rfl, hd⟩
      have HBz : Hid (Below w.heap.size w wz) := by
        obtain ⟨n, rfl⟩ := hd
        exact below_drewN HBx.out n
      clear hd
      go_wp2_with fail
      go_ret
      exact ⟨rfl, HBz.out⟩

/-- Codes, of every three slices that can be read. -/
theorem codes_any (a b d : Option Addr) (ca cb cd : Nat) (ps qs cs : List Int) (w : World) (hp : Shows w a ps) (hq : Shows w b qs) (hk : Shows w d cs) (hca : ps.length ≤ ca) :
    Calls Try.prog 3 #[.slice a ps.length ca, .slice b qs.length cb, .slice d cs.length cd] w fun e w' => e = .returned (.bool true) ∧ Below w.heap.size w w' := by
  have hf := fc_small cs
  by_cases h0 : pchk ps = 0
  · have hpp := pchk_ok.1 h0
    by_cases h1 : pchk qs = 0
    · have hqq := pchk_ok.1 h1
      by_cases hl : ps.length = qs.length
      · exact codes_0 a b d ca cb cd ps qs cs w hp hq hk hca (fcL cs) (fcC cs) rfl rfl hf.1 hf.2 hpp h1 hqq hqq.len hl (by rw [hl]; simp) ⟨two_ok.2 ⟨hpp, hqq, hl⟩, rfl⟩ (Smal.perm (timesL_perm hpp hqq hl))
      · exact codes_3 a b d ca cb cd ps qs cs w hp hq hk hca (fcL cs) (fcC cs) rfl rfl hf.1 hf.2 hpp h1 (by rw [bne_iff_ne]; omega) ⟨by unfold two; rw [if_pos h0, if_pos h1, if_neg hl], rfl⟩
    · exact codes_q a b d ca cb cd ps qs cs w hp hq hk hca (fcL cs) (fcC cs) rfl rfl hf.1 hf.2 hpp _ (bne_iff_ne.2 h1) (beq_eq_false_iff_ne.2 h1) rfl ⟨by unfold two; rw [if_pos h0, if_neg h1], by rw [if_neg h1]⟩
  · exact codes_err a b d ca cb cd ps qs cs w hp hq hk hca (fcL cs) (fcC cs) rfl rfl hf.1 hf.2 _ (bne_iff_ne.2 h0) rfl (PermR.err rfl h0) (PermR.err rfl h0) ⟨rfl, fun h => absurd h h0, fun _ => ⟨rfl, rfl, rfl⟩⟩ ⟨by unfold two; rw [if_neg h0], by rw [if_neg h0]⟩

#print axioms codes_any
end Go.Proofs.Ytnjbkiegeielhab
