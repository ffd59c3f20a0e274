/-
  The walk of the law PartsTurns: for every four slices that can be read it returns true; nothing old has turned.
-/
import Derived.Test.YtnjbkiegeielhaaTOvr
import Derived.Test.YtnjbkiegeielhaaFDg
import Derived.Test.YtnjbkiegeielhaaDMath
import Derived.Test.YtnjbkiegeielhaaCnj
import Derived.Test.YtnjbkiegeielhaaOLaw
namespace Go.Proofs.Ytnjbkiegeielhaa
open Go.RowKit

/-- A list of small numbers. -/
def Smal (l : List Int) : Prop := l.length ≤ 1600 ∧ ∀ z ∈ l, 0 ≤ z ∧ z ≤ 2000
theorem Smal.len {l : List Int} (h : Smal l) : l.length ≤ 17592186044416 := by have := h.1; omega
theorem Smal.wf {l : List Int} (h : Smal l) : ∀ z ∈ l, -9223372036854775808 ≤ z ∧ z ≤ 9223372036854775807 := fun z hz => by have := h.2 z hz; omega
theorem Smal.nil : Smal [] := ⟨by simp, fun z h => by simp at h⟩
theorem Smal.part {l : List Int} (h : IsPart l) : Smal l := ⟨by have := h.len; omega, fun z hz => by have := h.range z hz; omega⟩
theorem Smal.falls {l : List Int} (h : Goes 0 1 l) (hs : sum l ≤ 40) (hl : l.length ≤ 40) : Smal l := ⟨by omega, fun z hz => by have h1 := h.mem hz; have h2 := mem_le_sum (fun z hz => h.mem hz) z hz; omega⟩

/-- FromDiagonal in the words of FFR. -/
theorem FD_at {xs ys q : List Int} {c : Int} (a b : Option Addr) (n m ca cb : Nat) (w : World) (hs : Shows w a xs) (ht : Shows w b ys) (hn : n = xs.length) (hm : m = ys.length) (hr : FFR xs ys c q) :
    Calls Try.prog 16 #[.slice a n ca, .slice b m cb] w fun e w' => ∃ v, e = .returned (.tuple #[v, .int .i64 c]) ∧ Owns w' w.heap.size v q ∧ Below w.heap.size w w' := by
  subst hn; subst hm
  by_cases hl : xs.length = ys.length
  · exact FD_eq a b ca cb xs ys q c w hs ht hl hr
  · rcases hr with ⟨_, rfl, rfl⟩ | ⟨h1, _⟩ | ⟨h1, _⟩
    · exact (FD_len a b ca cb xs ys w hs ht hl).mono fun e w' ⟨he, hw⟩ => ⟨_, he, World.ownsRow_nil _ _ _ _, hw ▸ Below.refl _ _⟩
    · exact absurd h1 hl
    · exact absurd h1 hl

theorem ffr_ex (xs ys : List Int) : ∃ c q, FFR xs ys c q ∧ Smal q ∧ (c ≠ 0 → q = []) := by
  by_cases h1 : xs.length = ys.length ∧ Goes 0 1 xs ∧ Goes 0 1 ys
  · by_cases h2 : (xs.length : Int) + sum xs + sum ys ≤ 40
    · refine ⟨0, fromF xs ys, Or.inr (Or.inr ⟨h1.1, h1.2.1, h1.2.2, h2, rfl, rfl⟩), ?_, fun h => absurd rfl h⟩
      have n1 := sum_nonneg h1.2.1.nonneg
      have n2 := sum_nonneg h1.2.2.nonneg
      have bx := bound_of_sum h1.2.1.nonneg (show sum xs ≤ 40 by omega)
      have by_ := bound_of_sum h1.2.2.nonneg (show sum ys ≤ 40 by omega)
      have hl : xs.length ≤ 40 := by omega
      unfold fromF
      by_cases h0 : xs.length = 0
      · rw [if_pos h0]; exact Smal.nil
      · rw [if_neg h0]
        refine ⟨by rw [tab_length]; have := by_ 0; omega, fun z hz => ?_⟩
        obtain ⟨j, _, rfl⟩ := tab_mem hz
        have := ffv_bound xs ys bx xs.length j
        omega
    · exact ⟨2, [], Or.inr (Or.inl ⟨h1.1, h1.2.1, h1.2.2, h2, rfl, rfl⟩), Smal.nil, fun _ => rfl⟩
  · exact ⟨1, [], Or.inl ⟨h1, rfl, rfl⟩, Smal.nil, fun _ => rfl⟩

/-- 'list' of the same error, the same list. -/
theorem list_is (a b : Option Addr) (ca cb n m : Nat) (w : World) (q : List Int) (c : Int) (hs : Shows w a q) (ht : Shows w b q) (hn : n = q.length) (hm : m = q.length) (hc : c ≠ 0 → q = []) :
    Calls Try.prog 14 #[.slice a n ca, .int .i64 c, .slice b m cb, .int .i64 c] w fun e w' => e = .returned (.bool true) ∧ ∃ n, w' = w.drewN n := by
  by_cases h : c = 0
  · subst h; exact list_ok a b ca cb n m w q hs ht hn hm
  · obtain rfl := hc h
    simp only [List.length_nil] at hn
    subst hn
    exact list_err a b ca cb m w c (bne_iff_ne.2 h)


set_option maxHeartbeats 8000000 in
set_option maxRecDepth 100000 in
theorem turns_err (a b d f : Option Addr) (ca cb cd cf : Nat) (ps qs xs ys : List Int) (w : World) (hp : Shows w a ps) (hq : Shows w b qs) (hx : Shows w d xs) (hy : Shows w f ys) (fl : List Int) (cc : Int) (r1 : Hid (FFR xs ys cc fl)) (hfl : Hid (Smal fl)) (hfe : Hid (cc ≠ 0 → fl = [])) (c0 : Int) (hc : (c0 != 0) = true) (hc2 : (c0 == 0) = false) (E : Hid (chk ps = c0)) (HCo : Hid (ConjR ps c0 [])) (HFr : Hid (FrobR ps c0 [] [])) (HDo : Hid (DomR ps qs c0 false)) (HK : Hid (chk2 ps qs = c0)) :
    Calls Try.prog 3 #[.slice a ps.length ca, .slice b qs.length cb, .slice d xs.length cd, .slice f ys.length cf] w fun e w' => e = .returned (.bool true) ∧ Below w.heap.size w w' := by
  go_enter Try.func3, Try.ntmps3
  go_wp2_with fail
  refine (Part_is _ _ _ _ hp E).mono ?_
  rintro e w1 ⟨rfl, hd⟩
  have hb : Below w.heap.size w w1 := by
    obtain ⟨n, rfl⟩ := hd
    exact below_drewN (Below.refl _ _) n
  have HB1 : Hid (Below w.heap.size w w1) := hb
  replace hp := hp.below hb
  replace hq := hq.below hb
  replace hx := hx.below hb
  replace hy := hy.below hb
  clear hb hd
  go_wp2_with fail
  refine (Conjugate_at _ _ _ _ hp rfl HCo.out).mono ?_
  rintro e w2 ⟨v, rfl, hown, hb⟩
  have HB2 : Hid (Below w.heap.size w w2) := HB1.out.trans (hb.mono HB1.out.size)
  replace hp := hp.below hb
  replace hq := hq.below hb
  replace hx := hx.below hb
  replace hy := hy.below hb
  obtain ⟨a2, n2, c2, rfl, S2, hn2, hc2⟩ := hown.opened (by decide) (by decide)
  have HN2 : Hid (n2 = [].length) := hn2
  have HC2 : Hid (n2 ≤ c2) := hc2
  clear hown hn2 hc2
  clear hb
  have hz2 := HN2.out
  simp only [List.length_nil] at hz2
  subst hz2
  go_wp2_with fail
  refine (Frobenius_at _ _ _ _ hp rfl HFr.out).mono ?_
  rintro e w3 ⟨v, u, rfl, hown, hown2, hb⟩
  have HB3 : Hid (Below w.heap.size w w3) := HB2.out.trans (hb.mono HB2.out.size)
  replace hp := hp.below hb
  replace hq := hq.below hb
  replace hx := hx.below hb
  replace hy := hy.below hb
  obtain ⟨a3, n3, c3, rfl, S3, hn3, hc3⟩ := hown.opened Smal.nil.len Smal.nil.wf
  have HN3 : Hid (n3 = [].length) := hn3
  have HC3 : Hid (n3 ≤ c3) := hc3
  clear hown hn3 hc3
  obtain ⟨a4, n4, c4, rfl, S4, hn4, hc4⟩ := hown2.opened Smal.nil.len Smal.nil.wf
  have HN4 : Hid (n4 = [].length) := hn4
  have HC4 : Hid (n4 ≤ c4) := hc4
  clear hown2 hn4 hc4
  clear hb
  have hz3 := HN3.out
  simp only [List.length_nil] at hz3
  subst hz3
  have hz4 := HN4.out
  simp only [List.length_nil] at hz4
  subst hz4
  go_wp2_with fail
  refine (Check_is _ _ _ _ hp E).mono ?_
  rintro e w5 ⟨rfl, hw5⟩
  obtain rfl : w3 = w5 := hw5.symm
  go_wp2_with fail
  refine (list_err _ _ _ _ _ _ c0 hc).mono ?_
  rintro e w6 ⟨rfl, hd⟩
  have hb : Below w3.heap.size w3 w6 := by
    obtain ⟨n, rfl⟩ := hd
    exact below_drewN (Below.refl _ _) n
  have HB6 : Hid (Below w.heap.size w w6) := HB3.out.trans (hb.mono HB3.out.size)
  replace hp := hp.below hb
  replace hq := hq.below hb
  replace hx := hx.below hb
  replace hy := hy.below hb
  clear hb hd
  go_wp2_with fail
  refine (list_err _ _ _ _ _ _ c0 hc).mono ?_
  rintro e w7 ⟨rfl, hd⟩
  have hb : Below w6.heap.size w6 w7 := by
    obtain ⟨n, rfl⟩ := hd
    exact below_drewN (Below.refl _ _) n
  have HB7 : Hid (Below w.heap.size w w7) := HB6.out.trans (hb.mono HB6.out.size)
  replace hp := hp.below hb
  replace hq := hq.below hb
  replace hx := hx.below hb
  replace hy := hy.below hb
  clear hb hd
  go_wp2_with fail
  refine (list_err _ _ _ _ _ _ c0 hc).mono ?_
  rintro e w8 ⟨rfl, hd⟩
  have hb : Below w7.heap.size w7 w8 := by
    obtain ⟨n, rfl⟩ := hd
    exact below_drewN (Below.refl _ _) n
  have HB8 : Hid (Below w.heap.size w w8) := HB7.out.trans (hb.mono HB7.out.size)
  replace hp := hp.below hb
  replace hq := hq.below hb
  replace hx := hx.below hb
  replace hy := hy.below hb
  clear hb hd
  go_wp2_with fail
  refine (FromFrobenius_at _ _ _ _ _ _ _ hx hy rfl rfl r1.out).mono ?_
  rintro e w9 ⟨v, rfl, hown, hb⟩
  have HB9 : Hid (Below w.heap.size w w9) := HB8.out.trans (hb.mono HB8.out.size)
  replace hp := hp.below hb
  replace hq := hq.below hb
  replace hx := hx.below hb
  replace hy := hy.below hb
  obtain ⟨a9, n9, c9, rfl, S9, hn9, hc9⟩ := hown.opened hfl.out.len hfl.out.wf
  have HN9 : Hid (n9 = fl.length) := hn9
  have HC9 : Hid (n9 ≤ c9) := hc9
  clear hown hn9 hc9
  clear hb
  go_wp2_with fail
  refine (FD_at _ _ _ _ _ _ _ hx hy rfl rfl r1.out).mono ?_
  rintro e w10 ⟨v, rfl, hown, hb⟩
  have HB10 : Hid (Below w.heap.size w w10) := HB9.out.trans (hb.mono HB9.out.size)
  replace hp := hp.below hb
  replace hq := hq.below hb
  replace hx := hx.below hb
  replace hy := hy.below hb
  replace S9 := S9.below hb
  obtain ⟨a10, n10, c10, rfl, S10, hn10, hc10⟩ := hown.opened hfl.out.len hfl.out.wf
  have HN10 : Hid (n10 = fl.length) := hn10
  have HC10 : Hid (n10 ≤ c10) := hc10
  clear hown hn10 hc10
  clear hb
  go_wp2_with fail
  refine (list_is _ _ _ _ _ _ _ fl cc S9 S10 HN9.out HN10.out hfe.out).mono ?_
  rintro e w11 ⟨rfl, hd⟩
  have hb : Below w10.heap.size w10 w11 := by
    obtain ⟨n, rfl⟩ := hd
    exact below_drewN (Below.refl _ _) n
  have HB11 : Hid (Below w.heap.size w w11) := HB10.out.trans (hb.mono HB10.out.size)
  replace hp := hp.below hb
  replace hq := hq.below hb
  replace hx := hx.below hb
  replace hy := hy.below hb
  replace S9 := S9.below hb
  replace S10 := S10.below hb
  clear hb hd
  clear S9 S10
  go_wp2_with fail
  refine (Dominates_at _ _ _ _ _ _ _ hp hq rfl rfl HDo.out).mono ?_
  rintro e w12 ⟨rfl, hw12⟩
  obtain rfl : w11 = w12 := hw12.symm
  have hal : Below w11.heap.size w11 (w11.alloc (.cells #[.slice a ps.length ca, .slice b qs.length cb] 22)) := (Below.refl _ _).alloc (Nat.le_refl _) _
  go_wp2_with fail
  refine (Parts_two a b ca cb _ _ ps qs _ (hp.below hal) (hq.below hal) (by rw [World.cell?_alloc_at _ _ _ _ rfl]; rfl) (by rw [World.cell?_alloc_at _ _ _ _ rfl]; rfl) c0 HK.out).mono ?_
  rintro e w13 ⟨rfl, hd⟩
  have hb : Below w11.heap.size w11 w13 := by
    obtain ⟨n, rfl⟩ := hd
    exact below_drewN hal n
  have HB13 : Hid (Below w.heap.size w w13) := HB11.out.trans (hb.mono HB11.out.size)
  replace hp := hp.below hb
  replace hq := hq.below hb
  replace hx := hx.below hb
  replace hy := hy.below hb
  clear hb hd hal
  go_wp2_with fail
  go_ret
  exact ⟨rfl, HB13.out⟩

set_option maxHeartbeats 8000000 in
set_option maxRecDepth 100000 in
theorem turns_q (a b d f : Option Addr) (ca cb cd cf : Nat) (ps qs xs ys : List Int) (w : World) (hp : Shows w a ps) (hq : Shows w b qs) (hx : Shows w d xs) (hy : Shows w f ys) (fl : List Int) (cc : Int) (r1 : Hid (FFR xs ys cc fl)) (hfl : Hid (Smal fl)) (hfe : Hid (cc ≠ 0 → fl = [])) (hpp : IsPart ps) (c1 : Int) (hc1e : (c1 == 0) = false) (HDo : Hid (DomR ps qs c1 false)) (HK : Hid (chk2 ps qs = c1)) :
    Calls Try.prog 3 #[.slice a ps.length ca, .slice b qs.length cb, .slice d xs.length cd, .slice f ys.length cf] w fun e w' => e = .returned (.bool true) ∧ Below w.heap.size w w' := by
  have HP : Hid (IsPart ps) := hpp
  have h40 := hpp.len
  have E : Hid (chk ps = 0) := chk_ok.2 hpp
  have hds := diag_small hpp
  have HCs : Hid (Smal (conj ps)) := Smal.part (conj_part hpp)
  have HAs : Hid (Smal (arms ps)) := Smal.falls (arms_falls hpp) hds.1 hds.2.2.1
  have HLs : Hid (Smal (legs ps)) := Smal.falls (legs_falls hpp) hds.2.1 hds.2.2.2
  have HCo : Hid (ConjR ps 0 (conj ps)) := Or.inr ⟨hpp, rfl, rfl⟩
  have HFr : Hid (FrobR ps 0 (arms ps) (legs ps)) := Or.inr ⟨hpp, rfl, rfl, rfl⟩
  have HPW : Hid (∀ z ∈ ps, 0 ≤ z ∧ z ≤ 1000) := fun z hz => by have := hpp.range z hz; omega
  clear hpp hds
  go_enter Try.func3, Try.ntmps3
  go_wp2_with fail
  refine (Part_is _ _ _ _ hp E).mono ?_
  rintro e w1 ⟨rfl, hd⟩
  have hb : Below w.heap.size w w1 := by
    obtain ⟨n, rfl⟩ := hd
    exact below_drewN (Below.refl _ _) n
  have HB1 : Hid (Below w.heap.size w w1) := hb
  replace hp := hp.below hb
  replace hq := hq.below hb
  replace hx := hx.below hb
  replace hy := hy.below hb
  clear hb hd
  go_wp2_with fail
  refine (Conjugate_at _ _ _ _ hp rfl HCo.out).mono ?_
  rintro e w2 ⟨v, rfl, hown, hb⟩
  have HB2 : Hid (Below w.heap.size w w2) := HB1.out.trans (hb.mono HB1.out.size)
  replace hp := hp.below hb
  replace hq := hq.below hb
  replace hx := hx.below hb
  replace hy := hy.below hb
  obtain ⟨a2, n2, c2, rfl, S2, hn2, hc2⟩ := hown.opened HCs.out.len HCs.out.wf
  have HN2 : Hid (n2 = (conj ps).length) := hn2
  have HC2 : Hid (n2 ≤ c2) := hc2
  clear hown hn2 hc2
  clear hb
  go_wp2_with fail
  refine (Frobenius_at _ _ _ _ hp rfl HFr.out).mono ?_
  rintro e w3 ⟨v, u, rfl, hown, hown2, hb⟩
  have HB3 : Hid (Below w.heap.size w w3) := HB2.out.trans (hb.mono HB2.out.size)
  replace hp := hp.below hb
  replace hq := hq.below hb
  replace hx := hx.below hb
  replace hy := hy.below hb
  replace S2 := S2.below hb
  obtain ⟨a3, n3, c3, rfl, S3, hn3, hc3⟩ := hown.opened HAs.out.len HAs.out.wf
  have HN3 : Hid (n3 = (arms ps).length) := hn3
  have HC3 : Hid (n3 ≤ c3) := hc3
  clear hown hn3 hc3
  obtain ⟨a4, n4, c4, rfl, S4, hn4, hc4⟩ := hown2.opened HLs.out.len HLs.out.wf
  have HN4 : Hid (n4 = (legs ps).length) := hn4
  have HC4 : Hid (n4 ≤ c4) := hc4
  clear hown2 hn4 hc4
  clear hb
  go_wp2_with fail
  refine (Conj_is _ _ _ _ hp HP.out).mono ?_
  rintro e w5 ⟨v, rfl, hown, hb⟩
  have HB5 : Hid (Below w.heap.size w w5) := HB3.out.trans (hb.mono HB3.out.size)
  replace hp := hp.below hb
  replace hq := hq.below hb
  replace hx := hx.below hb
  replace hy := hy.below hb
  replace S2 := S2.below hb
  replace S3 := S3.below hb
  replace S4 := S4.below hb
  obtain ⟨a5, n5, c5, rfl, S5, hn5, hc5⟩ := hown.opened HCs.out.len HCs.out.wf
  have HN5 : Hid (n5 = (conj ps).length) := hn5
  have HC5 : Hid (n5 ≤ c5) := hc5
  clear hown hn5 hc5
  clear hb
  go_wp2_with fail
  refine (Diagonal_is _ _ _ _ hp HP.out).mono ?_
  rintro e w6 ⟨v, u, rfl, hown, hown2, hb⟩
  have HB6 : Hid (Below w.heap.size w w6) := HB5.out.trans (hb.mono HB5.out.size)
  replace hp := hp.below hb
  replace hq := hq.below hb
  replace hx := hx.below hb
  replace hy := hy.below hb
  replace S2 := S2.below hb
  replace S3 := S3.below hb
  replace S4 := S4.below hb
  replace S5 := S5.below hb
  obtain ⟨a6, n6, c6, rfl, S6, hn6, hc6⟩ := hown.opened HAs.out.len HAs.out.wf
  have HN6 : Hid (n6 = (arms ps).length) := hn6
  have HC6 : Hid (n6 ≤ c6) := hc6
  clear hown hn6 hc6
  obtain ⟨a7, n7, c7, rfl, S7, hn7, hc7⟩ := hown2.opened HLs.out.len HLs.out.wf
  have HN7 : Hid (n7 = (legs ps).length) := hn7
  have HC7 : Hid (n7 ≤ c7) := hc7
  clear hown2 hn7 hc7
  clear hb
  go_wp2_with fail
  refine (Check_is _ _ _ _ hp E).mono ?_
  rintro e w8 ⟨rfl, hw8⟩
  obtain rfl : w6 = w8 := hw8.symm
  go_wp2_with fail
  refine (list_ok _ _ _ _ _ _ _ (conj ps) S2 S5 HN2 HN5).mono ?_
  rintro e w9 ⟨rfl, hd⟩
  have hb : Below w6.heap.size w6 w9 := by
    obtain ⟨n, rfl⟩ := hd
    exact below_drewN (Below.refl _ _) n
  have HB9 : Hid (Below w.heap.size w w9) := HB6.out.trans (hb.mono HB6.out.size)
  replace hp := hp.below hb
  replace hq := hq.below hb
  replace hx := hx.below hb
  replace hy := hy.below hb
  replace S2 := S2.below hb
  replace S3 := S3.below hb
  replace S4 := S4.below hb
  replace S5 := S5.below hb
  replace S6 := S6.below hb
  replace S7 := S7.below hb
  clear hb hd
  clear S2 S5
  go_wp2_with fail
  refine (list_ok _ _ _ _ _ _ _ (arms ps) S3 S6 HN3 HN6).mono ?_
  rintro e w10 ⟨rfl, hd⟩
  have hb : Below w9.heap.size w9 w10 := by
    obtain ⟨n, rfl⟩ := hd
    exact below_drewN (Below.refl _ _) n
  have HB10 : Hid (Below w.heap.size w w10) := HB9.out.trans (hb.mono HB9.out.size)
  replace hp := hp.below hb
  replace hq := hq.below hb
  replace hx := hx.below hb
  replace hy := hy.below hb
  replace S3 := S3.below hb
  replace S4 := S4.below hb
  replace S6 := S6.below hb
  replace S7 := S7.below hb
  clear hb hd
  clear S3 S6
  go_wp2_with fail
  refine (list_ok _ _ _ _ _ _ _ (legs ps) S4 S7 HN4 HN7).mono ?_
  rintro e w11 ⟨rfl, hd⟩
  have hb : Below w10.heap.size w10 w11 := by
    obtain ⟨n, rfl⟩ := hd
    exact below_drewN (Below.refl _ _) n
  have HB11 : Hid (Below w.heap.size w w11) := HB10.out.trans (hb.mono HB10.out.size)
  replace hp := hp.below hb
  replace hq := hq.below hb
  replace hx := hx.below hb
  replace hy := hy.below hb
  replace S4 := S4.below hb
  replace S7 := S7.below hb
  clear hb hd
  clear S4 S7
  go_wp2_with fail
  refine (FromFrobenius_at _ _ _ _ _ _ _ hx hy rfl rfl r1.out).mono ?_
  rintro e w12 ⟨v, rfl, hown, hb⟩
  have HB12 : Hid (Below w.heap.size w w12) := HB11.out.trans (hb.mono HB11.out.size)
  replace hp := hp.below hb
  replace hq := hq.below hb
  replace hx := hx.below hb
  replace hy := hy.below hb
  obtain ⟨a12, n12, c12, rfl, S12, hn12, hc12⟩ := hown.opened hfl.out.len hfl.out.wf
  have HN12 : Hid (n12 = fl.length) := hn12
  have HC12 : Hid (n12 ≤ c12) := hc12
  clear hown hn12 hc12
  clear hb
  go_wp2_with fail
  refine (FD_at _ _ _ _ _ _ _ hx hy rfl rfl r1.out).mono ?_
  rintro e w13 ⟨v, rfl, hown, hb⟩
  have HB13 : Hid (Below w.heap.size w w13) := HB12.out.trans (hb.mono HB12.out.size)
  replace hp := hp.below hb
  replace hq := hq.below hb
  replace hx := hx.below hb
  replace hy := hy.below hb
  replace S12 := S12.below hb
  obtain ⟨a13, n13, c13, rfl, S13, hn13, hc13⟩ := hown.opened hfl.out.len hfl.out.wf
  have HN13 : Hid (n13 = fl.length) := hn13
  have HC13 : Hid (n13 ≤ c13) := hc13
  clear hown hn13 hc13
  clear hb
  go_wp2_with fail
  refine (list_is _ _ _ _ _ _ _ fl cc S12 S13 HN12.out HN13.out hfe.out).mono ?_
  rintro e w14 ⟨rfl, hd⟩
  have hb : Below w13.heap.size w13 w14 := by
    obtain ⟨n, rfl⟩ := hd
    exact below_drewN (Below.refl _ _) n
  have HB14 : Hid (Below w.heap.size w w14) := HB13.out.trans (hb.mono HB13.out.size)
  replace hp := hp.below hb
  replace hq := hq.below hb
  replace hx := hx.below hb
  replace hy := hy.below hb
  replace S12 := S12.below hb
  replace S13 := S13.below hb
  clear hb hd
  clear S12 S13
  go_wp2_with fail
  refine (Dominates_at _ _ _ _ _ _ _ hp hq rfl rfl HDo.out).mono ?_
  rintro e w15 ⟨rfl, hw15⟩
  obtain rfl : w14 = w15 := hw15.symm
  have hal : Below w14.heap.size w14 (w14.alloc (.cells #[.slice a ps.length ca, .slice b qs.length cb] 22)) := (Below.refl _ _).alloc (Nat.le_refl _) _
  go_wp2_with fail
  refine (Parts_two a b ca cb _ _ ps qs _ (hp.below hal) (hq.below hal) (by rw [World.cell?_alloc_at _ _ _ _ rfl]; rfl) (by rw [World.cell?_alloc_at _ _ _ _ rfl]; rfl) c1 HK.out).mono ?_
  rintro e w16 ⟨rfl, hd⟩
  have hb : Below w14.heap.size w14 w16 := by
    obtain ⟨n, rfl⟩ := hd
    exact below_drewN hal n
  have HB16 : Hid (Below w.heap.size w w16) := HB14.out.trans (hb.mono HB14.out.size)
  replace hp := hp.below hb
  replace hq := hq.below hb
  replace hx := hx.below hb
  replace hy := hy.below hb
  clear hb hd hal
  go_wp2_with fail
  go_ret
  exact ⟨rfl, HB16.out⟩

set_option maxHeartbeats 8000000 in
set_option maxRecDepth 100000 in
theorem turns_3 (a b d f : Option Addr) (ca cb cd cf : Nat) (ps qs xs ys : List Int) (w : World) (hp : Shows w a ps) (hq : Shows w b qs) (hx : Shows w d xs) (hy : Shows w f ys) (fl : List Int) (cc : Int) (r1 : Hid (FFR xs ys cc fl)) (hfl : Hid (Smal fl)) (hfe : Hid (cc ≠ 0 → fl = [])) (hpp : IsPart ps) (s1 s2 : Int) (hne : (s1 != s2) = true) (HS1 : Hid (sum ps = s1)) (HS2 : Hid (sum qs = s2)) (HQW : Hid (∀ z ∈ qs, 0 ≤ z ∧ z ≤ 1000)) (HDo : Hid (DomR ps qs 3 false)) (HK : Hid (chk2 ps qs = 0)) :
    Calls Try.prog 3 #[.slice a ps.length ca, .slice b qs.length cb, .slice d xs.length cd, .slice f ys.length cf] w fun e w' => e = .returned (.bool true) ∧ Below w.heap.size w w' := by
  have HP : Hid (IsPart ps) := hpp
  have h40 := hpp.len
  have E : Hid (chk ps = 0) := chk_ok.2 hpp
  have hds := diag_small hpp
  have HCs : Hid (Smal (conj ps)) := Smal.part (conj_part hpp)
  have HAs : Hid (Smal (arms ps)) := Smal.falls (arms_falls hpp) hds.1 hds.2.2.1
  have HLs : Hid (Smal (legs ps)) := Smal.falls (legs_falls hpp) hds.2.1 hds.2.2.2
  have HCo : Hid (ConjR ps 0 (conj ps)) := Or.inr ⟨hpp, rfl, rfl⟩
  have HFr : Hid (FrobR ps 0 (arms ps) (legs ps)) := Or.inr ⟨hpp, rfl, rfl, rfl⟩
  have HPW : Hid (∀ z ∈ ps, 0 ≤ z ∧ z ≤ 1000) := fun z hz => by have := hpp.range z hz; omega
  clear hpp hds
  go_enter Try.func3, Try.ntmps3
  go_wp2_with fail
  refine (Part_is _ _ _ _ hp E).mono ?_
  rintro e w1 ⟨rfl, hd⟩
  have hb : Below w.heap.size w w1 := by
    obtain ⟨n, rfl⟩ := hd
    exact below_drewN (Below.refl _ _) n
  have HB1 : Hid (Below w.heap.size w w1) := hb
  replace hp := hp.below hb
  replace hq := hq.below hb
  replace hx := hx.below hb
  replace hy := hy.below hb
  clear hb hd
  go_wp2_with fail
  refine (Conjugate_at _ _ _ _ hp rfl HCo.out).mono ?_
  rintro e w2 ⟨v, rfl, hown, hb⟩
  have HB2 : Hid (Below w.heap.size w w2) := HB1.out.trans (hb.mono HB1.out.size)
  replace hp := hp.below hb
  replace hq := hq.below hb
  replace hx := hx.below hb
  replace hy := hy.below hb
  obtain ⟨a2, n2, c2, rfl, S2, hn2, hc2⟩ := hown.opened HCs.out.len HCs.out.wf
  have HN2 : Hid (n2 = (conj ps).length) := hn2
  have HC2 : Hid (n2 ≤ c2) := hc2
  clear hown hn2 hc2
  clear hb
  go_wp2_with fail
  refine (Frobenius_at _ _ _ _ hp rfl HFr.out).mono ?_
  rintro e w3 ⟨v, u, rfl, hown, hown2, hb⟩
  have HB3 : Hid (Below w.heap.size w w3) := HB2.out.trans (hb.mono HB2.out.size)
  replace hp := hp.below hb
  replace hq := hq.below hb
  replace hx := hx.below hb
  replace hy := hy.below hb
  replace S2 := S2.below hb
  obtain ⟨a3, n3, c3, rfl, S3, hn3, hc3⟩ := hown.opened HAs.out.len HAs.out.wf
  have HN3 : Hid (n3 = (arms ps).length) := hn3
  have HC3 : Hid (n3 ≤ c3) := hc3
  clear hown hn3 hc3
  obtain ⟨a4, n4, c4, rfl, S4, hn4, hc4⟩ := hown2.opened HLs.out.len HLs.out.wf
  have HN4 : Hid (n4 = (legs ps).length) := hn4
  have HC4 : Hid (n4 ≤ c4) := hc4
  clear hown2 hn4 hc4
  clear hb
  go_wp2_with fail
  refine (Conj_is _ _ _ _ hp HP.out).mono ?_
  rintro e w5 ⟨v, rfl, hown, hb⟩
  have HB5 : Hid (Below w.heap.size w w5) := HB3.out.trans (hb.mono HB3.out.size)
  replace hp := hp.below hb
  replace hq := hq.below hb
  replace hx := hx.below hb
  replace hy := hy.below hb
  replace S2 := S2.below hb
  replace S3 := S3.below hb
  replace S4 := S4.below hb
  obtain ⟨a5, n5, c5, rfl, S5, hn5, hc5⟩ := hown.opened HCs.out.len HCs.out.wf
  have HN5 : Hid (n5 = (conj ps).length) := hn5
  have HC5 : Hid (n5 ≤ c5) := hc5
  clear hown hn5 hc5
  clear hb
  go_wp2_with fail
  refine (Diagonal_is _ _ _ _ hp HP.out).mono ?_
  rintro e w6 ⟨v, u, rfl, hown, hown2, hb⟩
  have HB6 : Hid (Below w.heap.size w w6) := HB5.out.trans (hb.mono HB5.out.size)
  replace hp := hp.below hb
  replace hq := hq.below hb
  replace hx := hx.below hb
  replace hy := hy.below hb
  replace S2 := S2.below hb
  replace S3 := S3.below hb
  replace S4 := S4.below hb
  replace S5 := S5.below hb
  obtain ⟨a6, n6, c6, rfl, S6, hn6, hc6⟩ := hown.opened HAs.out.len HAs.out.wf
  have HN6 : Hid (n6 = (arms ps).length) := hn6
  have HC6 : Hid (n6 ≤ c6) := hc6
  clear hown hn6 hc6
  obtain ⟨a7, n7, c7, rfl, S7, hn7, hc7⟩ := hown2.opened HLs.out.len HLs.out.wf
  have HN7 : Hid (n7 = (legs ps).length) := hn7
  have HC7 : Hid (n7 ≤ c7) := hc7
  clear hown2 hn7 hc7
  clear hb
  go_wp2_with fail
  refine (Check_is _ _ _ _ hp E).mono ?_
  rintro e w8 ⟨rfl, hw8⟩
  obtain rfl : w6 = w8 := hw8.symm
  go_wp2_with fail
  refine (list_ok _ _ _ _ _ _ _ (conj ps) S2 S5 HN2 HN5).mono ?_
  rintro e w9 ⟨rfl, hd⟩
  have hb : Below w6.heap.size w6 w9 := by
    obtain ⟨n, rfl⟩ := hd
    exact below_drewN (Below.refl _ _) n
  have HB9 : Hid (Below w.heap.size w w9) := HB6.out.trans (hb.mono HB6.out.size)
  replace hp := hp.below hb
  replace hq := hq.below hb
  replace hx := hx.below hb
  replace hy := hy.below hb
  replace S2 := S2.below hb
  replace S3 := S3.below hb
  replace S4 := S4.below hb
  replace S5 := S5.below hb
  replace S6 := S6.below hb
  replace S7 := S7.below hb
  clear hb hd
  clear S2 S5
  go_wp2_with fail
  refine (list_ok _ _ _ _ _ _ _ (arms ps) S3 S6 HN3 HN6).mono ?_
  rintro e w10 ⟨rfl, hd⟩
  have hb : Below w9.heap.size w9 w10 := by
    obtain ⟨n, rfl⟩ := hd
    exact below_drewN (Below.refl _ _) n
  have HB10 : Hid (Below w.heap.size w w10) := HB9.out.trans (hb.mono HB9.out.size)
  replace hp := hp.below hb
  replace hq := hq.below hb
  replace hx := hx.below hb
  replace hy := hy.below hb
  replace S3 := S3.below hb
  replace S4 := S4.below hb
  replace S6 := S6.below hb
  replace S7 := S7.below hb
  clear hb hd
  clear S3 S6
  go_wp2_with fail
  refine (list_ok _ _ _ _ _ _ _ (legs ps) S4 S7 HN4 HN7).mono ?_
  rintro e w11 ⟨rfl, hd⟩
  have hb : Below w10.heap.size w10 w11 := by
    obtain ⟨n, rfl⟩ := hd
    exact below_drewN (Below.refl _ _) n
  have HB11 : Hid (Below w.heap.size w w11) := HB10.out.trans (hb.mono HB10.out.size)
  replace hp := hp.below hb
  replace hq := hq.below hb
  replace hx := hx.below hb
  replace hy := hy.below hb
  replace S4 := S4.below hb
  replace S7 := S7.below hb
  clear hb hd
  clear S4 S7
  go_wp2_with fail
  refine (FromFrobenius_at _ _ _ _ _ _ _ hx hy rfl rfl r1.out).mono ?_
  rintro e w12 ⟨v, rfl, hown, hb⟩
  have HB12 : Hid (Below w.heap.size w w12) := HB11.out.trans (hb.mono HB11.out.size)
  replace hp := hp.below hb
  replace hq := hq.below hb
  replace hx := hx.below hb
  replace hy := hy.below hb
  obtain ⟨a12, n12, c12, rfl, S12, hn12, hc12⟩ := hown.opened hfl.out.len hfl.out.wf
  have HN12 : Hid (n12 = fl.length) := hn12
  have HC12 : Hid (n12 ≤ c12) := hc12
  clear hown hn12 hc12
  clear hb
  go_wp2_with fail
  refine (FD_at _ _ _ _ _ _ _ hx hy rfl rfl r1.out).mono ?_
  rintro e w13 ⟨v, rfl, hown, hb⟩
  have HB13 : Hid (Below w.heap.size w w13) := HB12.out.trans (hb.mono HB12.out.size)
  replace hp := hp.below hb
  replace hq := hq.below hb
  replace hx := hx.below hb
  replace hy := hy.below hb
  replace S12 := S12.below hb
  obtain ⟨a13, n13, c13, rfl, S13, hn13, hc13⟩ := hown.opened hfl.out.len hfl.out.wf
  have HN13 : Hid (n13 = fl.length) := hn13
  have HC13 : Hid (n13 ≤ c13) := hc13
  clear hown hn13 hc13
  clear hb
  go_wp2_with fail
  refine (list_is _ _ _ _ _ _ _ fl cc S12 S13 HN12.out HN13.out hfe.out).mono ?_
  rintro e w14 ⟨rfl, hd⟩
  have hb : Below w13.heap.size w13 w14 := by
    obtain ⟨n, rfl⟩ := hd
    exact below_drewN (Below.refl _ _) n
  have HB14 : Hid (Below w.heap.size w w14) := HB13.out.trans (hb.mono HB13.out.size)
  replace hp := hp.below hb
  replace hq := hq.below hb
  replace hx := hx.below hb
  replace hy := hy.below hb
  replace S12 := S12.below hb
  replace S13 := S13.below hb
  clear hb hd
  clear S12 S13
  go_wp2_with fail
  refine (Dominates_at _ _ _ _ _ _ _ hp hq rfl rfl HDo.out).mono ?_
  rintro e w15 ⟨rfl, hw15⟩
  obtain rfl : w14 = w15 := hw15.symm
  have hal : Below w14.heap.size w14 (w14.alloc (.cells #[.slice a ps.length ca, .slice b qs.length cb] 22)) := (Below.refl _ _).alloc (Nat.le_refl _) _
  go_wp2_with fail
  refine (Parts_two a b ca cb _ _ ps qs _ (hp.below hal) (hq.below hal) (by rw [World.cell?_alloc_at _ _ _ _ rfl]; rfl) (by rw [World.cell?_alloc_at _ _ _ _ rfl]; rfl) 0 HK.out).mono ?_
  rintro e w16 ⟨rfl, hd⟩
  have hb : Below w14.heap.size w14 w16 := by
    obtain ⟨n, rfl⟩ := hd
    exact below_drewN hal n
  have HB16 : Hid (Below w.heap.size w w16) := HB14.out.trans (hb.mono HB14.out.size)
  replace hp := hp.below hb
  replace hq := hq.below hb
  replace hx := hx.below hb
  replace hy := hy.below hb
  clear hb hd hal
  go_wp2_with fail
  refine (Size_at _ _ _ ps _ hp HPW.out rfl s1 HS1.out).mono ?_
  rintro e w17 ⟨rfl, hw17⟩
  obtain rfl : w16 = w17 := hw17.symm
  go_wp2_with fail
  refine (Size_at _ _ _ qs _ hq HQW.out rfl s2 HS2.out).mono ?_
  rintro e w18 ⟨rfl, hw18⟩
  obtain rfl : w16 = w18 := hw18.symm
  go_wp2_with fail
  go_ret
  exact ⟨rfl, HB16.out⟩

set_option maxHeartbeats 8000000 in
set_option maxRecDepth 100000 in
theorem turns_0 (a b d f : Option Addr) (ca cb cd cf : Nat) (ps qs xs ys : List Int) (w : World) (hp : Shows w a ps) (hq : Shows w b qs) (hx : Shows w d xs) (hy : Shows w f ys) (fl : List Int) (cc : Int) (r1 : Hid (FFR xs ys cc fl)) (hfl : Hid (Smal fl)) (hfe : Hid (cc ≠ 0 → fl = [])) (hpp : IsPart ps) (hca : ps.length ≤ ca) (hcb : qs.length ≤ cb) (s1 : Int) (t : Bool) (HS1 : Hid (sum ps = s1)) (HS2 : Hid (sum qs = s1)) (HSE : Hid (sum ps = sum qs)) (HQ : Hid (IsPart qs)) (HQW : Hid (∀ z ∈ qs, 0 ≤ z ∧ z ≤ 1000)) (HTd : Hid (t = domB ps qs)) (HDo : Hid (DomR ps qs 0 t)) (HK : Hid (chk2 ps qs = 0)) :
    Calls Try.prog 3 #[.slice a ps.length ca, .slice b qs.length cb, .slice d xs.length cd, .slice f ys.length cf] w fun e w' => e = .returned (.bool true) ∧ Below w.heap.size w w' := by
  have HP : Hid (IsPart ps) := hpp
  have h40 := hpp.len
  have E : Hid (chk ps = 0) := chk_ok.2 hpp
  have hds := diag_small hpp
  have HCs : Hid (Smal (conj ps)) := Smal.part (conj_part hpp)
  have HAs : Hid (Smal (arms ps)) := Smal.falls (arms_falls hpp) hds.1 hds.2.2.1
  have HLs : Hid (Smal (legs ps)) := Smal.falls (legs_falls hpp) hds.2.1 hds.2.2.2
  have HCo : Hid (ConjR ps 0 (conj ps)) := Or.inr ⟨hpp, rfl, rfl⟩
  have HFr : Hid (FrobR ps 0 (arms ps) (legs ps)) := Or.inr ⟨hpp, rfl, rfl, rfl⟩
  have HPW : Hid (∀ z ∈ ps, 0 ≤ z ∧ z ≤ 1000) := fun z hz => by have := hpp.range z hz; omega
  clear hpp hds
  go_enter Try.func3, Try.ntmps3
  go_wp2_with fail
  refine (Part_is _ _ _ _ hp E).mono ?_
  rintro e w1 ⟨rfl, hd⟩
  have hb : Below w.heap.size w w1 := by
    obtain ⟨n, rfl⟩ := hd
    exact below_drewN (Below.refl _ _) n
  have HB1 : Hid (Below w.heap.size w w1) := hb
  replace hp := hp.below hb
  replace hq := hq.below hb
  replace hx := hx.below hb
  replace hy := hy.below hb
  clear hb hd
  go_wp2_with fail
  refine (Conjugate_at _ _ _ _ hp rfl HCo.out).mono ?_
  rintro e w2 ⟨v, rfl, hown, hb⟩
  have HB2 : Hid (Below w.heap.size w w2) := HB1.out.trans (hb.mono HB1.out.size)
  replace hp := hp.below hb
  replace hq := hq.below hb
  replace hx := hx.below hb
  replace hy := hy.below hb
  obtain ⟨a2, n2, c2, rfl, S2, hn2, hc2⟩ := hown.opened HCs.out.len HCs.out.wf
  have HN2 : Hid (n2 = (conj ps).length) := hn2
  have HC2 : Hid (n2 ≤ c2) := hc2
  clear hown hn2 hc2
  clear hb
  go_wp2_with fail
  refine (Frobenius_at _ _ _ _ hp rfl HFr.out).mono ?_
  rintro e w3 ⟨v, u, rfl, hown, hown2, hb⟩
  have HB3 : Hid (Below w.heap.size w w3) := HB2.out.trans (hb.mono HB2.out.size)
  replace hp := hp.below hb
  replace hq := hq.below hb
  replace hx := hx.below hb
  replace hy := hy.below hb
  replace S2 := S2.below hb
  obtain ⟨a3, n3, c3, rfl, S3, hn3, hc3⟩ := hown.opened HAs.out.len HAs.out.wf
  have HN3 : Hid (n3 = (arms ps).length) := hn3
  have HC3 : Hid (n3 ≤ c3) := hc3
  clear hown hn3 hc3
  obtain ⟨a4, n4, c4, rfl, S4, hn4, hc4⟩ := hown2.opened HLs.out.len HLs.out.wf
  have HN4 : Hid (n4 = (legs ps).length) := hn4
  have HC4 : Hid (n4 ≤ c4) := hc4
  clear hown2 hn4 hc4
  clear hb
  go_wp2_with fail
  refine (Conj_is _ _ _ _ hp HP.out).mono ?_
  rintro e w5 ⟨v, rfl, hown, hb⟩
  have HB5 : Hid (Below w.heap.size w w5) := HB3.out.trans (hb.mono HB3.out.size)
  replace hp := hp.below hb
  replace hq := hq.below hb
  replace hx := hx.below hb
  replace hy := hy.below hb
  replace S2 := S2.below hb
  replace S3 := S3.below hb
  replace S4 := S4.below hb
  obtain ⟨a5, n5, c5, rfl, S5, hn5, hc5⟩ := hown.opened HCs.out.len HCs.out.wf
  have HN5 : Hid (n5 = (conj ps).length) := hn5
  have HC5 : Hid (n5 ≤ c5) := hc5
  clear hown hn5 hc5
  clear hb
  go_wp2_with fail
  refine (Diagonal_is _ _ _ _ hp HP.out).mono ?_
  rintro e w6 ⟨v, u, rfl, hown, hown2, hb⟩
  have HB6 : Hid (Below w.heap.size w w6) := HB5.out.trans (hb.mono HB5.out.size)
  replace hp := hp.below hb
  replace hq := hq.below hb
  replace hx := hx.below hb
  replace hy := hy.below hb
  replace S2 := S2.below hb
  replace S3 := S3.below hb
  replace S4 := S4.below hb
  replace S5 := S5.below hb
  obtain ⟨a6, n6, c6, rfl, S6, hn6, hc6⟩ := hown.opened HAs.out.len HAs.out.wf
  have HN6 : Hid (n6 = (arms ps).length) := hn6
  have HC6 : Hid (n6 ≤ c6) := hc6
  clear hown hn6 hc6
  obtain ⟨a7, n7, c7, rfl, S7, hn7, hc7⟩ := hown2.opened HLs.out.len HLs.out.wf
  have HN7 : Hid (n7 = (legs ps).length) := hn7
  have HC7 : Hid (n7 ≤ c7) := hc7
  clear hown2 hn7 hc7
  clear hb
  go_wp2_with fail
  refine (Check_is _ _ _ _ hp E).mono ?_
  rintro e w8 ⟨rfl, hw8⟩
  obtain rfl : w6 = w8 := hw8.symm
  go_wp2_with fail
  refine (list_ok _ _ _ _ _ _ _ (conj ps) S2 S5 HN2 HN5).mono ?_
  rintro e w9 ⟨rfl, hd⟩
  have hb : Below w6.heap.size w6 w9 := by
    obtain ⟨n, rfl⟩ := hd
    exact below_drewN (Below.refl _ _) n
  have HB9 : Hid (Below w.heap.size w w9) := HB6.out.trans (hb.mono HB6.out.size)
  replace hp := hp.below hb
  replace hq := hq.below hb
  replace hx := hx.below hb
  replace hy := hy.below hb
  replace S2 := S2.below hb
  replace S3 := S3.below hb
  replace S4 := S4.below hb
  replace S5 := S5.below hb
  replace S6 := S6.below hb
  replace S7 := S7.below hb
  clear hb hd
  clear S2 S5
  go_wp2_with fail
  refine (list_ok _ _ _ _ _ _ _ (arms ps) S3 S6 HN3 HN6).mono ?_
  rintro e w10 ⟨rfl, hd⟩
  have hb : Below w9.heap.size w9 w10 := by
    obtain ⟨n, rfl⟩ := hd
    exact below_drewN (Below.refl _ _) n
  have HB10 : Hid (Below w.heap.size w w10) := HB9.out.trans (hb.mono HB9.out.size)
  replace hp := hp.below hb
  replace hq := hq.below hb
  replace hx := hx.below hb
  replace hy := hy.below hb
  replace S3 := S3.below hb
  replace S4 := S4.below hb
  replace S6 := S6.below hb
  replace S7 := S7.below hb
  clear hb hd
  clear S3 S6
  go_wp2_with fail
  refine (list_ok _ _ _ _ _ _ _ (legs ps) S4 S7 HN4 HN7).mono ?_
  rintro e w11 ⟨rfl, hd⟩
  have hb : Below w10.heap.size w10 w11 := by
    obtain ⟨n, rfl⟩ := hd
    exact below_drewN (Below.refl _ _) n
  have HB11 : Hid (Below w.heap.size w w11) := HB10.out.trans (hb.mono HB10.out.size)
  replace hp := hp.below hb
  replace hq := hq.below hb
  replace hx := hx.below hb
  replace hy := hy.below hb
  replace S4 := S4.below hb
  replace S7 := S7.below hb
  clear hb hd
  clear S4 S7
  go_wp2_with fail
  refine (FromFrobenius_at _ _ _ _ _ _ _ hx hy rfl rfl r1.out).mono ?_
  rintro e w12 ⟨v, rfl, hown, hb⟩
  have HB12 : Hid (Below w.heap.size w w12) := HB11.out.trans (hb.mono HB11.out.size)
  replace hp := hp.below hb
  replace hq := hq.below hb
  replace hx := hx.below hb
  replace hy := hy.below hb
  obtain ⟨a12, n12, c12, rfl, S12, hn12, hc12⟩ := hown.opened hfl.out.len hfl.out.wf
  have HN12 : Hid (n12 = fl.length) := hn12
  have HC12 : Hid (n12 ≤ c12) := hc12
  clear hown hn12 hc12
  clear hb
  go_wp2_with fail
  refine (FD_at _ _ _ _ _ _ _ hx hy rfl rfl r1.out).mono ?_
  rintro e w13 ⟨v, rfl, hown, hb⟩
  have HB13 : Hid (Below w.heap.size w w13) := HB12.out.trans (hb.mono HB12.out.size)
  replace hp := hp.below hb
  replace hq := hq.below hb
  replace hx := hx.below hb
  replace hy := hy.below hb
  replace S12 := S12.below hb
  obtain ⟨a13, n13, c13, rfl, S13, hn13, hc13⟩ := hown.opened hfl.out.len hfl.out.wf
  have HN13 : Hid (n13 = fl.length) := hn13
  have HC13 : Hid (n13 ≤ c13) := hc13
  clear hown hn13 hc13
  clear hb
  go_wp2_with fail
  refine (list_is _ _ _ _ _ _ _ fl cc S12 S13 HN12.out HN13.out hfe.out).mono ?_
  rintro e w14 ⟨rfl, hd⟩
  have hb : Below w13.heap.size w13 w14 := by
    obtain ⟨n, rfl⟩ := hd
    exact below_drewN (Below.refl _ _) n
  have HB14 : Hid (Below w.heap.size w w14) := HB13.out.trans (hb.mono HB13.out.size)
  replace hp := hp.below hb
  replace hq := hq.below hb
  replace hx := hx.below hb
  replace hy := hy.below hb
  replace S12 := S12.below hb
  replace S13 := S13.below hb
  clear hb hd
  clear S12 S13
  go_wp2_with fail
  refine (Dominates_at _ _ _ _ _ _ _ hp hq rfl rfl HDo.out).mono ?_
  rintro e w15 ⟨rfl, hw15⟩
  obtain rfl : w14 = w15 := hw15.symm
  have hal : Below w14.heap.size w14 (w14.alloc (.cells #[.slice a ps.length ca, .slice b qs.length cb] 22)) := (Below.refl _ _).alloc (Nat.le_refl _) _
  go_wp2_with fail
  refine (Parts_two a b ca cb _ _ ps qs _ (hp.below hal) (hq.below hal) (by rw [World.cell?_alloc_at _ _ _ _ rfl]; rfl) (by rw [World.cell?_alloc_at _ _ _ _ rfl]; rfl) 0 HK.out).mono ?_
  rintro e w16 ⟨rfl, hd⟩
  have hb : Below w14.heap.size w14 w16 := by
    obtain ⟨n, rfl⟩ := hd
    exact below_drewN hal n
  have HB16 : Hid (Below w.heap.size w w16) := HB14.out.trans (hb.mono HB14.out.size)
  replace hp := hp.below hb
  replace hq := hq.below hb
  replace hx := hx.below hb
  replace hy := hy.below hb
  clear hb hd hal
  go_wp2_with fail
  refine (Size_at _ _ _ ps _ hp HPW.out rfl s1 HS1.out).mono ?_
  rintro e w17 ⟨rfl, hw17⟩
  obtain rfl : w16 = w17 := hw17.symm
  go_wp2_with fail
  refine (Size_at _ _ _ qs _ hq HQW.out rfl s1 HS2.out).mono ?_
  rintro e w18 ⟨rfl, hw18⟩
  obtain rfl : w16 = w18 := hw18.symm
  have hsb : (s1 != s1) = false := by simp
  go_wp2_with fail
  refine (Over_ok _ _ _ _ ps qs t _ hp hq hca hcb HP.out HQ.out HSE.out HTd.out).mono ?_
  rintro e w19 ⟨rfl, hd⟩
  have hb : Below w16.heap.size w16 w19 := by
    obtain ⟨n, rfl⟩ := hd
    exact below_drewN (Below.refl _ _) n
  have HB19 : Hid (Below w.heap.size w w19) := HB16.out.trans (hb.mono HB16.out.size)
  replace hp := hp.below hb
  replace hq := hq.below hb
  replace hx := hx.below hb
  replace hy := hy.below hb
  clear hb hd
  go_wp2_with fail
  go_ret
  exact ⟨rfl, HB19.out⟩

/-- Partitions turned over, of every four slices that can be read. -/
theorem turns_any (a b d f : Option Addr) (ca cb cd cf : Nat) (ps qs xs ys : List Int) (w : World) (hp : Shows w a ps) (hq : Shows w b qs) (hx : Shows w d xs) (hy : Shows w f ys) (hca : ps.length ≤ ca) (hcb : qs.length ≤ cb) :
    Calls Try.prog 3 #[.slice a ps.length ca, .slice b qs.length cb, .slice d xs.length cd, .slice f ys.length cf] w fun e w' => e = .returned (.bool true) ∧ Below w.heap.size w w' := by
  obtain ⟨cc, fl, hf1, hf2, hf3⟩ := ffr_ex xs ys
  by_cases h0 : chk ps = 0
  · have hpp := chk_ok.1 h0
    by_cases h1 : chk qs = 0
    · have hqq := chk_ok.1 h1
      have hk : chk2 ps qs = 0 := by unfold chk2; rw [if_pos h0, h1]
      have hqw : ∀ z ∈ qs, 0 ≤ z ∧ z ≤ 1000 := fun z hz => by have := hqq.range z hz; omega
      by_cases hl : sum ps = sum qs
      · exact turns_0 a b d f ca cb cd cf ps qs xs ys w hp hq hx hy fl cc hf1 hf2 hf3 hpp hca hcb _ _ rfl hl.symm hl hqq hqw rfl (Or.inr (Or.inr (Or.inr ⟨hpp, hqq, hl, rfl, rfl⟩))) hk
      · exact turns_3 a b d f ca cb cd cf ps qs xs ys w hp hq hx hy fl cc hf1 hf2 hf3 hpp _ _ (bne_iff_ne.2 hl) rfl rfl hqw (Or.inr (Or.inr (Or.inl ⟨hpp, hqq, hl, rfl, rfl⟩))) hk
    · exact turns_q a b d f ca cb cd cf ps qs xs ys w hp hq hx hy fl cc hf1 hf2 hf3 hpp (chk qs) (beq_eq_false_iff_ne.2 h1) (Or.inr (Or.inl ⟨hpp, rfl, h1, rfl⟩)) (by show _ = _; unfold chk2; rw [if_pos h0])
  · exact turns_err a b d f ca cb cd cf ps qs xs ys w hp hq hx hy fl cc hf1 hf2 hf3 (chk ps) (bne_iff_ne.2 h0) (beq_eq_false_iff_ne.2 h0) rfl (Or.inl ⟨rfl, h0, rfl⟩) (Or.inl ⟨rfl, h0, rfl, rfl⟩) (Or.inl ⟨rfl, h0, rfl⟩) (by show _ = _; unfold chk2; rw [if_neg h0])

#print axioms turns_any
end Go.Proofs.Ytnjbkiegeielhaa
