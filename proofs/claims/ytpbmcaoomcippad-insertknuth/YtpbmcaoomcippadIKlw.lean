/-
  The law ferkeep.InsertKnuth.
-/
import Derived.Test.YtpbmcaoomcippadIMov
namespace Go.Proofs.Ytpbmcaoomcippad
open Go.RowKit Go.Shelf

theorem mvs_132 : mvs [1, 3, 2] = [[3, 1, 2]] := by decide
theorem mvs_bd {zs : List Int} (hc : lchk zs = 0) {ls : List (List Int)} (hp : ls.Perm (mvs zs)) : ls.length ≤ 40 ∧ ∀ l ∈ ls, l.length ≤ 17592186044416 ∧ ∀ z ∈ l, -9223372036854775808 ≤ z ∧ z ≤ 9223372036854775807 := by
  obtain ⟨h1, h2⟩ := lchk_ok.1 hc
  refine ⟨by rw [hp.length_eq]; have := mvF_len zs (zs.length - 1); unfold mvs; omega, fun l hl => ?_⟩
  obtain ⟨q1, _, _, _, q5⟩ := mvs_ok hc (hp.mem_iff.1 hl)
  exact ⟨by rw [q5]; omega, fun z hz => by have := (lchk_ok.1 q1).2 z hz; omega⟩

set_option maxHeartbeats 8000000 in
set_option maxRecDepth 100000 in
theorem iknu_at {ρ : Go.Shelf.Ren} (L : SlLaysF.n6 Try.prog ρ) (hρ : ρ.f 6 = 52) (aw : Option Addr) (cw : Nat) (zs : List Int) (k : Int) (w : World) (hw : Shows w aw zs) (hk : -9223372036854775808 ≤ k ∧ k ≤ 9223372036854775807) :
    Calls Try.prog 8 #[.slice aw zs.length cw, .int .i64 k] w fun e w' => e = .returned (.bool true) ∧ Below w.heap.size w w' := by
  have HS : Hid (Shows w aw zs) := hw
  have HL : Hid (SlLaysF.n6 Try.prog ρ) := L
  have hzl := hw.len
  clear hw L
  obtain ⟨w0, HW0⟩ : ∃ w0, Hid (w0 = w.alloc (.cells #[.slice aw zs.length cw] 22)) := ⟨_, rfl⟩
  have HB0 : Hid (Below w.heap.size w w0) := by rw [HW0.out]; exact (Below.refl _ _).alloc (Nat.le_refl _) _
  have HZ0 : Hid (w.heap.size < w0.heap.size) := by rw [HW0.out]; show _ < _; simp
  have HC0 : Hid (w0.cell? ⟨w.heap.size, 0, none⟩ = some (.slice aw zs.length cw)) := by rw [HW0.out, World.cell?_alloc_at _ _ _ _ rfl]; rfl
  have HCB : Hid (∀ W, Below w0.heap.size w0 W → W.cell? ⟨w.heap.size, 0, none⟩ = some (.slice aw zs.length cw)) := fun W hW => by rw [hW.cell (p := ⟨w.heap.size, 0, none⟩) HZ0.out]; exact HC0.out
  obtain ⟨w0b, HW0b⟩ : ∃ w0b, Hid (w0b = w0.alloc (.cells #[.int .i64 1, .int .i64 3, .int .i64 2] 3)) := ⟨_, rfl⟩
  have HZ1 : Hid (w0.heap.size = w.heap.size + 1) := by rw [HW0.out]; show _ = _; simp
  have HL1 : Hid (Shows w0b (some ⟨w.heap.size + 1, 0, none⟩) [1, 3, 2]) := by rw [HW0b.out, ← HZ1.out]; exact shows_lit w0 [1, 3, 2] #[.int .i64 1, .int .i64 3, .int .i64 2] rfl (by simp) (by simp)
  have HB0b : Hid (Below w0.heap.size w0 w0b) := by rw [HW0b.out]; exact (Below.refl _ _).alloc (Nat.le_refl _) _
  go_enter Try.func8, Try.ntmps8
  go_wp2_with fail
  rw [← HW0.out, ← HW0b.out]
  refine (Moves_ok HL.out hρ _ 3 3 [1, 3, 2] w0b HL1.out rfl (by decide)).mono ?_
  rintro e w1 ⟨v1, ls1, rfl, hP1, hT1, hb1⟩
  have hls1 : ls1 = [[3, 1, 2]] := by
    have := hP1.out
    rw [mvs_132] at this
    exact List.perm_singleton.1 this
  subst hls1
  obtain ⟨b1, n1, k1, rfl, hR1, HN1⟩ := hT1.table (by simp)
  have hn1 : n1 = 1 := HN1.out
  subst hn1
  have HB01 : Hid (Below w0.heap.size w0 w1) := HB0b.out.trans (hb1.mono HB0b.out.size)
  have HB1 : Hid (Below w.heap.size w w1) := HB0.out.trans (HB01.out.mono HB0.out.size)
  have HR1 : Hid (Table w1 b1 [[3, 1, 2]]) := hR1
  obtain ⟨g1, off1, ai1, m1, ci1, rfl, hc1, HM1, HS1, -, -⟩ := hR1.elem (k := 0) (by simp)
  rw [Nat.add_zero] at hc1
  have hm1 : m1 = 3 := HM1.out
  subst hm1
  have HSr : Hid (Shows w1 ai1 [3, 1, 2]) := HS1.out
  obtain ⟨w1b, HW1b⟩ : ∃ w1b, Hid (w1b = w1.alloc (.cells #[.int .i64 3, .int .i64 1, .int .i64 2] 3)) := ⟨_, rfl⟩
  have HL2 : Hid (Shows w1b (some ⟨w1.heap.size, 0, none⟩) [3, 1, 2]) := by rw [HW1b.out]; exact shows_lit w1 [3, 1, 2] #[.int .i64 3, .int .i64 1, .int .i64 2] rfl (by simp) (by simp)
  have HB1b : Hid (Below w1.heap.size w1 w1b) := by rw [HW1b.out]; exact (Below.refl _ _).alloc (Nat.le_refl _) _
  have h01 : (0 : Int) < 1 := by omega
  clear hP1 hT1 hb1 hR1 HM1 HS1
  go_wp2_with fail
  rw [← HW1b.out]
  refine (Same_at ai1 _ 3 3 ci1 3 [3, 1, 2] [3, 1, 2] w1b (HSr.out.below HB1b.out) HL2.out rfl rfl true (by simp)).mono ?_
  rintro e w2 ⟨rfl, d2, hw2⟩
  have HB02 : Hid (Below w0.heap.size w0 w2) := by rw [hw2]; exact below_drewN (HB01.out.trans (HB1b.out.mono HB01.out.size)) d2
  have HB2 : Hid (Below w.heap.size w w2) := HB0.out.trans (HB02.out.mono HB0.out.size)
  have hcB2 := HCB.out w2 HB02.out
  clear hw2 hc1
  by_cases hc : lchk zs = 0
  · have HC : Hid (lchk zs = 0) := hc
    have hz40 : zs.length ≤ 40 := (lchk_ok.1 hc).1
    clear hc
    go_wp2_with fail
    refine (Moves_ok HL.out hρ aw _ cw zs w2 (HS.out.below HB2.out) rfl HC.out).mono ?_
    rintro e w3 ⟨v3, ls, rfl, hP3, hT3, hb3⟩
    have HP3 : Hid (ls.Perm (mvs zs)) := hP3
    have HBd : Hid (ls.length ≤ 40 ∧ ∀ l ∈ ls, l.length ≤ 17592186044416 ∧ ∀ z ∈ l, -9223372036854775808 ≤ z ∧ z ≤ 9223372036854775807) := mvs_bd HC.out hP3.out
    obtain ⟨b3, n3, k3, rfl, hR3, HN3⟩ := hT3.table HBd.out.2
    have HR3 : Hid (Table w3 b3 ls) := hR3
    have HB03 : Hid (Below w0.heap.size w0 w3) := HB02.out.trans (hb3.mono HB02.out.size)
    have HB3 : Hid (Below w.heap.size w w3) := HB0.out.trans (HB03.out.mono HB0.out.size)
    have hcB3 := HCB.out w3 HB03.out
    have hn3 : n3 ≤ 40 := by rw [HN3.out]; exact HBd.out.1
    clear hP3 hT3 hb3 hR3 hcB2
    obtain ⟨P, HPd⟩ : ∃ P, Hid (P = insW [] zs) := ⟨_, rfl⟩
    have HPt : Hid (IsTab P) := by rw [HPd.out]; exact (insW_tabs HC.out).2.1
    have HPb : Hid (∀ l ∈ P, l.length ≤ 17592186044416 ∧ ∀ z ∈ l, -9223372036854775808 ≤ z ∧ z ≤ 9223372036854775807) := fun l hl => by
      obtain ⟨m, hm, rfl⟩ := mem_row hl
      refine ⟨by have := HPt.out.width hm; omega, fun z hz => ?_⟩
      have := HPt.out.mem (List.mem_flatten.2 ⟨_, hl, hz⟩); omega
    have HPl : Hid (P.length ≤ 17592186044416) := by have := HPt.out.rows; show _ ≤ _; omega
    go_wp2_with fail
    refine (Make_at aw _ cw zs w3 (HS.out.below HB3.out) rfl HC.out).mono ?_
    rintro e w4 ⟨v4, u4, rfl, hT4, hb4⟩
    have h4 := hT4.fst
    rw [P_num, ← HPd.out] at h4
    obtain ⟨b4, n4, k4, rfl, hR4, HN4⟩ := h4.table HPb.out
    have HR4 : Hid (Table w4 b4 P) := hR4
    obtain ⟨x4, m4, y4, hx4⟩ : ∃ x m y, u4 = .slice x m y := by obtain ⟨vs, h⟩ := hT4.snd; obtain ⟨p, q, e⟩ := h.shape; exact ⟨_, _, _, e⟩
    subst hx4
    have HB34 : Hid (Below w3.heap.size w3 w4) := hb4
    have HB04 : Hid (Below w0.heap.size w0 w4) := HB03.out.trans (hb4.mono HB03.out.size)
    have HB4 : Hid (Below w.heap.size w w4) := HB0.out.trans (HB04.out.mono HB0.out.size)
    have HR3b : Hid (Table w4 b3 ls) := HR3.out.below hb4
    clear h4 hT4 hb4 hR4 hcB3
    by_cases hn0 : n3 = 0
    · have hnb : ((n3 : Int) == 0) = true := by simp [hn0]
      clear hn0
      go_wp2
      go_ret
      exact ⟨rfl, HB4.out⟩
    · have hnb : ((n3 : Int) == 0) = false := beq_false_of_ne (by omega)
      have hnp : 0 < n3 := by omega
      clear hn0
      go_wp2_with fail
      refine (Pick_at k n3 w4 hk hnp (by omega)).mono ?_
      rintro e w5 ⟨c, rfl, hcn, hw5⟩
      obtain rfl : w4 = w5 := hw5.symm
      clear hw5
      have hcn' : (c : Int) < (n3 : Int) := by omega
      have hcl : c < ls.length := by rw [← HN3.out]; exact hcn
      obtain ⟨g3, off3, ai, m, ci, rfl, hcc, HM, HSv, -, -⟩ := HR3b.out.elem hcl
      obtain ⟨vv, HVd⟩ : ∃ vv, Hid (vv = row ls c) := ⟨_, rfl⟩
      rw [← HVd.out] at HM HSv
      obtain ⟨q1, q2, q3, q4, q5⟩ := mvs_ok HC.out (HP3.out.mem_iff.1 (row_mem hcl))
      rw [← HVd.out] at q1 q2 q3 q4 q5
      have HV1 : Hid (lchk vv = 0) := q1
      have HV2 : Hid (decide (vv = zs) = false) := decide_eq_false q2
      have HV3 : Hid (zs ∈ mvs vv) := q3
      have HV4 : Hid (insW [] vv = P) := by rw [HPd.out]; exact q4
      clear q1 q2 q3 q4 q5
      go_wp2_with fail
      refine (Make_at ai _ ci vv w4 HSv.out HM.out HV1.out).mono ?_
      rintro e w6 ⟨v6, u6, rfl, hT6, hb6⟩
      have h6 := hT6.fst
      rw [P_num, HV4.out] at h6
      obtain ⟨b6, n6, k6, rfl, hR6, HN6⟩ := h6.table HPb.out
      have HR6 : Hid (Table w6 b6 P) := hR6
      obtain ⟨x6, m6, y6, hx6⟩ : ∃ x m y, u6 = .slice x m y := by obtain ⟨vs, h⟩ := hT6.snd; obtain ⟨p, q, e⟩ := h.shape; exact ⟨_, _, _, e⟩
      subst hx6
      have HB06 : Hid (Below w0.heap.size w0 w6) := HB04.out.trans (hb6.mono HB04.out.size)
      have HB46 : Hid (Below w4.heap.size w4 w6) := hb6
      clear h6 hT6 hb6 hR6
      go_wp2_with fail
      refine (Moves_ok HL.out hρ ai _ ci vv w6 (HSv.out.below HB46.out) HM.out HV1.out).mono ?_
      rintro e w7 ⟨v7, ms, rfl, hP7, hT7, hb7⟩
      have HBd7 : Hid (ms.length ≤ 40 ∧ ∀ l ∈ ms, l.length ≤ 17592186044416 ∧ ∀ z ∈ l, -9223372036854775808 ≤ z ∧ z ≤ 9223372036854775807) := mvs_bd HV1.out hP7.out
      have HIn : Hid (zs ∈ ms) := hP7.out.mem_iff.2 HV3.out
      obtain ⟨b7, n7, k7, rfl, hR7, HN7⟩ := hT7.table HBd7.out.2
      have HR7 : Hid (Table w7 b7 ms) := hR7
      have HB67 : Hid (Below w6.heap.size w6 w7) := hb7
      have HB07 : Hid (Below w0.heap.size w0 w7) := HB06.out.trans (hb7.mono HB06.out.size)
      have HB47 : Hid (Below w4.heap.size w4 w7) := HB46.out.trans (hb7.mono HB46.out.size)
      clear hP7 hT7 hb7 hR7 hcc
      go_wp2_with fail
      refine (RowsL_i _ _ _ _ _ _ P w7 (HR4.out.below HB47.out) (HR6.out.below HB67.out) HN4.out HN6.out HPl.out).mono ?_
      rintro e w8 ⟨rfl, d8, hw8⟩
      have HB78 : Hid (Below w7.heap.size w7 w8) := by rw [hw8]; exact below_drewN (Below.refl _ _) d8
      have HB08 : Hid (Below w0.heap.size w0 w8) := HB07.out.trans (HB78.out.mono HB07.out.size)
      have HB48 : Hid (Below w4.heap.size w4 w8) := HB47.out.trans (HB78.out.mono HB47.out.size)
      have HB8 : Hid (Below w.heap.size w w8) := HB0.out.trans (HB08.out.mono HB0.out.size)
      have hcB8 := HCB.out w8 HB08.out
      clear hw8
      go_wp2_with fail
      refine (Same_at ai aw _ _ ci cw vv zs w8 (HSv.out.below HB48.out) (HS.out.below HB8.out) HM.out rfl false HV2.out).mono ?_
      rintro e w9 ⟨rfl, d9, hw9⟩
      have HB89 : Hid (Below w8.heap.size w8 w9) := by rw [hw9]; exact below_drewN (Below.refl _ _) d9
      have HB09 : Hid (Below w0.heap.size w0 w9) := HB08.out.trans (HB89.out.mono HB08.out.size)
      have HB79 : Hid (Below w7.heap.size w7 w9) := HB78.out.trans (HB89.out.mono HB78.out.size)
      have HB9 : Hid (Below w.heap.size w w9) := HB0.out.trans (HB09.out.mono HB0.out.size)
      clear hw9 hcB8
      go_wp2_with fail
      refine (ContainsRows_at b7 aw _ _ k7 cw w.heap.size ms zs w9 (HR7.out.below HB79.out) (HS.out.below HB9.out) HN7.out rfl (by have := HBd7.out.1; omega) (HCB.out w9 HB09.out) HIn.out).mono ?_
      rintro e w10 ⟨rfl, d10, hw10⟩
      have HB10 : Hid (Below w.heap.size w w10) := by rw [hw10]; exact below_drewN HB9.out d10
      clear hw10
      go_wp2
      go_ret
      exact ⟨rfl, HB10.out⟩
  · obtain ⟨c, HCe⟩ : ∃ c, Hid (lchk zs = c) := ⟨_, rfl⟩
    have hcb : (c != 0) = true := by rw [← HCe.out]; exact bne_iff_ne.2 hc
    clear hc
    go_wp2_with fail
    refine (Moves_err aw _ cw zs w2 (HS.out.below HB2.out) rfl HCe hcb).mono ?_
    rintro e w3 ⟨rfl, hw3⟩
    obtain rfl : w2 = w3 := hw3.symm
    clear hw3
    go_wp2
    go_ret
    exact ⟨rfl, HB2.out⟩

end Go.Proofs.Ytpbmcaoomcippad
