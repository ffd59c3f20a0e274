/-
  The law ferkeep.InsertMirror.
-/
import Derived.Test.YtampjdebnaapaaeIMir
import Derived.Test.YtampjdebnaapaaeICln
import Derived.Test.YtampjdebnaapaaeIEq
import Derived.Test.YtampjdebnaapaaeISds
namespace Go.Proofs.Ytampjdebnaapaae
open Go.RowKit

theorem lit231 : PermR invL [2, 3, 1] 0 [3, 1, 2] := ⟨by decide, by decide⟩

theorem perm_wf {zs : List Int} (h : ∀ z ∈ zs, 1 ≤ z ∧ z ≤ 99) : ∀ z ∈ zs, -9223372036854775808 ≤ z ∧ z ≤ 9223372036854775807 := fun z hz => by
  have := h z hz
  omega

set_option maxHeartbeats 8000000 in
theorem mirror_any (a : Option Addr) (cap : Nat) (zs : List Int) (w : World) (hs : Shows w a zs) (hcap : a = none → cap = 0) :
    Calls Try.prog 3 #[.slice a zs.length cap] w fun e w' => e = .returned (.bool true) ∧ Below w.heap.size w w' := by
  have HS : Hid (Shows w a zs) := hs
  clear hs
  have HQ : Hid (∃ q, PermR invL zs (pchk zs) q) := ⟨_, rfl, rfl⟩
  go_enter Try.func3, Try.ntmps3
  go_wp2_with fail
  refine (Inverse_at _ 3 _ _ (shows_lit w [2, 3, 1] _ rfl (by decide) (by decide)) rfl lit231).mono ?_
  rintro e w1 ⟨v1, rfl, hown, hb⟩
  have HB1 : Hid (Below w.heap.size w w1) := ((Below.refl _ _).alloc (Nat.le_refl _) _).trans (hb.mono (by simp))
  obtain ⟨a1, n1, c1, rfl, S1, hn1, hc1⟩ := hown.opened (by decide) (by decide)
  have hn1' : n1 = 3 := hn1
  subst hn1'
  clear hown hb S1 hn1 hc1
  obtain ⟨q, hq⟩ := HQ.out
  go_wp2_with fail
  refine (Inverse_at a zs.length cap w1 (HS.out.below HB1.out) rfl hq).mono ?_
  rintro e w2 ⟨v2, rfl, hown2, hb2⟩
  have HB2 : Hid (Below w.heap.size w w2) := HB1.out.trans (hb2.mono HB1.out.size)
  have HO2 : Hid (Owns w2 w1.heap.size v2 q) := hown2
  clear hown2 hb2
  by_cases h0 : pchk zs = 0
  · have HP : Hid (IsPerm zs) := pchk_ok.1 h0
    have hq2 : q = invL zs := by have := hq.2; rw [if_pos h0] at this; exact this
    subst hq2
    rw [h0]
    have HL1 := perm_lchk HP.out
    have HL2 := inv_lchk HP.out
    have HL3 := rev_lchk HP.out
    have h40 := HP.out.len
    obtain ⟨a2, n2, c2, rfl, hS2, hn2, hc2⟩ := HO2.out.opened (by rw [invL_length]; omega) (perm_wf (lchk_ok.1 HL2).2)
    have HS2 : Hid (Shows w2 a2 (invL zs)) := hS2
    have HN2 : Hid (n2 = (invL zs).length) := hn2
    obtain ⟨P, HPe⟩ : ∃ P, Hid (P = (mk (numW zs)).1) := ⟨_, rfl⟩
    obtain ⟨Q, HQe⟩ : ∃ Q, Hid (Q = (mk (numW zs)).2) := ⟨_, rfl⟩
    have HT1 : Hid (IsTab P) := by show IsTab P; rw [HPe.out]; exact mk_tabs HL1
    have HT2 : Hid (IsTab Q) := by
      show IsTab Q
      have := mk_tabs HL2
      rw [mirror_swap HP.out] at this
      rw [HQe.out]; exact this
    have HT3 : Hid (IsTab (cols P)) := by
      show IsTab (cols P)
      have := mk_tabs HL3
      rw [mirror_rev HP.out, ← HPe.out] at this
      exact this
    have HTr : Hid (TrnR P 0 (cols P)) := by show TrnR P 0 (cols P); rw [HPe.out]; exact mirror_trn HP.out
    clear hS2 hn2 hc2 hq h0 HQ HO2
    go_wp2_with fail
    refine (Make_at a zs.length cap zs w2 (HS.out.below HB2.out) rfl HL1).mono ?_
    rintro e w3 ⟨va, vb, rfl, hT3, hb3⟩
    rw [← HPe.out, ← HQe.out] at hT3
    have HB3 : Hid (Below w.heap.size w w3) := HB2.out.trans (hb3.mono HB2.out.size)
    obtain ⟨pa, na, ka, rfl, hPa, HNa⟩ := hT3.fst.table (tab_bd HT1.out)
    obtain ⟨pb, nb, kb, rfl, hPb, HNb⟩ := hT3.snd.table (tab_bd HT2.out)
    have HPa : Hid (Table w3 pa P) := hPa
    have HPb : Hid (Table w3 pb Q) := hPb
    have HS2b : Hid (Shows w3 a2 (invL zs)) := HS2.out.below hb3
    clear hT3 hPa hPb hb3 HS2
    go_wp2_with fail
    refine (Make_at a2 n2 c2 (invL zs) w3 HS2b.out HN2.out HL2).mono ?_
    rintro e w4 ⟨vc, vd, rfl, hT4, hb4⟩
    rw [mirror_swap HP.out, ← HPe.out, ← HQe.out] at hT4
    have HB4 : Hid (Below w.heap.size w w4) := HB3.out.trans (hb4.mono HB3.out.size)
    obtain ⟨pc, nc, kc, rfl, hPc, HNc⟩ := hT4.fst.table (tab_bd HT2.out)
    obtain ⟨pd, nd, kd, rfl, hPd, HNd⟩ := hT4.snd.table (tab_bd HT1.out)
    have HPc : Hid (Table w4 pc Q) := hPc
    have HPd : Hid (Table w4 pd P) := hPd
    have HPa4 : Hid (Table w4 pa P) := HPa.out.below hb4
    have HPb4 : Hid (Table w4 pb Q) := HPb.out.below hb4
    clear hT4 hPc hPd hb4 HPa HPb HS2b
    go_wp2_with fail
    refine (Clone_any a zs.length cap zs w4 (HS.out.below HB4.out) rfl hcap (by omega)).mono ?_
    rintro e w5 ⟨v5, rfl, hO5, hb5⟩
    have HB5 : Hid (Below w.heap.size w w5) := HB4.out.trans (hb5.mono HB4.out.size)
    have HO5 : Hid (Owns w5 w4.heap.size v5 zs) := hO5
    have HZ5 : Hid (Below w4.heap.size w4 w5) := hb5
    clear hO5 hb5
    go_wp2_with fail
    refine (Reverse_any v5 zs w4.heap.size w5 HO5.out (by omega)).mono ?_
    rintro e w6 ⟨rfl, hO6, hb6, hz6⟩
    have HZ6 : Hid (Below w4.heap.size w4 w6) := HZ5.out.trans hb6
    have HB6 : Hid (Below w.heap.size w w6) := HB4.out.trans (HZ6.out.mono HB4.out.size)
    obtain ⟨a6, n6, c6, rfl, hS6, hn6, hc6⟩ := hO6.opened (by rw [List.length_reverse]; omega) (perm_wf (lchk_ok.1 HL3).2)
    have HS6 : Hid (Shows w6 a6 zs.reverse) := hS6
    have HN6 : Hid (n6 = zs.reverse.length) := hn6
    have HPa6 : Hid (Table w6 pa P) := HPa4.out.below HZ6.out
    have HPb6 : Hid (Table w6 pb Q) := HPb4.out.below HZ6.out
    have HPc6 : Hid (Table w6 pc Q) := HPc.out.below HZ6.out
    have HPd6 : Hid (Table w6 pd P) := HPd.out.below HZ6.out
    clear hO6 hb6 hz6 hS6 hn6 hc6 HPa4 HPb4 HPc HPd HO5 HZ5 HZ6
    go_wp2_with fail
    refine (Make_at a6 n6 c6 zs.reverse w6 HS6.out HN6.out HL3).mono ?_
    rintro e w7 ⟨vx, vz, rfl, hT7, hb7⟩
    rw [mirror_rev HP.out, ← HPe.out] at hT7
    have HB7 : Hid (Below w.heap.size w w7) := HB6.out.trans (hb7.mono HB6.out.size)
    obtain ⟨px, nx, kx, rfl, hPx, HNx⟩ := hT7.fst.table (tab_bd HT3.out)
    obtain ⟨az, kz, rfl⟩ := hT7.shape.2
    have HPx : Hid (Table w7 px (cols P)) := hPx
    have HPa7 : Hid (Table w7 pa P) := HPa6.out.below hb7
    have HPb7 : Hid (Table w7 pb Q) := HPb6.out.below hb7
    have HPc7 : Hid (Table w7 pc Q) := HPc6.out.below hb7
    have HPd7 : Hid (Table w7 pd P) := HPd6.out.below hb7
    clear hT7 hb7 hPx HPa6 HPb6 HPc6 HPd6 HS6
    go_wp2_with fail
    refine (Turned_at pa na ka w7 HPa7.out (by have := HT1.out.rows; omega) HNa.out HTr.out).mono ?_
    rintro e w8 ⟨vy, rfl, hT8, hb8⟩
    have HB8 : Hid (Below w.heap.size w w8) := HB7.out.trans (hb8.mono HB7.out.size)
    obtain ⟨py, ny, ky, rfl, hPy, HNy⟩ := hT8.table (tab_bd HT3.out)
    have HPy : Hid (Table w8 py (cols P)) := hPy
    have HPx8 : Hid (Table w8 px (cols P)) := HPx.out.below hb8
    have HPa8 : Hid (Table w8 pa P) := HPa7.out.below hb8
    have HPb8 : Hid (Table w8 pb Q) := HPb7.out.below hb8
    have HPc8 : Hid (Table w8 pc Q) := HPc7.out.below hb8
    have HPd8 : Hid (Table w8 pd P) := HPd7.out.below hb8
    clear hT8 hb8 hPy HPx HPa7 HPb7 HPc7 HPd7
    go_wp2_with fail
    refine (RowsL_i _ _ _ _ _ _ P _ HPa8.out HPd8.out HNa.out HNd.out (by have := HT1.out.rows; omega)).mono ?_
    rintro e w9 ⟨rfl, d9, hw9⟩
    have hb9 : Below w8.heap.size w8 w9 := by rw [hw9]; exact below_drewN (Below.refl _ _) d9
    have HB9 : Hid (Below w.heap.size w w9) := HB8.out.trans (hb9.mono HB8.out.size)
    have HPb9 : Hid (Table w9 pb Q) := HPb8.out.below hb9
    have HPc9 : Hid (Table w9 pc Q) := HPc8.out.below hb9
    have HPx9 : Hid (Table w9 px (cols P)) := HPx8.out.below hb9
    have HPy9 : Hid (Table w9 py (cols P)) := HPy.out.below hb9
    clear hw9 hb9
    go_wp2_with fail
    refine (RowsL_i _ _ _ _ _ _ Q _ HPb9.out HPc9.out HNb.out HNc.out (by have := HT2.out.rows; omega)).mono ?_
    rintro e w10 ⟨rfl, d10, hw10⟩
    have hb10 : Below w9.heap.size w9 w10 := by rw [hw10]; exact below_drewN (Below.refl _ _) d10
    have HB10 : Hid (Below w.heap.size w w10) := HB9.out.trans (hb10.mono HB9.out.size)
    have HPx10 : Hid (Table w10 px (cols P)) := HPx9.out.below hb10
    have HPy10 : Hid (Table w10 py (cols P)) := HPy9.out.below hb10
    clear hw10 hb10
    go_wp2_with fail
    refine (RowsL_i _ _ _ _ _ _ (cols P) _ HPx10.out HPy10.out HNx.out HNy.out (by have := HT3.out.rows; omega)).mono ?_
    rintro e w11 ⟨rfl, d11, rfl⟩
    go_wp2
    go_ret
    exact ⟨rfl, below_drewN HB10.out d11⟩
  · have hcb : (pchk zs != 0) = true := bne_iff_ne.2 h0
    have hq2 : q = [] := by have := hq.2; rw [if_neg h0] at this; exact this
    subst hq2
    obtain ⟨a2, c2, hv2⟩ := HO2.out.shape
    have hv2' : v2 = .slice a2 0 c2 := hv2
    subst hv2'
    obtain ⟨c, HC⟩ : ∃ c, Hid (c = pchk zs) := ⟨_, rfl⟩
    rw [← HC.out] at hcb ⊢
    go_wp2
    go_ret
    exact ⟨rfl, HB2.out⟩

end Go.Proofs.Ytampjdebnaapaae
