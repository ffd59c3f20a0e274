/-
  The walk of the law PartsOrder: for every two slices that can be read it returns true; nothing old has turned.
-/
import Derived.Test.YtnjbkiegeielhaaOMath
import Derived.Test.YtnjbkiegeielhaaELaw
namespace Go.Proofs.Ytnjbkiegeielhaa
open Go.RowKit

theorem conj31 : ConjR [3, 1] 0 [2, 1, 1] := Or.inr ⟨chk_ok.1 (by decide), rfl, by decide⟩
theorem falls_small {zs : List Int} (h : Goes 0 1 zs) (hs : sum zs ≤ 40) : ∀ z ∈ zs, -9223372036854775808 ≤ z ∧ z ≤ 9223372036854775807 := fun z hz => by
  have h1 := h.nonneg z hz; have h2 := mem_le_sum h.nonneg z hz; omega
theorem diag_small {zs : List Int} (h : IsPart zs) : sum (arms zs) ≤ 40 ∧ sum (legs zs) ≤ 40 ∧ (arms zs).length ≤ 40 ∧ (legs zs).length ≤ 40 := by
  have h1 := hooks_fit h
  have h2 := h.2
  have h3 := sum_nonneg (arms_falls h).nonneg
  have h4 := sum_nonneg (legs_falls h).nonneg
  have h5 := h.len
  have h6 := durf_le zs
  rw [legs_length, arms_length]
  rw [arms_length] at h1
  omega

set_option maxHeartbeats 4000000 in
theorem order_err (a b : Option Addr) (ca cb : Nat) (ps qs : List Int) (w : World) (hs : Shows w a ps) (ht : Shows w b qs) (c : Int) (hc : (c != 0) = true) (hr : Hid (ConjR ps c [])) :
    Calls Try.prog 7 #[.slice a ps.length ca, .slice b qs.length cb] w fun e w' => e = .returned (.bool true) ∧ Below w.heap.size w w' := by
  go_enter Try.func7, Try.ntmps7
  go_wp2_with fail
  refine (Conjugate_at _ _ _ _ (shows_lit w [3, 1] _ rfl (by decide) (by decide)) rfl conj31).mono ?_
  rintro e w1 ⟨v, rfl, hown, hb⟩
  obtain ⟨a1, n1, c1, rfl, hs1, hn1, -⟩ := hown.opened (by decide) (by decide)
  have HB1 : Hid (Below w.heap.size w w1) := ((Below.refl _ _).alloc (Nat.le_refl _) _).trans (hb.mono (by simp))
  have HN : Hid (n1 = [(2 : Int), 1, 1].length) := hn1
  clear hown hb hn1
  go_wp2_with fail
  refine (Same_at _ _ _ _ _ _ [2, 1, 1] [2, 1, 1] _ (hs1.below ((Below.refl _ _).alloc (Nat.le_refl _) _)) (shows_lit w1 [2, 1, 1] _ rfl (by decide) (by decide)) HN.out rfl true (by decide)).mono ?_
  rintro e w2 ⟨rfl, hd⟩
  have HB2 : Hid (Below w.heap.size w w2) := by
    obtain ⟨n, rfl⟩ := hd
    exact below_drewN (HB1.out.alloc HB1.out.size _) n
  clear hd hs1
  have Sp := hs.below HB2.out
  have Sq := ht.below HB2.out
  go_wp2_with fail
  refine (Conjugate_at _ _ _ _ Sp rfl hr.out).mono ?_
  rintro e w3 ⟨va, rfl, hoa, hb⟩
  have HB3 : Hid (Below w.heap.size w w3) := HB2.out.trans (hb.mono HB2.out.size)
  replace Sp := Sp.below hb
  replace Sq := Sq.below hb
  obtain ⟨aa, na, ca, rfl, Sa, hna, -⟩ := hoa.opened (by decide) (by decide)
  have Na : Hid (na = (([] : List Int)).length) := hna
  clear hoa hna
  clear hb
  obtain rfl : na = 0 := Na.out
  go_wp2
  go_ret
  exact ⟨rfl, HB3.out⟩

set_option maxHeartbeats 8000000 in
theorem order_ok (a b : Option Addr) (ca cb : Nat) (ps qs cq : List Int) (w : World) (hs : Shows w a ps) (ht : Shows w b qs) (hp : IsPart ps) (c6 c7 c8 : Int) (t7 t8 : Bool)
    (r1 : Hid (ConjR ps 0 (conj ps))) (r2 : Hid (ConjR (conj ps) 0 ps)) (r3 : Hid (FrobR ps 0 (arms ps) (legs ps))) (r4 : Hid (FrobR (conj ps) 0 (legs ps) (arms ps))) (r5 : Hid (FFR (arms ps) (legs ps) 0 ps))
    (r6 : Hid (ConjR qs c6 cq)) (hcl : Hid (cq.length ≤ 17592186044416)) (hcw : Hid (∀ z ∈ cq, -9223372036854775808 ≤ z ∧ z ≤ 9223372036854775807)) (r7 : Hid (DomR ps qs c7 t7)) (r8 : Hid (DomR cq (conj ps) c8 t8))
    (hcase : Hid (((c6 != 0) = true ∧ t7 = false) ∨ (c6 = 0 ∧ (c7 != 0) = true ∧ t7 = false) ∨ (c6 = 0 ∧ c7 = 0 ∧ c8 = 0 ∧ t8 = t7 ∧ ∃ o, DomR qs ps 0 o ∧ (t7 = true → o = true → ps = qs)))) :
    Calls Try.prog 7 #[.slice a ps.length ca, .slice b qs.length cb] w fun e w' => e = .returned (.bool true) ∧ Below w.heap.size w w' := by
  go_enter Try.func7, Try.ntmps7
  go_wp2_with fail
  refine (Conjugate_at _ _ _ _ (shows_lit w [3, 1] _ rfl (by decide) (by decide)) rfl conj31).mono ?_
  rintro e w1 ⟨v, rfl, hown, hb⟩
  obtain ⟨a1, n1, c1, rfl, hs1, hn1, -⟩ := hown.opened (by decide) (by decide)
  have HB1 : Hid (Below w.heap.size w w1) := ((Below.refl _ _).alloc (Nat.le_refl _) _).trans (hb.mono (by simp))
  have HN : Hid (n1 = [(2 : Int), 1, 1].length) := hn1
  clear hown hb hn1
  go_wp2_with fail
  refine (Same_at _ _ _ _ _ _ [2, 1, 1] [2, 1, 1] _ (hs1.below ((Below.refl _ _).alloc (Nat.le_refl _) _)) (shows_lit w1 [2, 1, 1] _ rfl (by decide) (by decide)) HN.out rfl true (by decide)).mono ?_
  rintro e w2 ⟨rfl, hd⟩
  have HB2 : Hid (Below w.heap.size w w2) := by
    obtain ⟨n, rfl⟩ := hd
    exact below_drewN (HB1.out.alloc HB1.out.size _) n
  clear hd hs1
  have Sp := hs.below HB2.out
  have Sq := ht.below HB2.out
  go_wp2_with fail
  refine (Conjugate_at _ _ _ _ Sp rfl r1.out).mono ?_
  rintro e w3 ⟨va, rfl, hoa, hb⟩
  have HB3 : Hid (Below w.heap.size w w3) := HB2.out.trans (hb.mono HB2.out.size)
  replace Sp := Sp.below hb
  replace Sq := Sq.below hb
  obtain ⟨aa, na, ca, rfl, Sa, hna, -⟩ := hoa.opened (by have := (conj_part hp).len; omega) (part_wf (conj_part hp))
  have Na : Hid (na = (conj ps).length) := hna
  clear hoa hna
  clear hb
  go_wp2_with fail
  refine (Conjugate_at _ _ _ _ Sa Na.out r2.out).mono ?_
  rintro e w4 ⟨vb, rfl, hob, hb⟩
  have HB4 : Hid (Below w.heap.size w w4) := HB3.out.trans (hb.mono HB3.out.size)
  replace Sp := Sp.below hb
  replace Sq := Sq.below hb
  replace Sa := Sa.below hb
  obtain ⟨ab, nb, cb, rfl, Sb, hnb, -⟩ := hob.opened (by have := hp.len; omega) (part_wf hp)
  have Nb : Hid (nb = (ps).length) := hnb
  clear hob hnb
  clear hb
  go_wp2_with fail
  refine (Frobenius_at _ _ _ _ Sp rfl r3.out).mono ?_
  rintro e w5 ⟨vx, vy, rfl, hox, hoy, hb⟩
  have HB5 : Hid (Below w.heap.size w w5) := HB4.out.trans (hb.mono HB4.out.size)
  replace Sp := Sp.below hb
  replace Sq := Sq.below hb
  replace Sa := Sa.below hb
  replace Sb := Sb.below hb
  obtain ⟨ax, nx, cx, rfl, Sx, hnx, -⟩ := hox.opened (by have := diag_small hp; omega) (falls_small (arms_falls hp) (diag_small hp).1)
  have Nx : Hid (nx = (arms ps).length) := hnx
  clear hox hnx
  obtain ⟨ay, ny, cy, rfl, Sy, hny, -⟩ := hoy.opened (by have := diag_small hp; omega) (falls_small (legs_falls hp) (diag_small hp).2.1)
  have Ny : Hid (ny = (legs ps).length) := hny
  clear hoy hny
  clear hb
  go_wp2_with fail
  refine (Frobenius_at _ _ _ _ Sa Na.out r4.out).mono ?_
  rintro e w6 ⟨vu, vv, rfl, hou, hov, hb⟩
  have HB6 : Hid (Below w.heap.size w w6) := HB5.out.trans (hb.mono HB5.out.size)
  replace Sp := Sp.below hb
  replace Sq := Sq.below hb
  replace Sa := Sa.below hb
  replace Sb := Sb.below hb
  replace Sx := Sx.below hb
  replace Sy := Sy.below hb
  obtain ⟨au, nu, cu, rfl, Su, hnu, -⟩ := hou.opened (by have := diag_small hp; omega) (falls_small (legs_falls hp) (diag_small hp).2.1)
  have Nu : Hid (nu = (legs ps).length) := hnu
  clear hou hnu
  obtain ⟨av, nv, cv, rfl, Sv, hnv, -⟩ := hov.opened (by have := diag_small hp; omega) (falls_small (arms_falls hp) (diag_small hp).1)
  have Nv : Hid (nv = (arms ps).length) := hnv
  clear hov hnv
  clear hb
  go_wp2_with fail
  refine (FromFrobenius_at _ _ _ _ _ _ _ Sx Sy Nx.out Ny.out r5.out).mono ?_
  rintro e w7 ⟨vk, rfl, hok, hb⟩
  have HB7 : Hid (Below w.heap.size w w7) := HB6.out.trans (hb.mono HB6.out.size)
  replace Sp := Sp.below hb
  replace Sq := Sq.below hb
  replace Sa := Sa.below hb
  replace Sb := Sb.below hb
  replace Sx := Sx.below hb
  replace Sy := Sy.below hb
  replace Su := Su.below hb
  replace Sv := Sv.below hb
  obtain ⟨ak, nk, ck, rfl, Sk, hnk, -⟩ := hok.opened (by have := hp.len; omega) (part_wf hp)
  have Nk : Hid (nk = (ps).length) := hnk
  clear hok hnk
  clear hb
  go_wp2_with fail
  refine (Same_at _ _ _ _ _ _ ps ps _ Sb Sp Nb.out rfl true (by simp)).mono ?_
  rintro e w8 ⟨rfl, hd⟩
  have hb : Below w7.heap.size w7 w8 := by obtain ⟨n, rfl⟩ := hd; exact below_drewN (Below.refl _ _) n
  have HB8 : Hid (Below w.heap.size w w8) := HB7.out.trans (hb.mono HB7.out.size)
  replace Sp := Sp.below hb
  replace Sq := Sq.below hb
  replace Sa := Sa.below hb
  replace Sb := Sb.below hb
  replace Sx := Sx.below hb
  replace Sy := Sy.below hb
  replace Su := Su.below hb
  replace Sv := Sv.below hb
  replace Sk := Sk.below hb
  clear hd hb
  go_wp2_with fail
  refine (Same_at _ _ _ _ _ _ (arms ps) (arms ps) _ Sx Sv Nx.out Nv.out true (by simp)).mono ?_
  rintro e w9 ⟨rfl, hd⟩
  have hb : Below w8.heap.size w8 w9 := by obtain ⟨n, rfl⟩ := hd; exact below_drewN (Below.refl _ _) n
  have HB9 : Hid (Below w.heap.size w w9) := HB8.out.trans (hb.mono HB8.out.size)
  replace Sp := Sp.below hb
  replace Sq := Sq.below hb
  replace Sa := Sa.below hb
  replace Sb := Sb.below hb
  replace Sx := Sx.below hb
  replace Sy := Sy.below hb
  replace Su := Su.below hb
  replace Sv := Sv.below hb
  replace Sk := Sk.below hb
  clear hd hb
  go_wp2_with fail
  refine (Same_at _ _ _ _ _ _ (legs ps) (legs ps) _ Sy Su Ny.out Nu.out true (by simp)).mono ?_
  rintro e w10 ⟨rfl, hd⟩
  have hb : Below w9.heap.size w9 w10 := by obtain ⟨n, rfl⟩ := hd; exact below_drewN (Below.refl _ _) n
  have HB10 : Hid (Below w.heap.size w w10) := HB9.out.trans (hb.mono HB9.out.size)
  replace Sp := Sp.below hb
  replace Sq := Sq.below hb
  replace Sa := Sa.below hb
  replace Sb := Sb.below hb
  replace Sx := Sx.below hb
  replace Sy := Sy.below hb
  replace Su := Su.below hb
  replace Sv := Sv.below hb
  replace Sk := Sk.below hb
  clear hd hb
  go_wp2_with fail
  refine (Same_at _ _ _ _ _ _ ps ps _ Sk Sp Nk.out rfl true (by simp)).mono ?_
  rintro e w11 ⟨rfl, hd⟩
  have hb : Below w10.heap.size w10 w11 := by obtain ⟨n, rfl⟩ := hd; exact below_drewN (Below.refl _ _) n
  have HB11 : Hid (Below w.heap.size w w11) := HB10.out.trans (hb.mono HB10.out.size)
  replace Sp := Sp.below hb
  replace Sq := Sq.below hb
  replace Sa := Sa.below hb
  replace Sb := Sb.below hb
  replace Sx := Sx.below hb
  replace Sy := Sy.below hb
  replace Su := Su.below hb
  replace Sv := Sv.below hb
  replace Sk := Sk.below hb
  clear hd hb
  clear Sb Sx Sy Su Sv Sk
  go_wp2_with fail
  refine (Conjugate_at _ _ _ _ Sq rfl r6.out).mono ?_
  rintro e w12 ⟨vc, rfl, hoc, hb⟩
  have HB12 : Hid (Below w.heap.size w w12) := HB11.out.trans (hb.mono HB11.out.size)
  replace Sp := Sp.below hb
  replace Sq := Sq.below hb
  replace Sa := Sa.below hb
  obtain ⟨ac, nc, cc, rfl, Sc, hnc, -⟩ := hoc.opened (hcl.out) (hcw.out)
  have Nc : Hid (nc = (cq).length) := hnc
  clear hoc hnc
  clear hb
  go_wp2_with fail
  refine (Dominates_at _ _ _ _ _ _ _ Sp Sq rfl rfl r7.out).mono ?_
  rintro e wx ⟨rfl, hw⟩
  obtain rfl := hw.symm
  go_wp2_with fail
  refine (Dominates_at _ _ _ _ _ _ _ Sc Sa Nc.out Na.out r8.out).mono ?_
  rintro e wx ⟨rfl, hw⟩
  obtain rfl := hw.symm
  rcases hcase.out with ⟨h1, h2⟩ | ⟨h1, h2, h3⟩ | ⟨h1, h2, h3, h4, h5⟩
  · obtain rfl := h2
    go_wp2_with fail
    go_ret
    exact ⟨rfl, HB12.out⟩
  · obtain rfl := h3
    obtain rfl := h1
    go_wp2_with fail
    go_ret
    exact ⟨rfl, HB12.out⟩
  · obtain rfl := h1
    obtain rfl := h2
    obtain rfl := h3
    obtain rfl := h4
    obtain ⟨o, hr9, hpq⟩ := h5
    have r9 : Hid (DomR qs ps 0 o) := hr9
    have HPQ : Hid (t8 = true → o = true → ps = qs) := hpq
    clear hr9 hpq
    go_wp2_with fail
    refine (Dominates_at _ _ _ _ _ _ _ Sq Sp rfl rfl r9.out).mono ?_
    rintro e wx ⟨rfl, hw⟩
    obtain rfl := hw.symm
    cases t8
    · go_wp2_with fail
      go_ret
      exact ⟨rfl, HB12.out⟩
    · cases o
      · go_wp2_with fail
        go_ret
        exact ⟨rfl, HB12.out⟩
      · go_wp2_with fail
        refine (Same_at _ _ _ _ _ _ ps qs _ Sp Sq rfl rfl true (by have h := HPQ.out; simpa using h)).mono ?_
        rintro e wy ⟨rfl, hd⟩
        have HBy : Hid (Below w.heap.size w wy) := by obtain ⟨n, rfl⟩ := hd; exact below_drewN HB12.out n
        clear hd
        go_wp2_with fail
        go_ret
        exact ⟨rfl, HBy.out⟩

theorem domR_total (a b : List Int) : ∃ c t, DomR a b c t := by
  by_cases h1 : chk a = 0
  · by_cases h2 : chk b = 0
    · by_cases h3 : sum a = sum b
      · exact ⟨0, _, Or.inr (Or.inr (Or.inr ⟨chk_ok.1 h1, chk_ok.1 h2, h3, rfl, rfl⟩))⟩
      · exact ⟨3, false, Or.inr (Or.inr (Or.inl ⟨chk_ok.1 h1, chk_ok.1 h2, h3, rfl, rfl⟩))⟩
    · exact ⟨_, false, Or.inr (Or.inl ⟨chk_ok.1 h1, rfl, h2, rfl⟩)⟩
  · exact ⟨_, false, Or.inl ⟨rfl, h1, rfl⟩⟩

theorem order_any (a b : Option Addr) (ca cb : Nat) (ps qs : List Int) (w : World) (hs : Shows w a ps) (ht : Shows w b qs) :
    Calls Try.prog 7 #[.slice a ps.length ca, .slice b qs.length cb] w fun e w' => e = .returned (.bool true) ∧ Below w.heap.size w w' := by
  by_cases h : chk ps = 0
  · have hp := chk_ok.1 h
    have r1 : ConjR ps 0 (conj ps) := Or.inr ⟨hp, rfl, rfl⟩
    have r2 : ConjR (conj ps) 0 ps := Or.inr ⟨conj_part hp, rfl, (conj_conj hp).symm⟩
    have r3 : FrobR ps 0 (arms ps) (legs ps) := Or.inr ⟨hp, rfl, rfl, rfl⟩
    have r4 : FrobR (conj ps) 0 (legs ps) (arms ps) := Or.inr ⟨conj_part hp, rfl, (arms_conj hp).symm, (legs_conj hp).symm⟩
    have r5 : FFR (arms ps) (legs ps) 0 ps := Or.inr (Or.inr ⟨by rw [arms_length, legs_length], arms_falls hp, legs_falls hp, by rw [hooks_fit hp]; exact hp.2, rfl, (fromF_back hp).symm⟩)
    by_cases h2 : chk qs = 0
    · have hq := chk_ok.1 h2
      have r6 : ConjR qs 0 (conj qs) := Or.inr ⟨hq, rfl, rfl⟩
      have hcl : (conj qs).length ≤ 17592186044416 := by have := (conj_part hq).len; omega
      by_cases h3 : sum ps = sum qs
      · have r7 : DomR ps qs 0 (domB ps qs) := Or.inr (Or.inr (Or.inr ⟨hp, hq, h3, rfl, rfl⟩))
        have r8 : DomR (conj qs) (conj ps) 0 (domB ps qs) := Or.inr (Or.inr (Or.inr ⟨conj_part hq, conj_part hp, by rw [sum_conj hp, sum_conj hq, h3], rfl, domB_conj hp hq h3⟩))
        refine order_ok a b ca cb ps qs _ w hs ht hp 0 0 0 _ _ r1 r2 r3 r4 r5 r6 hcl (part_wf (conj_part hq)) r7 r8 (Or.inr (Or.inr ⟨rfl, rfl, rfl, rfl, domB qs ps, Or.inr (Or.inr (Or.inr ⟨hq, hp, h3.symm, rfl, rfl⟩)), fun e1 e2 => ?_⟩))
        exact dom_anti hp hq ((domB_iff h3).1 e1) ((domB_iff h3.symm).1 e2)
      · have r7 : DomR ps qs 3 false := Or.inr (Or.inr (Or.inl ⟨hp, hq, h3, rfl, rfl⟩))
        obtain ⟨c8, t8, r8⟩ := domR_total (conj qs) (conj ps)
        exact order_ok a b ca cb ps qs _ w hs ht hp 0 3 c8 _ t8 r1 r2 r3 r4 r5 r6 hcl (part_wf (conj_part hq)) r7 r8 (Or.inr (Or.inl ⟨rfl, rfl, rfl⟩))
    · have r6 : ConjR qs (chk qs) [] := Or.inl ⟨rfl, h2, rfl⟩
      have r7 : DomR ps qs (chk qs) false := Or.inr (Or.inl ⟨hp, rfl, h2, rfl⟩)
      obtain ⟨c8, t8, r8⟩ := domR_total [] (conj ps)
      exact order_ok a b ca cb ps qs [] w hs ht hp _ _ c8 _ t8 r1 r2 r3 r4 r5 r6 (Nat.zero_le _) (fun z hz => by cases hz) r7 r8 (Or.inl ⟨bne_iff_ne.2 h2, rfl⟩)
  · exact order_err a b ca cb ps qs w hs ht _ (bne_iff_ne.2 h) (Or.inl ⟨rfl, h, rfl⟩)

#print axioms order_any
end Go.Proofs.Ytnjbkiegeielhaa
