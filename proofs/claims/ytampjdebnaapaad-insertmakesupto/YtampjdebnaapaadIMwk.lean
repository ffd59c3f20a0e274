/-
  The walk of ferlaw.InsertMakes.
-/
import Derived.Test.YtampjdebnaapaadIShp
import Derived.Test.YtampjdebnaapaadIOfw
import Derived.Test.YtampjdebnaapaadIUnd
import Derived.Test.YtampjdebnaapaadIEq
import Derived.Test.YtampjdebnaapaadIBlw
namespace Go.Proofs.Ytampjdebnaapaad
open Go.RowKit

theorem tabm_bd {p : List (List Int)} (h : IsTab p) : ∀ l ∈ p, l.length ≤ 17592186044416 ∧ ∀ z ∈ l, -9223372036854775808 ≤ z ∧ z ≤ 9223372036854775807 := fun l hl => by
  obtain ⟨k, hk, rfl⟩ := mem_row hl
  refine ⟨by have := h.width hk; omega, fun z hz => ?_⟩
  have := h.mem (List.mem_flatten.2 ⟨_, hl, hz⟩); omega
theorem make_tabs {zs : List Int} (h : lchk zs = 0) : IsTab (mk (numW zs)).1 ∧ IsTab (mk (numW zs)).2 := by
  obtain ⟨h1, _⟩ := lchk_ok.1 h
  obtain ⟨b1, _, _⟩ := mk_both (l := numW zs) (by rw [numW_length]; exact h1) (numW_plet h) (numW_ordered zs)
  obtain ⟨t1, t2, _⟩ := bothC_ok.1 b1
  exact ⟨t1, t2⟩

set_option maxHeartbeats 4000000 in
set_option maxRecDepth 100000 in
theorem imakes_1ok (aw ap aq : Option Addr) (cpw cpp cpq : Nat) (zs : List Int) (p q : List (List Int)) (w : World) (hsw : Shows w aw zs) (htp : Table w ap p) (htq : Table w aq q) (hlp : p.length ≤ 2000000 ∧ p.flatten.length ≤ 2000000) (hlq : q.length ≤ 2000000 ∧ q.flatten.length ≤ 2000000)
    (HCw : Hid (lchk zs = 0)) (HCb : Hid (backC p q = 0)) :
    Calls Try.prog 3 #[.slice aw zs.length cpw, .slice ap p.length cpp, .slice aq q.length cpq] w fun e w' => e = .returned (.bool true) ∧ Below w.heap.size w w' := by
  have HSw : Hid (Shows w aw zs) := hsw
  have HTp : Hid (Table w ap p) := htp
  have HTq : Hid (Table w aq q) := htq
  have HLp : Hid (p.length ≤ 2000000 ∧ p.flatten.length ≤ 2000000) := hlp
  have HLq : Hid (q.length ≤ 2000000 ∧ q.flatten.length ≤ 2000000) := hlq
  clear hsw htp htq hlp hlq
  go_enter Try.func3, Try.ntmps3
  have h40 := (lchk_ok.1 HCw.out).1
  have HZb : Hid (∀ z ∈ zs, 0 ≤ z ∧ z ≤ 1000) := fun z hz => by have := (lchk_ok.1 HCw.out).2 z hz; omega
  obtain ⟨P, HPd⟩ : ∃ P, Hid (P = (mk (numW zs)).1) := ⟨_, rfl⟩
  obtain ⟨Q, HQd⟩ : ∃ Q, Hid (Q = (mk (numW zs)).2) := ⟨_, rfl⟩
  have HTT : Hid (IsTab P ∧ IsTab Q) := by rw [HPd.out, HQd.out]; exact make_tabs HCw.out
  have HLL : Hid (P.length ≤ 17592186044416 ∧ Q.length ≤ 17592186044416) := ⟨by have := HTT.out.1.rows; omega, by have := HTT.out.2.rows; omega⟩
  go_wp2_with fail
  refine (Make_at _ _ _ zs _ HSw.out rfl HCw.out).mono ?_
  rintro e w1 ⟨v1, u1, rfl, hT1, hb1⟩
  rw [← HPd.out, ← HQd.out] at hT1
  have HB1 : Hid (Below w.heap.size w w1) := hb1
  have HV1 : Hid (Tbl w1 w.heap.size v1 P) := hT1.fst
  have HU1 : Hid (Tbl w1 w.heap.size u1 Q) := hT1.snd
  clear hT1 hb1
  go_wp2_with fail
  refine (RLetters_any _ _ _ zs _ (HSw.out.below HB1.out) rfl).mono ?_
  rintro e w2 ⟨rfl, hw2⟩
  obtain rfl : w1 = w2 := hw2.symm
  clear hw2
  rw [HCw.out]
  go_wp2_with fail
  refine (First_at zs.length _ (by omega)).mono ?_
  rintro e w3 ⟨v3, rfl, hO3, hb3⟩
  have HB3 : Hid (Below w.heap.size w w3) := HB1.out.trans (hb3.mono HB1.out.size)
  obtain ⟨a3, c3, rfl, hS3⟩ := hO3.shows (by unfold firstL; rw [tab_length]; omega) (fun z hz => by obtain ⟨jj, hj, rfl⟩ := tab_mem hz; omega)
  have HS3 : Hid (Shows w3 a3 (firstL zs.length)) := hS3
  have HV3 : Hid (Tbl w3 w.heap.size v1 P) := HV1.out.below hb3
  have HU3 : Hid (Tbl w3 w.heap.size u1 Q) := HU1.out.below hb3
  have HF3 : Hid ((firstL zs.length).length = zs.length) := by unfold firstL; exact tab_length _ _
  clear hO3 hb3 hS3
  go_wp2_with fail
  refine (OfWord_at _ _ _ _ _ _ zs (firstL zs.length) _ (HSw.out.below HB3.out) HS3.out rfl rfl h40 (by rw [HF3.out]; exact Nat.le_refl _) HZb.out).mono ?_
  rintro e w4 ⟨v4, u4, rfl, hT4, hU4, hb4⟩
  rw [zipP_first, ← HPd.out] at hT4
  rw [zipP_first, ← HQd.out] at hU4
  have HB4 : Hid (Below w.heap.size w w4) := HB3.out.trans (hb4.mono HB3.out.size)
  obtain ⟨b1, n1, k1, rfl, hR1, HN1⟩ := (HV3.out.below hb4).table (tabm_bd HTT.out.1)
  obtain ⟨b2, n2, k2, rfl, hR2, HN2⟩ := (HU3.out.below hb4).table (tabm_bd HTT.out.2)
  obtain ⟨b3, n3, k3, rfl, hR3, HN3⟩ := hT4.table (tabm_bd HTT.out.1)
  obtain ⟨b4, n4, k4, rfl, hR4, HN4⟩ := hU4.table (tabm_bd HTT.out.2)
  have HR1 : Hid (Table w4 b1 P) := hR1
  have HR2 : Hid (Table w4 b2 Q) := hR2
  have HR3 : Hid (Table w4 b3 P) := hR3
  have HR4 : Hid (Table w4 b4 Q) := hR4
  clear hT4 hU4 hb4 hR1 hR2 hR3 hR4
  go_wp2_with fail
  refine (tabi_ok _ _ _ _ _ _ _ P HR1.out HR3.out HN1 HN3 HLL.out.1).mono ?_
  rintro e w5 ⟨rfl, d5, rfl⟩
  go_wp2_with fail
  refine (tabi_ok _ _ _ _ _ _ _ Q (HR2.out.drewN _) (HR4.out.drewN _) HN2 HN4 HLL.out.2).mono ?_
  rintro e w6 ⟨rfl, d6, hw6⟩
  have HB6 : Hid (Below w.heap.size w w6) := by rw [hw6]; exact below_drewN (below_drewN HB4.out d5) d6
  clear hw6
  have HBk : Hid (BkR p q 0 ((undo q.flatten.length p q).map Prod.snd)) := ⟨HCb.out.symm, by rw [if_pos rfl]⟩
  obtain ⟨hbo, hst⟩ := backC_ok.1 HCb.out
  have HBo : Hid (bothC p q = 0) := hbo
  have HSt : Hid (stdB q = true) := hst
  have HTq2 : Hid (IsTab q) := (bothC_ok.1 hbo).2.1
  have HPQ : Hid (PQ q.flatten.length p q ∧ q.flatten.length ≤ 40 ∧ (∀ z ∈ p.flatten, 1 ≤ z ∧ z ≤ 99)) := PQ.of_both hbo
  clear hbo hst
  go_wp2_with fail
  refine (Back_at _ _ _ _ _ _ _ (HTp.out.below HB6.out) (HTq.out.below HB6.out) rfl rfl (by have := HLp.out; omega) (by have := HLq.out; omega) HBk.out).mono ?_
  rintro e w7 ⟨v7, rfl, hO7, hb7⟩
  obtain ⟨L, HLd⟩ : ∃ L, Hid (L = undo q.flatten.length p q) := ⟨_, rfl⟩
  rw [← HLd.out] at hO7
  have HO7 : Hid (Owns w7 w6.heap.size v7 (L.map Prod.snd)) := hO7
  have HB7 : Hid (Below w.heap.size w w7) := HB6.out.trans (hb7.mono HB6.out.size)
  have HLl : Hid (L.length ≤ 40) := by rw [HLd.out]; show _ ≤ _; rw [undo_length]; exact HPQ.out.2.1
  have HLb : Hid (∀ z ∈ L.map Prod.snd, -9223372036854775808 ≤ z ∧ z ≤ 9223372036854775807) := fun z hz => by
    obtain ⟨c, hc, rfl⟩ := List.mem_map.1 hz
    have h1 := HPQ.out.1
    have := (undo_mk q.flatten.length p q h1.tp h1.tq h1.lens h1.len rfl).2.2 c (by rw [← HLd.out]; exact hc)
    have := HPQ.out.2.2 _ this.2; omega
  clear hO7 hb7
  go_wp2_with fail
  refine (shapes_at _ _ _ _ _ _ _ (HTp.out.below HB7.out) (HTq.out.below HB7.out) rfl rfl HLp.out HLq.out HBo).mono ?_
  rintro e w8 ⟨rfl, hb8⟩
  have HB8 : Hid (Below w.heap.size w w8) := HB7.out.trans (hb8.mono HB7.out.size)
  have HO8 : Hid (Owns w8 w6.heap.size v7 (L.map Prod.snd)) := HO7.out.below hb8
  clear hb8
  go_wp2_with fail
  refine (Plain_at _ _ _ _ _ (HTq.out.below HB8.out) rfl HTq2.out HSt.out).mono ?_
  rintro e w9 ⟨rfl, hb9⟩
  have HB9 : Hid (Below w.heap.size w w9) := HB8.out.trans (hb9.mono HB8.out.size)
  have HO9 : Hid (Owns w9 w6.heap.size v7 (L.map Prod.snd)) := HO8.out.below hb9
  clear hb9
  go_wp2_with fail
  refine (Undone_at q.flatten.length _ _ _ _ _ _ _ (HTp.out.below HB9.out) (HTq.out.below HB9.out) rfl rfl HPQ.out.1 HPQ.out.2.1 HPQ.out.2.2).mono ?_
  rintro e w10 ⟨v10, rfl, hO10, hb10⟩
  rw [← HLd.out] at hO10
  have HB10 : Hid (Below w.heap.size w w10) := HB9.out.trans (hb10.mono HB9.out.size)
  have HO10 : Hid (Owns w10 w6.heap.size v7 (L.map Prod.snd)) := HO9.out.below hb10
  obtain ⟨a10, c10, rfl, hS10⟩ := hO10.shows (by have := HLl.out; omega)
  obtain ⟨NL, HNL⟩ : ∃ NL, Hid (NL = L.length) := ⟨_, rfl⟩
  have hnl : NL ≤ 40 := by rw [HNL.out]; exact HLl.out
  have HS10 : Hid (ShowsP w10 a10 L) := hS10
  rw [← HNL.out]
  clear hO10 hb10 hS10
  go_wp2
  go_loopw [16, 74] (fun v iv wr => ∃ k : Nat, k ≤ NL ∧ iv = .int .i64 k ∧ Hid (Owns wr w10.heap.size v ((L.map Prod.snd).take k)) ∧ Hid (Below w10.heap.size w10 wr)) (fun _ iv _ => NL - (intOf iv).toNat)
  case atStart => exact ⟨0, Nat.zero_le _, rfl, World.ownsRow_nil _ _ _ _, Below.refl _ _⟩
  case round =>
    obtain ⟨k, hk, rfl, HZ, HBz⟩ := hrel
    by_cases hlt : k < NL
    · have hlt' : (k : Int) < (NL : Int) := by omega
      have HKl : Hid (k < L.length) := by rw [← HNL.out]; exact hlt
      obtain ⟨b, off, x, y, rfl, -, HE, hc0, hc1⟩ := (HS10.out.below HBz.out).elem HKl.out
      have HLn : Hid (((L.map Prod.snd).take k).length ≤ 40) := by show _ ≤ _; rw [List.length_take]; omega
      have HSt2 : Hid ((L.map Prod.snd).take (k + 1) = (L.map Prod.snd).take k ++ [y]) := by
        show _ = _
        rw [take_snoc _ _ (by rw [List.length_map]; exact HKl.out), map_snd_getD, ← HE.out]
      go_wp2_with (at_builtin; refine append_int (x := y) rfl _ _ rfl rfl HZ.out rfl ?c1 ?c2 ?_)
      case c1 => have := HLn.out; omega
      case c2 => exact HBz.out.size
      intro v' w2 hO' hb'
      have HZ2 : Hid (Owns w2 w10.heap.size v' ((L.map Prod.snd).take (k + 1))) := by rw [HSt2.out]; exact hO'
      have HBz2 : Hid (Below w10.heap.size w10 w2) := HBz.out.trans hb'
      clear hO' hb'
      go_wp2
      go_roundw
      case rel => exact ⟨k + 1, by omega, by go_num, HZ2, HBz2⟩
      case measure => simp [intOf]; omega
    · obtain rfl : k = NL := by omega
      have hZ := HZ.out
      rw [List.take_of_length_le (by rw [List.length_map, ← HNL.out]; exact Nat.le_refl _)] at hZ
      obtain ⟨a11, c11, hz11, hS11⟩ := hZ.shows (by rw [List.length_map]; have := HLl.out; omega) HLb.out
      obtain ⟨a12, c12, hz12, hS12⟩ := (HO10.out.below HBz.out).shows (by rw [List.length_map]; have := HLl.out; omega) HLb.out
      obtain ⟨M, HM⟩ : ∃ M, Hid (M = (L.map Prod.snd).length) := ⟨_, rfl⟩
      rw [← HM.out] at hz11 hz12
      subst hz11; subst hz12
      have HS11 : Hid (Shows wr a11 (L.map Prod.snd)) := hS11
      have HS12 : Hid (Shows wr a12 (L.map Prod.snd)) := hS12
      have HB11 : Hid (Below w.heap.size w wr) := HB10.out.trans (HBz.out.mono HB10.out.size)
      clear hZ hS11 hS12 HZ
      go_wp2_with fail
      refine (listi_ok _ _ _ _ _ _ _ (L.map Prod.snd) HS12.out HS11.out HM HM).mono ?_
      rintro e w12 ⟨rfl, d12, hw12⟩
      have HB12 : Hid (Below w.heap.size w w12) := by rw [hw12]; exact below_drewN HB11.out d12
      clear hw12
      go_wp2
      go_ret
      exact ⟨rfl, HB12.out⟩

set_option maxHeartbeats 4000000 in
set_option maxRecDepth 100000 in
theorem imakes_1std (aw ap aq : Option Addr) (cpw cpp cpq : Nat) (zs : List Int) (p q : List (List Int)) (w : World) (hsw : Shows w aw zs) (htp : Table w ap p) (htq : Table w aq q) (hlp : p.length ≤ 2000000 ∧ p.flatten.length ≤ 2000000) (hlq : q.length ≤ 2000000 ∧ q.flatten.length ≤ 2000000)
    (HCw : Hid (lchk zs = 0)) (HBo : Hid (bothC p q = 0)) (HSt : Hid (stdB q = false)) :
    Calls Try.prog 3 #[.slice aw zs.length cpw, .slice ap p.length cpp, .slice aq q.length cpq] w fun e w' => e = .returned (.bool true) ∧ Below w.heap.size w w' := by
  have HSw : Hid (Shows w aw zs) := hsw
  have HTp : Hid (Table w ap p) := htp
  have HTq : Hid (Table w aq q) := htq
  have HLp : Hid (p.length ≤ 2000000 ∧ p.flatten.length ≤ 2000000) := hlp
  have HLq : Hid (q.length ≤ 2000000 ∧ q.flatten.length ≤ 2000000) := hlq
  clear hsw htp htq hlp hlq
  go_enter Try.func3, Try.ntmps3
  have h40 := (lchk_ok.1 HCw.out).1
  have HZb : Hid (∀ z ∈ zs, 0 ≤ z ∧ z ≤ 1000) := fun z hz => by have := (lchk_ok.1 HCw.out).2 z hz; omega
  obtain ⟨P, HPd⟩ : ∃ P, Hid (P = (mk (numW zs)).1) := ⟨_, rfl⟩
  obtain ⟨Q, HQd⟩ : ∃ Q, Hid (Q = (mk (numW zs)).2) := ⟨_, rfl⟩
  have HTT : Hid (IsTab P ∧ IsTab Q) := by rw [HPd.out, HQd.out]; exact make_tabs HCw.out
  have HLL : Hid (P.length ≤ 17592186044416 ∧ Q.length ≤ 17592186044416) := ⟨by have := HTT.out.1.rows; omega, by have := HTT.out.2.rows; omega⟩
  go_wp2_with fail
  refine (Make_at _ _ _ zs _ HSw.out rfl HCw.out).mono ?_
  rintro e w1 ⟨v1, u1, rfl, hT1, hb1⟩
  rw [← HPd.out, ← HQd.out] at hT1
  have HB1 : Hid (Below w.heap.size w w1) := hb1
  have HV1 : Hid (Tbl w1 w.heap.size v1 P) := hT1.fst
  have HU1 : Hid (Tbl w1 w.heap.size u1 Q) := hT1.snd
  clear hT1 hb1
  go_wp2_with fail
  refine (RLetters_any _ _ _ zs _ (HSw.out.below HB1.out) rfl).mono ?_
  rintro e w2 ⟨rfl, hw2⟩
  obtain rfl : w1 = w2 := hw2.symm
  clear hw2
  rw [HCw.out]
  go_wp2_with fail
  refine (First_at zs.length _ (by omega)).mono ?_
  rintro e w3 ⟨v3, rfl, hO3, hb3⟩
  have HB3 : Hid (Below w.heap.size w w3) := HB1.out.trans (hb3.mono HB1.out.size)
  obtain ⟨a3, c3, rfl, hS3⟩ := hO3.shows (by unfold firstL; rw [tab_length]; omega) (fun z hz => by obtain ⟨jj, hj, rfl⟩ := tab_mem hz; omega)
  have HS3 : Hid (Shows w3 a3 (firstL zs.length)) := hS3
  have HV3 : Hid (Tbl w3 w.heap.size v1 P) := HV1.out.below hb3
  have HU3 : Hid (Tbl w3 w.heap.size u1 Q) := HU1.out.below hb3
  have HF3 : Hid ((firstL zs.length).length = zs.length) := by unfold firstL; exact tab_length _ _
  clear hO3 hb3 hS3
  go_wp2_with fail
  refine (OfWord_at _ _ _ _ _ _ zs (firstL zs.length) _ (HSw.out.below HB3.out) HS3.out rfl rfl h40 (by rw [HF3.out]; exact Nat.le_refl _) HZb.out).mono ?_
  rintro e w4 ⟨v4, u4, rfl, hT4, hU4, hb4⟩
  rw [zipP_first, ← HPd.out] at hT4
  rw [zipP_first, ← HQd.out] at hU4
  have HB4 : Hid (Below w.heap.size w w4) := HB3.out.trans (hb4.mono HB3.out.size)
  obtain ⟨b1, n1, k1, rfl, hR1, HN1⟩ := (HV3.out.below hb4).table (tabm_bd HTT.out.1)
  obtain ⟨b2, n2, k2, rfl, hR2, HN2⟩ := (HU3.out.below hb4).table (tabm_bd HTT.out.2)
  obtain ⟨b3, n3, k3, rfl, hR3, HN3⟩ := hT4.table (tabm_bd HTT.out.1)
  obtain ⟨b4, n4, k4, rfl, hR4, HN4⟩ := hU4.table (tabm_bd HTT.out.2)
  have HR1 : Hid (Table w4 b1 P) := hR1
  have HR2 : Hid (Table w4 b2 Q) := hR2
  have HR3 : Hid (Table w4 b3 P) := hR3
  have HR4 : Hid (Table w4 b4 Q) := hR4
  clear hT4 hU4 hb4 hR1 hR2 hR3 hR4
  go_wp2_with fail
  refine (tabi_ok _ _ _ _ _ _ _ P HR1.out HR3.out HN1 HN3 HLL.out.1).mono ?_
  rintro e w5 ⟨rfl, d5, rfl⟩
  go_wp2_with fail
  refine (tabi_ok _ _ _ _ _ _ _ Q (HR2.out.drewN _) (HR4.out.drewN _) HN2 HN4 HLL.out.2).mono ?_
  rintro e w6 ⟨rfl, d6, hw6⟩
  have HB6 : Hid (Below w.heap.size w w6) := by rw [hw6]; exact below_drewN (below_drewN HB4.out d5) d6
  clear hw6
  have HCb3 : Hid (backC p q = 3) := by
    show _ = _
    unfold backC
    rw [if_neg (by rw [HBo.out]; simp), if_neg (by rw [HSt.out]; simp)]
  have HTq2 : Hid (IsTab q) := (bothC_ok.1 HBo.out).2.1
  go_wp2_with fail
  refine (Back_err _ _ _ _ _ _ _ (HTp.out.below HB6.out) (HTq.out.below HB6.out) rfl rfl (by have := HLp.out; omega) (by have := HLq.out; omega) HCb3.out (by omega)).mono ?_
  rintro e w7 ⟨rfl, hb7⟩
  have HB7 : Hid (Below w.heap.size w w7) := HB6.out.trans (hb7.mono HB6.out.size)
  clear hb7
  go_wp2_with fail
  refine (shapes_at _ _ _ _ _ _ _ (HTp.out.below HB7.out) (HTq.out.below HB7.out) rfl rfl HLp.out HLq.out HBo).mono ?_
  rintro e w8 ⟨rfl, hb8⟩
  have HB8 : Hid (Below w.heap.size w w8) := HB7.out.trans (hb8.mono HB7.out.size)
  clear hb8
  go_wp2_with fail
  refine (Plain_at _ _ _ _ _ (HTq.out.below HB8.out) rfl HTq2.out HSt.out).mono ?_
  rintro e w9 ⟨rfl, hb9⟩
  have HB9 : Hid (Below w.heap.size w w9) := HB8.out.trans (hb9.mono HB8.out.size)
  clear hb9
  go_wp2_with fail
  refine (listi_err _ _ _ _ _ _ 3 (by decide)).mono ?_
  rintro e w12 ⟨rfl, d12, hw12⟩
  have HB12 : Hid (Below w.heap.size w w12) := by rw [hw12]; exact below_drewN HB9.out d12
  clear hw12
  go_wp2
  go_ret
  exact ⟨rfl, HB12.out⟩

set_option maxHeartbeats 4000000 in
set_option maxRecDepth 100000 in
theorem imakes_1err (aw ap aq : Option Addr) (cpw cpp cpq : Nat) (zs : List Int) (p q : List (List Int)) (w : World) (hsw : Shows w aw zs) (htp : Table w ap p) (htq : Table w aq q) (hlp : p.length ≤ 2000000 ∧ p.flatten.length ≤ 2000000) (hlq : q.length ≤ 2000000 ∧ q.flatten.length ≤ 2000000)
    (HCw : Hid (lchk zs = 0)) (cb : Int) (HBo : Hid (bothC p q = cb)) (HCc : Hid (cb ≠ 0)) :
    Calls Try.prog 3 #[.slice aw zs.length cpw, .slice ap p.length cpp, .slice aq q.length cpq] w fun e w' => e = .returned (.bool true) ∧ Below w.heap.size w w' := by
  have HSw : Hid (Shows w aw zs) := hsw
  have HTp : Hid (Table w ap p) := htp
  have HTq : Hid (Table w aq q) := htq
  have HLp : Hid (p.length ≤ 2000000 ∧ p.flatten.length ≤ 2000000) := hlp
  have HLq : Hid (q.length ≤ 2000000 ∧ q.flatten.length ≤ 2000000) := hlq
  clear hsw htp htq hlp hlq
  go_enter Try.func3, Try.ntmps3
  have h40 := (lchk_ok.1 HCw.out).1
  have HZb : Hid (∀ z ∈ zs, 0 ≤ z ∧ z ≤ 1000) := fun z hz => by have := (lchk_ok.1 HCw.out).2 z hz; omega
  obtain ⟨P, HPd⟩ : ∃ P, Hid (P = (mk (numW zs)).1) := ⟨_, rfl⟩
  obtain ⟨Q, HQd⟩ : ∃ Q, Hid (Q = (mk (numW zs)).2) := ⟨_, rfl⟩
  have HTT : Hid (IsTab P ∧ IsTab Q) := by rw [HPd.out, HQd.out]; exact make_tabs HCw.out
  have HLL : Hid (P.length ≤ 17592186044416 ∧ Q.length ≤ 17592186044416) := ⟨by have := HTT.out.1.rows; omega, by have := HTT.out.2.rows; omega⟩
  go_wp2_with fail
  refine (Make_at _ _ _ zs _ HSw.out rfl HCw.out).mono ?_
  rintro e w1 ⟨v1, u1, rfl, hT1, hb1⟩
  rw [← HPd.out, ← HQd.out] at hT1
  have HB1 : Hid (Below w.heap.size w w1) := hb1
  have HV1 : Hid (Tbl w1 w.heap.size v1 P) := hT1.fst
  have HU1 : Hid (Tbl w1 w.heap.size u1 Q) := hT1.snd
  clear hT1 hb1
  go_wp2_with fail
  refine (RLetters_any _ _ _ zs _ (HSw.out.below HB1.out) rfl).mono ?_
  rintro e w2 ⟨rfl, hw2⟩
  obtain rfl : w1 = w2 := hw2.symm
  clear hw2
  rw [HCw.out]
  go_wp2_with fail
  refine (First_at zs.length _ (by omega)).mono ?_
  rintro e w3 ⟨v3, rfl, hO3, hb3⟩
  have HB3 : Hid (Below w.heap.size w w3) := HB1.out.trans (hb3.mono HB1.out.size)
  obtain ⟨a3, c3, rfl, hS3⟩ := hO3.shows (by unfold firstL; rw [tab_length]; omega) (fun z hz => by obtain ⟨jj, hj, rfl⟩ := tab_mem hz; omega)
  have HS3 : Hid (Shows w3 a3 (firstL zs.length)) := hS3
  have HV3 : Hid (Tbl w3 w.heap.size v1 P) := HV1.out.below hb3
  have HU3 : Hid (Tbl w3 w.heap.size u1 Q) := HU1.out.below hb3
  have HF3 : Hid ((firstL zs.length).length = zs.length) := by unfold firstL; exact tab_length _ _
  clear hO3 hb3 hS3
  go_wp2_with fail
  refine (OfWord_at _ _ _ _ _ _ zs (firstL zs.length) _ (HSw.out.below HB3.out) HS3.out rfl rfl h40 (by rw [HF3.out]; exact Nat.le_refl _) HZb.out).mono ?_
  rintro e w4 ⟨v4, u4, rfl, hT4, hU4, hb4⟩
  rw [zipP_first, ← HPd.out] at hT4
  rw [zipP_first, ← HQd.out] at hU4
  have HB4 : Hid (Below w.heap.size w w4) := HB3.out.trans (hb4.mono HB3.out.size)
  obtain ⟨b1, n1, k1, rfl, hR1, HN1⟩ := (HV3.out.below hb4).table (tabm_bd HTT.out.1)
  obtain ⟨b2, n2, k2, rfl, hR2, HN2⟩ := (HU3.out.below hb4).table (tabm_bd HTT.out.2)
  obtain ⟨b3, n3, k3, rfl, hR3, HN3⟩ := hT4.table (tabm_bd HTT.out.1)
  obtain ⟨b4, n4, k4, rfl, hR4, HN4⟩ := hU4.table (tabm_bd HTT.out.2)
  have HR1 : Hid (Table w4 b1 P) := hR1
  have HR2 : Hid (Table w4 b2 Q) := hR2
  have HR3 : Hid (Table w4 b3 P) := hR3
  have HR4 : Hid (Table w4 b4 Q) := hR4
  clear hT4 hU4 hb4 hR1 hR2 hR3 hR4
  go_wp2_with fail
  refine (tabi_ok _ _ _ _ _ _ _ P HR1.out HR3.out HN1 HN3 HLL.out.1).mono ?_
  rintro e w5 ⟨rfl, d5, rfl⟩
  go_wp2_with fail
  refine (tabi_ok _ _ _ _ _ _ _ Q (HR2.out.drewN _) (HR4.out.drewN _) HN2 HN4 HLL.out.2).mono ?_
  rintro e w6 ⟨rfl, d6, hw6⟩
  have HB6 : Hid (Below w.heap.size w w6) := by rw [hw6]; exact below_drewN (below_drewN HB4.out d5) d6
  clear hw6
  have HCb3 : Hid (backC p q = cb) := by
    show _ = _
    unfold backC
    rw [if_pos (by rw [HBo.out]; exact HCc.out), HBo.out]
  have hcbb : (cb == 0) = false := by have := HCc.out; simp; exact this
  go_wp2_with fail
  refine (Back_err _ _ _ _ _ _ _ (HTp.out.below HB6.out) (HTq.out.below HB6.out) rfl rfl (by have := HLp.out; omega) (by have := HLq.out; omega) HCb3.out HCc.out).mono ?_
  rintro e w7 ⟨rfl, hb7⟩
  have HB7 : Hid (Below w.heap.size w w7) := HB6.out.trans (hb7.mono HB6.out.size)
  clear hb7
  go_wp2_with fail
  refine (shapes_at _ _ _ _ _ _ _ (HTp.out.below HB7.out) (HTq.out.below HB7.out) rfl rfl HLp.out HLq.out HBo).mono ?_
  rintro e w8 ⟨rfl, hb8⟩
  have HB8 : Hid (Below w.heap.size w w8) := HB7.out.trans (hb8.mono HB7.out.size)
  clear hb8
  go_wp2_with fail
  refine (listi_err _ _ _ _ _ _ cb (bne_iff_ne.2 HCc.out)).mono ?_
  rintro e w12 ⟨rfl, d12, hw12⟩
  have HB12 : Hid (Below w.heap.size w w12) := by rw [hw12]; exact below_drewN HB8.out d12
  clear hw12
  go_wp2
  go_ret
  exact ⟨rfl, HB12.out⟩

set_option maxHeartbeats 4000000 in
set_option maxRecDepth 100000 in
theorem imakes_0ok (aw ap aq : Option Addr) (cpw cpp cpq : Nat) (zs : List Int) (p q : List (List Int)) (w : World) (hsw : Shows w aw zs) (htp : Table w ap p) (htq : Table w aq q) (hlp : p.length ≤ 2000000 ∧ p.flatten.length ≤ 2000000) (hlq : q.length ≤ 2000000 ∧ q.flatten.length ≤ 2000000)
    (cw : Int) (HCw : Hid (lchk zs = cw)) (HCn : Hid (cw ≠ 0)) (HCb : Hid (backC p q = 0)) :
    Calls Try.prog 3 #[.slice aw zs.length cpw, .slice ap p.length cpp, .slice aq q.length cpq] w fun e w' => e = .returned (.bool true) ∧ Below w.heap.size w w' := by
  have HSw : Hid (Shows w aw zs) := hsw
  have HTp : Hid (Table w ap p) := htp
  have HTq : Hid (Table w aq q) := htq
  have HLp : Hid (p.length ≤ 2000000 ∧ p.flatten.length ≤ 2000000) := hlp
  have HLq : Hid (q.length ≤ 2000000 ∧ q.flatten.length ≤ 2000000) := hlq
  clear hsw htp htq hlp hlq
  go_enter Try.func3, Try.ntmps3
  have hcwb : (cw == 0) = false := by have := HCn.out; simp; exact this
  have hcwn : (cw != 0) = true := bne_iff_ne.2 HCn.out
  go_wp2_with fail
  refine (Make_err _ _ _ zs _ HSw.out rfl cw HCw.out HCn.out).mono ?_
  rintro e w1 ⟨rfl, hw1⟩
  obtain rfl : w = w1 := hw1.symm
  clear hw1
  go_wp2_with fail
  refine (RLetters_any _ _ _ zs _ HSw.out rfl).mono ?_
  rintro e w2 ⟨rfl, hw2⟩
  obtain rfl : w = w2 := hw2.symm
  clear hw2
  rw [HCw.out]
  go_wp2_with fail
  refine (tabi_err _ _ _ _ _ _ cw hcwn).mono ?_
  rintro e w5 ⟨rfl, d5, rfl⟩
  go_wp2_with fail
  refine (tabi_err _ _ _ _ _ _ cw hcwn).mono ?_
  rintro e w6 ⟨rfl, d6, hw6⟩
  have HB6 : Hid (Below w.heap.size w w6) := by rw [hw6]; exact below_drewN (below_drewN (Below.refl _ _) d5) d6
  clear hw6
  have HBk : Hid (BkR p q 0 ((undo q.flatten.length p q).map Prod.snd)) := ⟨HCb.out.symm, by rw [if_pos rfl]⟩
  obtain ⟨hbo, hst⟩ := backC_ok.1 HCb.out
  have HBo : Hid (bothC p q = 0) := hbo
  have HSt : Hid (stdB q = true) := hst
  have HTq2 : Hid (IsTab q) := (bothC_ok.1 hbo).2.1
  have HPQ : Hid (PQ q.flatten.length p q ∧ q.flatten.length ≤ 40 ∧ (∀ z ∈ p.flatten, 1 ≤ z ∧ z ≤ 99)) := PQ.of_both hbo
  clear hbo hst
  go_wp2_with fail
  refine (Back_at _ _ _ _ _ _ _ (HTp.out.below HB6.out) (HTq.out.below HB6.out) rfl rfl (by have := HLp.out; omega) (by have := HLq.out; omega) HBk.out).mono ?_
  rintro e w7 ⟨v7, rfl, hO7, hb7⟩
  obtain ⟨L, HLd⟩ : ∃ L, Hid (L = undo q.flatten.length p q) := ⟨_, rfl⟩
  rw [← HLd.out] at hO7
  have HO7 : Hid (Owns w7 w6.heap.size v7 (L.map Prod.snd)) := hO7
  have HB7 : Hid (Below w.heap.size w w7) := HB6.out.trans (hb7.mono HB6.out.size)
  have HLl : Hid (L.length ≤ 40) := by rw [HLd.out]; show _ ≤ _; rw [undo_length]; exact HPQ.out.2.1
  have HLb : Hid (∀ z ∈ L.map Prod.snd, -9223372036854775808 ≤ z ∧ z ≤ 9223372036854775807) := fun z hz => by
    obtain ⟨c, hc, rfl⟩ := List.mem_map.1 hz
    have h1 := HPQ.out.1
    have := (undo_mk q.flatten.length p q h1.tp h1.tq h1.lens h1.len rfl).2.2 c (by rw [← HLd.out]; exact hc)
    have := HPQ.out.2.2 _ this.2; omega
  clear hO7 hb7
  go_wp2_with fail
  refine (shapes_at _ _ _ _ _ _ _ (HTp.out.below HB7.out) (HTq.out.below HB7.out) rfl rfl HLp.out HLq.out HBo).mono ?_
  rintro e w8 ⟨rfl, hb8⟩
  have HB8 : Hid (Below w.heap.size w w8) := HB7.out.trans (hb8.mono HB7.out.size)
  have HO8 : Hid (Owns w8 w6.heap.size v7 (L.map Prod.snd)) := HO7.out.below hb8
  clear hb8
  go_wp2_with fail
  refine (Plain_at _ _ _ _ _ (HTq.out.below HB8.out) rfl HTq2.out HSt.out).mono ?_
  rintro e w9 ⟨rfl, hb9⟩
  have HB9 : Hid (Below w.heap.size w w9) := HB8.out.trans (hb9.mono HB8.out.size)
  have HO9 : Hid (Owns w9 w6.heap.size v7 (L.map Prod.snd)) := HO8.out.below hb9
  clear hb9
  go_wp2_with fail
  refine (Undone_at q.flatten.length _ _ _ _ _ _ _ (HTp.out.below HB9.out) (HTq.out.below HB9.out) rfl rfl HPQ.out.1 HPQ.out.2.1 HPQ.out.2.2).mono ?_
  rintro e w10 ⟨v10, rfl, hO10, hb10⟩
  rw [← HLd.out] at hO10
  have HB10 : Hid (Below w.heap.size w w10) := HB9.out.trans (hb10.mono HB9.out.size)
  have HO10 : Hid (Owns w10 w6.heap.size v7 (L.map Prod.snd)) := HO9.out.below hb10
  obtain ⟨a10, c10, rfl, hS10⟩ := hO10.shows (by have := HLl.out; omega)
  obtain ⟨NL, HNL⟩ : ∃ NL, Hid (NL = L.length) := ⟨_, rfl⟩
  have hnl : NL ≤ 40 := by rw [HNL.out]; exact HLl.out
  have HS10 : Hid (ShowsP w10 a10 L) := hS10
  rw [← HNL.out]
  clear hO10 hb10 hS10
  go_wp2
  go_loopw [16, 74] (fun v iv wr => ∃ k : Nat, k ≤ NL ∧ iv = .int .i64 k ∧ Hid (Owns wr w10.heap.size v ((L.map Prod.snd).take k)) ∧ Hid (Below w10.heap.size w10 wr)) (fun _ iv _ => NL - (intOf iv).toNat)
  case atStart => exact ⟨0, Nat.zero_le _, rfl, World.ownsRow_nil _ _ _ _, Below.refl _ _⟩
  case round =>
    obtain ⟨k, hk, rfl, HZ, HBz⟩ := hrel
    by_cases hlt : k < NL
    · have hlt' : (k : Int) < (NL : Int) := by omega
      have HKl : Hid (k < L.length) := by rw [← HNL.out]; exact hlt
      obtain ⟨b, off, x, y, rfl, -, HE, hc0, hc1⟩ := (HS10.out.below HBz.out).elem HKl.out
      have HLn : Hid (((L.map Prod.snd).take k).length ≤ 40) := by show _ ≤ _; rw [List.length_take]; omega
      have HSt2 : Hid ((L.map Prod.snd).take (k + 1) = (L.map Prod.snd).take k ++ [y]) := by
        show _ = _
        rw [take_snoc _ _ (by rw [List.length_map]; exact HKl.out), map_snd_getD, ← HE.out]
      go_wp2_with (at_builtin; refine append_int (x := y) rfl _ _ rfl rfl HZ.out rfl ?c1 ?c2 ?_)
      case c1 => have := HLn.out; omega
      case c2 => exact HBz.out.size
      intro v' w2 hO' hb'
      have HZ2 : Hid (Owns w2 w10.heap.size v' ((L.map Prod.snd).take (k + 1))) := by rw [HSt2.out]; exact hO'
      have HBz2 : Hid (Below w10.heap.size w10 w2) := HBz.out.trans hb'
      clear hO' hb'
      go_wp2
      go_roundw
      case rel => exact ⟨k + 1, by omega, by go_num, HZ2, HBz2⟩
      case measure => simp [intOf]; omega
    · obtain rfl : k = NL := by omega
      have hZ := HZ.out
      rw [List.take_of_length_le (by rw [List.length_map, ← HNL.out]; exact Nat.le_refl _)] at hZ
      obtain ⟨a11, c11, hz11, hS11⟩ := hZ.shows (by rw [List.length_map]; have := HLl.out; omega) HLb.out
      obtain ⟨a12, c12, hz12, hS12⟩ := (HO10.out.below HBz.out).shows (by rw [List.length_map]; have := HLl.out; omega) HLb.out
      obtain ⟨M, HM⟩ : ∃ M, Hid (M = (L.map Prod.snd).length) := ⟨_, rfl⟩
      rw [← HM.out] at hz11 hz12
      subst hz11; subst hz12
      have HS11 : Hid (Shows wr a11 (L.map Prod.snd)) := hS11
      have HS12 : Hid (Shows wr a12 (L.map Prod.snd)) := hS12
      have HB11 : Hid (Below w.heap.size w wr) := HB10.out.trans (HBz.out.mono HB10.out.size)
      clear hZ hS11 hS12 HZ
      go_wp2_with fail
      refine (listi_ok _ _ _ _ _ _ _ (L.map Prod.snd) HS12.out HS11.out HM HM).mono ?_
      rintro e w12 ⟨rfl, d12, hw12⟩
      have HB12 : Hid (Below w.heap.size w w12) := by rw [hw12]; exact below_drewN HB11.out d12
      clear hw12
      go_wp2
      go_ret
      exact ⟨rfl, HB12.out⟩

set_option maxHeartbeats 4000000 in
set_option maxRecDepth 100000 in
theorem imakes_0std (aw ap aq : Option Addr) (cpw cpp cpq : Nat) (zs : List Int) (p q : List (List Int)) (w : World) (hsw : Shows w aw zs) (htp : Table w ap p) (htq : Table w aq q) (hlp : p.length ≤ 2000000 ∧ p.flatten.length ≤ 2000000) (hlq : q.length ≤ 2000000 ∧ q.flatten.length ≤ 2000000)
    (cw : Int) (HCw : Hid (lchk zs = cw)) (HCn : Hid (cw ≠ 0)) (HBo : Hid (bothC p q = 0)) (HSt : Hid (stdB q = false)) :
    Calls Try.prog 3 #[.slice aw zs.length cpw, .slice ap p.length cpp, .slice aq q.length cpq] w fun e w' => e = .returned (.bool true) ∧ Below w.heap.size w w' := by
  have HSw : Hid (Shows w aw zs) := hsw
  have HTp : Hid (Table w ap p) := htp
  have HTq : Hid (Table w aq q) := htq
  have HLp : Hid (p.length ≤ 2000000 ∧ p.flatten.length ≤ 2000000) := hlp
  have HLq : Hid (q.length ≤ 2000000 ∧ q.flatten.length ≤ 2000000) := hlq
  clear hsw htp htq hlp hlq
  go_enter Try.func3, Try.ntmps3
  have hcwb : (cw == 0) = false := by have := HCn.out; simp; exact this
  have hcwn : (cw != 0) = true := bne_iff_ne.2 HCn.out
  go_wp2_with fail
  refine (Make_err _ _ _ zs _ HSw.out rfl cw HCw.out HCn.out).mono ?_
  rintro e w1 ⟨rfl, hw1⟩
  obtain rfl : w = w1 := hw1.symm
  clear hw1
  go_wp2_with fail
  refine (RLetters_any _ _ _ zs _ HSw.out rfl).mono ?_
  rintro e w2 ⟨rfl, hw2⟩
  obtain rfl : w = w2 := hw2.symm
  clear hw2
  rw [HCw.out]
  go_wp2_with fail
  refine (tabi_err _ _ _ _ _ _ cw hcwn).mono ?_
  rintro e w5 ⟨rfl, d5, rfl⟩
  go_wp2_with fail
  refine (tabi_err _ _ _ _ _ _ cw hcwn).mono ?_
  rintro e w6 ⟨rfl, d6, hw6⟩
  have HB6 : Hid (Below w.heap.size w w6) := by rw [hw6]; exact below_drewN (below_drewN (Below.refl _ _) d5) d6
  clear hw6
  have HCb3 : Hid (backC p q = 3) := by
    show _ = _
    unfold backC
    rw [if_neg (by rw [HBo.out]; simp), if_neg (by rw [HSt.out]; simp)]
  have HTq2 : Hid (IsTab q) := (bothC_ok.1 HBo.out).2.1
  go_wp2_with fail
  refine (Back_err _ _ _ _ _ _ _ (HTp.out.below HB6.out) (HTq.out.below HB6.out) rfl rfl (by have := HLp.out; omega) (by have := HLq.out; omega) HCb3.out (by omega)).mono ?_
  rintro e w7 ⟨rfl, hb7⟩
  have HB7 : Hid (Below w.heap.size w w7) := HB6.out.trans (hb7.mono HB6.out.size)
  clear hb7
  go_wp2_with fail
  refine (shapes_at _ _ _ _ _ _ _ (HTp.out.below HB7.out) (HTq.out.below HB7.out) rfl rfl HLp.out HLq.out HBo).mono ?_
  rintro e w8 ⟨rfl, hb8⟩
  have HB8 : Hid (Below w.heap.size w w8) := HB7.out.trans (hb8.mono HB7.out.size)
  clear hb8
  go_wp2_with fail
  refine (Plain_at _ _ _ _ _ (HTq.out.below HB8.out) rfl HTq2.out HSt.out).mono ?_
  rintro e w9 ⟨rfl, hb9⟩
  have HB9 : Hid (Below w.heap.size w w9) := HB8.out.trans (hb9.mono HB8.out.size)
  clear hb9
  go_wp2_with fail
  refine (listi_err _ _ _ _ _ _ 3 (by decide)).mono ?_
  rintro e w12 ⟨rfl, d12, hw12⟩
  have HB12 : Hid (Below w.heap.size w w12) := by rw [hw12]; exact below_drewN HB9.out d12
  clear hw12
  go_wp2
  go_ret
  exact ⟨rfl, HB12.out⟩

set_option maxHeartbeats 4000000 in
set_option maxRecDepth 100000 in
theorem imakes_0err (aw ap aq : Option Addr) (cpw cpp cpq : Nat) (zs : List Int) (p q : List (List Int)) (w : World) (hsw : Shows w aw zs) (htp : Table w ap p) (htq : Table w aq q) (hlp : p.length ≤ 2000000 ∧ p.flatten.length ≤ 2000000) (hlq : q.length ≤ 2000000 ∧ q.flatten.length ≤ 2000000)
    (cw : Int) (HCw : Hid (lchk zs = cw)) (HCn : Hid (cw ≠ 0)) (cb : Int) (HBo : Hid (bothC p q = cb)) (HCc : Hid (cb ≠ 0)) :
    Calls Try.prog 3 #[.slice aw zs.length cpw, .slice ap p.length cpp, .slice aq q.length cpq] w fun e w' => e = .returned (.bool true) ∧ Below w.heap.size w w' := by
  have HSw : Hid (Shows w aw zs) := hsw
  have HTp : Hid (Table w ap p) := htp
  have HTq : Hid (Table w aq q) := htq
  have HLp : Hid (p.length ≤ 2000000 ∧ p.flatten.length ≤ 2000000) := hlp
  have HLq : Hid (q.length ≤ 2000000 ∧ q.flatten.length ≤ 2000000) := hlq
  clear hsw htp htq hlp hlq
  go_enter Try.func3, Try.ntmps3
  have hcwb : (cw == 0) = false := by have := HCn.out; simp; exact this
  have hcwn : (cw != 0) = true := bne_iff_ne.2 HCn.out
  go_wp2_with fail
  refine (Make_err _ _ _ zs _ HSw.out rfl cw HCw.out HCn.out).mono ?_
  rintro e w1 ⟨rfl, hw1⟩
  obtain rfl : w = w1 := hw1.symm
  clear hw1
  go_wp2_with fail
  refine (RLetters_any _ _ _ zs _ HSw.out rfl).mono ?_
  rintro e w2 ⟨rfl, hw2⟩
  obtain rfl : w = w2 := hw2.symm
  clear hw2
  rw [HCw.out]
  go_wp2_with fail
  refine (tabi_err _ _ _ _ _ _ cw hcwn).mono ?_
  rintro e w5 ⟨rfl, d5, rfl⟩
  go_wp2_with fail
  refine (tabi_err _ _ _ _ _ _ cw hcwn).mono ?_
  rintro e w6 ⟨rfl, d6, hw6⟩
  have HB6 : Hid (Below w.heap.size w w6) := by rw [hw6]; exact below_drewN (below_drewN (Below.refl _ _) d5) d6
  clear hw6
  have HCb3 : Hid (backC p q = cb) := by
    show _ = _
    unfold backC
    rw [if_pos (by rw [HBo.out]; exact HCc.out), HBo.out]
  have hcbb : (cb == 0) = false := by have := HCc.out; simp; exact this
  go_wp2_with fail
  refine (Back_err _ _ _ _ _ _ _ (HTp.out.below HB6.out) (HTq.out.below HB6.out) rfl rfl (by have := HLp.out; omega) (by have := HLq.out; omega) HCb3.out HCc.out).mono ?_
  rintro e w7 ⟨rfl, hb7⟩
  have HB7 : Hid (Below w.heap.size w w7) := HB6.out.trans (hb7.mono HB6.out.size)
  clear hb7
  go_wp2_with fail
  refine (shapes_at _ _ _ _ _ _ _ (HTp.out.below HB7.out) (HTq.out.below HB7.out) rfl rfl HLp.out HLq.out HBo).mono ?_
  rintro e w8 ⟨rfl, hb8⟩
  have HB8 : Hid (Below w.heap.size w w8) := HB7.out.trans (hb8.mono HB7.out.size)
  clear hb8
  go_wp2_with fail
  refine (listi_err _ _ _ _ _ _ cb (bne_iff_ne.2 HCc.out)).mono ?_
  rintro e w12 ⟨rfl, d12, hw12⟩
  have HB12 : Hid (Below w.heap.size w w12) := by rw [hw12]; exact below_drewN HB8.out d12
  clear hw12
  go_wp2
  go_ret
  exact ⟨rfl, HB12.out⟩

theorem imakes_any (aw ap aq : Option Addr) (cpw cpp cpq : Nat) (zs : List Int) (p q : List (List Int)) (w : World) (hsw : Shows w aw zs) (htp : Table w ap p) (htq : Table w aq q) (hlp : p.length ≤ 2000000 ∧ p.flatten.length ≤ 2000000) (hlq : q.length ≤ 2000000 ∧ q.flatten.length ≤ 2000000) :
    Calls Try.prog 3 #[.slice aw zs.length cpw, .slice ap p.length cpp, .slice aq q.length cpq] w fun e w' => e = .returned (.bool true) ∧ Below w.heap.size w w' := by
  by_cases hA : lchk zs = 0
  · by_cases hB : bothC p q = 0
    · cases hS : stdB q with
      | true => exact imakes_1ok aw ap aq cpw cpp cpq zs p q w hsw htp htq hlp hlq hA (backC_ok.2 ⟨hB, hS⟩)
      | false => exact imakes_1std aw ap aq cpw cpp cpq zs p q w hsw htp htq hlp hlq hA hB hS
    · exact imakes_1err aw ap aq cpw cpp cpq zs p q w hsw htp htq hlp hlq hA _ rfl hB
  · by_cases hB : bothC p q = 0
    · cases hS : stdB q with
      | true => exact imakes_0ok aw ap aq cpw cpp cpq zs p q w hsw htp htq hlp hlq _ rfl hA (backC_ok.2 ⟨hB, hS⟩)
      | false => exact imakes_0std aw ap aq cpw cpp cpq zs p q w hsw htp htq hlp hlq _ rfl hA hB hS
    · exact imakes_0err aw ap aq cpw cpp cpq zs p q w hsw htp htq hlp hlq _ rfl hA _ rfl hB

end Go.Proofs.Ytampjdebnaapaad
