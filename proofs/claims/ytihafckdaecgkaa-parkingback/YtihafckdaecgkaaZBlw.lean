/-
  The law ferkeep.ParkingBack.
-/
import Derived.Test.YtihafckdaecgkaaZBkc
import Derived.Deep.DeepCutAuto
namespace Go.Proofs.Ytihafckdaecgkaa
open Go.RowKit

theorem shows_fourP (w : World) (x y z u : Int) : ShowsP (w.alloc (.cells #[.int .i64 x, .int .i64 y, .int .i64 z, .int .i64 u] 34)) (some ⟨w.heap.size, 0, none⟩) [(x, y), (z, u)] := by
  refine ⟨by simp, fun _ => ⟨w.heap.size, 0, rfl, (Array.getElem?_eq_some_iff.1 (heap_alloc_new w _)).1, fun i hi => ?_⟩⟩
  have hi' : i < 2 := by simpa using hi
  have hb : (w.alloc (.cells #[.int .i64 x, .int .i64 y, .int .i64 z, .int .i64 u] 34)).heap[w.heap.size]? = some (.cells #[.int .i64 x, .int .i64 y, .int .i64 z, .int .i64 u] 34 (0, 0)) := heap_alloc_new _ _
  rw [cell_of_row _ w.heap.size _ _ _ _ hb, cell_of_row _ w.heap.size _ _ _ _ hb]
  rcases i with _ | _ | i
  · exact ⟨rfl, rfl⟩
  · exact ⟨rfl, rfl⟩
  · omega
theorem srt_three : SrtP [(1, 3), (2, 3)] := by
  unfold SrtP
  simp [ltP]

set_option maxHeartbeats 8000000 in
set_option maxRecDepth 100000 in
theorem pback_at (HSC : SortC) (a b d : Option Addr) (n m r ca cb cd : Nat) (zs ys : List Int) (L : List (Int × Int)) (w : World) (hs : Shows w a zs) (ht : Shows w b ys) (hu : ShowsP w d L) (hwf : WfP L) (hn : n = zs.length) (hm : m = ys.length) (hr : r = L.length) :
    Calls Try.prog 4 #[.slice a n ca, .slice b m cb, .slice d r cd] w fun e w' => e = .returned (.bool true) ∧ Below w.heap.size w w' := by
  have HS : Hid (Shows w a zs) := hs
  have HT : Hid (Shows w b ys) := ht
  have HU : Hid (ShowsP w d L) := hu
  have HN : Hid (n = zs.length) := hn
  have HM : Hid (m = ys.length) := hm
  have HR : Hid (r = L.length) := hr
  have HWf : Hid (WfP L) := hwf
  have hnb : n ≤ 17592186044416 := by have := hs.len; omega
  have hmb : m ≤ 17592186044416 := by have := ht.len; omega
  have hrb : r ≤ 8796093022208 := by have := hu.len; omega
  clear hs ht hu hn hm hr hwf
  have HT0 := Tree_c HSC (some ⟨w.heap.size, 0, none⟩) 1 1 [3] (w.alloc (.cells #[.int .i64 3] 3)) (shows_lit w [3] _ rfl (by decide) (by decide)) rfl
  go_enter Try.func4, Try.ntmps4
  go_wp2_with fail
  refine HT0.mono ?_
  rintro e w1 ⟨v, E, rfl, HZ, HBa⟩
  have HB1 : Hid (Below w.heap.size w w1) := ((Below.refl w.heap.size w).alloc (Nat.le_refl _) _).trans (HBa.out.mono (by simp))
  clear HBa HT0
  rcases HZ.out with ⟨⟨h1, _⟩ | ⟨_, h1, _⟩, _⟩ | ⟨rfl, -, -, M, X, hM, hX, hS, hO⟩
  · simp at h1
  · exact absurd h1 (by decide)
  have hXe : X = [(1, 3), (2, 3)] := hS.uniq srt_three (hX.trans (tree_three hM))
  subst hXe
  obtain ⟨v7, c7, rfl, hs7⟩ := hO.shows (by simp)
  clear hM hX hS hO HZ
  have HSh : Hid (ShowsP w1 v7 [(1, 3), (2, 3)]) := hs7
  clear hs7
  go_wp2_with fail
  refine (SameP_same v7 _ 2 2 c7 2 [(1, 3), (2, 3)] _ (HSh.out.below ((Below.refl _ _).alloc (Nat.le_refl _) _)) (shows_fourP w1 1 3 2 3) rfl rfl).mono ?_
  rintro e w2 ⟨rfl, nq, rfl⟩
  obtain ⟨W2, HW2⟩ : ∃ W2, Hid (W2 = (w1.alloc (.cells #[.int .i64 1, .int .i64 3, .int .i64 2, .int .i64 3] 34)).drewN nq) := ⟨_, rfl⟩
  rw [← HW2.out]
  have HB2 : Hid (Below w.heap.size w W2) := by rw [HW2.out]; exact below_drewN (HB1.out.alloc HB1.out.size _) nq
  clear HW2 HB1 HSh
  have HT1 := Tree_c HSC a n ca zs W2 (HS.out.below HB2.out) HN.out
  go_wp2_with fail
  refine HT1.mono ?_
  rintro e w3 ⟨v9, E1, rfl, HZ1, HBa⟩
  have HB3 : Hid (Below w.heap.size w w3) := HB2.out.trans (HBa.out.mono HB2.out.size)
  have HsZ : Hid (w.heap.size ≤ W2.heap.size) := HB2.out.size
  clear HT1 HBa HB2
  go_upto_if 46 with fail
  go_cut [11] (fun _ wx => Hid (Below w.heap.size w wx))
  case first =>
    rcases HZ1.out with ⟨h1, _⟩ | ⟨rfl, h18, hiv, M, X, hM, hX, hS, hO⟩
    · have hE : (E1 == 0) = false := beq_eq_false_iff_ne.2 (by omega)
      clear h1
      go_wp2
      go_meet
      exact HB3
    · clear HZ1
      obtain ⟨hXl, hT, hB⟩ := tree_code hiv hM hX
      obtain ⟨v7, c7, rfl, hs7⟩ := hO.shows (by omega)
      have HC := Code_c v7 X.length c7 X w3 hs7 (hT.wf (Nat.le_refl _) (by omega)) rfl
      have HT' : Hid (Tr (rgV 1 (X.length + 1)) X) := by rw [hXl]; exact hT
      have HXl : Hid (X.length = zs.length + 1) := hXl
      have HBk : Hid (∀ es d, Ed es X → es.length = X.length + 2 → CdR es d X → d = zs) := hB
      have H18 : Hid (zs.length ≤ 18) := h18
      obtain ⟨x, Hx⟩ : ∃ x, Hid (x = X.length) := ⟨_, rfl⟩
      rw [← Hx.out] at HC ⊢
      clear hXl hT hB hs7 hO hS hX hM hiv h18
      go_wp2_with fail
      refine HC.mono ?_
      rintro e w4 ⟨v4, E4, rfl, HZ4, HBa⟩
      have HB4 : Hid (Below w.heap.size w w4) := HB3.out.trans (HBa.out.mono HB3.out.size)
      have HsW : Hid (w.heap.size ≤ w3.heap.size) := HB3.out.size
      clear HC HBa HB3
      rcases HZ4.out with ⟨⟨h1, _⟩ | ⟨_, h1, _⟩, _⟩ | ⟨rfl, -, -, -, c, es, h1, h2, h3, hOc⟩
      · exact absurd h1 (by have := HXl.out; have := H18.out; omega)
      · exact absurd h1 (by have := HXl.out; intro h; rcases h with h | h; omega; exact h HT'.out)
      obtain rfl : c = zs := HBk.out es c h1 h2 h3
      obtain ⟨a4, c4, rfl, hs4⟩ := hOc.shows (by have := H18.out; omega) (HS.out.wf)
      have HSm := Same_at a4 a c.length n c4 ca c c w4 hs4 (HS.out.below HB4.out) rfl HN.out true (by simp)
      rw [← HN.out] at HSm ⊢
      clear hs4 hOc h1 h2 h3 HZ4
      go_wp2_with fail
      refine HSm.mono ?_
      rintro e w5 ⟨rfl, nq5, rfl⟩
      have HB5 : Hid (Below w.heap.size w (w4.drewN nq5)) := below_drewN HB4.out nq5
      clear HSm HB4
      go_wp2
      rw [Hx.out]
      go_meet
      exact HB5
  case rest =>
    clear HZ1 HB3 HsZ
    have HB3 := hcut
    clear hcut
    have HR1 := Rooted_c HSC b m cb ys wc (HT.out.below HB3.out) HM.out
    go_wp2_with fail
    refine HR1.mono ?_
    rintro e w6 ⟨v13, E2, rfl, HZ1, HBa⟩
    have HB6 : Hid (Below w.heap.size w w6) := HB3.out.trans (HBa.out.mono HB3.out.size)
    clear HR1 HBa HB3
    go_upto_if 66 with fail
    go_cut [15] (fun _ wx => Hid (Below w.heap.size w wx))
    case first =>
      rcases HZ1.out with ⟨h1, _, _⟩ | ⟨rfl, hpl, hfr, X, hX, hS, hO⟩
      · have hE : (E2 == 0) = false := beq_eq_false_iff_ne.2 (by rw [h1]; exact pkE_no)
        clear h1
        go_wp2
        go_meet
        exact HB6
      · clear HZ1
        obtain ⟨hXl, hT, hB⟩ := root_un rfl (long_of hpl hfr) hX
        have h20 := (plC_ok.1 hpl).1
        obtain ⟨v7, c7, rfl, hs7⟩ := hO.shows (by omega)
        have HC := Unrooted_c v7 X.length c7 X w6 hs7 (hT.wf (by omega) (by omega)) rfl
        have HT' : Hid (Tr (rgV 0 (X.length + 1)) X) := by rw [hXl]; exact hT
        have HXl : Hid (X.length = ys.length) := hXl
        have HBk : Hid (∀ D line, UI ys.length (jnU X) D line ys.length 0 → tab ys.length D = ys) := hB
        have H20 : Hid (ys.length ≤ 20) := h20
        obtain ⟨x, Hx⟩ : ∃ x, Hid (x = X.length) := ⟨_, rfl⟩
        rw [← Hx.out] at HC ⊢
        clear hXl hT hB hs7 hO hS hX hpl hfr h20
        go_wp2_with fail
        refine HC.mono ?_
        rintro e w4 ⟨v4, E4, rfl, HZ4, HBa⟩
        have HB4 : Hid (Below w.heap.size w w4) := HB6.out.trans (HBa.out.mono HB6.out.size)
        clear HC HBa HB6
        rcases HZ4.out with ⟨⟨h1, _⟩ | ⟨_, h1, _⟩, _⟩ | ⟨rfl, -, -, D, line, hU, hOc⟩
        · exact absurd h1 (by have := HXl.out; have := H20.out; omega)
        · exact absurd HT'.out h1
        rw [HXl.out] at hU hOc
        rw [HBk.out D line hU] at hOc
        obtain ⟨a4, c4, rfl, hs4⟩ := hOc.shows (by have := H20.out; omega) (HT.out.wf)
        have HSm := Same_at a4 b ys.length m c4 cb ys ys w4 hs4 (HT.out.below HB4.out) rfl HM.out true (by simp)
        rw [← HM.out] at HSm ⊢
        clear hs4 hOc hU HZ4
        go_wp2_with fail
        refine HSm.mono ?_
        rintro e w5 ⟨rfl, nq5, rfl⟩
        have HB5 : Hid (Below w.heap.size w (w4.drewN nq5)) := below_drewN HB4.out nq5
        clear HSm HB4
        go_wp2
        rw [Hx.out]
        go_meet
        exact HB5
    case rest =>
      clear HZ1 HB6
      have HB6 := hcut
      clear hcut
      have HR1 := Unrooted_c d r cd L wc (HU.out.below HB6.out) HWf.out HR.out
      go_wp2_with fail
      refine HR1.mono ?_
      rintro e w7 ⟨v17, E3, rfl, HZ1, HBa⟩
      have HB7 : Hid (Below w.heap.size w w7) := HB6.out.trans (HBa.out.mono HB6.out.size)
      clear HR1 HBa HB6
      go_upto_if 86 with fail
      go_cut [19] (fun _ wx => Hid (Below w.heap.size w wx))
      case first =>
        rcases HZ1.out with ⟨h1, _⟩ | ⟨rfl, h20, hT, D, line, hU, hOc⟩
        · have hE : (E3 == 0) = false := beq_eq_false_iff_ne.2 (by omega)
          clear h1
          go_wp2
          go_meet
          exact HB7
        · clear HZ1
          obtain ⟨hpl, hfr, hB⟩ := un_rooted rfl h20 hU
          have hzl : (tab L.length D).length = L.length := tab_length _ _
          have hbd := (plC_ok.1 hpl).2
          obtain ⟨a4, c4, rfl, hs4⟩ := hOc.shows (by omega) (fun z hz => by have := hbd z hz; omega)
          have HC := Rooted_c HSC a4 _ c4 (tab L.length D) w7 hs4 rfl
          have HPl : Hid (plC (tab L.length D) (tab L.length D).length = 0 ∧ Free (lk (tab L.length D)) (tab L.length D).length) := ⟨hpl, hfr⟩
          have HBk : Hid (∀ X : List (Int × Int), X.Perm (trl (dOf (tab L.length D)) L.length L.length) → X.Perm (L.map nrm)) := hB
          have H20 : Hid (L.length ≤ 20) := h20
          have Hzl : Hid ((tab L.length D).length = L.length) := hzl
          obtain ⟨x, Hx⟩ : ∃ x, Hid (x = (tab L.length D).length) := ⟨_, rfl⟩
          rw [← Hx.out] at HC ⊢
          clear hpl hfr hB hzl hbd hs4 hOc hU hT h20
          go_wp2_with fail
          refine HC.mono ?_
          rintro e w8 ⟨v8, E4, rfl, HZ4, HBa⟩
          have HB8 : Hid (Below w.heap.size w w8) := HB7.out.trans (HBa.out.mono HB7.out.size)
          clear HC HBa HB7
          rcases HZ4.out with ⟨_, h1, _⟩ | ⟨rfl, -, -, X, hX, hS, hO⟩
          · exact absurd HPl.out h1
          rw [Hzl.out] at hX
          have hXp := HBk.out X hX
          have hXl : X.length = L.length := by rw [hXp.length_eq, List.length_map]
          obtain ⟨v7, c7, rfl, hs7⟩ := hO.shows (by have := H20.out; omega)
          have HE := Edged_at d r cd L w8 (HU.out.below HB8.out) HR.out (by rw [HR.out]; have := H20.out; omega)
          have HXp : Hid (X.Perm (L.map nrm) ∧ SrtP X) := ⟨hXp, hS⟩
          have HXl : Hid (X.length = L.length) := hXl
          have HSX : Hid (ShowsP w8 v7 X) := hs7
          obtain ⟨y, Hy⟩ : ∃ y, Hid (y = X.length) := ⟨_, rfl⟩
          rw [← Hy.out]
          clear hX hXp hXl hs7 hO hS HZ4 HBk
          go_wp2_with fail
          refine HE.mono ?_
          rintro e w9 ⟨v9, X9, rfl, HX9, HO9, HBa⟩
          have HB9 : Hid (Below w.heap.size w w9) := HB8.out.trans (HBa.out.mono HB8.out.size)
          obtain rfl : X = X9 := HXp.out.2.uniq HX9.out.2 (HXp.out.1.trans HX9.out.1.symm)
          obtain ⟨v5, c5, rfl, hs5⟩ := HO9.out.shows (by have := H20.out; have := HXl.out; omega)
          have HSm := SameP_same v7 v5 y X.length c7 c5 X w9 (HSX.out.below HBa.out) hs5 Hy.out rfl
          rw [← Hy.out] at HSm ⊢
          clear HE HBa HB8 HO9 hs5 HX9
          go_wp2_with fail
          refine HSm.mono ?_
          rintro e w5 ⟨rfl, nq5, rfl⟩
          have HB5 : Hid (Below w.heap.size w (w9.drewN nq5)) := below_drewN HB9.out nq5
          clear HSm HB9
          go_wp2
          rw [Hx.out]
          go_meet
          exact HB5
      case rest =>
        clear HZ1 HB7
        have HB7 := hcut
        clear hcut
        have HR1 := Code_c d r cd L wc (HU.out.below HB7.out) HWf.out HR.out
        go_wp2_with fail
        refine HR1.mono ?_
        rintro e w8 ⟨v21, E5, rfl, HZ1, HBa⟩
        have HB8 : Hid (Below w.heap.size w w8) := HB7.out.trans (HBa.out.mono HB7.out.size)
        clear HR1 HBa HB7
        rcases HZ1.out with ⟨h1, rfl⟩ | ⟨rfl, h1, h19, hT, c, es, hE, hel, hC, hO⟩
        · have hE : (E5 != 0) = true := bne_iff_ne.2 (by omega)
          clear h1 HZ1
          go_wp2
          go_ret
          exact ⟨rfl, HB8.out⟩
        · clear HZ1
          obtain ⟨hcl, hiv, hB⟩ := code_tree rfl hT hE hel hC
          have hcb := inIv_iff.1 hiv
          obtain ⟨a4, c4, rfl, hs4⟩ := hO.shows (by omega) (fun z hz => by have := hcb z hz; omega)
          have HC := Tree_c HSC a4 _ c4 c w8 hs4 rfl
          have HIv : Hid (c.length ≤ 18 ∧ inIv c 1 ((c.length + 2 : Nat) : Int) = true) := ⟨by omega, hiv⟩
          have HBk : Hid (∀ M, TrR (tst c) c M → M.Perm (L.map nrm)) := hB
          have H20 : Hid (L.length ≤ 19) := h19
          obtain ⟨x, Hx⟩ : ∃ x, Hid (x = c.length) := ⟨_, rfl⟩
          rw [← Hx.out] at HC ⊢
          clear hcl hiv hB hcb hs4 hO hC hel hE hT h1 h19
          go_wp2_with fail
          refine HC.mono ?_
          rintro e w9 ⟨v8, E4, rfl, HZ4, HBa⟩
          have HB9 : Hid (Below w.heap.size w w9) := HB8.out.trans (HBa.out.mono HB8.out.size)
          clear HC HBa HB8
          rcases HZ4.out with ⟨⟨h1, _⟩ | ⟨_, h1, _⟩, _⟩ | ⟨rfl, -, -, M, X, hM, hX, hS, hO⟩
          · exact absurd h1 (by have := HIv.out.1; omega)
          · exact absurd h1 (by rw [HIv.out.2]; simp)
          have hXp := hX.trans (HBk.out M hM)
          have hXl : X.length = L.length := by rw [hXp.length_eq, List.length_map]
          obtain ⟨v7, c7, rfl, hs7⟩ := hO.shows (by have := H20.out; omega)
          have HE := Edged_at d r cd L w9 (HU.out.below HB9.out) HR.out (by rw [HR.out]; have := H20.out; omega)
          have HXp : Hid (X.Perm (L.map nrm) ∧ SrtP X) := ⟨hXp, hS⟩
          have HXl : Hid (X.length = L.length) := hXl
          have HSX : Hid (ShowsP w9 v7 X) := hs7
          obtain ⟨y, Hy⟩ : ∃ y, Hid (y = X.length) := ⟨_, rfl⟩
          rw [← Hy.out]
          clear hX hXp hXl hs7 hO hS HZ4 HBk hM
          go_wp2_with fail
          refine HE.mono ?_
          rintro e w10 ⟨v9, X9, rfl, HX9, HO9, HBa⟩
          have HB10 : Hid (Below w.heap.size w w10) := HB9.out.trans (HBa.out.mono HB9.out.size)
          obtain rfl : X = X9 := HXp.out.2.uniq HX9.out.2 (HXp.out.1.trans HX9.out.1.symm)
          obtain ⟨v5, c5, rfl, hs5⟩ := HO9.out.shows (by have := H20.out; have := HXl.out; omega)
          have HSm := SameP_same v7 v5 y X.length c7 c5 X w10 (HSX.out.below HBa.out) hs5 Hy.out rfl
          rw [← Hy.out] at HSm ⊢
          clear HE HBa HB9 HO9 hs5 HX9
          go_wp2_with fail
          refine HSm.mono ?_
          rintro e w5 ⟨rfl, nq5, rfl⟩
          go_wp2
          go_ret
          exact ⟨rfl, below_drewN HB10.out nq5⟩
end Go.Proofs.Ytihafckdaecgkaa
