/-
  The contract of slides.rowsOfNumbers.
  The contract of slices.Equal of ints.
  The contract of slides.RectifyBy.
-/
import Derived.Test.YtjciandmpfcfjaaSWrd
import Derived.Test.YtjciandmpfcfjaaSEvc
import Derived.Test.YtjciandmpfcfjaaBApp
namespace Go.Proofs.Ytjciandmpfcfjaa
open Go.RowKit

/-- The numbers of the first rows, of the first boxes of row i, are done. -/
structure Nums (o : List (List Int)) (N i j : Nat) (L : List Int) : Prop where
  len : L.length = N
  at' : ∀ a b, b < (row o a).length → (a < i ∨ (a = i ∧ b < j)) → L.getD ((box o a b).toNat - 1) 0 = (a : Int)
theorem Nums.step {o : List (List Int)} {N i j : Nat} {L : List Int} (h : Nums o N i j L) (ho : Std N o) (hj : j < (row o i).length) : Nums o N i (j + 1) (L.set ((box o i j).toNat - 1) (i : Int)) := by
  refine ⟨by rw [List.length_set]; exact h.len, fun a b hb hd => ?_⟩
  have hb1 := ho.box hb
  have hb2 := ho.box hj
  rw [getD_set, h.len]
  by_cases e : a = i ∧ b = j
  · rw [if_pos ⟨by rw [e.1, e.2], by omega⟩, e.1]
  · have hne : box o a b ≠ box o i j := fun q => by
      have := ho.dis (o.length + 1) 0 a b i j hb hj (fun z => by have := row_lt hb; have := z.1; omega) (fun z => by have := row_lt hj; have := z.1; omega) q
      exact e this
    rw [if_neg (fun z => by have := z.1; omega)]
    exact h.at' a b hb (by
      rcases hd with q | q
      · exact Or.inl q
      · right; exact ⟨q.1, by have : b ≠ j := fun z => e ⟨q.1, z⟩; omega⟩)
theorem Nums.next {o : List (List Int)} {N i : Nat} {L : List Int} (h : Nums o N i (row o i).length L) : Nums o N (i + 1) 0 L :=
  ⟨h.len, fun a b hb hd => h.at' a b hb (by
    rcases hd with q | q
    · by_cases e : a = i
      · right; exact ⟨e, by rw [← e]; exact hb⟩
      · left; omega
    · omega)⟩
theorem Nums.done {o : List (List Int)} {N : Nat} {L : List Int} (h : Nums o N o.length 0 L) (ho : Std N o) : ∃ rows : List Nat, L = rows.map (fun k : Nat => (k : Int)) ∧ RowsOf o N rows := by
  have hall : ∀ m, m < N → ∃ a b, b < (row o a).length ∧ (box o a b).toNat - 1 = m := fun m hm => by
    obtain ⟨a, b, ha, hb, e⟩ := flat_mem (wrd_mem.1 (ho.all (v := (m : Int) + 1) (by omega) (by omega)))
    exact ⟨a, b, hb, by rw [e]; omega⟩
  have hnn : ∀ m, m < N → 0 ≤ L.getD m 0 := fun m hm => by
    obtain ⟨a, b, hb, e⟩ := hall m hm
    have := h.at' a b hb (Or.inl (row_lt hb))
    rw [e] at this
    omega
  refine ⟨L.map Int.toNat, ?_, ⟨by rw [List.length_map]; exact h.len, fun a b hb => ?_⟩⟩
  · refine ext_getD (by simp) (fun m hm => ?_)
    have := hnn m (by rw [← h.len]; exact hm)
    simp [List.getD, List.getElem?_eq_getElem hm] at this ⊢
    omega
  · have h1 := h.at' a b hb (Or.inl (row_lt hb))
    have hb1 := ho.box hb
    have hlt : (box o a b).toNat - 1 < L.length := by rw [h.len]; omega
    simp [List.getD, List.getElem?_eq_getElem hlt] at h1 ⊢
    omega

set_option maxHeartbeats 8000000 in
theorem rowsOfNumbers_at (a : Option Addr) (n cap : Nat) (o : List (List Int)) (N : Nat) (w : World) (hs : Table w a o) (hn : n = o.length) (ho : Std N o) :
    Calls Try.prog 56 #[.slice a n cap] w fun e w' => ∃ (v : Value) (rows : List Nat), e = .returned v ∧ Owns w' w.heap.size v (rows.map (fun k : Nat => (k : Int))) ∧ RowsOf o N rows ∧ Below w.heap.size w w' := by
  subst hn
  obtain ⟨i0, hi, hz0, hz1, hz2⟩ := info_parts Try.info3
  have HS : Hid (Table w a o) := hs
  have HO : Hid (Std N o) := ho
  have HF : Hid (Few o) := few_std ho
  have hN : N ≤ 40 := by have := ho.perm.len; rw [ho.len] at this; exact this
  have hl := HF.out.len
  have HNf : Hid (o.flatten.length = N) := ho.flat
  clear hs ho
  go_enter Try.func56, Try.ntmps56
  go_wp2_with fail
  refine (sboxesOf_at a _ cap o w HS.out rfl (by omega) (by rw [HNf.out]; omega)).mono ?_
  rintro e w0 ⟨rfl, hw0⟩
  obtain rfl : w = w0 := hw0.symm
  clear hw0
  rw [HNf.out]
  go_wp2_with (at_make; refine wpList_make_full _ rfl _ _ 27 rfl w.heap.size 3 i0 (.int .i64 0) 1 Try.underlying27 hi hz0 hz1 _ _ _ _ N rfl rfl rfl rfl ?b1 ?b2 ?b3 ?_)
  case b1 => rw [hz2]; omega
  case b2 => unfold maxLen; omega
  case b3 => exact Nat.le_refl _
  intro w1 hown hgrow
  have HB1 : Hid (Below w.heap.size w w1) := (Below.refl _ _).grown hgrow (Nat.le_refl _) (fun k h => by cases h)
  have HL1 : Hid (Owns w1 w.heap.size (.slice (some ⟨w.heap.size, 0, none⟩) N N) (List.replicate N 0)) := by
    show Owns _ _ _ _
    unfold Owns
    rw [toList_madeCells_one] at hown
    simpa using hown
  clear hown hgrow
  go_wp2
  go_loopw [13] (fun q wr => ∃ (i : Nat) (L : List Int), i ≤ o.length ∧ q = .int .i64 i ∧ Hid (Nums o N i 0 L) ∧ Hid (Owns wr w.heap.size (.slice (some ⟨w.heap.size, 0, none⟩) N N) L) ∧ Hid (Below w.heap.size w wr)) (fun q _ => o.length - (intOf q).toNat)
  case atStart => exact ⟨0, _, Nat.zero_le _, rfl, ⟨by simp, fun a b _ hd => by omega⟩, HL1, HB1⟩
  case round =>
    obtain ⟨i, L, hi', rfl, HN, HL, HB⟩ := hrel
    by_cases hil : i < o.length
    · have hil' : (i : Int) < (o.length : Int) := by omega
      have HIl : Hid (i < o.length) := hil
      obtain ⟨b, off, ai, m, ci, rfl, HC, HM, HSk, -, -⟩ := HS.out.elemB hil
      have hc := HC.out _ HB.out
      have hm1 : m ≤ 1000 := by rw [HM.out]; exact (HF.out.one _ (row_mem hil)).2
      go_wp2
      go_loopw [20] (fun q wr => ∃ (j : Nat) (L : List Int), j ≤ m ∧ q = .int .i64 j ∧ Hid (Nums o N i j L) ∧ Hid (Owns wr w.heap.size (.slice (some ⟨w.heap.size, 0, none⟩) N N) L) ∧ Hid (Below w.heap.size w wr)) (fun q _ => m - (intOf q).toNat)
      case atStart => exact ⟨0, L, Nat.zero_le _, rfl, HN, HL, HB⟩
      case round =>
        obtain ⟨j, L, hj, rfl, HNj, HLj, HBj⟩ := hrel
        by_cases hjm : j < m
        · have hjm' : (j : Int) < (m : Int) := by omega
          have HJ : Hid (j < (row o i).length) := by rw [← HM.out]; exact hjm
          obtain ⟨b2, off2, z, rfl, HZ, -, -, hcz⟩ := (HSk.out.below HBj.out).elem HJ.out
          have hzb : 1 ≤ z ∧ z ≤ (N : Int) := by rw [HZ.out]; exact HO.out.box HJ.out
          obtain ⟨d, HD⟩ : ∃ d : Nat, Hid (z = (d : Int) + 1) := ⟨(z - 1).toNat, by show _ = _; omega⟩
          have hzd := HD.out
          subst hzd
          have hdN : (d : Int) < (N : Int) := by omega
          have hsub : IntKind.i64.wrap ((d : Int) + 1 - 1) = (d : Int) := by rw [IntWalk.i64_left, IntWalk.wrap64_in _ (by omega)]; omega
          have HLl : Hid (L.length = N) := HNj.out.len
          obtain ⟨-, hfz, hcl⟩ := HLj.out.at (by rw [HLl.out])
          have hfd := hfz d
          have hcd := hcl d (by rw [HLl.out]; omega)
          have HBx : Hid ((box o i j).toNat - 1 = d) := by
            show _ = _
            have : box o i j = (d : Int) + 1 := HZ.out.symm
            rw [this]; omega
          have HN2 : Hid (Nums o N i (j + 1) (L.set d (i : Int))) := by have := HNj.out.step HO.out HJ.out; rw [HBx.out] at this; exact this
          have HL2 : Hid (Owns (wr.setCell ⟨w.heap.size, d, none⟩ (.int .i64 (i : Int))) w.heap.size (.slice (some ⟨w.heap.size, 0, none⟩) N N) (L.set d (i : Int))) := HLj.out.store HLl.out.symm d (i : Int)
          have HB2 : Hid (Below w.heap.size w (wr.setCell ⟨w.heap.size, d, none⟩ (.int .i64 (i : Int)))) := HBj.out.setCell (p := ⟨w.heap.size, d, none⟩) (Nat.le_refl _) _
          clear hfz hcl
          go_wp2
          go_roundw
          case rel => exact ⟨j + 1, _, by omega, by go_num, HN2, HL2, HB2⟩
          case measure => simp [intOf]; omega
        · obtain rfl : j = m := by omega
          have hjm' : ¬ (j : Int) < (j : Int) := by omega
          have HN2 : Hid (Nums o N (i + 1) 0 L) := by
            have := HNj.out
            rw [HM.out] at this
            exact this.next
          go_wp2
          go_roundw
          case rel => exact ⟨i + 1, _, by omega, by go_num, HN2, HLj, HBj⟩
          case measure => simp [intOf]; omega
    · obtain rfl : i = o.length := by omega
      have hil' : ¬ (o.length : Int) < (o.length : Int) := by omega
      obtain ⟨rows, hr1, hr2⟩ := HN.out.done HO.out
      have HLe : Hid (Owns wr w.heap.size (.slice (some ⟨w.heap.size, 0, none⟩) N N) (rows.map (fun k : Nat => (k : Int)))) := by rw [← hr1]; exact HL.out
      have HRo : Hid (RowsOf o N rows) := hr2
      clear hr1 hr2
      go_wp2
      go_ret
      exact ⟨_, rfl, rows, HLe.out, HRo.out, HB.out⟩

end Go.Proofs.Ytjciandmpfcfjaa

namespace Go.Proofs.Ytjciandmpfcfjaa
open Go.RowKit

set_option maxHeartbeats 1000000 in
theorem SEqual_any (a b : Option Addr) (ca cb : Nat) (zs ys : List Int) (w : World) (hs : Shows w a zs) (ht : Shows w b ys) :
    Calls Try.prog 27 #[.slice a zs.length ca, .slice b ys.length cb] w fun e w' => e = .returned (.bool (decide (zs = ys))) ∧ ∃ n, w' = w.drewN n := by
  have hl := hs.len
  have hl2 := ht.len
  by_cases hlen : zs.length = ys.length
  · have HL : Hid (zs.length = ys.length) := hlen
    have hb : ((zs.length : Int) != (ys.length : Int)) = false := by rw [hlen]; simp
    clear hlen
    go_enter Try.func27, Try.ntmps27
    go_wp2
    go_loopw [13] (fun i wr => ∃ k : Nat, k ≤ zs.length ∧ i = .int .i64 k ∧ Hid (∀ i, i < k → zs.getD i 0 = ys.getD i 0) ∧ ∃ n, wr = w.drewN n) (fun i _ => zs.length - (intOf i).toNat)
    case atStart => exact ⟨0, Nat.zero_le _, rfl, fun j hj => by omega, 0, rfl⟩
    case round =>
      obtain ⟨k, hk, rfl, HR, n, rfl⟩ := hrel
      by_cases hlt : k < zs.length
      · have hlt' : (k : Int) < (zs.length : Int) := by omega
        have hltn : k < ys.length := by have := HL.out; omega
        have hlt2 : (k : Int) < (ys.length : Int) := by omega
        obtain ⟨b1, off, z, rfl, HZ, hz1, hz2, hc⟩ := hs.elem hlt
        obtain ⟨b2, off2, y, rfl, HY, hy1, hy2, hcy⟩ := ht.elem hltn
        by_cases he : z = y
        · subst he
          go_wp2_with fail
          go_quiet (fail)
          go_wp2
          go_roundw
          case rel => exact ⟨k + 1, by omega, by go_num, fun j hj => by
                        by_cases hj' : j < k
                        · exact HR.out j hj'
                        · obtain rfl : j = k := by omega
                          rw [← HZ.out, ← HY.out], _, by first | exact rfl | exact drewN_two _ _ _⟩
          case measure => simp [intOf]; omega
        · have HE : Hid (¬ z = y) := he
          have hbn : (z != y) = true := by simpa using he
          clear he
          go_wp2_with fail
          go_quiet (fail)
          go_wp2
          go_ret
          exact ⟨ret_bool (by rw [decide_eq_false (fun h => HE.out (by rw [HZ.out, HY.out, h]))]), _, by first | exact rfl | exact drewN_two _ _ _⟩
      · go_wp2
        go_ret
        refine ⟨ret_bool ?_, n, rfl⟩
        have : zs = ys := by
          refine List.ext_getElem HL.out (fun j h1 h2 => ?_)
          have := HR.out j (by omega)
          simpa [List.getD, List.getElem?_eq_getElem h1, List.getElem?_eq_getElem h2] using this
        rw [decide_eq_true this]
  · have hb : ((zs.length : Int) != (ys.length : Int)) = true := by rw [bne_iff_ne]; omega
    have HL : Hid (¬ zs.length = ys.length) := hlen
    clear hlen
    go_enter Try.func27, Try.ntmps27
    go_wp2
    go_ret
    exact ⟨ret_bool (by rw [decide_eq_false (fun h => HL.out (by rw [h]))]), 0, rfl⟩

end Go.Proofs.Ytjciandmpfcfjaa

namespace Go.Proofs.Ytjciandmpfcfjaa
open Go.RowKit

/-- What RectifyBy says. -/
def rbC (ls o : List (List Int)) : Int := if schk ls ≠ 0 then schk ls else if scode o ≠ 0 then scode o else if shapeL o = hsF ls ls.length then 0 else 3
theorem hs_shape {ls o : List (List Int)} (hI : IsSk ls) (he : shapeL o = hsF ls ls.length) : ∀ a, H ls a = (row o a).length := by
  obtain ⟨j, h1, h2, h3, h4⟩ := hsF_tab hI.sk ls.length
  rw [h2] at he
  have hl : o.length = j := by
    have := congrArg List.length he
    unfold shapeL at this
    rw [tab_length, tab_length] at this; exact this
  intro a
  by_cases c : a < j
  · have this : (shapeL o).getD a 0 = (tab j (fun a => (H ls a : Int))).getD a 0 := by rw [he]
    unfold shapeL at this
    rw [tab_getD _ _ _ (by omega), tab_getD _ _ _ c] at this
    omega
  · rw [row_out (ls := o) (by omega)]
    rcases h3 with q | q
    · unfold H; rw [row_out (by omega)]; rfl
    · have := hI.sk.mono (a := j) (c := a) (by omega)
      simp; omega

set_option maxHeartbeats 8000000 in
theorem RectifyBy_at {cc : Int} {Qq : List (List Int)} (a b : Option Addr) (n m ca cb : Nat) (ls o : List (List Int)) (w : World) (hs : TableX w a ls) (ht : Table w b o) (hn : n = ls.length) (hm : m = o.length) (hl : ls.length ≤ 17592186044416) (hlo : o.length ≤ 17592186044416) (E1 : Hid (rbC ls o = cc)) (E2 : Hid (Qq = if rbC ls o = 0 then recT ls else [])) :
    Calls Try.prog 17 #[.slice a n ca, .slice b m cb] w fun e w' => ∃ v, e = .returned (.tuple #[v, .int .i64 cc]) ∧ Tbl w' w.heap.size v Qq ∧ Below w.heap.size w w' := by
  subst hn; subst hm
  have HS : Hid (TableX w a ls) := hs
  have HT : Hid (Table w b o) := ht
  clear hs ht
  obtain ⟨c1, HC1⟩ : ∃ c1, Hid (schk ls = c1) := ⟨_, rfl⟩
  by_cases h1 : c1 = 0
  · subst h1
    have HI : Hid (IsSk ls) := schk_ok.1 HC1.out
    have HF : Hid (Few ls) := HI.out.fews
    have hl2 := HF.out.len
    have HR : Hid (rbC ls o = if scode o ≠ 0 then scode o else if shapeL o = hsF ls ls.length then 0 else 3) := by show _ = _; unfold rbC; rw [if_neg (by rw [HC1.out]; simp)]
    go_enter Try.func17, Try.ntmps17
    go_wp2_with fail
    refine (SkCheck_is a _ ca ls w HS.out hl rfl HC1).mono ?_
    rintro e w1 ⟨rfl, d1, hw1⟩
    have HB1 : Hid (Below w.heap.size w w1) := by rw [hw1]; exact below_drewN (Below.refl _ _) d1
    clear hw1
    go_wp2_with fail
    refine (checkStandard_at b _ cb o w1 (HT.out.below HB1.out) hlo rfl).mono ?_
    rintro e w2 ⟨rfl, hb2⟩
    have HB2 : Hid (Below w.heap.size w w2) := HB1.out.trans (hb2.mono HB1.out.size)
    clear hb2
    by_cases h2 : scode o = 0
    · rw [h2]
      obtain ⟨hSt, h40⟩ := scode_ok.1 h2
      have HSt : Hid (Std o.flatten.length o) := hSt
      have HTb : Hid (IsTab o) := hSt.tabs
      have HSl : Hid ((shapeL o).length ≤ 40 ∧ ∀ z ∈ shapeL o, 0 ≤ z ∧ z ≤ 1000) := by
        refine ⟨by unfold shapeL; rw [tab_length]; exact hSt.tabs.rows, fun z hz => ?_⟩
        obtain ⟨j, hj, rfl⟩ := tab_mem hz
        have := hSt.tabs.width hj
        omega
      have HR2 : Hid (rbC ls o = if shapeL o = hsF ls ls.length then 0 else 3) := by show _ = _; rw [HR.out, if_neg (by rw [h2]; simp)]
      clear hSt h40 h2
      go_wp2_with fail
      refine (Shape_at b _ cb w2 (HT.out.below HB2.out) hlo rfl (TabL.ok HTb.out)).mono ?_
      rintro e w3 ⟨v3, rfl, hO3, hb3⟩
      have HB3 : Hid (Below w.heap.size w w3) := HB2.out.trans (hb3.mono HB2.out.size)
      have HO3 : Hid (Owns w3 w2.heap.size v3 (shapeL o)) := hO3
      clear hO3 hb3
      obtain ⟨x3, y3, hv3⟩ := HO3.out.shape
      subst hv3
      go_wp2_with fail
      refine (shapeOfHoles_at a _ ca ls w3 (HS.out.below HB3.out).table rfl hl2).mono ?_
      rintro e w4 ⟨v4, rfl, hO4, hb4⟩
      have HB4 : Hid (Below w.heap.size w w4) := HB3.out.trans (hb4.mono HB3.out.size)
      obtain ⟨a3, c3, hv3, hS3⟩ := (HO3.out.below hb4).shows (by have := HSl.out.1; omega) (small_wf HSl.out.2)
      simp only [Value.slice.injEq, true_and] at hv3
      obtain ⟨rfl, rfl⟩ := hv3
      obtain ⟨a4, c4, rfl, hS4⟩ := hO4.shows (by have := hsF_len ls ls.length; omega) (fun z hz => by have := hs_bd HI.out z hz; omega)
      have HS3 : Hid (Shows w4 x3 (shapeL o)) := hS3
      have HS4 : Hid (Shows w4 a4 (hsF ls ls.length)) := hS4
      obtain ⟨t, HTt⟩ : ∃ t, Hid (decide (shapeL o = hsF ls ls.length) = t) := ⟨_, rfl⟩
      clear hO4 hb4 hS3 hS4
      go_wp2_with fail
      refine (SEqual_any _ _ _ _ _ _ w4 HS3.out HS4.out).mono ?_
      rintro e w5 ⟨rfl, d5, hw5⟩
      rw [HTt.out]
      have HB5 : Hid (Below w.heap.size w w5) := by rw [hw5]; exact below_drewN HB4.out d5
      clear hw5
      cases t with
      | false =>
        have HE : Hid (cc = 3 ∧ Qq = []) := by
          have e0 : rbC ls o = 3 := by rw [HR2.out, if_neg (of_decide_eq_false HTt.out)]
          rw [← E1.out, E2.out, e0]; exact ⟨rfl, by simp⟩
        go_wp2
        go_ret2
        exact ⟨_, by rw [HE.out.1]; rfl, by rw [HE.out.2]; exact Tbl.nil _ _, HB5.out⟩
      | true =>
        have heq := of_decide_eq_true HTt.out
        have HE : Hid (cc = 0 ∧ Qq = recT ls) := by
          have e0 : rbC ls o = 0 := by rw [HR2.out, if_pos heq]
          rw [← E1.out, E2.out, e0]; exact ⟨rfl, by simp⟩
        have HSh : Hid (∀ a, H ls a = (row o a).length) := hs_shape HI.out heq
        have h40 : o.flatten.length ≤ 40 := HTb.out.few
        clear heq
        go_wp2_with fail
        refine (rowsOfNumbers_at b _ cb o o.flatten.length w5 (HT.out.below HB5.out) rfl HSt.out).mono ?_
        rintro e w6 ⟨v6, rows, rfl, hO6, hro, hb6⟩
        have HB6 : Hid (Below w.heap.size w w6) := HB5.out.trans (hb6.mono HB5.out.size)
        obtain ⟨hL, hcnt⟩ := hro.lat HSt.out
        have hrl : rows.length ≤ 40 := by rw [hro.len]; exact h40
        obtain ⟨a6, c6, rfl, hS6⟩ := hO6.shows (by rw [List.length_map]; omega) (fun z hz => by
          obtain ⟨y, hy, rfl⟩ := List.mem_map.1 hz
          have := List.count_pos_iff.2 hy
          rw [hcnt] at this
          have := row_lt (c := 0) this
          have := HTb.out.rows
          omega)
        have HS6 : Hid (Shows w6 a6 (rows.map (fun k : Nat => (k : Int)))) := hS6
        have HLt : Hid (Lat rows ∧ ∀ a, H ls a = rows.count a) := ⟨hL, fun a => by rw [HSh.out, hcnt]⟩
        have HRl : Hid (rows.length ≤ 1000) := by show _ ≤ _; omega
        have HRe : Hid (recS rows.reverse ls = recT ls) := rec_is HLt.out.1 HI.out.sk HLt.out.2
        clear hO6 hro hb6 hS6 hL hcnt hrl
        go_wp2_with fail
        refine (rectified_at a a6 _ _ ca c6 ls rows w6 (HS.out.below HB6.out).table HS6.out rfl (by simp) HRl.out HF.out HI.out.sk HLt.out.2 HLt.out.1).mono ?_
        rintro e w7 ⟨v7, rfl, hT7, hb7⟩
        rw [HRe.out] at hT7
        have HB7 : Hid (Below w.heap.size w w7) := HB6.out.trans (hb7.mono HB6.out.size)
        have HT7 : Hid (Tbl w7 w.heap.size v7 (recT ls)) := hT7.mono HB6.out.size
        obtain ⟨a7, n7, c7, hv7⟩ : ∃ a7 n7 c7, v7 = .slice a7 n7 c7 := by obtain ⟨q, hq⟩ := hT7; obtain ⟨x, y, e⟩ := hq.shape; exact ⟨_, _, _, e⟩
        subst hv7
        clear hT7 hb7
        go_wp2
        go_ret2
        exact ⟨_, by rw [HE.out.1]; rfl, by rw [HE.out.2]; exact HT7.out, HB7.out⟩
    · obtain ⟨c2, HC2⟩ : ∃ c2, Hid (c2 = scode o) := ⟨_, rfl⟩
      have hc2 : (c2 != 0) = true := by rw [HC2.out]; exact bne_iff_ne.2 h2
      have HE : Hid (cc = c2 ∧ Qq = []) := by
        have e0 : rbC ls o = c2 := by rw [HR.out, if_pos h2, HC2.out]
        rw [← E1.out, E2.out, e0]; exact ⟨rfl, by rw [if_neg (by rw [HC2.out]; exact h2)]⟩
      rw [← HC2.out]
      clear h2
      go_wp2
      go_ret2
      exact ⟨_, by rw [HE.out.1]; rfl, by rw [HE.out.2]; exact Tbl.nil _ _, HB2.out⟩
  · have hc1 : (c1 != 0) = true := bne_iff_ne.2 h1
    have HE : Hid (cc = c1 ∧ Qq = []) := by
      have e0 : rbC ls o = c1 := by unfold rbC; rw [if_pos (by rw [HC1.out]; exact h1), HC1.out]
      rw [← E1.out, E2.out, e0]; exact ⟨rfl, by rw [if_neg h1]⟩
    clear h1
    go_enter Try.func17, Try.ntmps17
    go_wp2_with fail
    refine (SkCheck_is a _ ca ls w HS.out hl rfl HC1).mono ?_
    rintro e w1 ⟨rfl, d1, hw1⟩
    have HB1 : Hid (Below w.heap.size w w1) := by rw [hw1]; exact below_drewN (Below.refl _ _) d1
    clear hw1
    go_wp2
    go_ret2
    exact ⟨_, by rw [HE.out.1]; rfl, by rw [HE.out.2]; exact Tbl.nil _ _, HB1.out⟩

end Go.Proofs.Ytjciandmpfcfjaa
