/-
  The contract of fill.Standard.
-/
import Derived.Test.YtampjdebnaapaacUStd
namespace Go.Proofs.Ytampjdebnaapaac
open Go.RowKit

def stdF (ls : List (List Int)) (i j a b : Nat) : Int := if b < j ∨ b = j ∧ a < i then (numAt ls a b : Nat) else box ls a b
theorem stdF_start (ls : List (List Int)) : tab2 ls (stdF ls 0 0) = ls := by
  rw [tab2_congr (g := box ls) (fun a b _ _ => by unfold stdF; rw [if_neg (by omega)]), tab2_self]
theorem stdF_end {ls : List (List Int)} (h : IsTab ls) : tab2 ls (stdF ls 0 (width ls)) = numbered ls :=
  tab2_congr (fun a b ha hb => by unfold stdF; rw [if_pos (Or.inl (by have := row_le_width h ha; omega))])
theorem stdF_col (ls : List (List Int)) (j : Nat) : tab2 ls (stdF ls ls.length j) = tab2 ls (stdF ls 0 (j + 1)) :=
  tab2_congr (fun a b ha _ => by
    unfold stdF
    by_cases h : b < j ∨ b = j ∧ a < ls.length
    · rw [if_pos h, if_pos (by omega)]
    · rw [if_neg h, if_neg (by omega)])
theorem stdF_skip {ls : List (List Int)} {i j : Nat} (hj : (row ls i).length ≤ j) : tab2 ls (stdF ls i j) = tab2 ls (stdF ls (i + 1) j) :=
  tab2_congr (fun a b ha hb => by
    unfold stdF
    by_cases h : b < j ∨ b = j ∧ a < i
    · rw [if_pos h, if_pos (by omega)]
    · rw [if_neg h, if_neg (by
        intro h2
        rcases h2 with h2 | ⟨h2, h3⟩
        · exact h (Or.inl h2)
        · have : a = i := by omega
          subst this; omega)])
theorem tab2_set {ls : List (List Int)} {f : Nat → Nat → Int} {i j : Nat} {x : Int} : (tab2 ls f).set i (((tab2 ls f).getD i []).set j x) = tab2 ls (fun a b => if a = i ∧ b = j then x else f a b) := by
  refine ext_row (by simp [tab2_length]) (fun a ha => ?_)
  rw [List.length_set, tab2_length] at ha
  rw [tab2_row ha]
  unfold row
  rw [getD_set_rows _ _ _ _ (by rw [tab2_length]; exact ha)]
  have er : ∀ c, c < ls.length → (tab2 ls f).getD c [] = tab (row ls c).length (f c) := fun c hc => tab2_row hc
  by_cases e : a = i
  · subst e
    rw [if_pos rfl, er a ha, tab_set]
    refine tab_congr (fun b _ => ?_)
    unfold upd
    by_cases e2 : b = j
    · rw [if_pos e2, if_pos ⟨rfl, e2⟩]
    · rw [if_neg e2, if_neg (fun h => e2 h.2)]
  · rw [if_neg e, er a ha]
    exact tab_congr (fun b _ => by rw [if_neg (fun h => e h.1)])
theorem stdF_step {ls : List (List Int)} {i j : Nat} {x : Int} (hx : x = (numAt ls i j : Nat)) : (tab2 ls (stdF ls i j)).set i (((tab2 ls (stdF ls i j)).getD i []).set j x) = tab2 ls (stdF ls (i + 1) j) := by
  rw [tab2_set]
  refine tab2_congr (fun a b _ _ => ?_)
  by_cases e : a = i ∧ b = j
  · rw [if_pos e, e.1, e.2]
    unfold stdF; rw [if_pos (by omega), hx]
  · rw [if_neg e]
    unfold stdF
    by_cases h : b < j ∨ b = j ∧ a < i
    · rw [if_pos h, if_pos (by omega)]
    · rw [if_neg h, if_neg (by omega)]

theorem ahead_given {ls : List (List Int)} (h : IsTab ls) : aheadL (contL ls) = tab (mx ls.flatten) (fun k => (givenAt ls 0 0 k : Nat)) := by
  refine tab_eq (had_length _) (fun k hk => ?_)
  rw [given_start (fun _ hz => (h.mem hz).1) k]
  unfold aheadF
  congr 1
  refine S_congr (fun m hm => ?_)
  have hk' : k < mx ls.flatten := by rw [← had_length]; exact hk
  show ((had ls.flatten).getD m 0).toNat = _
  unfold had
  rw [tab_getD _ _ _ (by omega)]
theorem given_upd {ls : List (List Int)} {i j J : Nat} (hi : i < ls.length) (hj : j < (row ls i).length) (hJ : box ls i j = (J : Int) + 1) (n : Nat) {x : Int} (hx : x = (givenAt ls i j J : Nat) + 1) :
    tab n (upd (fun k => ((givenAt ls i j k : Nat) : Int)) J x) = tab n (fun k => ((givenAt ls (i + 1) j k : Nat) : Int)) := by
  refine tab_congr (fun k _ => ?_)
  rw [given_step hi hj]
  unfold upd
  by_cases e : k = J
  · subst e; rw [if_pos rfl, ind_pos hJ, hx]; omega
  · rw [if_neg e, ind_neg (by rw [hJ]; omega)]; simp

set_option maxHeartbeats 8000000 in
set_option maxRecDepth 100000 in
theorem Std_ok (a : Option Addr) (cap : Nat) (ls : List (List Int)) (w : World) (hs : Table w a ls) (hp : IsTab ls) :
    Calls Try.prog 14 #[.slice a ls.length cap] w fun e w' => ∃ v, e = .returned (.tuple #[v, .int .i64 0]) ∧ Tbl w' w.heap.size v (numbered ls) ∧ Below w.heap.size w w' := by
  have h40 := hp.rows
  have HL : Hid (ls.length ≤ 17592186044416) := tab_len hp
  have HT : Hid (IsTab ls) := hp
  have HS : Hid (Table w a ls) := hs
  have HC : Hid (TabL contL ls 0 (contL ls)) := TabL.ok hp
  have hsm := cont_small hp
  have HCl : Hid ((contL ls).length ≤ 99) := hsm.1
  have HCs : Hid (∀ z ∈ contL ls, 0 ≤ z ∧ z ≤ 1000) := hsm.2
  have hwd := width_le hp
  clear hp hs hsm
  go_enter Try.func14, Try.ntmps14
  go_wp2_with fail
  refine (Content_at _ _ _ _ HS.out HL.out rfl HC.out).mono ?_
  rintro e w1 ⟨v, rfl, hown, hb1⟩
  obtain ⟨av, nv, cv, rfl, S1, hnv, -⟩ := hown.opened (by have := HCl.out; omega) (small_wf HCs.out)
  have HNV : Hid (nv = (contL ls).length) := hnv
  have HB1 : Hid (Below w.heap.size w w1) := hb1
  clear hnv hown hb1
  go_wp2_with fail
  refine (lettersAhead_at _ _ _ _ _ S1 HNV.out HCl.out HCs.out).mono ?_
  rintro e w2 ⟨G, rfl, hG, hb2⟩
  have HB2 : Hid (Below w.heap.size w w2) := HB1.out.trans (hb2.mono HB1.out.size)
  have HG : Hid (Owns w2 w.heap.size G (tab (mx ls.flatten) (fun k => (givenAt ls 0 0 k : Nat)))) := by
    show Owns _ _ _ _
    rw [← ahead_given HT.out]; exact hG.mono HB1.out.size
  clear hG hb2 S1
  go_wp2_with fail
  refine (tcopied_at _ _ _ _ _ (HS.out.below HB2.out) rfl (by omega)).mono ?_
  rintro e w3 ⟨T, rfl, hT, hb3⟩
  obtain ⟨H, hH⟩ : ∃ H, H = w2.heap.size := ⟨_, rfl⟩
  have HH : Hid (w.heap.size ≤ H) := by show _ ≤ _; rw [hH]; exact HB2.out.size
  have HB3 : Hid (Below w.heap.size w w3) := HB2.out.trans (hb3.mono HB2.out.size)
  have HG3 : Hid (Owns w3 w.heap.size G (tab (mx ls.flatten) (fun k => (givenAt ls 0 0 k : Nat)))) := HG.out.below hb3
  have HGb : Hid (∀ g, G.ownBlock = some g → w.heap.size ≤ g ∧ g < H) := fun g e => by rw [hH]; exact HG.out.lt e
  have HT3 : Hid (Tbl w3 H T (tab2 ls (stdF ls 0 0))) := by show Tbl _ _ _ _; rw [stdF_start, hH]; exact hT
  clear hT hb3 hH HG HB2 HB1
  obtain ⟨aG, cG, hGs⟩ := HG3.out.shape
  rw [tab_length] at hGs
  subst hGs
  obtain ⟨vs0, hV0⟩ := HT3.out
  obtain ⟨aT, cT, hTs⟩ : ∃ aT cT, T = .slice aT ls.length cT := by
    rcases hV0.own.2 with ⟨h1, h2⟩ | ⟨g, c, cur, h1, _⟩
    · exact ⟨none, 0, by rw [h1]; have := hV0.len; rw [tab2_length] at this; rw [← this, h2]⟩
    · exact ⟨_, c, by rw [h1, hV0.len, tab2_length]⟩
  subst hTs
  clear hV0
  obtain ⟨nG, HnG⟩ : ∃ nG, Hid (nG = mx ls.flatten) := ⟨_, rfl⟩
  rw [← HnG.out] at HG3 HGb
  rw [← HnG.out]
  have hnG : nG ≤ 99 := by rw [HnG.out]; exact HT.out.mx
  go_wp2_with fail
  refine (widthOf_at _ _ _ _ _ (HS.out.below HB3.out) rfl HL.out).mono ?_
  rintro e w3' ⟨rfl, hw3⟩
  obtain rfl : w3 = w3' := hw3.symm
  clear hw3
  obtain ⟨wd, HWd⟩ : ∃ wd, Hid (wd = width ls) := ⟨_, rfl⟩
  rw [← HWd.out] at hwd
  rw [← HWd.out]
  go_wp2
  go_loopw [25] (fun q wr => ∃ j : Nat, j ≤ wd ∧ q = .int .i64 j ∧ Hid (Owns wr w.heap.size (.slice aG nG cG) (tab nG (fun k => (givenAt ls 0 j k : Nat)))) ∧ Hid (Tbl wr H (.slice aT ls.length cT) (tab2 ls (stdF ls 0 j))) ∧ Hid (Below w.heap.size w wr)) (fun q _ => wd - (intOf q).toNat)
  case atStart => exact ⟨0, Nat.zero_le _, rfl, HG3, HT3, HB3⟩
  case round =>
    obtain ⟨j, hj, rfl, HGj, HTj, HBj⟩ := hrel
    clear HG3 HT3 HB3
    by_cases hjl : j < wd
    · have hjl' : (j : Int) < (wd : Int) := by omega
      go_wp2
      go_loopw [30] (fun q wr => ∃ i : Nat, i ≤ ls.length ∧ q = .int .i64 i ∧ Hid (Owns wr w.heap.size (.slice aG nG cG) (tab nG (fun k => (givenAt ls i j k : Nat)))) ∧ Hid (Tbl wr H (.slice aT ls.length cT) (tab2 ls (stdF ls i j))) ∧ Hid (Below w.heap.size w wr)) (fun q _ => ls.length - (intOf q).toNat)
      case atStart => exact ⟨0, Nat.zero_le _, rfl, HGj, HTj, HBj⟩
      case round =>
        obtain ⟨i, hi, rfl, HGi, HTi, HBi⟩ := hrel
        clear HGj HTj HBj
        by_cases hil : i < ls.length
        · have hil' : (i : Int) < (ls.length : Int) := by omega
          obtain ⟨b, off, ai, m, ci, rfl, HCe, HM, HSk, -, hmb⟩ := HS.out.elemB hil
          have hc := HCe.out _ HBi.out
          by_cases hjm : j < m
          · have hjm' : (j : Int) < (m : Int) := by omega
            have HJR : Hid (j < (row ls i).length) := by show _ < _; rw [← HM.out]; exact hjm
            obtain ⟨b2, off2, z, rfl, HZ, -, -, hcz⟩ := (HSk.out.below HBi.out).elem HJR.out
            have HZ' : Hid (z = box ls i j) := HZ.out
            have hzb : 1 ≤ z ∧ z ≤ 99 := by rw [HZ'.out]; exact HT.out.letters hil HJR.out
            obtain ⟨hz1, hz2⟩ := hzb
            obtain ⟨J, hJ⟩ : ∃ J : Nat, J = (z - 1).toNat := ⟨_, rfl⟩
            obtain rfl : z = (J : Int) + 1 := by omega
            have hJn : J < nG := by
              have h1 := mx_ge (box_mem hil HJR.out)
              rw [← HZ'.out, ← HnG.out] at h1
              omega
            have hJn' : (J : Int) < (nG : Int) := by omega
            obtain ⟨g, cg, hGv, hg1, -, -, -⟩ := HGi.out.head (by rw [tab_length]; omega)
            rw [tab_length] at hGv
            simp only [Value.slice.injEq, true_and] at hGv
            obtain ⟨rfl, rfl⟩ := hGv
            have hgH : w.heap.size ≤ g ∧ g < H := HGb.out g rfl
            obtain ⟨hgw, hgH⟩ := hgH
            obtain ⟨hfz, hcc⟩ := HGi.out.tabAt hJn
            have hub := givenAt_bd ls i j J
            have hfw := HT.out.few
            obtain ⟨u, HU⟩ : ∃ u : Nat, Hid (u = givenAt ls i j J) := ⟨_, rfl⟩
            rw [← HU.out] at hcc hub
            have hu : u ≤ 80 := by omega
            clear hub hfw hJ HZ
            -- the world behind the first store
            obtain ⟨W1, HW1⟩ : ∃ W1, Hid (W1 = wr.setCell ⟨g, J, none⟩ (.int .i64 ((u : Int) + 1))) := ⟨_, rfl⟩
            have HG1 : Hid (Owns W1 w.heap.size (.slice (some ⟨g, 0, none⟩) nG cG) (tab nG (fun k => (givenAt ls (i + 1) j k : Nat)))) := by
              show Owns _ _ _ _
              rw [HW1.out, ← given_upd hil HJR.out HZ'.out.symm nG (x := (u : Int) + 1) (by rw [HU.out])]
              exact HGi.out.tabStore J _
            have HB1 : Hid (Below w.heap.size w W1) := by show Below _ _ _; rw [HW1.out]; exact HBi.out.setCell (p := ⟨g, J, none⟩) hgw _
            have HT1 : Hid (Tbl W1 H (.slice aT ls.length cT) (tab2 ls (stdF ls i j))) := HTi.out.same (fun k hk _ => by rw [HW1.out]; exact heap_setCell_other _ _ _ _ (fun e => by simp only at e; omega))
            have HX : Hid (((u : Int) + 1) = (numAt ls i j : Nat)) := by
              show _ = _
              rw [← given_num HT.out hil HJR.out HZ'.out.symm, given_step hil HJR.out, ind_pos HZ'.out.symm, HU.out]; rfl
            obtain ⟨b3, off3, z3, hbb, HZ3, -, -, hcz3⟩ := (HSk.out.below HB1.out).elem HJR.out
            simp only [Option.some.injEq, Addr.mk.injEq, and_true] at hbb
            obtain ⟨rfl, rfl⟩ := hbb
            obtain rfl : z3 = (J : Int) + 1 := by rw [HZ3.out, HZ'.out]; rfl
            obtain ⟨hfz1, hcc1⟩ := HG1.out.tabAt hJn
            rw [given_step hil HJR.out, ind_pos HZ'.out.symm, ← HU.out] at hcc1
            have hcc1' : W1.cell? ⟨g, J, none⟩ = some (.int .i64 ((u : Int) + 1)) := by rw [hcc1]; simp
            obtain ⟨vs, hV⟩ := HT1.out
            have hi2 : i < (tab2 ls (stdF ls i j)).length := by rw [tab2_length]; exact hil
            obtain ⟨tg, n5, c5, hTv, hn5, htH, htw, htf, htc⟩ := hV.head (by omega)
            simp only [Value.slice.injEq] at hTv
            obtain ⟨rfl, rfl, rfl⟩ := hTv
            have hci := htc i hi2
            have hrl : ((tab2 ls (stdF ls i j)).getD i []).length = m := by
              have := tab2_row (f := stdF ls i j) hil
              unfold row at this
              rw [this, tab_length, HM.out]; rfl
            obtain ⟨h, ch, hrv, hh1, hh2, hhf, hhc⟩ := (hV.rows i hi2).head (by rw [hrl]; omega)
            rw [hrl] at hrv
            rw [hrv] at hci
            have hcj := hhc j (by rw [hrl]; exact hjm)
            have hfj := hhf j
            have HST := hV.storeBox hi2 hrv (by rw [hrl]) j ((u : Int) + 1)
            have HT2 : Hid (Tbl (W1.setCell ⟨h, j, none⟩ (.int .i64 ((u : Int) + 1))) H (.slice (some ⟨tg, 0, none⟩) ls.length cT) (tab2 ls (stdF ls (i + 1) j))) := by
              refine ⟨vs, ?_⟩
              rw [stdF_step HX.out] at HST; exact HST
            have HG2 : Hid (Owns (W1.setCell ⟨h, j, none⟩ (.int .i64 ((u : Int) + 1))) w.heap.size (.slice (some ⟨g, 0, none⟩) nG cG) (tab nG (fun k => (givenAt ls (i + 1) j k : Nat)))) :=
              ownsRow_blocks HG1.out (fun k e => heap_setCell_other _ _ _ _ (fun e2 => by simp only [Value.ownBlock, Option.some.injEq] at e; simp only at e2; omega))
            have HB2 : Hid (Below w.heap.size w (W1.setCell ⟨h, j, none⟩ (.int .i64 ((u : Int) + 1)))) := HB1.out.setCell (p := ⟨h, j, none⟩) (by have := HH.out; simp only; omega) _
            have hw1 : IntKind.i64.wrap ((J : Int) + 1 - 1) = (J : Int) := by rw [IntWalk.i64_left, IntWalk.wrap64_in _ (by omega)]; omega
            clear hcc1 htc htf hhf hhc HST hV HG1 HT1 HB1 HGi HTi
            go_wp2_with fail
            rw [← HW1.out]
            clear hcc hfz hcz
            go_region
            go_wp2
            go_roundw
            case rel => exact ⟨i + 1, by omega, by go_num, HG2, HT2.out.same (fun _ _ _ => rfl), HB2.out.drew⟩
            case measure => simp [intOf]; omega
          · have HE1 : Hid (Owns wr w.heap.size (.slice aG nG cG) (tab nG (fun k => (givenAt ls (i + 1) j k : Nat)))) := HGi.out.tabCongr (fun k _ => by rw [given_skip (by rw [← HM.out]; omega)])
            have HE2 : Hid (Tbl wr H (.slice aT ls.length cT) (tab2 ls (stdF ls (i + 1) j))) := by show Tbl _ _ _ _; rw [← stdF_skip (by rw [← HM.out]; omega)]; exact HTi.out
            have hjm' : ¬ (j : Int) < (m : Int) := by omega
            go_wp2
            go_roundw
            case rel => exact ⟨i + 1, by omega, by go_num, HE1, HE2, HBi⟩
            case measure => simp [intOf]; omega
        · obtain rfl : i = ls.length := by omega
          have HE1 : Hid (Owns wr w.heap.size (.slice aG nG cG) (tab nG (fun k => (givenAt ls 0 (j + 1) k : Nat)))) := HGi.out.tabCongr (fun k _ => by rw [given_col])
          have HE2 : Hid (Tbl wr H (.slice aT ls.length cT) (tab2 ls (stdF ls 0 (j + 1)))) := by show Tbl _ _ _ _; rw [← stdF_col]; exact HTi.out
          go_wp2
          go_roundw
          case rel => exact ⟨j + 1, by omega, by go_num, HE1, HE2, HBi⟩
          case measure => simp [intOf]; omega
    · obtain rfl : j = wd := by omega
      have HE : Hid (Tbl wr w.heap.size (.slice aT ls.length cT) (numbered ls)) := by
        have := HTj.out
        rw [HWd.out, stdF_end HT.out] at this
        exact this.mono HH.out
      go_wp2
      go_ret2
      exact ⟨_, rfl, HE.out, HBj.out⟩

set_option maxHeartbeats 2000000 in
theorem Std_err (a : Option Addr) (cap : Nat) (ls : List (List Int)) (w : World) (hs : Table w a ls) (hl : ls.length ≤ 17592186044416) (c : Int) (h : tchk ls = c) (hc : c ≠ 0) :
    Calls Try.prog 14 #[.slice a ls.length cap] w fun e w' => e = .returned (.tuple #[.slice none 0 0, .int .i64 c]) ∧ Below w.heap.size w w' := by
  have HL : Hid (TabL contL ls c []) := TabL.err h hc
  have hcb : (c != 0) = true := bne_iff_ne.2 hc
  clear h hc
  go_enter Try.func14, Try.ntmps14
  go_wp2_with fail
  refine (Content_at _ _ _ _ hs hl rfl HL.out).mono ?_
  rintro e w1 ⟨v, rfl, hown, hb⟩
  go_wp2
  go_ret2
  exact ⟨rfl, hb⟩

/-- What a function of one tableau that tells rows answers. -/
def TabT (F : List (List Int) → List (List Int)) (ls : List (List Int)) (c : Int) (q : List (List Int)) : Prop := tchk ls = c ∧ q = if c = 0 then F ls else []
theorem TabT.ok {F : List (List Int) → List (List Int)} {ls : List (List Int)} (h : IsTab ls) : TabT F ls 0 (F ls) := ⟨tchk_ok.2 h, rfl⟩
theorem TabT.err {F : List (List Int) → List (List Int)} {ls : List (List Int)} {c : Int} (h : tchk ls = c) (h0 : c ≠ 0) : TabT F ls c [] := ⟨h, by rw [if_neg h0]⟩

theorem Std_at {ls q : List (List Int)} {c : Int} (a : Option Addr) (n cap : Nat) (w : World) (hs : Table w a ls) (hl : ls.length ≤ 17592186044416) (hn : n = ls.length) (hr : TabT numbered ls c q) :
    Calls Try.prog 14 #[.slice a n cap] w fun e w' => ∃ v, e = .returned (.tuple #[v, .int .i64 c]) ∧ Tbl w' w.heap.size v q ∧ Below w.heap.size w w' := by
  subst hn
  obtain ⟨h, rfl⟩ := hr
  by_cases hc : c = 0
  · subst hc; exact Std_ok a cap ls w hs (tchk_ok.1 h)
  · rw [if_neg hc]
    exact (Std_err a cap ls w hs hl c h hc).mono fun e w' ⟨he, hw⟩ => ⟨_, he, Tbl.nil _ _, hw⟩

end Go.Proofs.Ytampjdebnaapaac
