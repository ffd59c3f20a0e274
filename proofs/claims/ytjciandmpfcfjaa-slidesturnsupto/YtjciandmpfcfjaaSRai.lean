/-
  The contracts of slides.raise, slides.boxOf, slides.moveBack.
-/
import Derived.Test.YtjciandmpfcfjaaSMvd
namespace Go.Proofs.Ytjciandmpfcfjaa
open Go.RowKit

def raiF (ls : List (List Int)) (d : Int) (i j : Nat) (a b : Nat) : Int := if a < i ∨ (a = i ∧ b < j) then box ls a b + d else box ls a b
theorem sb_tab2 (ls : List (List Int)) (f : Nat → Nat → Int) (i j : Nat) (x : Int) : sb (tab2 ls f) i j x = tab2 ls (fun a b => if a = i ∧ b = j then x else f a b) := by
  refine ext_row (by rw [sb_length, tab2_length, tab2_length]) (fun a ha => ?_)
  rw [sb_length, tab2_length] at ha
  refine ext_getD (by rw [sb_len, tab2_row ha, tab2_row ha, tab_length, tab_length]) (fun b hb => ?_)
  rw [sb_len, tab2_row ha, tab_length] at hb
  show box (sb (tab2 ls f) i j x) a b = box (tab2 ls (fun a b => if a = i ∧ b = j then x else f a b)) a b
  rw [tab2_box ha hb]
  by_cases hj : j < (row (tab2 ls f) i).length
  · rw [sb_box hj]
    by_cases e : a = i ∧ b = j
    · rw [if_pos e, if_pos e]
    · rw [if_neg e, if_neg e, tab2_box ha hb]
  · have e : ¬ (a = i ∧ b = j) := fun q => by
      obtain ⟨rfl, rfl⟩ := q
      rw [tab2_row ha, tab_length] at hj; exact hj hb
    rw [if_neg e]
    unfold box
    rw [sb_row]
    by_cases e2 : a = i
    · rw [if_pos e2, getD_set, if_neg (fun q => hj q.2), ← e2]; exact tab2_box ha hb
    · rw [if_neg e2]; exact tab2_box ha hb
theorem raiF_zero (ls : List (List Int)) (d : Int) : tab2 ls (raiF ls d 0 0) = ls := by
  rw [tab2_congr (g := box ls) (fun a b _ _ => by unfold raiF; rw [if_neg (by omega)]), tab2_self]
theorem raiF_end (ls : List (List Int)) (d : Int) : tab2 ls (raiF ls d ls.length 0) = rais d ls := by
  refine ext_row (by rw [tab2_length, rais_length]) (fun a ha => ?_)
  rw [tab2_length] at ha
  refine ext_getD (by rw [tab2_row ha, tab_length, rais_len]) (fun b hb => ?_)
  rw [tab2_row ha, tab_length] at hb
  show box _ a b = box _ a b
  rw [tab2_box ha hb, rais_box hb]
  unfold raiF; rw [if_pos (Or.inl ha)]
theorem raiF_row (ls : List (List Int)) (d : Int) (i : Nat) : tab2 ls (raiF ls d i (row ls i).length) = tab2 ls (raiF ls d (i + 1) 0) :=
  tab2_congr (fun a b _ hb => by
    unfold raiF
    by_cases e : a < i ∨ (a = i ∧ b < (row ls i).length)
    · rw [if_pos e, if_pos (by omega)]
    · rw [if_neg e, if_neg (fun q => e (by
        rcases q with q | q
        · by_cases e2 : a = i
          · subst e2; exact Or.inr ⟨rfl, hb⟩
          · exact Or.inl (by omega)
        · omega))])
theorem raiF_step (ls : List (List Int)) (d : Int) (i j : Nat) : sb (tab2 ls (raiF ls d i j)) i j (box ls i j + d) = tab2 ls (raiF ls d i (j + 1)) := by
  rw [sb_tab2]
  refine tab2_congr (fun a b _ _ => ?_)
  unfold raiF
  by_cases e : a = i ∧ b = j
  · rw [if_pos e, if_pos (by omega), e.1, e.2]
  · rw [if_neg e]
    by_cases e2 : a < i ∨ (a = i ∧ b < j)
    · rw [if_pos e2, if_pos (by omega)]
    · rw [if_neg e2, if_neg (by omega)]
theorem tab2_len (ls : List (List Int)) (f : Nat → Nat → Int) (a : Nat) : (row (tab2 ls f) a).length = (row ls a).length := by
  by_cases ha : a < ls.length
  · rw [tab2_row ha, tab_length]
  · rw [row_out (by rw [tab2_length]; omega), row_out (by omega)]
theorem raiF_few {ls : List (List Int)} (h : Few ls) (hz : ∀ r ∈ ls, ∀ z ∈ r, -500 ≤ z ∧ z ≤ 500) {d : Int} (hd : -1 ≤ d ∧ d ≤ 1) (i j : Nat) : Few (tab2 ls (raiF ls d i j)) := by
  refine ⟨by rw [tab2_length]; exact h.len, fun r hr => ?_, fun r hr z hz' => ?_⟩
  · obtain ⟨a, ha, rfl⟩ := mem_row hr
    rw [tab2_length] at ha
    rw [tab2_len]; exact h.one _ (row_mem ha)
  · obtain ⟨a, ha, rfl⟩ := mem_row hr
    rw [tab2_length] at ha
    rw [tab2_row ha] at hz'
    obtain ⟨b, hb, rfl⟩ := tab_mem hz'
    have := hz _ (row_mem ha) _ (getD_mem hb)
    have hb2 : -500 ≤ box ls a b ∧ box ls a b ≤ 500 := this
    unfold raiF
    split <;> omega

set_option maxHeartbeats 8000000 in
theorem raise_at {ls : List (List Int)} {lo : Nat} {S : Nat → Prop} (a : Option Addr) (n cap : Nat) (vs : List Value) (d : Int) (w : World) (hT : TblIn w lo S (.slice a n cap) vs ls) (hF : Few ls) (hz : ∀ r ∈ ls, ∀ z ∈ r, -500 ≤ z ∧ z ≤ 500) (hd : -1 ≤ d ∧ d ≤ 1) :
    Calls Try.prog 65 #[.slice a n cap, .int .i64 d] w fun e w' => e = .returned (.tuple #[]) ∧ TblIn w' lo S (.slice a n cap) vs (rais d ls) ∧ Off S w w' ∧ w'.heap.size = w.heap.size := by
  have HT0 : Hid (TblIn w lo S (.slice a n cap) vs (tab2 ls (raiF ls d 0 0))) := by show TblIn _ _ _ _ _ _; rw [raiF_zero]; exact hT
  have HF : Hid (∀ i j, Few (tab2 ls (raiF ls d i j))) := fun i j => raiF_few hF hz hd i j
  have HZ : Hid (∀ r ∈ ls, ∀ z ∈ r, -500 ≤ z ∧ z ≤ 500) := hz
  obtain ⟨a0, c0, hsh⟩ := hT.t.shape
  simp only [Value.slice.injEq] at hsh
  have hn : n = ls.length := hsh.2.1
  subst hn
  have hlen := hF.len
  clear hT hF hsh hz
  go_enter Try.func65, Try.ntmps65
  go_wp2
  go_loopw [9] (fun q wr => ∃ i : Nat, i ≤ ls.length ∧ q = .int .i64 i ∧ Hid (TblIn wr lo S (.slice a ls.length cap) vs (tab2 ls (raiF ls d i 0))) ∧ Hid (Off S w wr ∧ wr.heap.size = w.heap.size)) (fun q _ => ls.length - (intOf q).toNat)
  case atStart => exact ⟨0, Nat.zero_le _, rfl, HT0, ⟨Off.refl _ _, rfl⟩⟩
  case round =>
    obtain ⟨i, hi, rfl, HT, HO⟩ := hrel
    by_cases hil : i < ls.length
    · have hil' : (i : Int) < (ls.length : Int) := by omega
      have HIl : Hid (i < ls.length) := hil
      have hpos : 0 < (row (tab2 ls (raiF ls d i 0)) i).length := ((HF.out i 0).one _ (row_mem (by rw [tab2_length]; exact hil))).1
      obtain ⟨g, hb, ch, m, rfl, -, HRv, HMm, -, hm1, hcg, -, -, HSh, hgl, hhl⟩ := HT.out.open (HF.out i 0) hpos
      have HM2 : Hid (m = (row ls i).length) := by show _ = _; rw [HMm.out, tab2_len]
      clear hpos HMm
      go_wp2
      go_loopw [15] (fun q wr => ∃ j : Nat, j ≤ m ∧ q = .int .i64 j ∧ Hid (TblIn wr lo S (.slice (some ⟨g, 0, none⟩) ls.length cap) vs (tab2 ls (raiF ls d i j))) ∧ Hid (Off S w wr ∧ wr.heap.size = w.heap.size)) (fun q _ => m - (intOf q).toNat)
      case atStart => exact ⟨0, Nat.zero_le _, rfl, HT, HO⟩
      case round =>
        obtain ⟨j, hj, rfl, HTj, HOj⟩ := hrel
        by_cases hjm : j < m
        · have hjm' : (j : Int) < (m : Int) := by omega
          have hjr : j < (row (tab2 ls (raiF ls d i j)) i).length := by rw [tab2_len, ← HM2.out]; exact hjm
          obtain ⟨g', hb', ch', m', hg', -, HRv', HMm', -, -, -, hcb, hfb, -, -, -⟩ := HTj.out.open (HF.out i j) hjr
          have e1 := HRv'.out
          rw [HRv.out] at e1
          simp only [Value.slice.injEq, Option.some.injEq, Addr.mk.injEq, and_true] at e1
          obtain ⟨rfl, rfl, rfl⟩ := e1
          have hbx : box (tab2 ls (raiF ls d i j)) i j = box ls i j := by
            rw [tab2_box HIl.out (by rw [← HM2.out]; exact hjm)]
            unfold raiF; rw [if_neg (by omega)]
          rw [hbx] at hcb
          obtain ⟨z, HZz⟩ : ∃ z, Hid (z = box ls i j) := ⟨_, rfl⟩
          rw [← HZz.out] at hcb
          have hzb : -500 ≤ z ∧ z ≤ 500 := by
            rw [HZz.out]; exact HZ.out _ (row_mem HIl.out) _ (getD_mem (by rw [← HM2.out]; exact hjm))
          have hzd : IntKind.i64.wrap (z + d) = z + d := by rw [IntWalk.i64_left, IntWalk.wrap64_in _ (by omega)]
          have HT2 : Hid (TblIn (wr.setCell ⟨hb, j, none⟩ (.int .i64 (z + d))) lo S (.slice (some ⟨g, 0, none⟩) ls.length cap) vs (tab2 ls (raiF ls d i (j + 1)))) := by
            have := HTj.out.sbox (j := j) (by rw [tab2_length]; exact HIl.out) HRv.out HMm'.out (z + d)
            rw [HZz.out, raiF_step] at this
            rw [HZz.out]; exact this
          have HO2 : Hid (Off S w (wr.setCell ⟨hb, j, none⟩ (.int .i64 (z + d))) ∧ (wr.setCell ⟨hb, j, none⟩ (.int .i64 (z + d))).heap.size = w.heap.size) := ⟨HOj.out.1.setCell HSh.out _, by simp [HOj.out.2]⟩
          clear hbx hjr hg' HRv' HMm'
          go_wp2
          go_roundw
          case rel => exact ⟨j + 1, by omega, by go_num, HT2, HO2⟩
          case measure => simp [intOf]; omega
        · obtain rfl : j = m := by omega
          have hjm' : ¬ (j : Int) < (j : Int) := by omega
          have HT2 : Hid (TblIn wr lo S (.slice (some ⟨g, 0, none⟩) ls.length cap) vs (tab2 ls (raiF ls d (i + 1) 0))) := by
            have := HTj.out
            rw [HM2.out, raiF_row] at this; exact this
          go_wp2
          go_roundw
          case rel => exact ⟨i + 1, by omega, by go_num, HT2, HOj⟩
          case measure => simp [intOf]; omega
    · obtain rfl : i = ls.length := by omega
      have HE : Hid (TblIn wr lo S (.slice a ls.length cap) vs (rais d ls)) := by have := HT.out; rw [raiF_end] at this; exact this
      go_wp2
      go_end0
      exact ⟨rfl, HE.out, HO.out.1, HO.out.2⟩
set_option maxHeartbeats 4000000 in
theorem boxOf_at (a : Option Addr) (n cap : Nat) (ls : List (List Int)) (N : Int) (w : World) (hs : Table w a ls) (hn : n = ls.length) (hF : Few ls) (hex : ∃ i, i < ls.length ∧ lastOf (row ls i) = N) :
    Calls Try.prog 66 #[.slice a n cap, .int .i64 N] w fun e w' => ∃ i j : Nat, e = .returned (.tuple #[.int .i64 i, .int .i64 j]) ∧ i < ls.length ∧ j + 1 = (row ls i).length ∧ lastOf (row ls i) = N ∧ ∃ d, w' = w.drewN d := by
  subst hn
  have HS : Hid (Table w a ls) := hs
  have HF : Hid (Few ls) := hF
  have HX : Hid (∃ i, i < ls.length ∧ lastOf (row ls i) = N) := hex
  have hlen := hF.len
  clear hs hF hex
  go_enter Try.func66, Try.ntmps66
  go_wp2
  go_loopw [6] (fun q wr => ∃ i : Nat, q = .int .i64 i ∧ Hid (∀ k, k < i → lastOf (row ls k) ≠ N) ∧ Hid (∃ d, wr = w.drewN d)) (fun q _ => ls.length - (intOf q).toNat)
  case atStart => exact ⟨0, rfl, fun k hk => by omega, ⟨0, rfl⟩⟩
  case round =>
    obtain ⟨i, rfl, HI, HD⟩ := hrel
    have hil : i < ls.length := Nat.lt_of_not_le (fun c => by
      obtain ⟨k, hk, e⟩ := HX.out
      exact HI.out k (by omega) e)
    have hil' : (i : Int) < (ls.length : Int) := by omega
    have HTw : Hid (Table wr a ls) := by obtain ⟨d, hd⟩ := HD.out; show Table _ _ _; rw [hd]; exact HS.out.drewN d
    obtain ⟨b, off, ai, m, ci, rfl, hc, HM, HSk, -, hmb⟩ := HTw.out.elem hil
    have hrp := HF.out.one _ (row_mem hil)
    obtain ⟨e, He⟩ : ∃ e, Hid (m = e + 1) := ⟨m - 1, by show _ = _; have h2 : 0 < (row ls i).length := hrp.1; rw [← HM.out] at h2; omega⟩
    have hm1000 : e + 1 ≤ 1000 := by rw [← He.out, HM.out]; exact hrp.2
    have hm := He.out
    subst hm
    have hek : e < (row ls i).length := by rw [← HM.out]; omega
    obtain ⟨b2, off2, z, rfl, HZ, -, -, hcz⟩ := HSk.out.elem hek
    have HL : Hid (z = lastOf (row ls i)) := by show _ = _; rw [HZ.out]; unfold lastOf; rw [← HM.out]; simp
    have hsub : IntKind.i64.wrap (((e + 1 : Nat) : Int) - 1) = (e : Int) := by rw [IntWalk.i64_left, IntWalk.wrap64_in _ (by omega)]; omega
    have hle : (e : Int) < ((e + 1 : Nat) : Int) := by omega
    have HD1 : Hid (∃ d, wr.drew = w.drewN d) := by obtain ⟨d, hd⟩ := HD.out; exact ⟨d + 1, by rw [hd]; rfl⟩
    have HD2 : Hid (∃ d, wr.drew.drew = w.drewN d) := by obtain ⟨d, hd⟩ := HD.out; exact ⟨d + 2, by rw [hd]; rfl⟩
    clear hrp HZ He
    by_cases hz : z = N
    · have hne : (z != N) = false := by simp [hz]
      have HLN : Hid (lastOf (row ls i) = N) := by rw [← HL.out]; exact hz
      have HIl : Hid (i < ls.length) := hil
      go_wp2_with fail
      go_region
      go_wp2_with fail
      go_region
      go_wp2
      go_ret2
      exact ⟨i, e, rfl, HIl.out, HM.out, HLN.out, HD2.out⟩
    · have hne : (z != N) = true := bne_iff_ne.2 hz
      have HI2 : Hid (∀ k, k < i + 1 → lastOf (row ls k) ≠ N) := fun k hk => by
        by_cases e2 : k = i
        · subst e2; rw [← HL.out]; exact hz
        · exact HI.out k (by omega)
      go_wp2_with fail
      go_region
      go_wp2
      go_roundw
      case rel => exact ⟨i + 1, by go_num, HI2, HD1⟩
      case measure => simp [intOf]; omega

end Go.Proofs.Ytjciandmpfcfjaa
