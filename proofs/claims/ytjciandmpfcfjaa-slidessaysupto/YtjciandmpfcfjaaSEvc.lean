/-
  The contracts of slides.raise, slides.boxOf, slides.moveBack.
  The contract of slides.moveBack.
  The contracts of slides.Promote, slides.Demote.
  The contract of slides.Evacuate.
-/
import Derived.Test.YtjciandmpfcfjaaSMvd
namespace Go.Proofs.Ytjciandmpfcfjaa
open Go.RowKit

def raiF (ls : List (List Int)) (d : Int) (i j : Nat) (a b : Nat) : Int := if a < i ∨ (a = i ∧ b < j) then box ls a b + d else box ls a b
theorem sb_tab2 (ls : List (List Int)) (f : Nat → Nat → Int) (i j : Nat) (x : Int) : sb (tab2 ls f) i j x = tab2 ls (fun a b => if a = i ∧ b = j then x else f a b) := by
  refine ext_row (by rw [sb_length, tab2_length, tab2_length]) (fun a ha => ?_)
  rw [sb_length, tab2_length] at ha
  refine ext_getD (by rw [sb_len, tab2_row ha, tab2_row ha, tab_length, tab_length]) (fun b hb => ?_)
  rw [sb_len, tab2_row ha, tab_length] at hb
  show box (sb (tab2 ls f) i j x) a b = box (tab2 ls (fun a b => if a = i ∧ b = j then x else f a b)) a b
  rw [tab2_box ha hb]
  by_cases hj : j < (row (tab2 ls f) i).length
  · rw [sb_box hj]
    by_cases e : a = i ∧ b = j
    · rw [if_pos e, if_pos e]
    · rw [if_neg e, if_neg e, tab2_box ha hb]
  · have e : ¬ (a = i ∧ b = j) := fun q => by
      obtain ⟨rfl, rfl⟩ := q
      rw [tab2_row ha, tab_length] at hj; exact hj hb
    rw [if_neg e]
    unfold box
    rw [sb_row]
    by_cases e2 : a = i
    · rw [if_pos e2, getD_set, if_neg (fun q => hj q.2), ← e2]; exact tab2_box ha hb
    · rw [if_neg e2]; exact tab2_box ha hb
theorem raiF_zero (ls : List (List Int)) (d : Int) : tab2 ls (raiF ls d 0 0) = ls := by
  rw [tab2_congr (g := box ls) (fun a b _ _ => by unfold raiF; rw [if_neg (by omega)]), tab2_self]
theorem raiF_end (ls : List (List Int)) (d : Int) : tab2 ls (raiF ls d ls.length 0) = rais d ls := by
  refine ext_row (by rw [tab2_length, rais_length]) (fun a ha => ?_)
  rw [tab2_length] at ha
  refine ext_getD (by rw [tab2_row ha, tab_length, rais_len]) (fun b hb => ?_)
  rw [tab2_row ha, tab_length] at hb
  show box _ a b = box _ a b
  rw [tab2_box ha hb, rais_box hb]
  unfold raiF; rw [if_pos (Or.inl ha)]
theorem raiF_row (ls : List (List Int)) (d : Int) (i : Nat) : tab2 ls (raiF ls d i (row ls i).length) = tab2 ls (raiF ls d (i + 1) 0) :=
  tab2_congr (fun a b _ hb => by
    unfold raiF
    by_cases e : a < i ∨ (a = i ∧ b < (row ls i).length)
    · rw [if_pos e, if_pos (by omega)]
    · rw [if_neg e, if_neg (fun q => e (by
        rcases q with q | q
        · by_cases e2 : a = i
          · subst e2; exact Or.inr ⟨rfl, hb⟩
          · exact Or.inl (by omega)
        · omega))])
theorem raiF_step (ls : List (List Int)) (d : Int) (i j : Nat) : sb (tab2 ls (raiF ls d i j)) i j (box ls i j + d) = tab2 ls (raiF ls d i (j + 1)) := by
  rw [sb_tab2]
  refine tab2_congr (fun a b _ _ => ?_)
  unfold raiF
  by_cases e : a = i ∧ b = j
  · rw [if_pos e, if_pos (by omega), e.1, e.2]
  · rw [if_neg e]
    by_cases e2 : a < i ∨ (a = i ∧ b < j)
    · rw [if_pos e2, if_pos (by omega)]
    · rw [if_neg e2, if_neg (by omega)]
theorem tab2_len (ls : List (List Int)) (f : Nat → Nat → Int) (a : Nat) : (row (tab2 ls f) a).length = (row ls a).length := by
  by_cases ha : a < ls.length
  · rw [tab2_row ha, tab_length]
  · rw [row_out (by rw [tab2_length]; omega), row_out (by omega)]
theorem raiF_few {ls : List (List Int)} (h : Few ls) (hz : ∀ r ∈ ls, ∀ z ∈ r, -500 ≤ z ∧ z ≤ 500) {d : Int} (hd : -1 ≤ d ∧ d ≤ 1) (i j : Nat) : Few (tab2 ls (raiF ls d i j)) := by
  refine ⟨by rw [tab2_length]; exact h.len, fun r hr => ?_, fun r hr z hz' => ?_⟩
  · obtain ⟨a, ha, rfl⟩ := mem_row hr
    rw [tab2_length] at ha
    rw [tab2_len]; exact h.one _ (row_mem ha)
  · obtain ⟨a, ha, rfl⟩ := mem_row hr
    rw [tab2_length] at ha
    rw [tab2_row ha] at hz'
    obtain ⟨b, hb, rfl⟩ := tab_mem hz'
    have := hz _ (row_mem ha) _ (getD_mem hb)
    have hb2 : -500 ≤ box ls a b ∧ box ls a b ≤ 500 := this
    unfold raiF
    split <;> omega

set_option maxHeartbeats 8000000 in
theorem raise_at {ls : List (List Int)} {lo : Nat} {S : Nat → Prop} (a : Option Addr) (n cap : Nat) (vs : List Value) (d : Int) (w : World) (hT : TblIn w lo S (.slice a n cap) vs ls) (hF : Few ls) (hz : ∀ r ∈ ls, ∀ z ∈ r, -500 ≤ z ∧ z ≤ 500) (hd : -1 ≤ d ∧ d ≤ 1) :
    Calls Try.prog 65 #[.slice a n cap, .int .i64 d] w fun e w' => e = .returned (.tuple #[]) ∧ TblIn w' lo S (.slice a n cap) vs (rais d ls) ∧ Off S w w' ∧ w'.heap.size = w.heap.size := by
  have HT0 : Hid (TblIn w lo S (.slice a n cap) vs (tab2 ls (raiF ls d 0 0))) := by show TblIn _ _ _ _ _ _; rw [raiF_zero]; exact hT
  have HF : Hid (∀ i j, Few (tab2 ls (raiF ls d i j))) := fun i j => raiF_few hF hz hd i j
  have HZ : Hid (∀ r ∈ ls, ∀ z ∈ r, -500 ≤ z ∧ z ≤ 500) := hz
  obtain ⟨a0, c0, hsh⟩ := hT.t.shape
  simp only [Value.slice.injEq] at hsh
  have hn : n = ls.length := hsh.2.1
  subst hn
  have hlen := hF.len
  clear hT hF hsh hz
  go_enter Try.func65, Try.ntmps65
  go_wp2
  go_loopw [9] (fun q wr => ∃ i : Nat, i ≤ ls.length ∧ q = .int .i64 i ∧ Hid (TblIn wr lo S (.slice a ls.length cap) vs (tab2 ls (raiF ls d i 0))) ∧ Hid (Off S w wr ∧ wr.heap.size = w.heap.size)) (fun q _ => ls.length - (intOf q).toNat)
  case atStart => exact ⟨0, Nat.zero_le _, rfl, HT0, ⟨Off.refl _ _, rfl⟩⟩
  case round =>
    obtain ⟨i, hi, rfl, HT, HO⟩ := hrel
    by_cases hil : i < ls.length
    · have hil' : (i : Int) < (ls.length : Int) := by omega
      have HIl : Hid (i < ls.length) := hil
      have hpos : 0 < (row (tab2 ls (raiF ls d i 0)) i).length := ((HF.out i 0).one _ (row_mem (by rw [tab2_length]; exact hil))).1
      obtain ⟨g, hb, ch, m, rfl, -, HRv, HMm, -, hm1, hcg, -, -, HSh, hgl, hhl⟩ := HT.out.open (HF.out i 0) hpos
      have HM2 : Hid (m = (row ls i).length) := by show _ = _; rw [HMm.out, tab2_len]
      clear hpos HMm
      go_wp2
      go_loopw [15] (fun q wr => ∃ j : Nat, j ≤ m ∧ q = .int .i64 j ∧ Hid (TblIn wr lo S (.slice (some ⟨g, 0, none⟩) ls.length cap) vs (tab2 ls (raiF ls d i j))) ∧ Hid (Off S w wr ∧ wr.heap.size = w.heap.size)) (fun q _ => m - (intOf q).toNat)
      case atStart => exact ⟨0, Nat.zero_le _, rfl, HT, HO⟩
      case round =>
        obtain ⟨j, hj, rfl, HTj, HOj⟩ := hrel
        by_cases hjm : j < m
        · have hjm' : (j : Int) < (m : Int) := by omega
          have hjr : j < (row (tab2 ls (raiF ls d i j)) i).length := by rw [tab2_len, ← HM2.out]; exact hjm
          obtain ⟨g', hb', ch', m', hg', -, HRv', HMm', -, -, -, hcb, hfb, -, -, -⟩ := HTj.out.open (HF.out i j) hjr
          have e1 := HRv'.out
          rw [HRv.out] at e1
          simp only [Value.slice.injEq, Option.some.injEq, Addr.mk.injEq, and_true] at e1
          obtain ⟨rfl, rfl, rfl⟩ := e1
          have hbx : box (tab2 ls (raiF ls d i j)) i j = box ls i j := by
            rw [tab2_box HIl.out (by rw [← HM2.out]; exact hjm)]
            unfold raiF; rw [if_neg (by omega)]
          rw [hbx] at hcb
          obtain ⟨z, HZz⟩ : ∃ z, Hid (z = box ls i j) := ⟨_, rfl⟩
          rw [← HZz.out] at hcb
          have hzb : -500 ≤ z ∧ z ≤ 500 := by
            rw [HZz.out]; exact HZ.out _ (row_mem HIl.out) _ (getD_mem (by rw [← HM2.out]; exact hjm))
          have hzd : IntKind.i64.wrap (z + d) = z + d := by rw [IntWalk.i64_left, IntWalk.wrap64_in _ (by omega)]
          have HT2 : Hid (TblIn (wr.setCell ⟨hb, j, none⟩ (.int .i64 (z + d))) lo S (.slice (some ⟨g, 0, none⟩) ls.length cap) vs (tab2 ls (raiF ls d i (j + 1)))) := by
            have := HTj.out.sbox (j := j) (by rw [tab2_length]; exact HIl.out) HRv.out HMm'.out (z + d)
            rw [HZz.out, raiF_step] at this
            rw [HZz.out]; exact this
          have HO2 : Hid (Off S w (wr.setCell ⟨hb, j, none⟩ (.int .i64 (z + d))) ∧ (wr.setCell ⟨hb, j, none⟩ (.int .i64 (z + d))).heap.size = w.heap.size) := ⟨HOj.out.1.setCell HSh.out _, by simp [HOj.out.2]⟩
          clear hbx hjr hg' HRv' HMm'
          go_wp2
          go_roundw
          case rel => exact ⟨j + 1, by omega, by go_num, HT2, HO2⟩
          case measure => simp [intOf]; omega
        · obtain rfl : j = m := by omega
          have hjm' : ¬ (j : Int) < (j : Int) := by omega
          have HT2 : Hid (TblIn wr lo S (.slice (some ⟨g, 0, none⟩) ls.length cap) vs (tab2 ls (raiF ls d (i + 1) 0))) := by
            have := HTj.out
            rw [HM2.out, raiF_row] at this; exact this
          go_wp2
          go_roundw
          case rel => exact ⟨i + 1, by omega, by go_num, HT2, HOj⟩
          case measure => simp [intOf]; omega
    · obtain rfl : i = ls.length := by omega
      have HE : Hid (TblIn wr lo S (.slice a ls.length cap) vs (rais d ls)) := by have := HT.out; rw [raiF_end] at this; exact this
      go_wp2
      go_end0
      exact ⟨rfl, HE.out, HO.out.1, HO.out.2⟩
set_option maxHeartbeats 4000000 in
theorem boxOf_at (a : Option Addr) (n cap : Nat) (ls : List (List Int)) (N : Int) (w : World) (hs : Table w a ls) (hn : n = ls.length) (hF : Few ls) (hex : ∃ i, i < ls.length ∧ lastOf (row ls i) = N) :
    Calls Try.prog 66 #[.slice a n cap, .int .i64 N] w fun e w' => ∃ i j : Nat, e = .returned (.tuple #[.int .i64 i, .int .i64 j]) ∧ i < ls.length ∧ j + 1 = (row ls i).length ∧ lastOf (row ls i) = N ∧ ∃ d, w' = w.drewN d := by
  subst hn
  have HS : Hid (Table w a ls) := hs
  have HF : Hid (Few ls) := hF
  have HX : Hid (∃ i, i < ls.length ∧ lastOf (row ls i) = N) := hex
  have hlen := hF.len
  clear hs hF hex
  go_enter Try.func66, Try.ntmps66
  go_wp2
  go_loopw [6] (fun q wr => ∃ i : Nat, q = .int .i64 i ∧ Hid (∀ k, k < i → lastOf (row ls k) ≠ N) ∧ Hid (∃ d, wr = w.drewN d)) (fun q _ => ls.length - (intOf q).toNat)
  case atStart => exact ⟨0, rfl, fun k hk => by omega, ⟨0, rfl⟩⟩
  case round =>
    obtain ⟨i, rfl, HI, HD⟩ := hrel
    have hil : i < ls.length := Nat.lt_of_not_le (fun c => by
      obtain ⟨k, hk, e⟩ := HX.out
      exact HI.out k (by omega) e)
    have hil' : (i : Int) < (ls.length : Int) := by omega
    have HTw : Hid (Table wr a ls) := by obtain ⟨d, hd⟩ := HD.out; show Table _ _ _; rw [hd]; exact HS.out.drewN d
    obtain ⟨b, off, ai, m, ci, rfl, hc, HM, HSk, -, hmb⟩ := HTw.out.elem hil
    have hrp := HF.out.one _ (row_mem hil)
    obtain ⟨e, He⟩ : ∃ e, Hid (m = e + 1) := ⟨m - 1, by show _ = _; have h2 : 0 < (row ls i).length := hrp.1; rw [← HM.out] at h2; omega⟩
    have hm1000 : e + 1 ≤ 1000 := by rw [← He.out, HM.out]; exact hrp.2
    have hm := He.out
    subst hm
    have hek : e < (row ls i).length := by rw [← HM.out]; omega
    obtain ⟨b2, off2, z, rfl, HZ, -, -, hcz⟩ := HSk.out.elem hek
    have HL : Hid (z = lastOf (row ls i)) := by show _ = _; rw [HZ.out]; unfold lastOf; rw [← HM.out]; simp
    have hsub : IntKind.i64.wrap (((e + 1 : Nat) : Int) - 1) = (e : Int) := by rw [IntWalk.i64_left, IntWalk.wrap64_in _ (by omega)]; omega
    have hle : (e : Int) < ((e + 1 : Nat) : Int) := by omega
    have HD1 : Hid (∃ d, wr.drew = w.drewN d) := by obtain ⟨d, hd⟩ := HD.out; exact ⟨d + 1, by rw [hd]; rfl⟩
    have HD2 : Hid (∃ d, wr.drew.drew = w.drewN d) := by obtain ⟨d, hd⟩ := HD.out; exact ⟨d + 2, by rw [hd]; rfl⟩
    clear hrp HZ He
    by_cases hz : z = N
    · have hne : (z != N) = false := by simp [hz]
      have HLN : Hid (lastOf (row ls i) = N) := by rw [← HL.out]; exact hz
      have HIl : Hid (i < ls.length) := hil
      go_wp2_with fail
      go_region
      go_wp2_with fail
      go_region
      go_wp2
      go_ret2
      exact ⟨i, e, rfl, HIl.out, HM.out, HLN.out, HD2.out⟩
    · have hne : (z != N) = true := bne_iff_ne.2 hz
      have HI2 : Hid (∀ k, k < i + 1 → lastOf (row ls k) ≠ N) := fun k hk => by
        by_cases e2 : k = i
        · subst e2; rw [← HL.out]; exact hz
        · exact HI.out k (by omega)
      go_wp2_with fail
      go_region
      go_wp2
      go_roundw
      case rel => exact ⟨i + 1, by go_num, HI2, HD1⟩
      case measure => simp [intOf]; omega

end Go.Proofs.Ytjciandmpfcfjaa

namespace Go.Proofs.Ytjciandmpfcfjaa
open Go.RowKit

theorem mb_up {s : List (List Int)} {i j k : Nat} (hk : i + j = k + 1) (c : j = 0 ∨ (0 < i ∧ box s i (j - 1) < box s (i - 1) j)) : mb (i + j) s i j = mb k (sb s i j (box s (i - 1) j)) (i - 1) j := by rw [hk, mb_step, if_pos c]
theorem mb_lf {s : List (List Int)} {i j k : Nat} (hk : i + j = k + 1) (c : ¬ (j = 0 ∨ (0 < i ∧ box s i (j - 1) < box s (i - 1) j))) : mb (i + j) s i j = mb k (sb s i j (box s i (j - 1))) i (j - 1) := by rw [hk, mb_step, if_neg c]

/-- What the loop keeps. -/
structure Bak (ls : List (List Int)) (M : List (List Int)) (p q : Nat) (ms : List (List Int)) : Prop where
  hol : Hol (fun _ => 0) ms p q
  dis : Dis p q ms
  few : Few ms
  is : M = mb (p + q) ms p q
theorem Bak.up {ls M : List (List Int)} {p q : Nat} {ms : List (List Int)} (h : Bak ls M (p + 1) q ms) (c : q = 0 ∨ box ms (p + 1) (q - 1) < box ms p q) : Bak ls M p q (sb ms (p + 1) q (box ms p q)) := by
  have c' : q = 0 ∨ (0 < p + 1 ∧ box ms (p + 1) (q - 1) < box ms (p + 1 - 1) q) := by
    rcases c with c | c
    · exact Or.inl c
    · exact Or.inr ⟨by omega, c⟩
  obtain ⟨_, k1, k2, _⟩ := mb_down h.hol h.dis (by omega) c'
  exact ⟨k1, k2, h.few.sb _ _ (h.few.box _ _), by rw [h.is, mb_up (k := p + q) (by omega) c']; rfl⟩
theorem Bak.lf {ls M : List (List Int)} {p q : Nat} {ms : List (List Int)} (h : Bak ls M p (q + 1) ms) (c : 0 < p → ¬ box ms p q < box ms (p - 1) (q + 1)) : Bak ls M p q (sb ms p (q + 1) (box ms p q)) := by
  have c' : ¬ (q + 1 = 0 ∨ (0 < p ∧ box ms p (q + 1 - 1) < box ms (p - 1) (q + 1))) := fun z => by
    rcases z with z | z
    · omega
    · exact c z.1 z.2
  obtain ⟨_, k1, k2, _⟩ := mb_left h.hol h.dis c'
  exact ⟨k1, k2, h.few.sb _ _ (h.few.box _ _), by rw [h.is, mb_lf (k := p + q) (by omega) c']; rfl⟩

set_option maxHeartbeats 8000000 in
theorem moveBack_at {ls : List (List Int)} {lo : Nat} {S : Nat → Prop} (a : Option Addr) (n cap : Nat) (vs : List Value) (i j : Nat) (w : World) (hT : TblIn w lo S (.slice a n cap) vs ls) (hF : Few ls) (hH : Hol (fun _ => 0) ls i j) (hD : Dis i j ls) :
    Calls Try.prog 67 #[.slice a n cap, .int .i64 i, .int .i64 j] w fun e w' => e = .returned (.tuple #[]) ∧ TblIn w' lo S (.slice a n cap) vs (mb (i + j) ls i j) ∧ Off S w w' ∧ w'.heap.size = w.heap.size ∧ Few (mb (i + j) ls i j) := by
  have HT0 : Hid (TblIn w lo S (.slice a n cap) vs ls) := hT
  obtain ⟨M, HM⟩ : ∃ M, Hid (M = mb (i + j) ls i j) := ⟨_, rfl⟩
  rw [← HM.out]
  have HK0 : Hid (Bak ls M i j ls) := ⟨hH, hD, hF, HM.out⟩
  clear hT hF hH hD
  go_enter Try.func67, Try.ntmps67
  go_wp2
  go_loopw [1, 2] (fun iv jv wr => ∃ (p q : Nat) (ms : List (List Int)), iv = .int .i64 p ∧ jv = .int .i64 q ∧ Hid (Bak ls M p q ms) ∧ Hid (TblIn wr lo S (.slice a n cap) vs ms) ∧ Hid (Off S w wr ∧ wr.heap.size = w.heap.size)) (fun iv jv _ => (intOf iv).toNat + (intOf jv).toNat)
  case atStart => exact ⟨i, j, ls, rfl, rfl, HK0, HT0, ⟨Off.refl _ _, rfl⟩⟩
  case round =>
    obtain ⟨p, q, ms, rfl, rfl, HK, HT, HO⟩ := hrel
    obtain ⟨g, hb, ch, m, rfl, hn, HRv, HMm, hqm, hm1, hcg, hcb, hfb, HSh, hgl, hhl⟩ := HT.out.open HK.out.few (i := p) HK.out.hol.lt
    have hpn : (p : Int) < (n : Int) := by have := HK.out.hol.row; omega
    have hqm' : (q : Int) < (m : Int) := by omega
    have hn1 : n ≤ 1000 := by rw [hn]; exact HK.out.few.len
    have HST : Hid (∀ (z : Int) (u : World), u.heap = (wr.setCell ⟨hb, q, none⟩ (.int .i64 z)).heap → TblIn u lo S (.slice (some ⟨g, 0, none⟩) n cap) vs (sb ms p q z)) := fun z u hu => (HT.out.sbox HK.out.hol.row HRv.out HMm.out z).same (fun k _ => by rw [hu])
    clear hn
    have HP : Hid (p < 1000 ∧ q < 1000) := by have := HK.out.hol.row; have := HK.out.few.len; have := (HK.out.few.one _ (row_mem HK.out.hol.row)).2; have := HK.out.hol.lt; exact ⟨by omega, by omega⟩
    by_cases hq : q = 0
    · have hq0 : ((q : Int) == 0) = true := by simp [hq]
      have hq1 : ¬ (q : Int) > 0 := by omega
      by_cases hp : p = 0
      · have hp1 : ¬ (p : Int) > 0 := by omega
        have HE : Hid (M = ms) := by show _ = _; rw [HK.out.is, hp, hq]; rfl
        go_wp2
        go_end0
        exact ⟨rfl, by rw [HE.out]; exact HT.out, HO.out.1, HO.out.2, by rw [HE.out]; exact HK.out.few⟩
      · have hp1 : (p : Int) > 0 := by omega
        have hp2 : 0 < p := by omega
        obtain ⟨P, HPP⟩ : ∃ P, Hid (p = P + 1) := ⟨p - 1, by show _ = _; omega⟩
        have HK2 : Hid (Bak ls M P q (sb ms p q (box ms P q))) := by have := HK.out; rw [HPP.out] at this ⊢; exact this.up (Or.inl hq)
        obtain ⟨g', hb2, ch2, m2, hg', -, -, -, hqm2, -, hcg2, hcb2, -, -, -, -⟩ := HT.out.open HK.out.few (i := P) (j := q) (by have := HK.out.hol.sk.shp.shorter' (a := P) (b := p) (by have := HPP.out; omega); have := HK.out.hol.lt; omega)
        simp only [Option.some.injEq, Addr.mk.injEq, and_true] at hg'
        subst hg'
        obtain ⟨z, HZ⟩ : ∃ z, Hid (z = box ms P q) := ⟨_, rfl⟩
        rw [← HZ.out] at hcb2
        have hP : IntKind.i64.wrap ((p : Int) - 1) = (P : Int) := by have := HPP.out; have := HP.out; rw [IntWalk.i64_left, IntWalk.wrap64_in _ (by omega)]; omega
        have hPn : (P : Int) < (n : Int) := by have := HPP.out; omega
        have hqm3 : (q : Int) < (m2 : Int) := by omega
        have HPlt : Hid (P < p) := by have := HPP.out; show _ < _; omega
        clear hp hq
        go_wp2_with fail
        go_quiet (fail)
        go_wp2_with fail
        go_region
        go_wp2
        go_roundw
        case rel => exact ⟨P, q, _, rfl, rfl, HK2, by rw [← HZ.out]; exact HST.out z _ rfl, ⟨(HO.out.1.drewN _).setCell HSh.out _, by have := HO.out.2; simpa [World.drew] using this⟩⟩
        case measure => have := HPlt.out; simp [intOf]; omega
    · have hq0 : ((q : Int) == 0) = false := by simp; omega
      have hq1 : (q : Int) > 0 := by omega
      have hq2 : 0 < q := by omega
      obtain ⟨Q, HQQ⟩ : ∃ Q, Hid (q = Q + 1) := ⟨q - 1, by show _ = _; omega⟩
      obtain ⟨g', hb', ch', m', hg', -, HRv', -, -, -, -, hcz, -, -, -, -⟩ := HT.out.open HK.out.few (i := p) (j := Q) (by have := HK.out.hol.lt; have := HQQ.out; omega)
      have e1 := HRv'.out
      rw [HRv.out] at e1
      simp only [Value.slice.injEq, Option.some.injEq, Addr.mk.injEq, and_true] at e1
      obtain ⟨rfl, rfl, rfl⟩ := e1
      clear hg' HRv'
      obtain ⟨z, HZ⟩ : ∃ z, Hid (z = box ms p Q) := ⟨_, rfl⟩
      rw [← HZ.out] at hcz
      have hQ : IntKind.i64.wrap ((q : Int) - 1) = (Q : Int) := by have := HQQ.out; have := HP.out; rw [IntWalk.i64_left, IntWalk.wrap64_in _ (by omega)]; omega
      have hQm : (Q : Int) < (m : Int) := by have := HQQ.out; omega
      have HQlt : Hid (Q < q) := by have := HQQ.out; show _ < _; omega
      by_cases hp : p = 0
      · have hp1 : decide ((p : Int) > 0) = false := by simp [hp]
        have hp2 : decide (0 < p) = false := by simp [hp]
        have HK2 : Hid (Bak ls M p Q (sb ms p q (box ms p Q))) := by have := HK.out; rw [HQQ.out] at this ⊢; exact this.lf (fun h => by omega)
        clear hq hp
        go_wp2_with fail
        go_quiet (fail)
        go_wp2_with fail
        go_region
        go_wp2
        go_roundw
        case rel => exact ⟨p, Q, _, rfl, rfl, HK2, by rw [← HZ.out]; exact HST.out z _ rfl, ⟨(HO.out.1.drewN _).setCell HSh.out _, by have := HO.out.2; simpa [World.drew] using this⟩⟩
        case measure => have := HQlt.out; simp [intOf]; omega
      · have hp1 : (p : Int) > 0 := by omega
        have hp2 : 0 < p := by omega
        obtain ⟨P, HPP⟩ : ∃ P, Hid (p = P + 1) := ⟨p - 1, by show _ = _; omega⟩
        obtain ⟨g', hb2, ch2, m2, hg', -, -, -, hqm2, -, hcg2, hcy, -, -, -, -⟩ := HT.out.open HK.out.few (i := P) (j := q) (by have := HK.out.hol.sk.shp.shorter' (a := P) (b := p) (by have := HPP.out; omega); have := HK.out.hol.lt; omega)
        simp only [Option.some.injEq, Addr.mk.injEq, and_true] at hg'
        subst hg'
        obtain ⟨y, HY⟩ : ∃ y, Hid (y = box ms P q) := ⟨_, rfl⟩
        rw [← HY.out] at hcy
        have hP : IntKind.i64.wrap ((p : Int) - 1) = (P : Int) := by have := HPP.out; have := HP.out; rw [IntWalk.i64_left, IntWalk.wrap64_in _ (by omega)]; omega
        have hPn : (P : Int) < (n : Int) := by have := HPP.out; omega
        have hqm3 : (q : Int) < (m2 : Int) := by omega
        have HPlt : Hid (P < p) := by have := HPP.out; show _ < _; omega
        by_cases hyz : y > z
        · have HK2 : Hid (Bak ls M P q (sb ms p q (box ms P q))) := by
            have := HK.out
            have h1 : box ms p (q - 1) < box ms P q := by rw [← HY.out, show q - 1 = Q by have := HQQ.out; omega, ← HZ.out]; exact hyz
            rw [HPP.out] at this h1 ⊢
            exact this.up (Or.inr h1)
          clear hq hp
          go_wp2_with fail
          go_quiet (fail)
          go_wp2_with fail
          go_region
          go_wp2
          go_roundw
          case rel => exact ⟨P, q, _, rfl, rfl, HK2, by rw [← HY.out]; exact HST.out y _ rfl, ⟨(HO.out.1.drewN _).setCell HSh.out _, by have := HO.out.2; simpa [World.drew] using this⟩⟩
          case measure => have := HPlt.out; simp [intOf]; omega
        · have HK2 : Hid (Bak ls M p Q (sb ms p q (box ms p Q))) := by
            have := HK.out
            have h1 : ¬ box ms p Q < box ms (p - 1) q := by rw [← HZ.out, show p - 1 = P by have := HPP.out; omega, ← HY.out]; exact hyz
            rw [HQQ.out] at this h1 ⊢
            exact this.lf (fun _ => h1)
          clear hq hp
          go_wp2_with fail
          go_quiet (fail)
          go_wp2_with fail
          go_region
          go_wp2
          go_roundw
          case rel => exact ⟨p, Q, _, rfl, rfl, HK2, by rw [← HZ.out]; exact HST.out z _ rfl, ⟨(HO.out.1.drewN _).setCell HSh.out _, by have := HO.out.2; simpa [World.drew] using this⟩⟩
          case measure => have := HQlt.out; simp [intOf]; omega

end Go.Proofs.Ytjciandmpfcfjaa

namespace Go.Proofs.Ytjciandmpfcfjaa
open Go.RowKit

theorem std_nil {ls : List (List Int)} (h : Std ls.flatten.length ls) (h0 : ls.flatten.length = 0) : ls = [] := by
  cases ls with
  | nil => rfl
  | cons r t =>
    have := h.tab.1
    rw [List.flatten_cons, List.length_append] at h0
    omega
def proT (ls : List (List Int)) : List (List Int) := if ls.flatten.length = 0 then [] else pr ls.flatten.length ls
theorem few_std {n : Nat} {ls : List (List Int)} (h : Std n ls) : Few ls := h.tabs.few'
theorem few500 {ls : List (List Int)} (h : ∀ a b, b < (row ls a).length → -500 ≤ box ls a b ∧ box ls a b ≤ 500) : ∀ r ∈ ls, ∀ z ∈ r, -500 ≤ z ∧ z ≤ 500 := fun r hr z hz => by
  obtain ⟨a, ha, rfl⟩ := mem_row hr
  obtain ⟨b, hb, rfl⟩ := List.mem_iff_getElem.1 hz
  have := h a b hb
  unfold box at this
  simpa [List.getD, List.getElem?_eq_getElem hb] using this

/-- Before the letters are made less. -/
def prB (n : Nat) (t : List (List Int)) : List (List Int) := sb (mv (left t 0 0) t 0 0).1 (mv (left t 0 0) t 0 0).2.1 (mv (left t 0 0) t 0 0).2.2 ((n : Int) + 1)
theorem prB_bd {n : Nat} {t : List (List Int)} (h : Std n t) (h0 : 0 < n) : ∀ r ∈ prB n t, ∀ z ∈ r, -500 ≤ z ∧ z ≤ 500 := by
  refine few500 (fun a b hb => ?_)
  have hs := (pr_ok h h0).1
  have e : pr n t = rais (-1) (prB n t) := rfl
  have hb2 : b < (row (pr n t) a).length := by rw [e, rais_len]; exact hb
  have := hs.box hb2
  rw [e, rais_box hb] at this
  have h40 := h.perm.len
  rw [h.len] at h40
  omega

set_option maxHeartbeats 8000000 in
theorem Promote_ok (a : Option Addr) (n cap : Nat) (ls : List (List Int)) (w : World) (hs : Table w a ls) (hn : n = ls.length) (hl : ls.length ≤ 17592186044416) (hc : scode ls = 0) :
    Calls Try.prog 31 #[.slice a n cap] w fun e w' => ∃ v, e = .returned (.tuple #[v, .int .i64 0]) ∧ Tbl w' w.heap.size v (proT ls) ∧ Below w.heap.size w w' := by
  subst hn
  obtain ⟨hS, h40⟩ := scode_ok.1 hc
  have HS : Hid (Table w a ls) := hs
  have HStd : Hid (Std ls.flatten.length ls) := hS
  have HF : Hid (Few ls) := few_std hS
  have HC : Hid (scode ls = 0) := hc
  obtain ⟨N, HN⟩ : ∃ N, Hid (N = ls.flatten.length) := ⟨_, rfl⟩
  have hN : N ≤ 40 := by rw [HN.out]; exact h40
  clear hs hS hc h40
  go_enter Try.func31, Try.ntmps31
  go_wp2_with fail
  refine (checkStandard_at a ls.length cap ls w HS.out hl rfl).mono ?_
  rintro e w1 ⟨rfl, hb1⟩
  have HB1 : Hid (Below w.heap.size w w1) := hb1
  rw [HC.out]
  clear hb1
  go_wp2_with fail
  refine (scopied_at a ls.length cap ls w1 (HS.out.below HB1.out) rfl HF.out.len HF.out.one).mono ?_
  rintro e w2 ⟨v, rfl, hT2, hb2⟩
  have HB2 : Hid (Below w.heap.size w w2) := HB1.out.trans (hb2.mono HB1.out.size)
  have HT2 : Hid (Tbl w2 w.heap.size v ls) := hT2.mono HB1.out.size
  clear hT2 hb2
  go_wp2_with fail
  refine (sboxesOf_at a ls.length cap ls w2 (HS.out.below HB2.out) rfl (by have := HF.out.len; omega) (by rw [← HN.out]; omega)).mono ?_
  rintro e w3 ⟨rfl, rfl⟩
  rw [← HN.out]
  by_cases h0 : N = 0
  · have hg : ¬ (N : Int) > 0 := by omega
    have HE : Hid (proT ls = ls) := by
      show _ = _
      have e := HN.out
      rw [h0] at e
      unfold proT
      rw [if_pos e.symm, std_nil HStd.out e.symm]
    obtain ⟨va, vc, hv⟩ : ∃ va vc, v = .slice va ls.length vc := by obtain ⟨vs, h⟩ := HT2.out; exact h.shape
    subst hv
    subst h0
    go_wp2
    go_ret2
    exact ⟨_, rfl, by rw [HE.out]; exact HT2.out, HB2.out⟩
  · have hg : (N : Int) > 0 := by omega
    have hg2 : 0 < N := by omega
    have HE : Hid (proT ls = rais (-1) (prB N ls)) := by
      show _ = _
      unfold proT
      rw [← HN.out, if_neg h0]; rfl
    have HStN : Hid (Std N ls) := by have := HStd.out; rw [← HN.out] at this; exact this
    obtain ⟨vs, hTI⟩ := TIn.of_tbl HT2.out
    obtain ⟨va, vc, hv⟩ := hTI.t.shape
    subst hv
    have HTI : Hid (TblIn w3 w.heap.size (fun k => w.heap.size ≤ k ∧ k < w3.heap.size) (.slice va ls.length vc) vs ls) := hTI
    clear hTI
    have HH := T_hol HStN.out.tab HStN.out.pos (HStN.out.some hg2)
    go_wp2_with fail
    refine (moved_at va ls.length vc vs 0 0 w3 HTI.out HF.out HH).mono ?_
    rintro e w4 ⟨rfl, hT4, hO4, hz4, hF4⟩
    have HEnd := mv_ends _ _ ls 0 0 HH (Nat.le_refl _)
    have HBd : Hid (∀ r ∈ prB N ls, ∀ z ∈ r, -500 ≤ z ∧ z ≤ 500) := prB_bd HStN.out hg2
    unfold prB at HE HBd
    obtain ⟨ms, mi, mj, hM⟩ : ∃ ms mi mj, mv (left ls 0 0) ls 0 0 = (ms, mi, mj) := ⟨_, _, _, rfl⟩
    rw [hM] at hT4 hF4 HEnd HE HBd ⊢
    simp only at hT4 hF4 HEnd HE HBd ⊢
    have HHol : Hid (Hol (fun _ => 0) ms mi mj) := HEnd.hol
    have HT4 : Hid (TblIn w4 w.heap.size (fun k => w.heap.size ≤ k ∧ k < w3.heap.size) (.slice va ls.length vc) vs ms) := hT4
    have HF4 : Hid (Few ms) := hF4
    have HO4 : Hid (Off (fun k => w.heap.size ≤ k ∧ k < w3.heap.size) w3 w4) := hO4
    clear HEnd hT4 hF4 hO4 hM HH
    obtain ⟨g, hb, ch, m, rfl, hnl, HRv, HMm, hjm, hm1, hcg, hcb, hfb, HSh, hgl, hhl⟩ := HT4.out.open HF4.out (i := mi) HHol.out.lt
    have hmi : (mi : Int) < (ls.length : Int) := by have := HHol.out.row; omega
    have hmj : (mj : Int) < (m : Int) := by omega
    have hN1 : IntKind.i64.wrap ((N : Int) + 1) = (N : Int) + 1 := by rw [IntWalk.i64_left, IntWalk.wrap64_in _ (by omega)]
    have HT5 : Hid (TblIn (w4.setCell ⟨hb, mj, none⟩ (.int .i64 ((N : Int) + 1))) w.heap.size (fun k => w.heap.size ≤ k ∧ k < w3.heap.size) (.slice (some ⟨g, 0, none⟩) ls.length vc) vs (sb ms mi mj ((N : Int) + 1))) := HT4.out.sbox HHol.out.row HRv.out HMm.out _
    have HF5 : Hid (Few (sb ms mi mj ((N : Int) + 1))) := HF4.out.sb _ _ (by omega)
    have HO5 : Hid (Off (fun k => w.heap.size ≤ k ∧ k < w3.heap.size) w3 (w4.setCell ⟨hb, mj, none⟩ (.int .i64 ((N : Int) + 1)))) := HO4.out.setCell HSh.out _
    clear hnl
    go_wp2_with fail
    refine (raise_at _ _ _ _ (-1) _ HT5.out HF5.out HBd.out (by omega)).mono ?_
    rintro e w6 ⟨rfl, hT6, hO6, hz6⟩
    have HT6 : Hid (Tbl w6 w.heap.size (.slice (some ⟨g, 0, none⟩) ls.length vc) (proT ls)) := by show Tbl _ _ _ _; rw [HE.out]; exact TIn.tbl ⟨_, hT6⟩
    have HB6 : Hid (Below w.heap.size w w6) := by
      have h1 := HO5.out.below (B := w.heap.size) HB2.out.size (fun k hk => hk.1)
      have h2 := hO6.below (B := w.heap.size) (Nat.le_trans HB2.out.size h1.size) (fun k hk => hk.1)
      exact HB2.out.trans (h1.trans h2)
    clear hT6 hO6 hz6
    go_wp2
    go_ret2
    exact ⟨_, rfl, HT6.out, HB6.out⟩

/-- Where the greatest number stands. -/
theorem std_last {n : Nat} {ls : List (List Int)} (h : Std n ls) (h0 : 0 < n) : ∃ i, i < ls.length ∧ lastOf (row ls i) = (n : Int) := by
  obtain ⟨a, b, ha, hb, e⟩ := flat_mem (wrd_mem.1 (h.all (v := (n : Int)) (by omega) (by omega)))
  refine ⟨a, ha, ?_⟩
  have h1 := row_le_last (T_row.1 h.tab a ha).2.1 hb
  have h2 := (h.box (a := a) (b := (row ls a).length - 1) (by omega)).2
  unfold box at e h2
  unfold lastOf at h1 ⊢
  omega
/-- What Promote makes it of. -/
def demT (ls : List (List Int)) : List (List Int) := if ls.flatten.length = 0 then [] else evT ls.flatten.length (pr ls.flatten.length (evT ls.flatten.length ls))
theorem demT_is {n : Nat} {ls : List (List Int)} (h : Std n ls) (h0 : 0 < n) {i j : Nat} (hj : j < (row ls i).length) (hb : box ls i j = n) : demT ls = dm ls i j := by
  unfold demT
  rw [h.flat, if_neg (by omega)]
  obtain ⟨d1, d2⟩ := dm_ok h hj hb
  obtain ⟨p1, p2⟩ := pr_ok (evT_std h) h0
  exact d2.back d1 h p2 p1
theorem dmB_bd {n : Nat} {t : List (List Int)} (h : Std n t) {i j : Nat} (hj : j < (row t i).length) (hb : box t i j = n) : ∀ r ∈ sb (mb (i + j) t i j) 0 0 0, ∀ z ∈ r, -500 ≤ z ∧ z ≤ 500 := by
  refine few500 (fun a b hb' => ?_)
  have hs := (dm_ok h hj hb).1
  have e : dm t i j = rais 1 (sb (mb (i + j) t i j) 0 0 0) := rfl
  have hb2 : b < (row (dm t i j) a).length := by rw [e, rais_len]; exact hb'
  have := hs.box hb2
  rw [e, rais_box hb'] at this
  have h40 := h.perm.len
  rw [h.len] at h40
  omega

set_option maxHeartbeats 8000000 in
theorem Demote_ok (a : Option Addr) (n cap : Nat) (ls : List (List Int)) (w : World) (hs : Table w a ls) (hn : n = ls.length) (hl : ls.length ≤ 17592186044416) (hc : scode ls = 0) :
    Calls Try.prog 32 #[.slice a n cap] w fun e w' => ∃ v, e = .returned (.tuple #[v, .int .i64 0]) ∧ Tbl w' w.heap.size v (demT ls) ∧ Below w.heap.size w w' := by
  subst hn
  obtain ⟨hS, h40⟩ := scode_ok.1 hc
  have HS : Hid (Table w a ls) := hs
  have HStd : Hid (Std ls.flatten.length ls) := hS
  have HF : Hid (Few ls) := few_std hS
  have HC : Hid (scode ls = 0) := hc
  obtain ⟨N, HN⟩ : ∃ N, Hid (N = ls.flatten.length) := ⟨_, rfl⟩
  have hN : N ≤ 40 := by rw [HN.out]; exact h40
  clear hs hS hc h40
  go_enter Try.func32, Try.ntmps32
  go_wp2_with fail
  refine (checkStandard_at a ls.length cap ls w HS.out hl rfl).mono ?_
  rintro e w1 ⟨rfl, hb1⟩
  have HB1 : Hid (Below w.heap.size w w1) := hb1
  rw [HC.out]
  clear hb1
  go_wp2_with fail
  refine (scopied_at a ls.length cap ls w1 (HS.out.below HB1.out) rfl HF.out.len HF.out.one).mono ?_
  rintro e w2 ⟨v, rfl, hT2, hb2⟩
  have HB2 : Hid (Below w.heap.size w w2) := HB1.out.trans (hb2.mono HB1.out.size)
  have HT2 : Hid (Tbl w2 w.heap.size v ls) := hT2.mono HB1.out.size
  clear hT2 hb2
  go_wp2_with fail
  refine (sboxesOf_at a ls.length cap ls w2 (HS.out.below HB2.out) rfl (by have := HF.out.len; omega) (by rw [← HN.out]; omega)).mono ?_
  rintro e w3 ⟨rfl, rfl⟩
  rw [← HN.out]
  by_cases h0 : N = 0
  · have hg : ¬ (N : Int) > 0 := by omega
    have HE : Hid (demT ls = ls) := by
      show _ = _
      have e := HN.out
      rw [h0] at e
      unfold demT
      rw [if_pos e.symm, std_nil HStd.out e.symm]
    obtain ⟨va, vc, hv⟩ : ∃ va vc, v = .slice va ls.length vc := by obtain ⟨vs, h⟩ := HT2.out; exact h.shape
    subst hv
    subst h0
    go_wp2
    go_ret2
    exact ⟨_, rfl, by rw [HE.out]; exact HT2.out, HB2.out⟩
  · have hg : (N : Int) > 0 := by omega
    have hg2 : 0 < N := by omega
    have HStN : Hid (Std N ls) := by have := HStd.out; rw [← HN.out] at this; exact this
    have HE : Hid (∀ i j, j < (row ls i).length → box ls i j = N → demT ls = dm ls i j) := fun i j hj hb => by
      show _ = _
      exact demT_is HStN.out hg2 hj hb
    obtain ⟨vs, hTI⟩ := TIn.of_tbl HT2.out
    obtain ⟨va, vc, hv⟩ := hTI.t.shape
    subst hv
    have HTI : Hid (TblIn w3 w.heap.size (fun k => w.heap.size ≤ k ∧ k < w3.heap.size) (.slice va ls.length vc) vs ls) := hTI
    clear hTI
    obtain ⟨pa, pn, pc, hsl, hTb, hnn⟩ := (TIn.tbl ⟨vs, HTI.out⟩).table HF.out.bd
    simp only [Value.slice.injEq] at hsl
    obtain ⟨rfl, rfl, rfl⟩ := hsl
    have HTb : Hid (Table w3 va ls) := hTb
    clear hTb hnn
    go_wp2_with fail
    refine (boxOf_at va ls.length vc ls (N : Int) w3 HTb.out rfl HF.out (std_last HStN.out hg2)).mono ?_
    rintro e w4 ⟨i, j, rfl, hi, hj, hla, d4, hw4⟩
    have HJ : Hid (j < (row ls i).length) := by show _ < _; omega
    have HBx : Hid (box ls i j = N) := by show _ = _; rw [← hla]; unfold lastOf box; rw [← hj]; simp
    have HHol : Hid (Hol (fun _ => 0) ls i j) := ⟨T_sk HStN.out.tab HStN.out.pos _, Nat.zero_le _, HJ.out⟩
    have HT4 : Hid (TblIn w4 w.heap.size (fun k => w.heap.size ≤ k ∧ k < w3.heap.size) (.slice va ls.length vc) vs ls) := by rw [hw4]; exact HTI.out.same (fun _ _ => rfl)
    have HO4 : Hid (Off (fun k => w.heap.size ≤ k ∧ k < w3.heap.size) w3 w4) := by rw [hw4]; exact (Off.refl _ _).drewN d4
    have HZ4 : Hid (w4.heap.size = w3.heap.size) := by rw [hw4]; rfl
    clear hla hw4 hi hj
    go_wp2_with fail
    refine (moveBack_at va ls.length vc vs i j w4 HT4.out HF.out HHol.out (HStN.out.dis i j)).mono ?_
    rintro e w5 ⟨rfl, hT5, hO5, hz5, hF5⟩
    obtain ⟨k1, k2, k3, -⟩ := mb_ok (i + j) ls i j rfl HHol.out (HStN.out.dis i j)
    have HBd : Hid (∀ r ∈ sb (mb (i + j) ls i j) 0 0 0, ∀ z ∈ r, -500 ≤ z ∧ z ≤ 500) := dmB_bd HStN.out HJ.out HBx.out
    have HE2 : Hid (demT ls = rais 1 (sb (mb (i + j) ls i j) 0 0 0)) := HE.out i j HJ.out HBx.out
    obtain ⟨ms, hM⟩ : ∃ ms, mb (i + j) ls i j = ms := ⟨_, rfl⟩
    rw [hM] at hT5 hF5 k1 k2 k3 HBd HE2
    have HHo2 : Hid (Hol (fun _ => 0) ms 0 0) := k1
    have HT5 : Hid (TblIn w5 w.heap.size (fun k => w.heap.size ≤ k ∧ k < w3.heap.size) (.slice va ls.length vc) vs ms) := hT5
    have HF5 : Hid (Few ms) := hF5
    have HO5 : Hid (Off (fun k => w.heap.size ≤ k ∧ k < w3.heap.size) w3 w5) := HO4.out.trans ⟨hO5.low, fun k hk hs => hO5.block k hk (fun q => hs (Or.inl q))⟩
    clear k1 k2 k3 hT5 hF5 hO5 hM hz5 HE
    obtain ⟨g, hb, ch, m, rfl, hnl, HRv, HMm, hjm, hm1, hcg, hcb, hfb, HSh, hgl, hhl⟩ := HT5.out.open HF5.out (i := 0) HHo2.out.lt
    have hmi : (0 : Int) < (ls.length : Int) := by have := HHo2.out.row; omega
    have hmj : (0 : Int) < (m : Int) := by omega
    have HT6 : Hid (TblIn (w5.setCell ⟨hb, 0, none⟩ (.int .i64 0)) w.heap.size (fun k => w.heap.size ≤ k ∧ k < w3.heap.size) (.slice (some ⟨g, 0, none⟩) ls.length vc) vs (sb ms 0 0 0)) := HT5.out.sbox HHo2.out.row HRv.out HMm.out _
    have HF6 : Hid (Few (sb ms 0 0 0)) := HF5.out.sb _ _ (by omega)
    have HO6 : Hid (Off (fun k => w.heap.size ≤ k ∧ k < w3.heap.size) w3 (w5.setCell ⟨hb, 0, none⟩ (.int .i64 0))) := HO5.out.setCell HSh.out _
    clear hnl
    go_wp2_with fail
    refine (raise_at _ _ _ _ 1 _ HT6.out HF6.out HBd.out (by omega)).mono ?_
    rintro e w6 ⟨rfl, hT7, hO7, hz7⟩
    have HT7 : Hid (Tbl w6 w.heap.size (.slice (some ⟨g, 0, none⟩) ls.length vc) (demT ls)) := by show Tbl _ _ _ _; rw [HE2.out]; exact TIn.tbl ⟨_, hT7⟩
    have HB7 : Hid (Below w.heap.size w w6) := by
      have h1 := HO6.out.below (B := w.heap.size) HB2.out.size (fun k hk => hk.1)
      have h2 := hO7.below (B := w.heap.size) (Nat.le_trans HB2.out.size h1.size) (fun k hk => hk.1)
      exact HB2.out.trans (h1.trans h2)
    clear hT7 hO7 hz7
    go_wp2
    go_ret2
    exact ⟨_, rfl, HT7.out, HB7.out⟩
set_option maxHeartbeats 2000000 in
theorem Promote_err (a : Option Addr) (n cap : Nat) (ls : List (List Int)) (w : World) (hs : Table w a ls) (hn : n = ls.length) (hl : ls.length ≤ 17592186044416) (hc : scode ls ≠ 0) :
    Calls Try.prog 31 #[.slice a n cap] w fun e w' => e = .returned (.tuple #[.slice none 0 0, .int .i64 (scode ls)]) ∧ Below w.heap.size w w' := by
  subst hn
  have HS : Hid (Table w a ls) := hs
  obtain ⟨c, HC⟩ : ∃ c, Hid (c = scode ls) := ⟨_, rfl⟩
  have hc0 : (c != 0) = true := by rw [HC.out]; exact bne_iff_ne.2 hc
  rw [← HC.out]
  clear hs hc
  go_enter Try.func31, Try.ntmps31
  go_wp2_with fail
  refine (checkStandard_at a ls.length cap ls w HS.out hl rfl).mono ?_
  rintro e w1 ⟨rfl, hb1⟩
  have HB1 : Hid (Below w.heap.size w w1) := hb1
  rw [← HC.out]
  clear hb1
  go_wp2
  go_ret2
  exact ⟨rfl, HB1.out⟩
/-- In both cases. -/
theorem Promote_at (a : Option Addr) (n cap : Nat) (ls : List (List Int)) (w : World) (hs : Table w a ls) (hn : n = ls.length) (hl : ls.length ≤ 17592186044416) :
    Calls Try.prog 31 #[.slice a n cap] w fun e w' => ∃ v, e = .returned (.tuple #[v, .int .i64 (scode ls)]) ∧ Tbl w' w.heap.size v (if scode ls = 0 then proT ls else []) ∧ Below w.heap.size w w' := by
  by_cases c : scode ls = 0
  · refine (Promote_ok a n cap ls w hs hn hl c).mono ?_
    rintro e w' ⟨v, rfl, h1, h2⟩
    exact ⟨v, by rw [c], by rw [if_pos c]; exact h1, h2⟩
  · refine (Promote_err a n cap ls w hs hn hl c).mono ?_
    rintro e w' ⟨rfl, h2⟩
    exact ⟨_, rfl, by rw [if_neg c]; exact Tbl.nil _ _, h2⟩
set_option maxHeartbeats 2000000 in
theorem Demote_err (a : Option Addr) (n cap : Nat) (ls : List (List Int)) (w : World) (hs : Table w a ls) (hn : n = ls.length) (hl : ls.length ≤ 17592186044416) (hc : scode ls ≠ 0) :
    Calls Try.prog 32 #[.slice a n cap] w fun e w' => e = .returned (.tuple #[.slice none 0 0, .int .i64 (scode ls)]) ∧ Below w.heap.size w w' := by
  subst hn
  have HS : Hid (Table w a ls) := hs
  obtain ⟨c, HC⟩ : ∃ c, Hid (c = scode ls) := ⟨_, rfl⟩
  have hc0 : (c != 0) = true := by rw [HC.out]; exact bne_iff_ne.2 hc
  rw [← HC.out]
  clear hs hc
  go_enter Try.func32, Try.ntmps32
  go_wp2_with fail
  refine (checkStandard_at a ls.length cap ls w HS.out hl rfl).mono ?_
  rintro e w1 ⟨rfl, hb1⟩
  have HB1 : Hid (Below w.heap.size w w1) := hb1
  rw [← HC.out]
  clear hb1
  go_wp2
  go_ret2
  exact ⟨rfl, HB1.out⟩
/-- In both cases. -/
theorem Demote_at (a : Option Addr) (n cap : Nat) (ls : List (List Int)) (w : World) (hs : Table w a ls) (hn : n = ls.length) (hl : ls.length ≤ 17592186044416) :
    Calls Try.prog 32 #[.slice a n cap] w fun e w' => ∃ v, e = .returned (.tuple #[v, .int .i64 (scode ls)]) ∧ Tbl w' w.heap.size v (if scode ls = 0 then demT ls else []) ∧ Below w.heap.size w w' := by
  by_cases c : scode ls = 0
  · refine (Demote_ok a n cap ls w hs hn hl c).mono ?_
    rintro e w' ⟨v, rfl, h1, h2⟩
    exact ⟨v, by rw [c], by rw [if_pos c]; exact h1, h2⟩
  · refine (Demote_err a n cap ls w hs hn hl c).mono ?_
    rintro e w' ⟨rfl, h2⟩
    exact ⟨_, rfl, by rw [if_neg c]; exact Tbl.nil _ _, h2⟩

end Go.Proofs.Ytjciandmpfcfjaa

namespace Go.Proofs.Ytjciandmpfcfjaa
open Go.RowKit

def evaT (ls : List (List Int)) : List (List Int) := evT ls.flatten.length ls

theorem EvI.inn {n : Nat} {t : List (List Int)} (hs : Std n t) {k : Nat} {rest u : List (List Int)} (h : EvI n t k rest u) {a b : Nat} (hb : b < (row rest a).length) : b < (row u a).length := by
  have sh := shape_rs hs (n - k) a b
  rw [← h.word.P, wrd_T _ h.tab] at sh
  rw [h.shape a]; exact (sh.1 hb).1

set_option maxHeartbeats 8000000 in
theorem Evacuate_ok (a : Option Addr) (n cap : Nat) (ls : List (List Int)) (w : World) (hs : Table w a ls) (hn : n = ls.length) (hl : ls.length ≤ 17592186044416) (hc : scode ls = 0) :
    Calls Try.prog 30 #[.slice a n cap] w fun e w' => ∃ v, e = .returned (.tuple #[v, .int .i64 0]) ∧ Tbl w' w.heap.size v (evaT ls) ∧ Below w.heap.size w w' := by
  subst hn
  obtain ⟨hS, h40⟩ := scode_ok.1 hc
  have HS : Hid (Table w a ls) := hs
  have HF : Hid (Few ls) := few_std hS
  have HC : Hid (scode ls = 0) := hc
  obtain ⟨N, HN⟩ : ∃ N, Hid (N = ls.flatten.length) := ⟨_, rfl⟩
  have hN : N ≤ 40 := by rw [HN.out]; exact h40
  have HStN : Hid (Std N ls) := by have := hS; rw [← HN.out] at this; exact this
  clear hs hS hc h40
  go_enter Try.func30, Try.ntmps30
  go_wp2_with fail
  refine (checkStandard_at a ls.length cap ls w HS.out hl rfl).mono ?_
  rintro e w1 ⟨rfl, hb1⟩
  have HB1 : Hid (Below w.heap.size w w1) := hb1
  rw [HC.out]
  clear hb1
  go_wp2_with fail
  refine (scopied_at a ls.length cap ls w1 (HS.out.below HB1.out) rfl HF.out.len HF.out.one).mono ?_
  rintro e w2 ⟨v, rfl, hT2, hb2⟩
  have HB2 : Hid (Below w.heap.size w w2) := HB1.out.trans (hb2.mono HB1.out.size)
  obtain ⟨vs, hI2⟩ := TIn.of_tbl hT2
  have HI2 : Hid (TblIn w2 w.heap.size (fun k => w1.heap.size ≤ k ∧ k < w2.heap.size) v vs ls) := hI2.mono HB1.out.size
  have HZ12 : Hid (w1.heap.size ≤ w2.heap.size) := hb2.size
  clear hT2 hb2 hI2
  go_wp2_with fail
  refine (scopied_at a ls.length cap ls w2 (HS.out.below HB2.out) rfl HF.out.len HF.out.one).mono ?_
  rintro e w3 ⟨u, rfl, hT3, hb3⟩
  have HB3 : Hid (Below w.heap.size w w3) := HB2.out.trans (hb3.mono HB2.out.size)
  obtain ⟨us, hI3⟩ := TIn.of_tbl hT3
  have HU3 : Hid (TblIn w3 w.heap.size (fun k => w2.heap.size ≤ k ∧ k < w3.heap.size) u us ls) := hI3.mono HB2.out.size
  have HI3 : Hid (TblIn w3 w.heap.size (fun k => w1.heap.size ≤ k ∧ k < w2.heap.size) v vs ls) := HI2.out.same (fun k hk => hb3.block k hk.2)
  have HZs : Hid (w.heap.size ≤ w1.heap.size ∧ w1.heap.size ≤ w2.heap.size ∧ w2.heap.size ≤ w3.heap.size) := ⟨HB1.out.size, HZ12.out, hb3.size⟩
  clear hT3 hb3 hI3 HI2
  go_wp2_with fail
  refine (sboxesOf_at a ls.length cap ls w3 (HS.out.below HB3.out) rfl (by have := HF.out.len; omega) (by rw [← HN.out]; omega)).mono ?_
  rintro e w4 ⟨rfl, rfl⟩
  rw [← HN.out]
  obtain ⟨ua, uc, hu⟩ := HU3.out.t.shape
  subst hu
  obtain ⟨va, vc, hv⟩ := HI3.out.t.shape
  subst hv
  go_wp2
  go_loopw [5, 7] (fun rv nv wr => ∃ (k rn : Nat) (ra : Option Addr) (rc : Nat) (rest tur : List (List Int)), k ≤ 40 ∧ nv = .int .i64 k ∧ rv = .slice ra rn rc ∧ Hid (EvI N ls k rest tur) ∧ Hid (Few rest ∧ Few tur) ∧
    Hid (TIn wr w.heap.size (fun k => w1.heap.size ≤ k ∧ k < w2.heap.size) (.slice ra rn rc) rest) ∧ Hid (TblIn wr w.heap.size (fun k => w2.heap.size ≤ k ∧ k < w4.heap.size) (.slice ua ls.length uc) us tur) ∧ Hid (Below w.heap.size w wr ∧ wr.heap.size = w4.heap.size)) (fun _ nv _ => (intOf nv).toNat)
  case atStart => exact ⟨N, _, _, _, ls, ls, hN, rfl, rfl, ev_start HStN.out, ⟨HF.out, HF.out⟩, ⟨_, HI3.out⟩, HU3, ⟨HB3.out, rfl⟩⟩
  case round =>
    obtain ⟨k, rn, ra, rc, rest, tur, hk, rfl, rfl, HE, HFf, HR, HU, HB⟩ := hrel
    cases k with
    | zero =>
      have HEnd : Hid (tur = evaT ls) := by
        show _ = _
        have := ev_is HStN.out 0 rest tur HE.out
        unfold evaT; rw [← HN.out]; exact this
      go_wp2
      go_ret2
      exact ⟨_, rfl, by rw [← HEnd.out]; exact TIn.tbl ⟨_, HU.out⟩, HB.out.1⟩
    | succ k =>
      obtain ⟨hr0, hnext⟩ := ev_more HStN.out HE.out
      obtain ⟨rs, hR⟩ := HR.out
      have HRI : Hid (TblIn wr w.heap.size (fun k => w1.heap.size ≤ k ∧ k < w2.heap.size) (.slice ra rn rc) rs rest) := hR
      have HH := T_hol HE.out.tab HE.out.pos hr0
      have HEn := mv_ends _ _ rest 0 0 HH (Nat.le_refl _)
      have HNx : Hid (EvI N ls k (tk (mv (left rest 0 0) rest 0 0).1 (mv (left rest 0 0) rest 0 0).2.1) (sb tur (mv (left rest 0 0) rest 0 0).2.1 (mv (left rest 0 0) rest 0 0).2.2 ((k : Int) + 1))) := hnext
      have hg : ((k + 1 : Nat) : Int) > 0 := by omega
      have hkk : IntKind.i64.wrap (((k + 1 : Nat) : Int) - 1) = (k : Int) := by rw [IntWalk.i64_left, IntWalk.wrap64_in _ (by omega)]; omega
      clear hR hnext
      go_wp2_with fail
      refine (moved_at ra rn rc rs 0 0 wr HRI.out HFf.out.1 HH).mono ?_
      rintro e w5 ⟨rfl, hT5, hO5, hz5, hF5⟩
      have HSl := (sl_ok HE.out.tab HE.out.pos hr0)
      have hsh := HE.out.shape
      obtain ⟨ms, mi, mj, hM⟩ : ∃ ms mi mj, mv (left rest 0 0) rest 0 0 = (ms, mi, mj) := ⟨_, _, _, rfl⟩
      have hrl : (row rest mi).length = mj + 1 := by have := HSl.end1; unfold sl at this; rw [hM] at this; exact this
      rw [hM] at hT5 hF5 HEn HNx ⊢
      simp only at hT5 hF5 HEn HNx ⊢
      have HT5 : Hid (TblIn w5 w.heap.size (fun k => w1.heap.size ≤ k ∧ k < w2.heap.size) (.slice ra rn rc) rs ms) := hT5
      have HFm : Hid (Few ms) := hF5
      have HMi : Hid (mi < ms.length) := HEn.hol.row
      have HU5 : Hid (TblIn w5 w.heap.size (fun k => w2.heap.size ≤ k ∧ k < w4.heap.size) (.slice ua ls.length uc) us tur) := HU.out.same (fun q hq => hO5.block q (by rw [HB.out.2]; exact hq.2) (fun z => by have := hq.1; have := z.2; omega))
      have HB5 : Hid (Below w.heap.size w w5 ∧ w5.heap.size = w4.heap.size) := ⟨HB.out.1.trans (hO5.below HB.out.1.size (fun q hq => by have := HZs.out.1; have := hq.1; omega)), by rw [hz5]; exact HB.out.2⟩
      have hjt : mj < (row tur mi).length := HE.out.inn HStN.out (by rw [hrl]; omega)
      obtain ⟨g, hb, ch, m, rfl, hnl, HRv, HMm, hjm, hm1, hcg, hcb, hfb, HSh, hgl, hhl⟩ := HU5.out.open HFf.out.2 (i := mi) hjt
      have HTl : Hid (mi < tur.length) := row_lt hjt
      have hmi : (mi : Int) < (ls.length : Int) := by have := HTl.out; omega
      have hmj : (mj : Int) < (m : Int) := by omega
      have HT6 : Hid (TblIn (w5.setCell ⟨hb, mj, none⟩ (.int .i64 ((k + 1 : Nat) : Int))) w.heap.size (fun k => w1.heap.size ≤ k ∧ k < w2.heap.size) (.slice ra rn rc) rs ms) := HT5.out.same (fun q hq => heap_setCell_other _ _ _ _ (fun e => by have h1 := HSh.out.1; have h2 := hq.2; have e' : q = hb := e; omega))
      have HU6 : Hid (TblIn (w5.setCell ⟨hb, mj, none⟩ (.int .i64 ((k + 1 : Nat) : Int))) w.heap.size (fun k => w2.heap.size ≤ k ∧ k < w4.heap.size) (.slice (some ⟨g, 0, none⟩) ls.length uc) us (sb tur mi mj ((k : Int) + 1))) := by
        have := HU5.out.sbox (j := mj) HTl.out HRv.out HMm.out ((k + 1 : Nat) : Int)
        rw [show ((k + 1 : Nat) : Int) = (k : Int) + 1 by omega] at this ⊢
        exact this
      have HB6 : Hid (Below w.heap.size w (w5.setCell ⟨hb, mj, none⟩ (.int .i64 ((k + 1 : Nat) : Int))) ∧ (w5.setCell ⟨hb, mj, none⟩ (.int .i64 ((k + 1 : Nat) : Int))).heap.size = w4.heap.size) := ⟨HB5.out.1.setCell (p := ⟨hb, mj, none⟩) (by have := HSh.out.1; have := HZs.out; show _ ≤ hb; omega) _, by simp [HB5.out.2]⟩
      have HF6 : Hid (Few (sb tur mi mj ((k : Int) + 1))) := HFf.out.2.sb _ _ (by omega)
      clear hT5 hF5 HEn hM hrl hsh hjt hnl hO5 hz5 HSl HH
      go_wp2_with fail
      refine (shortened_at _ mi _ ⟨_, HT6.out⟩ HMi.out HFm.out.len HFm.out.one).mono ?_
      rintro e w7 ⟨v7, rfl, hT7, hO7, hz7⟩
      have HU7 : Hid (TblIn w7 w.heap.size (fun k => w2.heap.size ≤ k ∧ k < w4.heap.size) (.slice (some ⟨g, 0, none⟩) ls.length uc) us (sb tur mi mj ((k : Int) + 1))) := HU6.out.same (fun q hq => hO7.block q (by rw [HB6.out.2]; exact hq.2) (fun z => by have := hq.1; have := z.2; omega))
      have HB7 : Hid (Below w.heap.size w w7 ∧ w7.heap.size = w4.heap.size) := ⟨HB6.out.1.trans (hO7.below HB6.out.1.size (fun q hq => by have := HZs.out.1; have := hq.1; omega)), by rw [hz7]; exact HB6.out.2⟩
      obtain ⟨a7, c7, hv7⟩ : ∃ a7 c7, v7 = .slice a7 (tk ms mi).length c7 := by obtain ⟨q, hq⟩ := hT7; exact hq.t.shape
      subst hv7
      have HT7 : Hid (TIn w7 w.heap.size (fun k => w1.heap.size ≤ k ∧ k < w2.heap.size) (.slice a7 (tk ms mi).length c7) (tk ms mi)) := hT7
      clear hT7 hO7 hz7
      go_wp2
      go_roundw
      case rel => exact ⟨k, _, _, _, _, _, by omega, rfl, rfl, HNx, ⟨HFm.out.tk mi, HF6.out⟩, HT7, HU7, HB7⟩
      case measure => simp [intOf]
set_option maxHeartbeats 2000000 in
theorem Evacuate_err (a : Option Addr) (n cap : Nat) (ls : List (List Int)) (w : World) (hs : Table w a ls) (hn : n = ls.length) (hl : ls.length ≤ 17592186044416) (hc : scode ls ≠ 0) :
    Calls Try.prog 30 #[.slice a n cap] w fun e w' => e = .returned (.tuple #[.slice none 0 0, .int .i64 (scode ls)]) ∧ Below w.heap.size w w' := by
  subst hn
  have HS : Hid (Table w a ls) := hs
  obtain ⟨c, HC⟩ : ∃ c, Hid (c = scode ls) := ⟨_, rfl⟩
  have hc0 : (c != 0) = true := by rw [HC.out]; exact bne_iff_ne.2 hc
  rw [← HC.out]
  clear hs hc
  go_enter Try.func30, Try.ntmps30
  go_wp2_with fail
  refine (checkStandard_at a ls.length cap ls w HS.out hl rfl).mono ?_
  rintro e w1 ⟨rfl, hb1⟩
  have HB1 : Hid (Below w.heap.size w w1) := hb1
  rw [← HC.out]
  clear hb1
  go_wp2
  go_ret2
  exact ⟨rfl, HB1.out⟩
/-- In both cases. -/
theorem Evacuate_at (a : Option Addr) (n cap : Nat) (ls : List (List Int)) (w : World) (hs : Table w a ls) (hn : n = ls.length) (hl : ls.length ≤ 17592186044416) :
    Calls Try.prog 30 #[.slice a n cap] w fun e w' => ∃ v, e = .returned (.tuple #[v, .int .i64 (scode ls)]) ∧ Tbl w' w.heap.size v (if scode ls = 0 then evaT ls else []) ∧ Below w.heap.size w w' := by
  by_cases c : scode ls = 0
  · refine (Evacuate_ok a n cap ls w hs hn hl c).mono ?_
    rintro e w' ⟨v, rfl, h1, h2⟩
    exact ⟨v, by rw [c], by rw [if_pos c]; exact h1, h2⟩
  · refine (Evacuate_err a n cap ls w hs hn hl c).mono ?_
    rintro e w' ⟨rfl, h2⟩
    exact ⟨_, rfl, by rw [if_neg c]; exact Tbl.nil _ _, h2⟩

end Go.Proofs.Ytjciandmpfcfjaa
