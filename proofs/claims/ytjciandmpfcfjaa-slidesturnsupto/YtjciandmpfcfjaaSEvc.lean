/-
  The contract of slides.Evacuate.
-/
import Derived.Test.YtjciandmpfcfjaaSPrm
namespace Go.Proofs.Ytjciandmpfcfjaa
open Go.RowKit

def evaT (ls : List (List Int)) : List (List Int) := evT ls.flatten.length ls

theorem EvI.inn {n : Nat} {t : List (List Int)} (hs : Std n t) {k : Nat} {rest u : List (List Int)} (h : EvI n t k rest u) {a b : Nat} (hb : b < (row rest a).length) : b < (row u a).length := by
  have sh := shape_rs hs (n - k) a b
  rw [← h.word.P, wrd_T _ h.tab] at sh
  rw [h.shape a]; exact (sh.1 hb).1

set_option maxHeartbeats 8000000 in
theorem Evacuate_ok (a : Option Addr) (n cap : Nat) (ls : List (List Int)) (w : World) (hs : Table w a ls) (hn : n = ls.length) (hl : ls.length ≤ 17592186044416) (hc : scode ls = 0) :
    Calls Try.prog 30 #[.slice a n cap] w fun e w' => ∃ v, e = .returned (.tuple #[v, .int .i64 0]) ∧ Tbl w' w.heap.size v (evaT ls) ∧ Below w.heap.size w w' := by
  subst hn
  obtain ⟨hS, h40⟩ := scode_ok.1 hc
  have HS : Hid (Table w a ls) := hs
  have HF : Hid (Few ls) := few_std hS
  have HC : Hid (scode ls = 0) := hc
  obtain ⟨N, HN⟩ : ∃ N, Hid (N = ls.flatten.length) := ⟨_, rfl⟩
  have hN : N ≤ 40 := by rw [HN.out]; exact h40
  have HStN : Hid (Std N ls) := by have := hS; rw [← HN.out] at this; exact this
  clear hs hS hc h40
  go_enter Try.func30, Try.ntmps30
  go_wp2_with fail
  refine (checkStandard_at a ls.length cap ls w HS.out hl rfl).mono ?_
  rintro e w1 ⟨rfl, hb1⟩
  have HB1 : Hid (Below w.heap.size w w1) := hb1
  rw [HC.out]
  clear hb1
  go_wp2_with fail
  refine (scopied_at a ls.length cap ls w1 (HS.out.below HB1.out) rfl HF.out.len HF.out.one).mono ?_
  rintro e w2 ⟨v, rfl, hT2, hb2⟩
  have HB2 : Hid (Below w.heap.size w w2) := HB1.out.trans (hb2.mono HB1.out.size)
  obtain ⟨vs, hI2⟩ := TIn.of_tbl hT2
  have HI2 : Hid (TblIn w2 w.heap.size (fun k => w1.heap.size ≤ k ∧ k < w2.heap.size) v vs ls) := hI2.mono HB1.out.size
  have HZ12 : Hid (w1.heap.size ≤ w2.heap.size) := hb2.size
  clear hT2 hb2 hI2
  go_wp2_with fail
  refine (scopied_at a ls.length cap ls w2 (HS.out.below HB2.out) rfl HF.out.len HF.out.one).mono ?_
  rintro e w3 ⟨u, rfl, hT3, hb3⟩
  have HB3 : Hid (Below w.heap.size w w3) := HB2.out.trans (hb3.mono HB2.out.size)
  obtain ⟨us, hI3⟩ := TIn.of_tbl hT3
  have HU3 : Hid (TblIn w3 w.heap.size (fun k => w2.heap.size ≤ k ∧ k < w3.heap.size) u us ls) := hI3.mono HB2.out.size
  have HI3 : Hid (TblIn w3 w.heap.size (fun k => w1.heap.size ≤ k ∧ k < w2.heap.size) v vs ls) := HI2.out.same (fun k hk => hb3.block k hk.2)
  have HZs : Hid (w.heap.size ≤ w1.heap.size ∧ w1.heap.size ≤ w2.heap.size ∧ w2.heap.size ≤ w3.heap.size) := ⟨HB1.out.size, HZ12.out, hb3.size⟩
  clear hT3 hb3 hI3 HI2
  go_wp2_with fail
  refine (sboxesOf_at a ls.length cap ls w3 (HS.out.below HB3.out) rfl (by have := HF.out.len; omega) (by rw [← HN.out]; omega)).mono ?_
  rintro e w4 ⟨rfl, rfl⟩
  rw [← HN.out]
  obtain ⟨ua, uc, hu⟩ := HU3.out.t.shape
  subst hu
  obtain ⟨va, vc, hv⟩ := HI3.out.t.shape
  subst hv
  go_wp2
  go_loopw [5, 7] (fun rv nv wr => ∃ (k rn : Nat) (ra : Option Addr) (rc : Nat) (rest tur : List (List Int)), k ≤ 40 ∧ nv = .int .i64 k ∧ rv = .slice ra rn rc ∧ Hid (EvI N ls k rest tur) ∧ Hid (Few rest ∧ Few tur) ∧
    Hid (TIn wr w.heap.size (fun k => w1.heap.size ≤ k ∧ k < w2.heap.size) (.slice ra rn rc) rest) ∧ Hid (TblIn wr w.heap.size (fun k => w2.heap.size ≤ k ∧ k < w4.heap.size) (.slice ua ls.length uc) us tur) ∧ Hid (Below w.heap.size w wr ∧ wr.heap.size = w4.heap.size)) (fun _ nv _ => (intOf nv).toNat)
  case atStart => exact ⟨N, _, _, _, ls, ls, hN, rfl, rfl, ev_start HStN.out, ⟨HF.out, HF.out⟩, ⟨_, HI3.out⟩, HU3, ⟨HB3.out, rfl⟩⟩
  case round =>
    obtain ⟨k, rn, ra, rc, rest, tur, hk, rfl, rfl, HE, HFf, HR, HU, HB⟩ := hrel
    cases k with
    | zero =>
      have HEnd : Hid (tur = evaT ls) := by
        show _ = _
        have := ev_is HStN.out 0 rest tur HE.out
        unfold evaT; rw [← HN.out]; exact this
      go_wp2
      go_ret2
      exact ⟨_, rfl, by rw [← HEnd.out]; exact TIn.tbl ⟨_, HU.out⟩, HB.out.1⟩
    | succ k =>
      obtain ⟨hr0, hnext⟩ := ev_more HStN.out HE.out
      obtain ⟨rs, hR⟩ := HR.out
      have HRI : Hid (TblIn wr w.heap.size (fun k => w1.heap.size ≤ k ∧ k < w2.heap.size) (.slice ra rn rc) rs rest) := hR
      have HH := T_hol HE.out.tab HE.out.pos hr0
      have HEn := mv_ends _ _ rest 0 0 HH (Nat.le_refl _)
      have HNx : Hid (EvI N ls k (tk (mv (left rest 0 0) rest 0 0).1 (mv (left rest 0 0) rest 0 0).2.1) (sb tur (mv (left rest 0 0) rest 0 0).2.1 (mv (left rest 0 0) rest 0 0).2.2 ((k : Int) + 1))) := hnext
      have hg : ((k + 1 : Nat) : Int) > 0 := by omega
      have hkk : IntKind.i64.wrap (((k + 1 : Nat) : Int) - 1) = (k : Int) := by rw [IntWalk.i64_left, IntWalk.wrap64_in _ (by omega)]; omega
      clear hR hnext
      go_wp2_with fail
      refine (moved_at ra rn rc rs 0 0 wr HRI.out HFf.out.1 HH).mono ?_
      rintro e w5 ⟨rfl, hT5, hO5, hz5, hF5⟩
      have HSl := (sl_ok HE.out.tab HE.out.pos hr0)
      have hsh := HE.out.shape
      obtain ⟨ms, mi, mj, hM⟩ : ∃ ms mi mj, mv (left rest 0 0) rest 0 0 = (ms, mi, mj) := ⟨_, _, _, rfl⟩
      have hrl : (row rest mi).length = mj + 1 := by have := HSl.end1; unfold sl at this; rw [hM] at this; exact this
      rw [hM] at hT5 hF5 HEn HNx ⊢
      simp only at hT5 hF5 HEn HNx ⊢
      have HT5 : Hid (TblIn w5 w.heap.size (fun k => w1.heap.size ≤ k ∧ k < w2.heap.size) (.slice ra rn rc) rs ms) := hT5
      have HFm : Hid (Few ms) := hF5
      have HMi : Hid (mi < ms.length) := HEn.hol.row
      have HU5 : Hid (TblIn w5 w.heap.size (fun k => w2.heap.size ≤ k ∧ k < w4.heap.size) (.slice ua ls.length uc) us tur) := HU.out.same (fun q hq => hO5.block q (by rw [HB.out.2]; exact hq.2) (fun z => by have := hq.1; have := z.2; omega))
      have HB5 : Hid (Below w.heap.size w w5 ∧ w5.heap.size = w4.heap.size) := ⟨HB.out.1.trans (hO5.below HB.out.1.size (fun q hq => by have := HZs.out.1; have := hq.1; omega)), by rw [hz5]; exact HB.out.2⟩
      have hjt : mj < (row tur mi).length := HE.out.inn HStN.out (by rw [hrl]; omega)
      obtain ⟨g, hb, ch, m, rfl, hnl, HRv, HMm, hjm, hm1, hcg, hcb, hfb, HSh, hgl, hhl⟩ := HU5.out.open HFf.out.2 (i := mi) hjt
      have HTl : Hid (mi < tur.length) := row_lt hjt
      have hmi : (mi : Int) < (ls.length : Int) := by have := HTl.out; omega
      have hmj : (mj : Int) < (m : Int) := by omega
      have HT6 : Hid (TblIn (w5.setCell ⟨hb, mj, none⟩ (.int .i64 ((k + 1 : Nat) : Int))) w.heap.size (fun k => w1.heap.size ≤ k ∧ k < w2.heap.size) (.slice ra rn rc) rs ms) := HT5.out.same (fun q hq => heap_setCell_other _ _ _ _ (fun e => by have h1 := HSh.out.1; have h2 := hq.2; have e' : q = hb := e; omega))
      have HU6 : Hid (TblIn (w5.setCell ⟨hb, mj, none⟩ (.int .i64 ((k + 1 : Nat) : Int))) w.heap.size (fun k => w2.heap.size ≤ k ∧ k < w4.heap.size) (.slice (some ⟨g, 0, none⟩) ls.length uc) us (sb tur mi mj ((k : Int) + 1))) := by
        have := HU5.out.sbox (j := mj) HTl.out HRv.out HMm.out ((k + 1 : Nat) : Int)
        rw [show ((k + 1 : Nat) : Int) = (k : Int) + 1 by omega] at this ⊢
        exact this
      have HB6 : Hid (Below w.heap.size w (w5.setCell ⟨hb, mj, none⟩ (.int .i64 ((k + 1 : Nat) : Int))) ∧ (w5.setCell ⟨hb, mj, none⟩ (.int .i64 ((k + 1 : Nat) : Int))).heap.size = w4.heap.size) := ⟨HB5.out.1.setCell (p := ⟨hb, mj, none⟩) (by have := HSh.out.1; have := HZs.out; show _ ≤ hb; omega) _, by simp [HB5.out.2]⟩
      have HF6 : Hid (Few (sb tur mi mj ((k : Int) + 1))) := HFf.out.2.sb _ _ (by omega)
      clear hT5 hF5 HEn hM hrl hsh hjt hnl hO5 hz5 HSl HH
      go_wp2_with fail
      refine (shortened_at _ mi _ ⟨_, HT6.out⟩ HMi.out HFm.out.len HFm.out.one).mono ?_
      rintro e w7 ⟨v7, rfl, hT7, hO7, hz7⟩
      have HU7 : Hid (TblIn w7 w.heap.size (fun k => w2.heap.size ≤ k ∧ k < w4.heap.size) (.slice (some ⟨g, 0, none⟩) ls.length uc) us (sb tur mi mj ((k : Int) + 1))) := HU6.out.same (fun q hq => hO7.block q (by rw [HB6.out.2]; exact hq.2) (fun z => by have := hq.1; have := z.2; omega))
      have HB7 : Hid (Below w.heap.size w w7 ∧ w7.heap.size = w4.heap.size) := ⟨HB6.out.1.trans (hO7.below HB6.out.1.size (fun q hq => by have := HZs.out.1; have := hq.1; omega)), by rw [hz7]; exact HB6.out.2⟩
      obtain ⟨a7, c7, hv7⟩ : ∃ a7 c7, v7 = .slice a7 (tk ms mi).length c7 := by obtain ⟨q, hq⟩ := hT7; exact hq.t.shape
      subst hv7
      have HT7 : Hid (TIn w7 w.heap.size (fun k => w1.heap.size ≤ k ∧ k < w2.heap.size) (.slice a7 (tk ms mi).length c7) (tk ms mi)) := hT7
      clear hT7 hO7 hz7
      go_wp2
      go_roundw
      case rel => exact ⟨k, _, _, _, _, _, by omega, rfl, rfl, HNx, ⟨HFm.out.tk mi, HF6.out⟩, HT7, HU7, HB7⟩
      case measure => simp [intOf]
set_option maxHeartbeats 2000000 in
theorem Evacuate_err (a : Option Addr) (n cap : Nat) (ls : List (List Int)) (w : World) (hs : Table w a ls) (hn : n = ls.length) (hl : ls.length ≤ 17592186044416) (hc : scode ls ≠ 0) :
    Calls Try.prog 30 #[.slice a n cap] w fun e w' => e = .returned (.tuple #[.slice none 0 0, .int .i64 (scode ls)]) ∧ Below w.heap.size w w' := by
  subst hn
  have HS : Hid (Table w a ls) := hs
  obtain ⟨c, HC⟩ : ∃ c, Hid (c = scode ls) := ⟨_, rfl⟩
  have hc0 : (c != 0) = true := by rw [HC.out]; exact bne_iff_ne.2 hc
  rw [← HC.out]
  clear hs hc
  go_enter Try.func30, Try.ntmps30
  go_wp2_with fail
  refine (checkStandard_at a ls.length cap ls w HS.out hl rfl).mono ?_
  rintro e w1 ⟨rfl, hb1⟩
  have HB1 : Hid (Below w.heap.size w w1) := hb1
  rw [← HC.out]
  clear hb1
  go_wp2
  go_ret2
  exact ⟨rfl, HB1.out⟩
/-- In both cases. -/
theorem Evacuate_at (a : Option Addr) (n cap : Nat) (ls : List (List Int)) (w : World) (hs : Table w a ls) (hn : n = ls.length) (hl : ls.length ≤ 17592186044416) :
    Calls Try.prog 30 #[.slice a n cap] w fun e w' => ∃ v, e = .returned (.tuple #[v, .int .i64 (scode ls)]) ∧ Tbl w' w.heap.size v (if scode ls = 0 then evaT ls else []) ∧ Below w.heap.size w w' := by
  by_cases c : scode ls = 0
  · refine (Evacuate_ok a n cap ls w hs hn hl c).mono ?_
    rintro e w' ⟨v, rfl, h1, h2⟩
    exact ⟨v, by rw [c], by rw [if_pos c]; exact h1, h2⟩
  · refine (Evacuate_err a n cap ls w hs hn hl c).mono ?_
    rintro e w' ⟨rfl, h2⟩
    exact ⟨_, rfl, by rw [if_neg c]; exact Tbl.nil _ _, h2⟩

end Go.Proofs.Ytjciandmpfcfjaa
