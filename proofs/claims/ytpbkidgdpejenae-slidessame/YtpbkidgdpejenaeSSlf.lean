/-
  The contracts of slides.slid, slides.endsInCorner, slides.Slide.
-/
import Derived.Test.YtpbkidgdpejenaeSChk
namespace Go.Proofs.Ytpbkidgdpejenae
open Go.RowKit

set_option maxHeartbeats 4000000 in
theorem sslid_at {ls : List (List Int)} {lo : Nat} {S : Nat → Prop} {h : Nat → Nat} (a : Option Addr) (n cap : Nat) (vs : List Value) (i : Nat) (w : World) (hT : TblIn w lo S (.slice a n cap) vs ls) (hF : Few ls) (hK : Sk non h ls) (hc : h (i + 1) < h i) :
    Calls Try.prog 54 #[.slice a n cap, .int .i64 i] w fun e w' => ∃ v', e = .returned (.tuple #[v', .int .i64 ((slR ls i).2 : Nat)]) ∧ TIn w' lo S v' (slR ls i).1 ∧ Off S w w' ∧ w'.heap.size = w.heap.size ∧ Few (slR ls i).1 := by
  obtain ⟨k1, k2⟩ := corner_hol hK hc
  have hhl := hK.hol i
  have HT : Hid (TblIn w lo S (.slice a n cap) vs ls) := hT
  have HF : Hid (Few ls) := hF
  have HH : Hid (Hol (less h i) ls i (h i - 1)) := k1
  obtain ⟨d, HD⟩ : ∃ d, Hid (h i = d + 1) := ⟨h i - 1, by show _ = _; omega⟩
  have HHd : Hid (hol (row ls i) = d + 1) := by show _ = _; rw [hhl]; exact HD.out
  have HH2 : Hid (Hol (less h i) ls i d) := by have := HH.out; rw [HD.out, Nat.add_sub_cancel] at this; exact this
  have HR : Hid (slR ls i = (tk (mv (left ls i d) ls i d).1 (mv (left ls i d) ls i d).2.1, (mv (left ls i d) ls i d).2.1)) := by
    show _ = _
    unfold slR; rw [HHd.out, Nat.add_sub_cancel]
  obtain ⟨g, hb, ch, m, rfl, hnl, HRv, HMm, hjm, hm1, hcg, -, -, HSh, hgl, hhl2⟩ := hT.open hF (i := i) k1.lt
  have hin : (i : Int) < (n : Int) := by have := k1.row; omega
  obtain ⟨ar, cr, hrv, hSr⟩ := (hT.t.rows i k1.row).shows (by have := (hF.bd _ (row_mem k1.row)).1; exact this) (hF.bd _ (row_mem k1.row)).2
  rw [HRv.out] at hrv
  simp only [Value.slice.injEq] at hrv
  obtain ⟨rfl, -, rfl⟩ := hrv
  have HSr : Hid (Shows w (some ⟨hb, 0, none⟩) (row ls i)) := hSr
  have hd1 : d < 1000 := by have := HH2.out.lt; have := (hF.one _ (row_mem k1.row)).2; omega
  have hsub : IntKind.i64.wrap (((d + 1 : Nat) : Int) - 1) = (d : Int) := by rw [IntWalk.i64_left, IntWalk.wrap64_in _ (by omega)]; omega
  clear k1 k2 hhl hT hF hK hc hSr hnl
  go_enter Try.func54, Try.ntmps54
  go_wp2_with fail
  refine (holesOf_is _ _ _ (row ls i) w HSr.out HMm.out HHd).mono ?_
  rintro e w1 ⟨rfl, hw1⟩
  obtain rfl : w = w1 := hw1.symm
  clear hw1
  go_wp2_with fail
  refine (moved_at _ _ _ _ i d w HT.out HF.out HH2.out).mono ?_
  rintro e w2 ⟨rfl, hT2, hO2, hz2, hF2⟩
  have hE := mv_ends _ _ ls i d HH2.out (Nat.le_refl _)
  obtain ⟨ms, mi, mj, hM⟩ : ∃ ms mi mj, mv (left ls i d) ls i d = (ms, mi, mj) := ⟨_, _, _, rfl⟩
  rw [hM] at hT2 hF2 hE HR ⊢
  simp only at hT2 hF2 hE HR ⊢
  have HT2 : Hid (TIn w2 lo S (.slice (some ⟨g, 0, none⟩) n cap) ms) := ⟨_, hT2⟩
  have HF2 : Hid (Few ms) := hF2
  have HMi : Hid (mi < ms.length) := hE.hol.row
  have HO2 : Hid (Off S w w2) := hO2
  have HZ2 : Hid (w2.heap.size = w.heap.size) := hz2
  clear hT2 hF2 hE hM hO2 hz2
  go_wp2_with fail
  refine (shortened_at _ mi w2 HT2.out HMi.out HF2.out.len HF2.out.one).mono ?_
  rintro e w3 ⟨v3, rfl, hT3, hO3, hz3⟩
  have HT3 : Hid (TIn w3 lo S v3 (tk ms mi)) := hT3
  have HO3 : Hid (Off S w w3) := HO2.out.trans ⟨hO3.low, fun k hk hs => hO3.block k hk (fun q => hs (Or.inl q))⟩
  have HZ3 : Hid (w3.heap.size = w.heap.size) := by rw [← HZ2.out]; exact hz3
  obtain ⟨a3, n3, c3, hv3⟩ : ∃ a3 n3 c3, v3 = .slice a3 n3 c3 := by obtain ⟨q, hq⟩ := hT3; obtain ⟨x, y, e⟩ := hq.t.shape; exact ⟨_, _, _, e⟩
  subst hv3
  clear hT3 hO3 hz3
  go_wp2
  go_ret2
  exact ⟨_, by rw [HR.out]; rfl, by rw [HR.out]; exact HT3.out, HO3.out, HZ3.out, by rw [HR.out]; exact HF2.out.tk mi⟩
set_option maxHeartbeats 4000000 in
theorem endsInCorner_is {t : Bool} (a : Option Addr) (n cap : Nat) (ls : List (List Int)) (i : Nat) (w : World) (hs : Table w a ls) (hn : n = ls.length) (hl : ls.length ≤ 1000) (hi : i < ls.length) (E : Hid (decide (H ls (i + 1) < H ls i) = t)) :
    Calls Try.prog 53 #[.slice a n cap, .int .i64 i] w fun e w' => e = .returned (.bool t) ∧ w' = w := by
  subst hn
  have HS : Hid (Table w a ls) := hs
  obtain ⟨p, HP⟩ : ∃ p, Hid (hol (row ls i) = p) := ⟨_, rfl⟩
  have hi' : (i : Int) < (ls.length : Int) := by omega
  have hi1 : IntKind.i64.wrap ((i : Int) + 1) = ((i + 1 : Nat) : Int) := by rw [IntWalk.i64_left, IntWalk.wrap64_in _ (by omega)]; omega
  obtain ⟨b, off, ai, m, ci, rfl, hc, HM, HSk, -, -⟩ := hs.elem hi
  clear hs
  by_cases c : i + 1 < ls.length
  · have c' : ((i + 1 : Nat) : Int) < (ls.length : Int) := by omega
    obtain ⟨b', off', ai2, m2, ci2, ha2, hc2, HM2, HSk2, -, -⟩ := HS.out.elem c
    simp only [Option.some.injEq, Addr.mk.injEq, and_true] at ha2
    obtain ⟨rfl, rfl⟩ := ha2
    obtain ⟨q, HQ⟩ : ∃ q, Hid (hol (row ls (i + 1)) = q) := ⟨_, rfl⟩
    have hpb : p ≤ 17592186044416 := by rw [← HP.out]; have := hol_le (row ls i); have := HSk.out.len; omega
    have hqb : q ≤ 17592186044416 := by rw [← HQ.out]; have := hol_le (row ls (i + 1)); have := HSk2.out.len; omega
    have HT : Hid (decide ((p : Int) > (q : Int)) = t) := by
      rw [← E.out]; unfold H; rw [HP.out, HQ.out]
      exact decide_eq_decide.2 (by omega)
    go_enter Try.func53, Try.ntmps53
    go_wp2_with fail
    refine (holesOf_is _ _ _ (row ls (i + 1)) w HSk2.out HM2.out HQ).mono ?_
    rintro e w1 ⟨rfl, hw1⟩
    obtain rfl : w = w1 := hw1.symm
    clear hw1
    go_wp2_with fail
    refine (holesOf_is _ _ _ (row ls i) w HSk.out HM.out HP).mono ?_
    rintro e w1 ⟨rfl, hw1⟩
    obtain rfl : w = w1 := hw1.symm
    clear hw1
    by_cases cc : q < p
    · have g1 : decide ((p : Int) > (q : Int)) = true := by simp; omega
      have g2 : decide (q < p) = true := by simp; omega
      have HT2 : Hid (t = true) := by rw [← HT.out]; exact g1
      go_wp2
      go_ret
      exact ⟨by rw [HT2.out]; rfl, rfl⟩
    · have g1 : decide ((p : Int) > (q : Int)) = false := by simp; omega
      have g2 : decide (q < p) = false := by simp; omega
      have HT2 : Hid (t = false) := by rw [← HT.out]; exact g1
      go_wp2
      go_ret
      exact ⟨by rw [HT2.out]; rfl, rfl⟩
  · have c' : ¬ ((i + 1 : Nat) : Int) < (ls.length : Int) := by omega
    have HT : Hid (decide (0 < p) = t) := by
      rw [← E.out]; unfold H
      rw [HP.out, row_out (ls := ls) (a := i + 1) (by omega)]
      rfl
    go_enter Try.func53, Try.ntmps53
    go_wp2_with fail
    refine (holesOf_is _ _ _ (row ls i) w HSk.out HM.out HP).mono ?_
    rintro e w1 ⟨rfl, hw1⟩
    obtain rfl : w = w1 := hw1.symm
    clear hw1
    by_cases cc : 0 < p
    · have g1 : decide ((p : Int) > 0) = true := by simp; omega
      have HT2 : Hid (t = true) := by rw [← HT.out]; simp; exact cc
      go_wp2
      go_ret
      exact ⟨by rw [HT2.out]; rfl, rfl⟩
    · have g1 : decide ((p : Int) > 0) = false := by simp; omega
      have g2 : decide (0 < p) = false := by simp; omega
      have HT2 : Hid (t = false) := by rw [← HT.out]; exact g2
      go_wp2
      go_ret
      exact ⟨by rw [HT2.out]; rfl, rfl⟩

end Go.Proofs.Ytpbkidgdpejenae
