/-
  The contract of slides.moveBack.
-/
import Derived.Test.YtjciandmpfcfjaaSRai
namespace Go.Proofs.Ytjciandmpfcfjaa
open Go.RowKit

theorem mb_up {s : List (List Int)} {i j k : Nat} (hk : i + j = k + 1) (c : j = 0 ∨ (0 < i ∧ box s i (j - 1) < box s (i - 1) j)) : mb (i + j) s i j = mb k (sb s i j (box s (i - 1) j)) (i - 1) j := by rw [hk, mb_step, if_pos c]
theorem mb_lf {s : List (List Int)} {i j k : Nat} (hk : i + j = k + 1) (c : ¬ (j = 0 ∨ (0 < i ∧ box s i (j - 1) < box s (i - 1) j))) : mb (i + j) s i j = mb k (sb s i j (box s i (j - 1))) i (j - 1) := by rw [hk, mb_step, if_neg c]

/-- What the loop keeps. -/
structure Bak (ls : List (List Int)) (M : List (List Int)) (p q : Nat) (ms : List (List Int)) : Prop where
  hol : Hol (fun _ => 0) ms p q
  dis : Dis p q ms
  few : Few ms
  is : M = mb (p + q) ms p q
theorem Bak.up {ls M : List (List Int)} {p q : Nat} {ms : List (List Int)} (h : Bak ls M (p + 1) q ms) (c : q = 0 ∨ box ms (p + 1) (q - 1) < box ms p q) : Bak ls M p q (sb ms (p + 1) q (box ms p q)) := by
  have c' : q = 0 ∨ (0 < p + 1 ∧ box ms (p + 1) (q - 1) < box ms (p + 1 - 1) q) := by
    rcases c with c | c
    · exact Or.inl c
    · exact Or.inr ⟨by omega, c⟩
  obtain ⟨_, k1, k2, _⟩ := mb_down h.hol h.dis (by omega) c'
  exact ⟨k1, k2, h.few.sb _ _ (h.few.box _ _), by rw [h.is, mb_up (k := p + q) (by omega) c']; rfl⟩
theorem Bak.lf {ls M : List (List Int)} {p q : Nat} {ms : List (List Int)} (h : Bak ls M p (q + 1) ms) (c : 0 < p → ¬ box ms p q < box ms (p - 1) (q + 1)) : Bak ls M p q (sb ms p (q + 1) (box ms p q)) := by
  have c' : ¬ (q + 1 = 0 ∨ (0 < p ∧ box ms p (q + 1 - 1) < box ms (p - 1) (q + 1))) := fun z => by
    rcases z with z | z
    · omega
    · exact c z.1 z.2
  obtain ⟨_, k1, k2, _⟩ := mb_left h.hol h.dis c'
  exact ⟨k1, k2, h.few.sb _ _ (h.few.box _ _), by rw [h.is, mb_lf (k := p + q) (by omega) c']; rfl⟩

set_option maxHeartbeats 8000000 in
theorem moveBack_at {ls : List (List Int)} {lo : Nat} {S : Nat → Prop} (a : Option Addr) (n cap : Nat) (vs : List Value) (i j : Nat) (w : World) (hT : TblIn w lo S (.slice a n cap) vs ls) (hF : Few ls) (hH : Hol (fun _ => 0) ls i j) (hD : Dis i j ls) :
    Calls Try.prog 67 #[.slice a n cap, .int .i64 i, .int .i64 j] w fun e w' => e = .returned (.tuple #[]) ∧ TblIn w' lo S (.slice a n cap) vs (mb (i + j) ls i j) ∧ Off S w w' ∧ w'.heap.size = w.heap.size ∧ Few (mb (i + j) ls i j) := by
  have HT0 : Hid (TblIn w lo S (.slice a n cap) vs ls) := hT
  obtain ⟨M, HM⟩ : ∃ M, Hid (M = mb (i + j) ls i j) := ⟨_, rfl⟩
  rw [← HM.out]
  have HK0 : Hid (Bak ls M i j ls) := ⟨hH, hD, hF, HM.out⟩
  clear hT hF hH hD
  go_enter Try.func67, Try.ntmps67
  go_wp2
  go_loopw [1, 2] (fun iv jv wr => ∃ (p q : Nat) (ms : List (List Int)), iv = .int .i64 p ∧ jv = .int .i64 q ∧ Hid (Bak ls M p q ms) ∧ Hid (TblIn wr lo S (.slice a n cap) vs ms) ∧ Hid (Off S w wr ∧ wr.heap.size = w.heap.size)) (fun iv jv _ => (intOf iv).toNat + (intOf jv).toNat)
  case atStart => exact ⟨i, j, ls, rfl, rfl, HK0, HT0, ⟨Off.refl _ _, rfl⟩⟩
  case round =>
    obtain ⟨p, q, ms, rfl, rfl, HK, HT, HO⟩ := hrel
    obtain ⟨g, hb, ch, m, rfl, hn, HRv, HMm, hqm, hm1, hcg, hcb, hfb, HSh, hgl, hhl⟩ := HT.out.open HK.out.few (i := p) HK.out.hol.lt
    have hpn : (p : Int) < (n : Int) := by have := HK.out.hol.row; omega
    have hqm' : (q : Int) < (m : Int) := by omega
    have hn1 : n ≤ 1000 := by rw [hn]; exact HK.out.few.len
    have HST : Hid (∀ (z : Int) (u : World), u.heap = (wr.setCell ⟨hb, q, none⟩ (.int .i64 z)).heap → TblIn u lo S (.slice (some ⟨g, 0, none⟩) n cap) vs (sb ms p q z)) := fun z u hu => (HT.out.sbox HK.out.hol.row HRv.out HMm.out z).same (fun k _ => by rw [hu])
    clear hn
    have HP : Hid (p < 1000 ∧ q < 1000) := by have := HK.out.hol.row; have := HK.out.few.len; have := (HK.out.few.one _ (row_mem HK.out.hol.row)).2; have := HK.out.hol.lt; exact ⟨by omega, by omega⟩
    by_cases hq : q = 0
    · have hq0 : ((q : Int) == 0) = true := by simp [hq]
      have hq1 : ¬ (q : Int) > 0 := by omega
      by_cases hp : p = 0
      · have hp1 : ¬ (p : Int) > 0 := by omega
        have HE : Hid (M = ms) := by show _ = _; rw [HK.out.is, hp, hq]; rfl
        go_wp2
        go_end0
        exact ⟨rfl, by rw [HE.out]; exact HT.out, HO.out.1, HO.out.2, by rw [HE.out]; exact HK.out.few⟩
      · have hp1 : (p : Int) > 0 := by omega
        have hp2 : 0 < p := by omega
        obtain ⟨P, HPP⟩ : ∃ P, Hid (p = P + 1) := ⟨p - 1, by show _ = _; omega⟩
        have HK2 : Hid (Bak ls M P q (sb ms p q (box ms P q))) := by have := HK.out; rw [HPP.out] at this ⊢; exact this.up (Or.inl hq)
        obtain ⟨g', hb2, ch2, m2, hg', -, -, -, hqm2, -, hcg2, hcb2, -, -, -, -⟩ := HT.out.open HK.out.few (i := P) (j := q) (by have := HK.out.hol.sk.shp.shorter' (a := P) (b := p) (by have := HPP.out; omega); have := HK.out.hol.lt; omega)
        simp only [Option.some.injEq, Addr.mk.injEq, and_true] at hg'
        subst hg'
        obtain ⟨z, HZ⟩ : ∃ z, Hid (z = box ms P q) := ⟨_, rfl⟩
        rw [← HZ.out] at hcb2
        have hP : IntKind.i64.wrap ((p : Int) - 1) = (P : Int) := by have := HPP.out; have := HP.out; rw [IntWalk.i64_left, IntWalk.wrap64_in _ (by omega)]; omega
        have hPn : (P : Int) < (n : Int) := by have := HPP.out; omega
        have hqm3 : (q : Int) < (m2 : Int) := by omega
        have HPlt : Hid (P < p) := by have := HPP.out; show _ < _; omega
        clear hp hq
        go_wp2_with fail
        go_quiet (fail)
        go_wp2_with fail
        go_region
        go_wp2
        go_roundw
        case rel => exact ⟨P, q, _, rfl, rfl, HK2, by rw [← HZ.out]; exact HST.out z _ rfl, ⟨(HO.out.1.drewN _).setCell HSh.out _, by have := HO.out.2; simpa [World.drew] using this⟩⟩
        case measure => have := HPlt.out; simp [intOf]; omega
    · have hq0 : ((q : Int) == 0) = false := by simp; omega
      have hq1 : (q : Int) > 0 := by omega
      have hq2 : 0 < q := by omega
      obtain ⟨Q, HQQ⟩ : ∃ Q, Hid (q = Q + 1) := ⟨q - 1, by show _ = _; omega⟩
      obtain ⟨g', hb', ch', m', hg', -, HRv', -, -, -, -, hcz, -, -, -, -⟩ := HT.out.open HK.out.few (i := p) (j := Q) (by have := HK.out.hol.lt; have := HQQ.out; omega)
      have e1 := HRv'.out
      rw [HRv.out] at e1
      simp only [Value.slice.injEq, Option.some.injEq, Addr.mk.injEq, and_true] at e1
      obtain ⟨rfl, rfl, rfl⟩ := e1
      clear hg' HRv'
      obtain ⟨z, HZ⟩ : ∃ z, Hid (z = box ms p Q) := ⟨_, rfl⟩
      rw [← HZ.out] at hcz
      have hQ : IntKind.i64.wrap ((q : Int) - 1) = (Q : Int) := by have := HQQ.out; have := HP.out; rw [IntWalk.i64_left, IntWalk.wrap64_in _ (by omega)]; omega
      have hQm : (Q : Int) < (m : Int) := by have := HQQ.out; omega
      have HQlt : Hid (Q < q) := by have := HQQ.out; show _ < _; omega
      by_cases hp : p = 0
      · have hp1 : decide ((p : Int) > 0) = false := by simp [hp]
        have hp2 : decide (0 < p) = false := by simp [hp]
        have HK2 : Hid (Bak ls M p Q (sb ms p q (box ms p Q))) := by have := HK.out; rw [HQQ.out] at this ⊢; exact this.lf (fun h => by omega)
        clear hq hp
        go_wp2_with fail
        go_quiet (fail)
        go_wp2_with fail
        go_region
        go_wp2
        go_roundw
        case rel => exact ⟨p, Q, _, rfl, rfl, HK2, by rw [← HZ.out]; exact HST.out z _ rfl, ⟨(HO.out.1.drewN _).setCell HSh.out _, by have := HO.out.2; simpa [World.drew] using this⟩⟩
        case measure => have := HQlt.out; simp [intOf]; omega
      · have hp1 : (p : Int) > 0 := by omega
        have hp2 : 0 < p := by omega
        obtain ⟨P, HPP⟩ : ∃ P, Hid (p = P + 1) := ⟨p - 1, by show _ = _; omega⟩
        obtain ⟨g', hb2, ch2, m2, hg', -, -, -, hqm2, -, hcg2, hcy, -, -, -, -⟩ := HT.out.open HK.out.few (i := P) (j := q) (by have := HK.out.hol.sk.shp.shorter' (a := P) (b := p) (by have := HPP.out; omega); have := HK.out.hol.lt; omega)
        simp only [Option.some.injEq, Addr.mk.injEq, and_true] at hg'
        subst hg'
        obtain ⟨y, HY⟩ : ∃ y, Hid (y = box ms P q) := ⟨_, rfl⟩
        rw [← HY.out] at hcy
        have hP : IntKind.i64.wrap ((p : Int) - 1) = (P : Int) := by have := HPP.out; have := HP.out; rw [IntWalk.i64_left, IntWalk.wrap64_in _ (by omega)]; omega
        have hPn : (P : Int) < (n : Int) := by have := HPP.out; omega
        have hqm3 : (q : Int) < (m2 : Int) := by omega
        have HPlt : Hid (P < p) := by have := HPP.out; show _ < _; omega
        by_cases hyz : y > z
        · have HK2 : Hid (Bak ls M P q (sb ms p q (box ms P q))) := by
            have := HK.out
            have h1 : box ms p (q - 1) < box ms P q := by rw [← HY.out, show q - 1 = Q by have := HQQ.out; omega, ← HZ.out]; exact hyz
            rw [HPP.out] at this h1 ⊢
            exact this.up (Or.inr h1)
          clear hq hp
          go_wp2_with fail
          go_quiet (fail)
          go_wp2_with fail
          go_region
          go_wp2
          go_roundw
          case rel => exact ⟨P, q, _, rfl, rfl, HK2, by rw [← HY.out]; exact HST.out y _ rfl, ⟨(HO.out.1.drewN _).setCell HSh.out _, by have := HO.out.2; simpa [World.drew] using this⟩⟩
          case measure => have := HPlt.out; simp [intOf]; omega
        · have HK2 : Hid (Bak ls M p Q (sb ms p q (box ms p Q))) := by
            have := HK.out
            have h1 : ¬ box ms p Q < box ms (p - 1) q := by rw [← HZ.out, show p - 1 = P by have := HPP.out; omega, ← HY.out]; exact hyz
            rw [HQQ.out] at this h1 ⊢
            exact this.lf (fun _ => h1)
          clear hq hp
          go_wp2_with fail
          go_quiet (fail)
          go_wp2_with fail
          go_region
          go_wp2
          go_roundw
          case rel => exact ⟨p, Q, _, rfl, rfl, HK2, by rw [← HZ.out]; exact HST.out z _ rfl, ⟨(HO.out.1.drewN _).setCell HSh.out _, by have := HO.out.2; simpa [World.drew] using this⟩⟩
          case measure => have := HQlt.out; simp [intOf]; omega

end Go.Proofs.Ytjciandmpfcfjaa
