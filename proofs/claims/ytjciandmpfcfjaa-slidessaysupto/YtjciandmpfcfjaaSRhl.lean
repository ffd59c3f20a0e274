/-
  The contracts of slides.holesOf, slides.rises, slides.liesUnder, slides.Check.
  The contract of slides.Check.
  The contracts of slides.slid, slides.endsInCorner, slides.Slide.
  The contracts of slides.shapeOfHoles, slides.rectified.
  The contracts of ferref.Holes, ferref.IsCorner, ferref.HoleShape.
-/
import Derived.Test.YtjciandmpfcfjaaOTab
import Derived.Test.YtjciandmpfcfjaaSLat
import Derived.Test.YtjciandmpfcfjaaSMvd
namespace Go.Proofs.Ytjciandmpfcfjaa
open Go.RowKit

theorem Shows.dropO {w : World} {b off : Nat} {zs : List Int} (h : Shows w (some ⟨b, off, none⟩) zs) (j : Nat) : Shows w (some ⟨b, off + j, none⟩) (zs.drop j) := by
  refine ⟨by have := h.len; rw [List.length_drop]; omega, fun z hz => h.wf z (List.mem_of_mem_drop hz), fun hne => ?_⟩
  have hne2 : zs ≠ [] := fun e => hne (by rw [e]; simp)
  obtain ⟨b', off', e, h1, h2⟩ := h.cells hne2
  simp only [Option.some.injEq, Addr.mk.injEq, and_true] at e
  obtain ⟨rfl, rfl⟩ := e
  refine ⟨b, off + j, rfl, h1, fun k hk => ?_⟩
  rw [List.length_drop] at hk
  rw [Nat.add_assoc, h2 (j + k) (by omega), drop_getD']
theorem TableX.drewN {w : World} {a : Option Addr} {ls : List (List Int)} (h : TableX w a ls) (n : Nat) : TableX (w.drewN n) a ls := h.below (below_drewN (Below.refl _ _) n)
theorem TableX.elem {w : World} {a : Option Addr} {ls : List (List Int)} (h : TableX w a ls) {k : Nat} (hk : k < ls.length) :
    ∃ b off ai m ci, a = some ⟨b, off, none⟩ ∧ w.cell? ⟨b, off + k, none⟩ = some (.slice ai m ci) ∧ Hid (m = (row ls k).length) ∧ Hid (Shows w ai (row ls k)) ∧ m ≤ ci ∧ m ≤ 17592186044416 := by
  obtain ⟨b, off, ai, ci, h1, _, h3, h4, _, h6⟩ := h k hk
  exact ⟨b, off, ai, _, ci, h1, h3, rfl, h4, h6, h4.len⟩

set_option maxHeartbeats 2000000 in
theorem holesOf_is (a : Option Addr) (n cap : Nat) (zs : List Int) (w : World) (hs : Shows w a zs) (hn : n = zs.length) {h : Nat} (E : Hid (hol zs = h)) :
    Calls Try.prog 47 #[.slice a n cap] w fun e w' => e = .returned (.int .i64 h) ∧ w' = w := by
  subst hn
  have hl := hs.len
  have HS : Hid (Shows w a zs) := hs
  clear hs
  go_enter Try.func47, Try.ntmps47
  go_wp2
  go_loop [3] (fun i => ∃ k : Nat, k ≤ zs.length ∧ i = .int .i64 k ∧ Hid (∀ j, j < k → zs.getD j 0 = 0)) (fun i => zs.length - (intOf i).toNat)
  case atStart => exact ⟨0, Nat.zero_le _, rfl, fun j hj => by omega⟩
  case round =>
    obtain ⟨k, hk, rfl, HR⟩ := hrel
    by_cases hlt : k < zs.length
    · have hlt' : (k : Int) < (zs.length : Int) := by omega
      obtain ⟨b, off, z, rfl, HZ, hz1, hz2, hc⟩ := HS.out.elem hlt
      by_cases h0 : z = 0
      · have HZ0 : Hid (zs.getD k 0 = 0) := by rw [← HZ.out]; exact h0
        subst h0
        go_wp2
        go_round
        case rel => exact ⟨k + 1, by omega, by go_num, fun j hj => by
                      by_cases e : j = k
                      · subst e; exact HZ0.out
                      · exact HR.out j (by omega)⟩
        case measure => simp [intOf]; omega
      · have hz0 : (z == 0) = false := by simp; exact h0
        have HE : Hid (h = k) := by
          show _ = _
          rw [← E.out]
          exact hol_is (Nat.le_of_lt hlt) HR.out (fun _ => by rw [← HZ.out]; exact h0)
        clear h0
        go_wp2
        go_ret
        exact ⟨ret_int (by rw [HE.out]), rfl⟩
    · obtain rfl : k = zs.length := by omega
      have hlt' : ¬ (zs.length : Int) < (zs.length : Int) := by omega
      have HE : Hid (h = zs.length) := by
        show _ = _
        rw [← E.out]
        exact hol_is (Nat.le_refl _) HR.out (fun q => by omega)
      go_wp2
      go_ret
      exact ⟨ret_int (by rw [HE.out]), rfl⟩
set_option maxHeartbeats 2000000 in
theorem srises_any (a : Option Addr) (cap : Nat) (zs : List Int) (w : World) (hs : Shows w a zs) :
    Calls Try.prog 57 #[.slice a zs.length cap] w fun e w' => e = .returned (.bool (risesB zs)) ∧ w' = w := by
  have hl := hs.len
  go_enter Try.func57, Try.ntmps57
  go_wp2
  go_loop [3, 8] (fun s i => ∃ (k : Nat) (y : Int), k ≤ zs.length ∧ i = .int .i64 k ∧ s = .int .i64 y ∧ 1 ≤ y ∧ y ≤ 99 ∧ Hid (0 < k → y = zs.getD (k - 1) 0) ∧ Hid (k = 0 → y = 1) ∧ Hid (∀ j, j < k → 1 ≤ zs.getD j 0 ∧ zs.getD j 0 ≤ 99 ∧ (0 < j → zs.getD (j - 1) 0 ≤ zs.getD j 0))) (fun _ i => zs.length - (intOf i).toNat)
  case atStart => exact ⟨0, 1, Nat.zero_le _, rfl, rfl, by omega, by omega, fun h => by omega, fun _ => rfl, fun j hj => by omega⟩
  case round =>
    obtain ⟨k, y, hk, rfl, rfl, hy1, hy2, HY, HY0, HR⟩ := hrel
    by_cases hlt : k < zs.length
    · obtain ⟨b, off, z, rfl, HZ, hz1, hz2, hc⟩ := hs.elem hlt
      by_cases h1 : z < y
      · have HF : Hid (risesB zs = false) := by
          refine risesB_no hlt ?_
          rw [← HZ.out]
          rcases Nat.eq_zero_or_pos k with h0 | h0
          · left; have := HY0.out h0; omega
          · right; right; have := HY.out h0; omega
        go_wp2
        go_ret
        exact ⟨ret_bool HF.out.symm, rfl⟩
      · by_cases h2 : 99 < z
        · have HF : Hid (risesB zs = false) := by
            refine risesB_no hlt ?_
            rw [← HZ.out]; right; left; exact h2
          go_wp2
          go_ret
          exact ⟨ret_bool HF.out.symm, rfl⟩
        · go_wp2
          go_round
          case rel => exact ⟨k + 1, z, by omega, by go_num, rfl, by omega, by omega, fun _ => HZ.out, fun h => by omega, fun j hj => by
                        by_cases hj' : j < k
                        · exact HR.out j hj'
                        · obtain rfl : j = k := by omega
                          rw [← HZ.out]
                          exact ⟨by omega, by omega, fun h0 => by have := HY.out h0; omega⟩⟩
          case measure => simp [intOf]; omega
    · obtain rfl : k = zs.length := by omega
      have HT : Hid (risesB zs = true) := risesB_iff.2 HR.out
      go_wp2
      go_ret
      exact ⟨ret_bool HT.out.symm, rfl⟩

theorem srises_is {t : Bool} (a : Option Addr) (n cap : Nat) (zs : List Int) (w : World) (hs : Shows w a zs) (hn : n = zs.length) (E : Hid (risesB zs = t)) :
    Calls Try.prog 57 #[.slice a n cap] w fun e w' => e = .returned (.bool t) ∧ w' = w := by
  subst hn; have := srises_any a cap zs w hs; rw [E.out] at this; exact this

theorem lieB_no {r up : List Int} (h : ¬ (r.length ≤ up.length ∧ hol r ≤ hol up ∧ ∀ j, hol up ≤ j → j < r.length → up.getD j 0 < r.getD j 0)) : lieB r up = false := by
  cases e : lieB r up with
  | false => rfl
  | true => exact absurd (lieB_iff.1 e) h
set_option maxHeartbeats 4000000 in
theorem sliesUnder_is {t : Bool} (a b : Option Addr) (n m ca cb : Nat) (zs ys : List Int) (w : World) (hs : Shows w a zs) (ht : Shows w b ys) (hn : n = zs.length) (hm : m = ys.length) (E : Hid (lieB zs ys = t)) :
    Calls Try.prog 58 #[.slice a n ca, .slice b m cb] w fun e w' => e = .returned (.bool t) ∧ ∃ n, w' = w.drewN n := by
  subst hn; subst hm
  have hl := hs.len
  have hl2 := ht.len
  have HS : Hid (Shows w a zs) := hs
  have HT : Hid (Shows w b ys) := ht
  obtain ⟨p, hp⟩ : ∃ p, hol zs = p := ⟨_, rfl⟩
  obtain ⟨q, hq⟩ : ∃ q, hol ys = q := ⟨_, rfl⟩
  have HP : Hid (hol zs = p) := hp
  have HQ : Hid (hol ys = q) := hq
  have hql : q ≤ ys.length := by rw [← hq]; exact hol_le _
  clear hs ht hp hq
  by_cases c1 : ys.length < zs.length
  · have g1 : decide ((zs.length : Int) > (ys.length : Int)) = true := by simp; omega
    have HF : Hid (t = false) := by rw [← E.out]; exact lieB_no (fun k => by omega)
    go_enter Try.func58, Try.ntmps58
    go_wp2
    go_ret
    exact ⟨by rw [HF.out]; rfl, 0, rfl⟩
  · have g1 : decide ((zs.length : Int) > (ys.length : Int)) = false := by simp; omega
    have hzy : zs.length ≤ ys.length := by omega
    go_enter Try.func58, Try.ntmps58
    go_wp2_with fail
    refine (holesOf_is a _ _ zs w HS.out rfl HP).mono ?_
    rintro e w1 ⟨rfl, hw1⟩
    obtain rfl : w = w1 := hw1.symm
    clear hw1
    go_wp2_with fail
    refine (holesOf_is b _ _ ys w HT.out rfl HQ).mono ?_
    rintro e w1 ⟨rfl, hw1⟩
    obtain rfl : w = w1 := hw1.symm
    clear hw1
    by_cases c2 : q < p
    · have g2 : decide ((p : Int) > (q : Int)) = true := by simp; omega
      have g3 : decide (q < p) = true := by simp; omega
      have HF : Hid (t = false) := by rw [← E.out]; exact lieB_no (fun k => by have := HP.out; have := HQ.out; omega)
      go_wp2
      go_ret
      exact ⟨by rw [HF.out]; rfl, 0, rfl⟩
    · have g2 : decide ((p : Int) > (q : Int)) = false := by simp; omega
      have g3 : decide (q < p) = false := by simp; omega
      have hpq : p ≤ q := by omega
      go_wp2_with fail
      refine (holesOf_is b _ _ ys w HT.out rfl HQ).mono ?_
      rintro e w1 ⟨rfl, hw1⟩
      obtain rfl : w = w1 := hw1.symm
      clear hw1
      go_wp2
      go_loopw [5] (fun i wr => ∃ k : Nat, i = .int .i64 k ∧ k ≤ ys.length ∧ q ≤ k ∧ Hid (∀ j, q ≤ j → j < k → j < zs.length → ys.getD j 0 < zs.getD j 0) ∧ Hid (∃ n, wr = w.drewN n)) (fun i _ => ys.length - (intOf i).toNat)
      case atStart => exact ⟨q, rfl, hql, Nat.le_refl _, fun j h1 h2 => by omega, ⟨0, rfl⟩⟩
      case round =>
        obtain ⟨k, rfl, hky, hqk, HR, HD⟩ := hrel
        by_cases hlt : k < zs.length
        · have hlt1' : (k : Int) < (zs.length : Int) := by omega
          have hlt2' : (k : Int) < (ys.length : Int) := by omega
          have HS1 : Hid (Shows wr a zs) := by obtain ⟨d, hd⟩ := HD.out; rw [hd]; exact HS.out.below (below_drewN (Below.refl _ _) d)
          have HT1 : Hid (Shows wr b ys) := by obtain ⟨d, hd⟩ := HD.out; rw [hd]; exact HT.out.below (below_drewN (Below.refl _ _) d)
          obtain ⟨b1, off, z, rfl, HZ, hz1, hz2, hcz⟩ := HS1.out.elem hlt
          obtain ⟨b2, off2, y, rfl, HY, hy1, hy2, hcy⟩ := HT1.out.elem (k := k) (by omega)
          have HDn : Hid (∀ m, ∃ n, wr.drewN m = w.drewN n) := fun m => by obtain ⟨d, hd⟩ := HD.out; exact ⟨_, by rw [hd]; exact drewN_two _ _ _⟩
          by_cases he : z ≤ y
          · have HF : Hid (t = false) := by rw [← E.out]; exact lieB_no (fun q' => by have := q'.2.2 k (by rw [HQ.out]; exact hqk) hlt; rw [← HZ.out, ← HY.out] at this; omega)
            go_wp2_with fail
            go_quiet (fail)
            go_wp2
            go_ret
            exact ⟨by rw [HF.out]; rfl, HDn.out _⟩
          · have HR2 : Hid (∀ j, q ≤ j → j < k + 1 → j < zs.length → ys.getD j 0 < zs.getD j 0) := fun j h1 h2 h3 => by
              by_cases e : j = k
              · subst e; rw [← HZ.out, ← HY.out]; omega
              · exact HR.out j h1 (by omega) h3
            go_wp2_with fail
            go_quiet (fail)
            go_wp2
            go_roundw
            case rel => exact ⟨k + 1, by go_num, by omega, by omega, HR2, HDn.out _⟩
            case measure => simp [intOf]; omega
        · have hlt' : ¬ (k : Int) < (zs.length : Int) := by omega
          have HTt : Hid (t = true) := by rw [← E.out]; exact lieB_iff.2 ⟨hzy, by have := HP.out; have := HQ.out; omega, fun j h1 h2 => HR.out j (by have := HQ.out; omega) (by omega) h2⟩
          go_wp2
          go_ret
          exact ⟨by rw [HTt.out]; rfl, HD.out⟩

end Go.Proofs.Ytjciandmpfcfjaa

namespace Go.Proofs.Ytjciandmpfcfjaa
open Go.RowKit

theorem upOf_pred (ls : List (List Int)) {k : Nat} (h : 0 < k) : upOf ls k = row ls (k - 1) := by unfold upOf; rw [if_neg (by omega)]

set_option maxHeartbeats 8000000 in
theorem SkCheck_any (a : Option Addr) (cap : Nat) (ls : List (List Int)) (w : World) (hs : TableX w a ls) (hl : ls.length ≤ 17592186044416) :
    Calls Try.prog 18 #[.slice a ls.length cap] w fun e w' => e = .returned (.int .i64 (schk ls)) ∧ ∃ n, w' = w.drewN n := by
  have HS : Hid (TableX w a ls) := hs
  clear hs
  go_enter Try.func18, Try.ntmps18
  go_wp2
  go_loop [3, 10] (fun s i => ∃ (k x : Nat), k ≤ ls.length ∧ i = .int .i64 k ∧ s = .int .i64 x ∧ x ≤ 40 ∧ Hid (x = (ls.take k).flatten.length)) (fun _ i => ls.length - (intOf i).toNat)
  case atStart => exact ⟨0, 0, Nat.zero_le _, rfl, rfl, by omega, by simp [Hid]⟩
  case round =>
    obtain ⟨k, x, hk, rfl, rfl, hx, HX⟩ := hrel
    by_cases hlt : k < ls.length
    · have hlt' : (k : Int) < (ls.length : Int) := by omega
      obtain ⟨b, off, ai, m, ci, rfl, hc, HM, -, -, hmb⟩ := HS.out.elem hlt
      have HN : Hid (x + m = (ls.take (k + 1)).flatten.length) := by show _ = _; rw [flat_take ls k hlt, List.length_append, ← HX.out, ← HM.out]
      by_cases h40 : 40 < x + m
      · have HF : Hid (schk ls = 2) := by
          show _ = _
          have := flat_take_le ls (k + 1)
          unfold schk
          rw [if_pos (by have := HN.out; omega)]
        have hg : decide ((x : Int) + (m : Int) > 40) = true := by simp; omega
        go_wp2
        go_ret
        exact ⟨ret_int HF.out.symm, 0, rfl⟩
      · have hg : decide ((x : Int) + (m : Int) > 40) = false := by simp; omega
        go_wp2
        go_round
        case rel => exact ⟨k + 1, x + m, by omega, by go_num, by go_num, by omega, HN⟩
        case measure => simp [intOf]; omega
    · obtain rfl : k = ls.length := by omega
      have HC : Hid (schk ls = if okSk ls = true then 0 else 1) := by
        show _ = _
        have := HX.out
        rw [List.take_length] at this
        unfold schk; rw [if_neg (by omega)]
      have hkk : ¬ ((ls.length : Int) < (ls.length : Int)) := by omega
      clear HX hx
      go_wp2
      go_loopw [23] (fun i wr => ∃ (k : Nat), k ≤ ls.length ∧ i = .int .i64 k ∧ Hid (∀ i, i < k → skB i (upOf ls i) (row ls i) = true) ∧ Hid (∃ n, wr = w.drewN n)) (fun i _ => ls.length - (intOf i).toNat)
      case atStart => exact ⟨0, Nat.zero_le _, rfl, fun i hi => by omega, ⟨0, rfl⟩⟩
      case round =>
        obtain ⟨k, hk, rfl, HR, HD⟩ := hrel
        by_cases hlt : k < ls.length
        · have hlt' : (k : Int) < (ls.length : Int) := by omega
          have HSw : Hid (TableX wr a ls) := by obtain ⟨d, hd⟩ := HD.out; rw [hd]; exact HS.out.drewN d
          obtain ⟨b, off, ai, q, ci, rfl, hc, HQ, HSk, hqc, hqb⟩ := HSw.out.elem hlt
          have HNo : Hid (skB k (upOf ls k) (row ls k) = false → schk ls = 1) := fun h => by rw [HC.out, okSk_no hlt h]; rfl
          by_cases h0 : q = 0
          · have HF : Hid (schk ls = 1) := HNo.out (by unfold skB; rw [← HQ.out, h0]; simp)
            subst h0
            go_wp2
            go_ret
            exact ⟨ret_int HF.out.symm, HD.out⟩
          · have hq0 : ((q : Int) == 0) = false := beq_false_of_ne (by omega)
            have hq0' : 0 < q := by omega
            obtain ⟨b2, off2, hai, -, -⟩ := HSk.out.cells (fun e => by have := HQ.out; rw [e] at this; simp at this; omega)
            subst hai
            obtain ⟨h, hh⟩ : ∃ h, hol (row ls k) = h := ⟨_, rfl⟩
            have HH : Hid (hol (row ls k) = h) := hh
            have hhq : h ≤ q := by rw [← hh, HQ.out]; exact hol_le _
            have hhq' : (h : Int) ≤ (q : Int) := by omega
            have hqc' : (q : Int) ≤ (ci : Int) := by omega
            have HSd : Hid (Shows wr (some ⟨b2, off2 + h, none⟩) ((row ls k).drop h)) := HSk.out.dropO h
            have HLd : Hid (q - h = ((row ls k).drop h).length) := by show _ = _; rw [List.length_drop, HQ.out]
            have HB0 : Hid (skB k (upOf ls k) (row ls k) = (risesB ((row ls k).drop h) && (decide (k = 0) || lieB (row ls k) (upOf ls k)))) := by
              show _ = _
              unfold skB
              rw [← HQ.out, decide_eq_true hq0', hh]; simp
            clear h0 hh
            go_wp2_with fail
            refine (holesOf_is _ _ _ (row ls k) wr HSk.out HQ.out HH).mono ?_
            rintro e w1 ⟨rfl, hw1⟩
            obtain rfl : wr = w1 := hw1.symm
            clear hw1
            by_cases hch : ci = h
            · have HSe : Hid (Shows wr (some ⟨b2, off2, none⟩) ((row ls k).drop h)) := by
                show Shows _ _ _
                rw [List.drop_eq_nil_of_le (by have := HQ.out; omega)]
                exact ⟨by simp, fun z hz => by simp at hz, fun hne => absurd rfl hne⟩
              have hqh : q = h := by omega
              subst hqh
              subst hch
              cases er : risesB ((row ls k).drop ci) with
              | false =>
                have ER : Hid (risesB ((row ls k).drop ci) = false) := er
                have HF : Hid (schk ls = 1) := HNo.out (by rw [HB0.out, er]; rfl)
                clear er
                go_wp2_with fail
                refine (srises_is (some ⟨b2, off2, none⟩) _ _ ((row ls k).drop ci) wr HSe.out (by have := HLd.out; omega) ER).mono ?_
                rintro e w1 ⟨rfl, hw1⟩
                obtain rfl : wr = w1 := hw1.symm
                clear hw1
                go_wp2
                go_ret
                exact ⟨ret_int HF.out.symm, HD.out⟩
              | true =>
                have ER : Hid (risesB ((row ls k).drop ci) = true) := er
                clear er
                go_wp2_with fail
                refine (srises_is (some ⟨b2, off2, none⟩) _ _ ((row ls k).drop ci) wr HSe.out (by have := HLd.out; omega) ER).mono ?_
                rintro e w1 ⟨rfl, hw1⟩
                obtain rfl : wr = w1 := hw1.symm
                clear hw1
                by_cases hk0 : k = 0
                · have g0 : decide ((k : Int) > 0) = false := by simp [hk0]
                  have g1 : decide (0 < k) = false := by simp [hk0]
                  have HT : Hid (skB k (upOf ls k) (row ls k) = true) := by show _ = _; rw [HB0.out, ER.out, hk0]; rfl
                  clear hk0
                  go_wp2
                  go_roundw
                  case rel => exact ⟨k + 1, by omega, by go_num, fun i hi => by
                                rcases Nat.lt_succ_iff_lt_or_eq.1 hi with h | h
                                · exact HR.out i h
                                · subst h; exact HT.out, HD⟩
                  case measure => simp [intOf]; omega
                · have g0 : (k : Int) > 0 := by omega
                  have g1 : 0 < k := by omega
                  obtain ⟨P, HPP⟩ : ∃ P, Hid (k = P + 1) := ⟨k - 1, by show _ = _; omega⟩
                  have hP : IntKind.i64.wrap ((k : Int) - 1) = (P : Int) := by have := HPP.out; rw [IntWalk.i64_left, IntWalk.wrap64_in _ (by omega)]; omega
                  have hPl : (P : Int) < (ls.length : Int) := by have := HPP.out; omega
                  obtain ⟨b', off', au, mu, cu, hau, hcu, HMu, HSu, -, -⟩ := HSw.out.elem (k := P) (by have := HPP.out; omega)
                  simp only [Option.some.injEq, Addr.mk.injEq, and_true] at hau
                  obtain ⟨rfl, rfl⟩ := hau
                  have HUp : Hid (upOf ls k = row ls P) := by show _ = _; rw [HPP.out, upOf_succ]
                  have HK0 : Hid (¬ k = 0) := hk0
                  clear hk0
                  cases eu : lieB (row ls k) (row ls P) with
                  | false =>
                    have EU : Hid (lieB (row ls k) (row ls P) = false) := eu
                    have HF : Hid (schk ls = 1) := HNo.out (by rw [HB0.out, ER.out, HUp.out, eu, decide_eq_false HK0.out]; rfl)
                    clear eu
                    go_wp2_with fail
                    refine (sliesUnder_is _ _ _ _ _ _ _ _ wr HSk.out HSu.out HQ.out HMu.out EU).mono ?_
                    rintro e w1 ⟨rfl, d1, hw1⟩
                    have HD1 : Hid (∃ n, w1 = w.drewN n) := by obtain ⟨d, hd⟩ := HD.out; exact ⟨_, by rw [hw1, hd]; exact drewN_two _ _ _⟩
                    clear hw1
                    go_wp2
                    go_ret
                    exact ⟨ret_int HF.out.symm, HD1.out⟩
                  | true =>
                    have EU : Hid (lieB (row ls k) (row ls P) = true) := eu
                    have HT : Hid (skB k (upOf ls k) (row ls k) = true) := by show _ = _; rw [HB0.out, ER.out, HUp.out, eu]; simp
                    clear eu
                    go_wp2_with fail
                    refine (sliesUnder_is _ _ _ _ _ _ _ _ wr HSk.out HSu.out HQ.out HMu.out EU).mono ?_
                    rintro e w1 ⟨rfl, d1, hw1⟩
                    have HD1 : Hid (∃ n, w1 = w.drewN n) := by obtain ⟨d, hd⟩ := HD.out; exact ⟨_, by rw [hw1, hd]; exact drewN_two _ _ _⟩
                    clear hw1
                    go_wp2
                    go_roundw
                    case rel => exact ⟨k + 1, by omega, by go_num, fun i hi => by
                                  rcases Nat.lt_succ_iff_lt_or_eq.1 hi with h | h
                                  · exact HR.out i h
                                  · subst h; exact HT.out, HD1⟩
                    case measure => simp [intOf]; omega
            · have hch' : ¬ ci = h := hch
              cases er : risesB ((row ls k).drop h) with
              | false =>
                have ER : Hid (risesB ((row ls k).drop h) = false) := er
                have HF : Hid (schk ls = 1) := HNo.out (by rw [HB0.out, er]; rfl)
                clear er
                go_wp2_with fail
                refine (srises_is (some ⟨b2, off2 + h, none⟩) (q - h) (ci - h) ((row ls k).drop h) wr HSd.out HLd.out ER).mono ?_
                rintro e w1 ⟨rfl, hw1⟩
                obtain rfl : wr = w1 := hw1.symm
                clear hw1
                go_wp2
                go_ret
                exact ⟨ret_int HF.out.symm, HD.out⟩
              | true =>
                have ER : Hid (risesB ((row ls k).drop h) = true) := er
                clear er
                go_wp2_with fail
                refine (srises_is (some ⟨b2, off2 + h, none⟩) (q - h) (ci - h) ((row ls k).drop h) wr HSd.out HLd.out ER).mono ?_
                rintro e w1 ⟨rfl, hw1⟩
                obtain rfl : wr = w1 := hw1.symm
                clear hw1
                by_cases hk0 : k = 0
                · have g0 : decide ((k : Int) > 0) = false := by simp [hk0]
                  have g1 : decide (0 < k) = false := by simp [hk0]
                  have HT : Hid (skB k (upOf ls k) (row ls k) = true) := by show _ = _; rw [HB0.out, ER.out, hk0]; rfl
                  clear hk0
                  go_wp2
                  go_roundw
                  case rel => exact ⟨k + 1, by omega, by go_num, fun i hi => by
                                rcases Nat.lt_succ_iff_lt_or_eq.1 hi with h | h
                                · exact HR.out i h
                                · subst h; exact HT.out, HD⟩
                  case measure => simp [intOf]; omega
                · have g0 : (k : Int) > 0 := by omega
                  have g1 : 0 < k := by omega
                  obtain ⟨P, HPP⟩ : ∃ P, Hid (k = P + 1) := ⟨k - 1, by show _ = _; omega⟩
                  have hP : IntKind.i64.wrap ((k : Int) - 1) = (P : Int) := by have := HPP.out; rw [IntWalk.i64_left, IntWalk.wrap64_in _ (by omega)]; omega
                  have hPl : (P : Int) < (ls.length : Int) := by have := HPP.out; omega
                  obtain ⟨b', off', au, mu, cu, hau, hcu, HMu, HSu, -, -⟩ := HSw.out.elem (k := P) (by have := HPP.out; omega)
                  simp only [Option.some.injEq, Addr.mk.injEq, and_true] at hau
                  obtain ⟨rfl, rfl⟩ := hau
                  have HUp : Hid (upOf ls k = row ls P) := by show _ = _; rw [HPP.out, upOf_succ]
                  have HK0 : Hid (¬ k = 0) := hk0
                  clear hk0
                  cases eu : lieB (row ls k) (row ls P) with
                  | false =>
                    have EU : Hid (lieB (row ls k) (row ls P) = false) := eu
                    have HF : Hid (schk ls = 1) := HNo.out (by rw [HB0.out, ER.out, HUp.out, eu, decide_eq_false HK0.out]; rfl)
                    clear eu
                    go_wp2_with fail
                    refine (sliesUnder_is _ _ _ _ _ _ _ _ wr HSk.out HSu.out HQ.out HMu.out EU).mono ?_
                    rintro e w1 ⟨rfl, d1, hw1⟩
                    have HD1 : Hid (∃ n, w1 = w.drewN n) := by obtain ⟨d, hd⟩ := HD.out; exact ⟨_, by rw [hw1, hd]; exact drewN_two _ _ _⟩
                    clear hw1
                    go_wp2
                    go_ret
                    exact ⟨ret_int HF.out.symm, HD1.out⟩
                  | true =>
                    have EU : Hid (lieB (row ls k) (row ls P) = true) := eu
                    have HT : Hid (skB k (upOf ls k) (row ls k) = true) := by show _ = _; rw [HB0.out, ER.out, HUp.out, eu]; simp
                    clear eu
                    go_wp2_with fail
                    refine (sliesUnder_is _ _ _ _ _ _ _ _ wr HSk.out HSu.out HQ.out HMu.out EU).mono ?_
                    rintro e w1 ⟨rfl, d1, hw1⟩
                    have HD1 : Hid (∃ n, w1 = w.drewN n) := by obtain ⟨d, hd⟩ := HD.out; exact ⟨_, by rw [hw1, hd]; exact drewN_two _ _ _⟩
                    clear hw1
                    go_wp2
                    go_roundw
                    case rel => exact ⟨k + 1, by omega, by go_num, fun i hi => by
                                  rcases Nat.lt_succ_iff_lt_or_eq.1 hi with h | h
                                  · exact HR.out i h
                                  · subst h; exact HT.out, HD1⟩
                    case measure => simp [intOf]; omega
        · obtain rfl : k = ls.length := by omega
          have hlt' : ¬ (ls.length : Int) < (ls.length : Int) := by omega
          have HT : Hid (schk ls = 0) := by
            show _ = _
            rw [HC.out, if_pos]
            unfold okSk
            exact List.all_eq_true.2 (fun i hi => HR.out i (List.mem_range.1 hi))
          go_wp2
          go_ret
          exact ⟨ret_int HT.out.symm, HD.out⟩
theorem SkCheck_is {c : Int} (a : Option Addr) (n cap : Nat) (ls : List (List Int)) (w : World) (hs : TableX w a ls) (hl : ls.length ≤ 17592186044416) (hn : n = ls.length) (E : Hid (schk ls = c)) :
    Calls Try.prog 18 #[.slice a n cap] w fun e w' => e = .returned (.int .i64 c) ∧ ∃ n, w' = w.drewN n := by
  subst hn; have := SkCheck_any a cap ls w hs hl; rw [E.out] at this; exact this

end Go.Proofs.Ytjciandmpfcfjaa

namespace Go.Proofs.Ytjciandmpfcfjaa
open Go.RowKit

set_option maxHeartbeats 4000000 in
theorem sslid_at {ls : List (List Int)} {lo : Nat} {S : Nat → Prop} {h : Nat → Nat} (a : Option Addr) (n cap : Nat) (vs : List Value) (i : Nat) (w : World) (hT : TblIn w lo S (.slice a n cap) vs ls) (hF : Few ls) (hK : Sk non h ls) (hc : h (i + 1) < h i) :
    Calls Try.prog 49 #[.slice a n cap, .int .i64 i] w fun e w' => ∃ v', e = .returned (.tuple #[v', .int .i64 ((slR ls i).2 : Nat)]) ∧ TIn w' lo S v' (slR ls i).1 ∧ Off S w w' ∧ w'.heap.size = w.heap.size ∧ Few (slR ls i).1 := by
  obtain ⟨k1, k2⟩ := corner_hol hK hc
  have hhl := hK.hol i
  have HT : Hid (TblIn w lo S (.slice a n cap) vs ls) := hT
  have HF : Hid (Few ls) := hF
  have HH : Hid (Hol (less h i) ls i (h i - 1)) := k1
  obtain ⟨d, HD⟩ : ∃ d, Hid (h i = d + 1) := ⟨h i - 1, by show _ = _; omega⟩
  have HHd : Hid (hol (row ls i) = d + 1) := by show _ = _; rw [hhl]; exact HD.out
  have HH2 : Hid (Hol (less h i) ls i d) := by have := HH.out; rw [HD.out, Nat.add_sub_cancel] at this; exact this
  have HR : Hid (slR ls i = (tk (mv (left ls i d) ls i d).1 (mv (left ls i d) ls i d).2.1, (mv (left ls i d) ls i d).2.1)) := by
    show _ = _
    unfold slR; rw [HHd.out, Nat.add_sub_cancel]
  obtain ⟨g, hb, ch, m, rfl, hnl, HRv, HMm, hjm, hm1, hcg, -, -, HSh, hgl, hhl2⟩ := hT.open hF (i := i) k1.lt
  have hin : (i : Int) < (n : Int) := by have := k1.row; omega
  obtain ⟨ar, cr, hrv, hSr⟩ := (hT.t.rows i k1.row).shows (by have := (hF.bd _ (row_mem k1.row)).1; exact this) (hF.bd _ (row_mem k1.row)).2
  rw [HRv.out] at hrv
  simp only [Value.slice.injEq] at hrv
  obtain ⟨rfl, -, rfl⟩ := hrv
  have HSr : Hid (Shows w (some ⟨hb, 0, none⟩) (row ls i)) := hSr
  have hd1 : d < 1000 := by have := HH2.out.lt; have := (hF.one _ (row_mem k1.row)).2; omega
  have hsub : IntKind.i64.wrap (((d + 1 : Nat) : Int) - 1) = (d : Int) := by rw [IntWalk.i64_left, IntWalk.wrap64_in _ (by omega)]; omega
  clear k1 k2 hhl hT hF hK hc hSr hnl
  go_enter Try.func49, Try.ntmps49
  go_wp2_with fail
  refine (holesOf_is _ _ _ (row ls i) w HSr.out HMm.out HHd).mono ?_
  rintro e w1 ⟨rfl, hw1⟩
  obtain rfl : w = w1 := hw1.symm
  clear hw1
  go_wp2_with fail
  refine (moved_at _ _ _ _ i d w HT.out HF.out HH2.out).mono ?_
  rintro e w2 ⟨rfl, hT2, hO2, hz2, hF2⟩
  have hE := mv_ends _ _ ls i d HH2.out (Nat.le_refl _)
  obtain ⟨ms, mi, mj, hM⟩ : ∃ ms mi mj, mv (left ls i d) ls i d = (ms, mi, mj) := ⟨_, _, _, rfl⟩
  rw [hM] at hT2 hF2 hE HR ⊢
  simp only at hT2 hF2 hE HR ⊢
  have HT2 : Hid (TIn w2 lo S (.slice (some ⟨g, 0, none⟩) n cap) ms) := ⟨_, hT2⟩
  have HF2 : Hid (Few ms) := hF2
  have HMi : Hid (mi < ms.length) := hE.hol.row
  have HO2 : Hid (Off S w w2) := hO2
  have HZ2 : Hid (w2.heap.size = w.heap.size) := hz2
  clear hT2 hF2 hE hM hO2 hz2
  go_wp2_with fail
  refine (shortened_at _ mi w2 HT2.out HMi.out HF2.out.len HF2.out.one).mono ?_
  rintro e w3 ⟨v3, rfl, hT3, hO3, hz3⟩
  have HT3 : Hid (TIn w3 lo S v3 (tk ms mi)) := hT3
  have HO3 : Hid (Off S w w3) := HO2.out.trans ⟨hO3.low, fun k hk hs => hO3.block k hk (fun q => hs (Or.inl q))⟩
  have HZ3 : Hid (w3.heap.size = w.heap.size) := by rw [← HZ2.out]; exact hz3
  obtain ⟨a3, n3, c3, hv3⟩ : ∃ a3 n3 c3, v3 = .slice a3 n3 c3 := by obtain ⟨q, hq⟩ := hT3; obtain ⟨x, y, e⟩ := hq.t.shape; exact ⟨_, _, _, e⟩
  subst hv3
  clear hT3 hO3 hz3
  go_wp2
  go_ret2
  exact ⟨_, by rw [HR.out]; rfl, by rw [HR.out]; exact HT3.out, HO3.out, HZ3.out, by rw [HR.out]; exact HF2.out.tk mi⟩
set_option maxHeartbeats 4000000 in
theorem endsInCorner_is {t : Bool} (a : Option Addr) (n cap : Nat) (ls : List (List Int)) (i : Nat) (w : World) (hs : Table w a ls) (hn : n = ls.length) (hl : ls.length ≤ 1000) (hi : i < ls.length) (E : Hid (decide (H ls (i + 1) < H ls i) = t)) :
    Calls Try.prog 48 #[.slice a n cap, .int .i64 i] w fun e w' => e = .returned (.bool t) ∧ w' = w := by
  subst hn
  have HS : Hid (Table w a ls) := hs
  obtain ⟨p, HP⟩ : ∃ p, Hid (hol (row ls i) = p) := ⟨_, rfl⟩
  have hi' : (i : Int) < (ls.length : Int) := by omega
  have hi1 : IntKind.i64.wrap ((i : Int) + 1) = ((i + 1 : Nat) : Int) := by rw [IntWalk.i64_left, IntWalk.wrap64_in _ (by omega)]; omega
  obtain ⟨b, off, ai, m, ci, rfl, hc, HM, HSk, -, -⟩ := hs.elem hi
  clear hs
  by_cases c : i + 1 < ls.length
  · have c' : ((i + 1 : Nat) : Int) < (ls.length : Int) := by omega
    obtain ⟨b', off', ai2, m2, ci2, ha2, hc2, HM2, HSk2, -, -⟩ := HS.out.elem c
    simp only [Option.some.injEq, Addr.mk.injEq, and_true] at ha2
    obtain ⟨rfl, rfl⟩ := ha2
    obtain ⟨q, HQ⟩ : ∃ q, Hid (hol (row ls (i + 1)) = q) := ⟨_, rfl⟩
    have hpb : p ≤ 17592186044416 := by rw [← HP.out]; have := hol_le (row ls i); have := HSk.out.len; omega
    have hqb : q ≤ 17592186044416 := by rw [← HQ.out]; have := hol_le (row ls (i + 1)); have := HSk2.out.len; omega
    have HT : Hid (decide ((p : Int) > (q : Int)) = t) := by
      rw [← E.out]; unfold H; rw [HP.out, HQ.out]
      exact decide_eq_decide.2 (by omega)
    go_enter Try.func48, Try.ntmps48
    go_wp2_with fail
    refine (holesOf_is _ _ _ (row ls (i + 1)) w HSk2.out HM2.out HQ).mono ?_
    rintro e w1 ⟨rfl, hw1⟩
    obtain rfl : w = w1 := hw1.symm
    clear hw1
    go_wp2_with fail
    refine (holesOf_is _ _ _ (row ls i) w HSk.out HM.out HP).mono ?_
    rintro e w1 ⟨rfl, hw1⟩
    obtain rfl : w = w1 := hw1.symm
    clear hw1
    by_cases cc : q < p
    · have g1 : decide ((p : Int) > (q : Int)) = true := by simp; omega
      have g2 : decide (q < p) = true := by simp; omega
      have HT2 : Hid (t = true) := by rw [← HT.out]; exact g1
      go_wp2
      go_ret
      exact ⟨by rw [HT2.out]; rfl, rfl⟩
    · have g1 : decide ((p : Int) > (q : Int)) = false := by simp; omega
      have g2 : decide (q < p) = false := by simp; omega
      have HT2 : Hid (t = false) := by rw [← HT.out]; exact g1
      go_wp2
      go_ret
      exact ⟨by rw [HT2.out]; rfl, rfl⟩
  · have c' : ¬ ((i + 1 : Nat) : Int) < (ls.length : Int) := by omega
    have HT : Hid (decide (0 < p) = t) := by
      rw [← E.out]; unfold H
      rw [HP.out, row_out (ls := ls) (a := i + 1) (by omega)]
      rfl
    go_enter Try.func48, Try.ntmps48
    go_wp2_with fail
    refine (holesOf_is _ _ _ (row ls i) w HSk.out HM.out HP).mono ?_
    rintro e w1 ⟨rfl, hw1⟩
    obtain rfl : w = w1 := hw1.symm
    clear hw1
    by_cases cc : 0 < p
    · have g1 : decide ((p : Int) > 0) = true := by simp; omega
      have HT2 : Hid (t = true) := by rw [← HT.out]; simp; exact cc
      go_wp2
      go_ret
      exact ⟨by rw [HT2.out]; rfl, rfl⟩
    · have g1 : decide ((p : Int) > 0) = false := by simp; omega
      have g2 : decide (0 < p) = false := by simp; omega
      have HT2 : Hid (t = false) := by rw [← HT.out]; exact g2
      go_wp2
      go_ret
      exact ⟨by rw [HT2.out]; rfl, rfl⟩

end Go.Proofs.Ytjciandmpfcfjaa

namespace Go.Proofs.Ytjciandmpfcfjaa
open Go.RowKit

/-- The holes of the first rows, those without any left out. -/
def hsF (ls : List (List Int)) : Nat → List Int
  | 0 => []
  | k + 1 => hsF ls k ++ (if 0 < H ls k then [(H ls k : Int)] else [])
theorem hsF_len (ls : List (List Int)) : ∀ k, (hsF ls k).length ≤ k := by
  intro k
  induction k with
  | zero => exact Nat.le_refl _
  | succ k ih => simp only [hsF, List.length_append]; split <;> simp <;> omega
theorem hsF_tab {h : Nat → Nat} {ls : List (List Int)} (k : Sk non h ls) : ∀ n, ∃ j, j ≤ n ∧ hsF ls n = tab j (fun a => (h a : Int)) ∧ (j = n ∨ h j = 0) ∧ ∀ a, a < j → 0 < h a := by
  have hH : ∀ a, H ls a = h a := fun a => k.hol a
  intro n
  induction n with
  | zero => exact ⟨0, Nat.le_refl _, rfl, Or.inl rfl, fun a ha => by omega⟩
  | succ n ih =>
    obtain ⟨j, h1, h2, h3, h4⟩ := ih
    simp only [hsF, hH]
    by_cases c : 0 < h n
    · have hj : j = n := by
        rcases h3 with q | q
        · exact q
        · have := k.mono (a := j) (c := n) h1; omega
      subst hj
      exact ⟨j + 1, Nat.le_refl _, by rw [if_pos c, h2, tab_succ], Or.inl rfl, fun a ha => by
        by_cases e : a = j
        · rw [e]; exact c
        · exact h4 a (by omega)⟩
    · refine ⟨j, by omega, by rw [if_neg c, List.append_nil, h2], ?_, h4⟩
      rcases h3 with q | q
      · right; rw [q]; omega
      · exact Or.inr q
theorem hsF_count {h : Nat → Nat} {ls : List (List Int)} (k : Sk non h ls) (a : Nat) : (byRow 0 (hsF ls ls.length)).count a = h a := by
  obtain ⟨j, h1, h2, h3, h4⟩ := hsF_tab k ls.length
  have := byRow_count (hsF ls ls.length) 0 a
  rw [Nat.zero_add] at this
  rw [this, h2]
  by_cases c : a < j
  · rw [tab_getD _ _ _ c]; simp
  · rw [tab_out _ _ _ (by omega)]
    rcases h3 with q | q
    · have := k.hl a; rw [row_out (by omega)] at this; simp at this; simp [this]
    · have := k.mono (a := j) (c := a) (by omega); simp; omega
theorem hsF_lat {h : Nat → Nat} {ls : List (List Int)} (k : Sk non h ls) : Lat (byRow 0 (hsF ls ls.length)) :=
  lat_sorted (byRow_sorted _ _) (fun a => by rw [hsF_count k, hsF_count k]; exact k.hm a)
theorem byRow_snoc (l : List Int) (x : Int) : byRow 0 (l ++ [x]) = byRow 0 l ++ List.replicate x.toNat l.length := by
  have gen : ∀ (l : List Int) (i : Nat), byRow i (l ++ [x]) = byRow i l ++ List.replicate x.toNat (i + l.length) := by
    intro l
    induction l with
    | nil => intro i; simp [byRow]
    | cons y l ih => intro i; simp only [List.cons_append, byRow, ih, List.append_assoc, List.length_cons]; congr 3; omega
  have := gen l 0
  simpa using this
theorem recS_snoc : ∀ (l : List Nat) (i : Nat) (s : List (List Int)), recS (l ++ [i]) s = (slR (recS l s) i).1 := by
  intro l
  induction l with
  | nil => intro i s; rfl
  | cons j l ih => intro i s; show recS (l ++ [i]) (slR s j).1 = _; rw [ih]; rfl

set_option maxHeartbeats 4000000 in
theorem shapeOfHoles_at (a : Option Addr) (n cap : Nat) (ls : List (List Int)) (w : World) (hs : Table w a ls) (hn : n = ls.length) (hl : ls.length ≤ 1000) :
    Calls Try.prog 51 #[.slice a n cap] w fun e w' => ∃ v, e = .returned v ∧ Owns w' w.heap.size v (hsF ls ls.length) ∧ Below w.heap.size w w' := by
  subst hn
  have HS : Hid (Table w a ls) := hs
  clear hs
  go_enter Try.func51, Try.ntmps51
  go_wp2
  go_loopw [3, 9] (fun v iv wr => ∃ k : Nat, k ≤ ls.length ∧ iv = .int .i64 k ∧ Hid (Owns wr w.heap.size v (hsF ls k)) ∧ Hid (Below w.heap.size w wr)) (fun _ iv _ => ls.length - (intOf iv).toNat)
  case atStart => exact ⟨0, Nat.zero_le _, rfl, World.ownsRow_nil _ _ _ _, Below.refl _ _⟩
  case round =>
    obtain ⟨k, hk, rfl, HO, HB⟩ := hrel
    by_cases hlt : k < ls.length
    · have hlt' : (k : Int) < (ls.length : Int) := by omega
      obtain ⟨b, off, ai, m, ci, rfl, HC, HM, HSk, -, hmb⟩ := HS.out.elemB hlt
      have hc := HC.out _ HB.out
      obtain ⟨p, HP⟩ : ∃ p, Hid (hol (row ls k) = p) := ⟨_, rfl⟩
      have hpb : p ≤ 17592186044416 := by rw [← HP.out]; have := hol_le (row ls k); have := HSk.out.len; omega
      go_wp2_with fail
      refine (holesOf_is _ _ _ (row ls k) wr (HSk.out.below HB.out) HM.out HP).mono ?_
      rintro e w1 ⟨rfl, hw1⟩
      obtain rfl : wr = w1 := hw1.symm
      clear hw1
      by_cases c : 0 < p
      · have g1 : (p : Int) > 0 := by omega
        have HN : Hid (hsF ls (k + 1) = hsF ls k ++ [(p : Int)]) := by
          show _ = _
          simp only [hsF]; unfold H; rw [HP.out, if_pos c]
        have HLn : Hid ((hsF ls k).length ≤ 1000) := by have := hsF_len ls k; show _ ≤ _; omega
        go_wp2_with (at_builtin; refine append_int (x := (p : Int)) rfl _ _ rfl rfl HO.out rfl ?c1 ?c2 ?_)
        case c1 => have := HLn.out; omega
        case c2 => exact HB.out.size
        intro v' w2 hO' hb'
        have HO2 : Hid (Owns w2 w.heap.size v' (hsF ls (k + 1))) := by rw [HN.out]; exact hO'
        have HB2 : Hid (Below w.heap.size w w2) := HB.out.trans hb'
        clear hO' hb'
        go_wp2
        go_roundw
        case rel => exact ⟨k + 1, by omega, by go_num, HO2, HB2⟩
        case measure => simp [intOf]; omega
      · have g1 : decide ((p : Int) > 0) = false := by simp; omega
        have g2 : decide (0 < p) = false := by simp; omega
        have HN : Hid (hsF ls (k + 1) = hsF ls k) := by
          show _ = _
          simp only [hsF]; unfold H; rw [HP.out, if_neg c, List.append_nil]
        have HO2 := HO.out
        rw [← HN.out] at HO2
        go_wp2
        go_roundw
        case rel => exact ⟨k + 1, by omega, by go_num, HO2, HB⟩
        case measure => simp [intOf]; omega
    · obtain rfl : k = ls.length := by omega
      have hlt' : ¬ (ls.length : Int) < (ls.length : Int) := by omega
      go_wp2
      go_ret
      exact ⟨_, rfl, HO.out, HB.out⟩
/-- On the way: as many rows are left as p says. -/
structure Rcf (rows : List Nat) (ls : List (List Int)) (p : Nat) (ms : List (List Int)) : Prop where
  sk : Sk non (fun a => (rows.take p).count a) ms
  few : Few ms
  is : recS (rows.take p).reverse ms = recS rows.reverse ls
theorem Rcf.step {rows : List Nat} {ls : List (List Int)} {p : Nat} {ms : List (List Int)} (h : Rcf rows ls (p + 1) ms) (hL : Lat rows) (hp : p < rows.length) {i : Nat} (hi : rows.getD p 0 = i) (hF : Few (slR ms i).1) :
    (rows.take (p + 1)).count (i + 1) < (rows.take (p + 1)).count i ∧ Rcf rows ls p (slR ms i).1 := by
  have e : rows.take (p + 1) = rows.take p ++ [i] := by
    rw [List.take_succ_eq_append_getElem hp, ← hi]; simp [List.getD, List.getElem?_eq_getElem hp]
  have hc : (rows.take (p + 1)).count (i + 1) < (rows.take (p + 1)).count i := by
    have := hL p i
    rw [e, List.count_append, List.count_append, List.count_singleton_self]
    have : List.count (i + 1) [i] = 0 := by simp
    omega
  refine ⟨hc, ?_⟩
  have k := (slR_ok h.sk hc).1
  have hh : (fun a => (rows.take p).count a) = less (fun a => (rows.take (p + 1)).count a) i := by
    funext a
    show (rows.take p).count a = if a = i then (rows.take (p + 1)).count i - 1 else (rows.take (p + 1)).count a
    by_cases q : a = i
    · rw [if_pos q, e, q, List.count_append, List.count_singleton_self]; omega
    · rw [if_neg q, e, List.count_append]
      have : List.count a [i] = 0 := by rw [List.count_eq_zero]; simp; exact q
      omega
  refine ⟨by rw [hh]; exact k, hF, ?_⟩
  rw [← h.is, e, List.reverse_append]
  rfl

set_option maxHeartbeats 4000000 in
theorem rectified_at {h : Nat → Nat} (a b : Option Addr) (n m ca cb : Nat) (ls : List (List Int)) (rows : List Nat) (w : World) (hs : Table w a ls) (ht : Shows w b (rows.map (fun k : Nat => (k : Int)))) (hn : n = ls.length) (hm : m = rows.length) (hm40 : rows.length ≤ 1000) (hF : Few ls) (hK : Sk non h ls) (hc : ∀ a, h a = rows.count a) (hL : Lat rows) :
    Calls Try.prog 53 #[.slice a n ca, .slice b m cb] w fun e w' => ∃ v, e = .returned v ∧ Tbl w' w.heap.size v (recS rows.reverse ls) ∧ Below w.heap.size w w' := by
  subst hn; subst hm
  have HS : Hid (Table w a ls) := hs
  have HT : Hid (Shows w b (rows.map (fun k : Nat => (k : Int)))) := ht
  have HF : Hid (Few ls) := hF
  have HL : Hid (Lat rows) := hL
  have HR0 : Hid (Rcf rows ls rows.length ls) := by
    refine ⟨?_, hF, by rw [List.take_length]⟩
    have : (fun a => (rows.take rows.length).count a) = h := funext (fun a => by rw [List.take_length, hc])
    rw [this]; exact hK
  clear hs ht hF hK hc hL
  go_enter Try.func53, Try.ntmps53
  go_wp2_with fail
  refine (scopied_at a ls.length ca ls w HS.out rfl HF.out.len HF.out.one).mono ?_
  rintro e w1 ⟨v1, rfl, hT1, hb1⟩
  have HB1 : Hid (Below w.heap.size w w1) := hb1
  have HT1 : Hid (TIn w1 w.heap.size (fun k => w.heap.size ≤ k ∧ k < w1.heap.size) v1 ls) := TIn.of_tbl hT1
  obtain ⟨va, vn, vc, hv⟩ : ∃ va vn vc, v1 = .slice va vn vc := by obtain ⟨q, hq⟩ := hT1; obtain ⟨x, y, e⟩ := hq.shape; exact ⟨_, _, _, e⟩
  subst hv
  clear hT1 hb1
  have hsub : IntKind.i64.wrap ((rows.length : Int) - 1) = (rows.length : Int) - 1 := by rw [IntWalk.i64_left, IntWalk.wrap64_in _ (by omega)]
  go_wp2
  go_loopw [5, 6] (fun tv iv wr => ∃ (p tn : Nat) (ta : Option Addr) (tc : Nat) (ms : List (List Int)), p ≤ rows.length ∧ iv = .int .i64 ((p : Int) - 1) ∧ tv = .slice ta tn tc ∧ Hid (Rcf rows ls p ms) ∧
    Hid (TIn wr w.heap.size (fun k => w.heap.size ≤ k ∧ k < w1.heap.size) (.slice ta tn tc) ms) ∧ Hid (Below w.heap.size w wr ∧ wr.heap.size = w1.heap.size)) (fun _ iv _ => ((intOf iv) + 1).toNat)
  case atStart => exact ⟨rows.length, _, _, _, ls, Nat.le_refl _, rfl, rfl, HR0, HT1, ⟨HB1.out, rfl⟩⟩
  case round =>
    obtain ⟨p, tn, ta, tc, ms, hp, rfl, rfl, HR, HTt, HB⟩ := hrel
    cases p with
    | zero =>
      have hm : ((0 : Nat) : Int) - 1 = -1 := by omega
      rw [hm]
      have hge : ¬ (-1 : Int) ≥ 0 := by omega
      have HE : Hid (recS rows.reverse ls = ms) := by show _ = _; rw [← HR.out.is]; rfl
      clear hm
      go_wp2
      go_ret
      exact ⟨_, rfl, by rw [HE.out]; exact HTt.out.tbl, HB.out.1⟩
    | succ p =>
      have hm : ((p + 1 : Nat) : Int) - 1 = (p : Int) := by omega
      rw [hm]
      have hge : (p : Int) ≥ 0 := by omega
      have hpl : (p : Int) < (rows.length : Int) := by omega
      have HPl : Hid (p < (rows.map (fun k : Nat => (k : Int))).length) := by show _ < _; rw [List.length_map]; omega
      obtain ⟨b2, off2, z, rfl, HZ, -, -, hcz⟩ := (HT.out.below HB.out.1).elem HPl.out
      obtain ⟨i, HI⟩ : ∃ i, Hid (rows.getD p 0 = i) := ⟨_, rfl⟩
      have hzi : z = (i : Int) := by
        rw [HZ.out, ← HI.out]
        simp [List.getD, List.getElem?_eq_getElem (show p < rows.length by omega)]
      subst hzi
      have hps : IntKind.i64.wrap ((p : Int) - 1) = (p : Int) - 1 := by rw [IntWalk.i64_left, IntWalk.wrap64_in _ (by omega)]
      have hcn : (rows.take (p + 1)).count (i + 1) < (rows.take (p + 1)).count i := by
        have e : rows.take (p + 1) = rows.take p ++ [i] := by
          rw [List.take_succ_eq_append_getElem (by omega), ← HI.out]; simp [List.getD, List.getElem?_eq_getElem (show p < rows.length by omega)]
        have := HL.out p i
        rw [e, List.count_append, List.count_append, List.count_singleton_self]
        have : List.count (i + 1) [i] = 0 := by simp
        omega
      have HCn : Hid ((rows.take (p + 1)).count (i + 1) < (rows.take (p + 1)).count i) := hcn
      obtain ⟨ts, hTs⟩ := HTt.out
      have HTs : Hid (TblIn wr w.heap.size (fun k => w.heap.size ≤ k ∧ k < w1.heap.size) (.slice ta tn tc) ts ms) := hTs
      have HPlt : Hid (p < rows.length) := by show _ < _; omega
      clear hm hTs hcn
      go_wp2_with fail
      refine (sslid_at _ _ _ _ i wr HTs.out HR.out.few HR.out.sk HCn.out).mono ?_
      rintro e w2 ⟨v2, rfl, hT2, hO2, hz2, hF2⟩
      have HR2 : Hid (Rcf rows ls p (slR ms i).1) := (HR.out.step HL.out HPlt.out HI.out hF2).2
      have HT2 : Hid (TIn w2 w.heap.size (fun k => w.heap.size ≤ k ∧ k < w1.heap.size) v2 (slR ms i).1) := hT2
      have HB2 : Hid (Below w.heap.size w w2 ∧ w2.heap.size = w1.heap.size) := ⟨HB.out.1.trans (hO2.below HB.out.1.size (fun q hq => hq.1)), by rw [hz2]; exact HB.out.2⟩
      obtain ⟨a2, n2, c2, hv2⟩ : ∃ a2 n2 c2, v2 = .slice a2 n2 c2 := by obtain ⟨q, hq⟩ := hT2; obtain ⟨x, y, e⟩ := hq.t.shape; exact ⟨_, _, _, e⟩
      subst hv2
      clear hT2 hO2 hz2 hF2
      go_wp2
      go_roundw
      case rel => exact ⟨p, _, _, _, _, by omega, rfl, rfl, HR2, HT2, HB2⟩
      case measure => simp [intOf]

end Go.Proofs.Ytjciandmpfcfjaa

namespace Go.Proofs.Ytjciandmpfcfjaa
open Go.RowKit

/-- Leading noughts among the first k. -/
def holT (zs : List Int) (k : Nat) : Nat := min (hol zs) k
theorem holT_step {zs : List Int} {k : Nat} (hk : k < zs.length) : (zs.getD k 0 = 0 ∧ holT zs k = k → holT zs (k + 1) = k + 1) ∧ (¬ (zs.getD k 0 = 0 ∧ holT zs k = k) → holT zs (k + 1) = holT zs k) := by
  have h1 := hol_le zs
  unfold holT
  constructor
  · rintro ⟨h2, h3⟩
    have h4 : hol zs ≠ k := fun e => by
      have := hol_stop zs (by omega)
      rw [e] at this; exact this h2
    omega
  · intro h2
    rcases Nat.lt_or_ge k (hol zs) with h3 | h3
    · exact absurd ⟨hol_zero zs k h3, by omega⟩ h2
    · omega
set_option maxHeartbeats 2000000 in
theorem RHoles_is (a : Option Addr) (n cap : Nat) (zs : List Int) (w : World) (hs : Shows w a zs) (hn : n = zs.length) (hl : zs.length ≤ 17592186044416) {h : Nat} (E : Hid (hol zs = h)) :
    Calls Try.prog 19 #[.slice a n cap] w fun e w' => e = .returned (.int .i64 h) ∧ w' = w := by
  subst hn
  have HS : Hid (Shows w a zs) := hs
  clear hs
  go_enter Try.func19, Try.ntmps19
  go_wp2
  go_loop [3, 4] (fun c i => ∃ k p : Nat, k ≤ zs.length ∧ i = .int .i64 k ∧ c = .int .i64 p ∧ p ≤ k ∧ Hid (p = holT zs k)) (fun _ i => zs.length - (intOf i).toNat)
  case atStart => exact ⟨0, 0, Nat.zero_le _, rfl, rfl, Nat.le_refl _, by show _ = _; unfold holT; omega⟩
  case round =>
    obtain ⟨k, p, hk, rfl, rfl, hpk, HP⟩ := hrel
    by_cases hlt : k < zs.length
    · have hlt' : (k : Int) < (zs.length : Int) := by omega
      obtain ⟨b, off, z, rfl, HZ, -, -, hc⟩ := HS.out.elem hlt
      obtain ⟨s1, s2⟩ := holT_step hlt
      by_cases hz : z = 0
      · have hz0 : (z == 0) = true := by simp [hz]
        by_cases hp : p = k
        · subst hp
          have hpp : ((p : Int) == (p : Int)) = true := by simp
          have HQ : Hid (p + 1 = holT zs (p + 1)) := (s1 ⟨by rw [← HZ.out]; exact hz, HP.out.symm⟩).symm
          clear s1 s2
          go_wp2
          go_round
          case rel => exact ⟨p + 1, p + 1, by omega, by go_num, by go_num, Nat.le_refl _, HQ⟩
          case measure => simp [intOf]; omega
        · have hpp : ((p : Int) == (k : Int)) = false := by simp; omega
          have HQ : Hid (p = holT zs (k + 1)) := by show _ = _; rw [s2 (fun q => hp (by rw [HP.out]; exact q.2))]; exact HP.out
          clear s1 s2
          go_wp2
          go_round
          case rel => exact ⟨k + 1, p, by omega, by go_num, rfl, by omega, HQ⟩
          case measure => simp [intOf]; omega
      · have hz0 : (z == 0) = false := beq_false_of_ne hz
        have HQ : Hid (p = holT zs (k + 1)) := by show _ = _; rw [s2 (fun q => hz (by rw [HZ.out]; exact q.1))]; exact HP.out
        clear s1 s2
        go_wp2
        go_round
        case rel => exact ⟨k + 1, p, by omega, by go_num, rfl, by omega, HQ⟩
        case measure => simp [intOf]; omega
    · obtain rfl : k = zs.length := by omega
      have hlt' : ¬ (zs.length : Int) < (zs.length : Int) := by omega
      have HE : Hid (p = h) := by show _ = _; rw [HP.out, ← E.out]; unfold holT; have := hol_le zs; omega
      go_wp2
      go_ret
      exact ⟨ret_int (by rw [HE.out]), rfl⟩
def corB (ls : List (List Int)) (r : Int) : Bool := decide (0 ≤ r ∧ r < (ls.length : Int) ∧ H ls (r.toNat + 1) < H ls r.toNat)
theorem ret_bool' {b c : Bool} (h : b = c) : Ending.returned (Value.bool b) = .returned (.bool c) := by rw [h]
set_option maxHeartbeats 4000000 in
set_option maxRecDepth 100000 in
theorem IsCorner_is {t : Bool} (a : Option Addr) (n cap : Nat) (ls : List (List Int)) (r : Int) (w : World) (hs : Table w a ls) (hn : n = ls.length) (hl : ls.length ≤ 1000) (E : Hid (corB ls r = t)) :
    Calls Try.prog 22 #[.slice a n cap, .int .i64 r] w fun e w' => e = .returned (.bool t) ∧ ∃ d, w' = w.drewN d := by
  subst hn
  have HS : Hid (Table w a ls) := hs
  clear hs
  by_cases c1 : r < 0
  · have hc1 : decide (r < 0) = true := by simpa using c1
    have HE : Hid (t = false) := by show _ = _; rw [← E.out]; unfold corB; simp; omega
    go_enter Try.func22, Try.ntmps22
    go_wp2
    go_ret
    exact ⟨ret_bool' HE.out.symm, 0, rfl⟩
  · have hc1 : decide (r < 0) = false := by simpa using c1
    by_cases c2 : r ≥ (ls.length : Int)
    · have hc2 : decide (r ≥ (ls.length : Int)) = true := by simpa using c2
      have HE : Hid (t = false) := by show _ = _; rw [← E.out]; unfold corB; simp; omega
      go_enter Try.func22, Try.ntmps22
      go_wp2
      go_ret
      exact ⟨ret_bool' HE.out.symm, 0, rfl⟩
    · have hc2 : decide (r ≥ (ls.length : Int)) = false := by simp; omega
      obtain ⟨i, rfl⟩ : ∃ i : Nat, r = (i : Int) := ⟨r.toNat, by omega⟩
      have hil : i < ls.length := by omega
      have hil' : (i : Int) < (ls.length : Int) := by omega
      obtain ⟨p, HP⟩ : ∃ p, Hid (hol (row ls i) = p) := ⟨_, rfl⟩
      obtain ⟨b, off, ai, m, ci, rfl, hc, HM, HSk, -, hmb⟩ := HS.out.elem hil
      have hpb : p ≤ 17592186044416 := by rw [← HP.out]; have := hol_le (row ls i); have := HSk.out.len; omega
      have HLi : Hid ((row ls i).length ≤ 17592186044416) := HSk.out.len
      by_cases c3 : p = 0
      · subst c3
        have HE : Hid (t = false) := by show _ = _; rw [← E.out]; unfold corB H; rw [Int.toNat_natCast, HP.out]; simp
        go_enter Try.func22, Try.ntmps22
        go_wp2_with fail
        refine (RHoles_is _ _ _ (row ls i) w HSk.out HM.out HLi.out HP).mono ?_
        rintro e w1 ⟨rfl, hw1⟩
        obtain rfl : w = w1 := hw1.symm
        clear hw1
        go_wp2
        go_ret
        exact ⟨ret_bool' HE.out.symm, 0, rfl⟩
      · have hp0 : ((p : Int) == 0) = false := by simp; omega
        by_cases c4 : i + 1 = ls.length
        · have hsub : IntKind.i64.wrap ((ls.length : Int) - 1) = (i : Int) := by rw [IntWalk.i64_left, IntWalk.wrap64_in _ (by omega)]; omega
          have hii : ((i : Int) == (i : Int)) = true := by simp
          have HE : Hid (t = true) := by
            show _ = _; rw [← E.out]; unfold corB H
            rw [Int.toNat_natCast, HP.out, row_out (ls := ls) (a := i + 1) (by omega)]
            have : hol ([] : List Int) = 0 := rfl
            rw [this]; simp; omega
          go_enter Try.func22, Try.ntmps22
          go_wp2_with fail
          refine (RHoles_is _ _ _ (row ls i) w HSk.out HM.out HLi.out HP).mono ?_
          rintro e w1 ⟨rfl, hw1⟩
          obtain rfl : w = w1 := hw1.symm
          clear hw1
          go_wp2_with fail
          go_quiet (fail)
          go_wp2
          go_ret
          exact ⟨ret_bool' HE.out.symm, _, rfl⟩
        · have c4' : i + 1 < ls.length := by omega
          have c4i : ((i + 1 : Nat) : Int) < (ls.length : Int) := by omega
          obtain ⟨l, hl1⟩ : ∃ l : Nat, l = ls.length - 1 := ⟨_, rfl⟩
          have hsub : IntKind.i64.wrap ((ls.length : Int) - 1) = (l : Int) := by rw [IntWalk.i64_left, IntWalk.wrap64_in _ (by omega)]; omega
          have hii : ((i : Int) == (l : Int)) = false := by simp; omega
          have hi1 : IntKind.i64.wrap ((i : Int) + 1) = ((i + 1 : Nat) : Int) := by rw [IntWalk.i64_left, IntWalk.wrap64_in _ (by omega)]; omega
          obtain ⟨b', off', ai2, m2, ci2, ha2, hcc2, HM2, HSk2, -, -⟩ := HS.out.elem c4'
          simp only [Option.some.injEq, Addr.mk.injEq, and_true] at ha2
          obtain ⟨rfl, rfl⟩ := ha2
          obtain ⟨q, HQ⟩ : ∃ q, Hid (hol (row ls (i + 1)) = q) := ⟨_, rfl⟩
          have HLi2 : Hid ((row ls (i + 1)).length ≤ 17592186044416) := HSk2.out.len
          have HE : Hid (decide (q < p) = t) := by
            show _ = _; rw [← E.out]; unfold corB H
            rw [Int.toNat_natCast, HP.out, HQ.out]
            exact decide_eq_decide.2 (by omega)
          clear hl1
          go_enter Try.func22, Try.ntmps22
          go_wp2_with fail
          refine (RHoles_is _ _ _ (row ls i) w HSk.out HM.out HLi.out HP).mono ?_
          rintro e w1 ⟨rfl, hw1⟩
          obtain rfl : w = w1 := hw1.symm
          clear hw1
          go_wp2_with fail
          go_quiet (first | (go_at_call_of 19 (Value.slice ai2 m2 ci2); exact Calls.quiet_of_same (RHoles_is _ _ _ (row ls (i + 1)) _ (HSk2.out.drewN _) HM2.out HLi2.out HQ)) | (go_at_call_of 19 (Value.slice ai m ci); exact Calls.quiet_of_same (RHoles_is _ _ _ (row ls i) _ (HSk.out.drewN _) HM.out HLi.out HP)))
          go_wp2
          go_ret
          exact ⟨ret_bool' HE.out, _, rfl⟩
set_option maxHeartbeats 4000000 in
set_option maxRecDepth 100000 in
theorem HoleShape_at (a : Option Addr) (n cap : Nat) (ls : List (List Int)) (w : World) (hs : Table w a ls) (hn : n = ls.length) (hl : ls.length ≤ 1000) :
    Calls Try.prog 29 #[.slice a n cap] w fun e w' => ∃ v, e = .returned v ∧ Owns w' w.heap.size v (hsF ls ls.length) ∧ Below w.heap.size w w' := by
  subst hn
  have HS : Hid (Table w a ls) := hs
  clear hs
  go_enter Try.func29, Try.ntmps29
  go_wp2
  go_loopw [3, 4] (fun v iv wr => ∃ k : Nat, k ≤ ls.length ∧ iv = .int .i64 k ∧ Hid (Owns wr w.heap.size v (hsF ls k)) ∧ Hid (Below w.heap.size w wr)) (fun _ iv _ => ls.length - (intOf iv).toNat)
  case atStart => exact ⟨0, Nat.zero_le _, rfl, World.ownsRow_nil _ _ _ _, Below.refl _ _⟩
  case round =>
    obtain ⟨k, hk, rfl, HO, HB⟩ := hrel
    by_cases hlt : k < ls.length
    · have hlt' : (k : Int) < (ls.length : Int) := by omega
      obtain ⟨b, off, ai, m, ci, rfl, HC, HM, HSk, -, hmb⟩ := HS.out.elemB hlt
      have hc := HC.out _ HB.out
      obtain ⟨p, HP⟩ : ∃ p, Hid (hol (row ls k) = p) := ⟨_, rfl⟩
      have hpb : p ≤ 17592186044416 := by rw [← HP.out]; have := hol_le (row ls k); have := HSk.out.len; omega
      have HLi : Hid ((row ls k).length ≤ 17592186044416) := HSk.out.len
      go_wp2_with fail
      refine (RHoles_is _ _ _ (row ls k) wr (HSk.out.below HB.out) HM.out HLi.out HP).mono ?_
      rintro e w1 ⟨rfl, hw1⟩
      obtain rfl : wr = w1 := hw1.symm
      clear hw1
      by_cases c : 0 < p
      · have g1 : (p : Int) > 0 := by omega
        have HN : Hid (hsF ls (k + 1) = hsF ls k ++ [(p : Int)]) := by
          show _ = _
          simp only [hsF]; unfold H; rw [HP.out, if_pos c]
        have HLn : Hid ((hsF ls k).length ≤ 1000) := by have := hsF_len ls k; show _ ≤ _; omega
        go_wp2_with fail
        refine (RHoles_is _ _ _ (row ls k) wr (HSk.out.below HB.out) HM.out HLi.out HP).mono ?_
        rintro e w1 ⟨rfl, hw1⟩
        obtain rfl : wr = w1 := hw1.symm
        clear hw1
        go_wp2_with (at_builtin; refine append_int (x := (p : Int)) rfl _ _ rfl rfl HO.out rfl ?c1 ?c2 ?_)
        case c1 => have := HLn.out; omega
        case c2 => exact HB.out.size
        intro v' w2 hO' hb'
        have HO2 : Hid (Owns w2 w.heap.size v' (hsF ls (k + 1))) := by rw [HN.out]; exact hO'
        have HB2 : Hid (Below w.heap.size w w2) := HB.out.trans hb'
        clear hO' hb'
        go_wp2
        go_roundw
        case rel => exact ⟨k + 1, by omega, by go_num, HO2, HB2⟩
        case measure => simp [intOf]; omega
      · have g1 : decide ((p : Int) > 0) = false := by simp; omega
        have g2 : decide (0 < p) = false := by simp; omega
        have HN : Hid (hsF ls (k + 1) = hsF ls k) := by
          show _ = _
          simp only [hsF]; unfold H; rw [HP.out, if_neg c, List.append_nil]
        have HO2 := HO.out
        rw [← HN.out] at HO2
        go_wp2
        go_roundw
        case rel => exact ⟨k + 1, by omega, by go_num, HO2, HB⟩
        case measure => simp [intOf]; omega
    · obtain rfl : k = ls.length := by omega
      have hlt' : ¬ (ls.length : Int) < (ls.length : Int) := by omega
      go_wp2
      go_ret
      exact ⟨_, rfl, HO.out, HB.out⟩

end Go.Proofs.Ytjciandmpfcfjaa
