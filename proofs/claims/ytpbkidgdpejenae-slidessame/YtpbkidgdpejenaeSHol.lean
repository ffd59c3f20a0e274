/-
  The contracts of slides.holesOf, slides.rises, slides.liesUnder, slides.Check.
-/
import Derived.Test.YtpbkidgdpejenaeOTab
import Derived.Test.YtpbkidgdpejenaeSLat
import Derived.Test.YtpbkidgdpejenaeSMvd
namespace Go.Proofs.Ytpbkidgdpejenae
open Go.RowKit

theorem Shows.dropO {w : World} {b off : Nat} {zs : List Int} (h : Shows w (some ⟨b, off, none⟩) zs) (j : Nat) : Shows w (some ⟨b, off + j, none⟩) (zs.drop j) := by
  refine ⟨by have := h.len; rw [List.length_drop]; omega, fun z hz => h.wf z (List.mem_of_mem_drop hz), fun hne => ?_⟩
  have hne2 : zs ≠ [] := fun e => hne (by rw [e]; simp)
  obtain ⟨b', off', e, h1, h2⟩ := h.cells hne2
  simp only [Option.some.injEq, Addr.mk.injEq, and_true] at e
  obtain ⟨rfl, rfl⟩ := e
  refine ⟨b, off + j, rfl, h1, fun k hk => ?_⟩
  rw [List.length_drop] at hk
  rw [Nat.add_assoc, h2 (j + k) (by omega), drop_getD']
theorem TableX.drewN {w : World} {a : Option Addr} {ls : List (List Int)} (h : TableX w a ls) (n : Nat) : TableX (w.drewN n) a ls := h.below (below_drewN (Below.refl _ _) n)
theorem TableX.elem {w : World} {a : Option Addr} {ls : List (List Int)} (h : TableX w a ls) {k : Nat} (hk : k < ls.length) :
    ∃ b off ai m ci, a = some ⟨b, off, none⟩ ∧ w.cell? ⟨b, off + k, none⟩ = some (.slice ai m ci) ∧ Hid (m = (row ls k).length) ∧ Hid (Shows w ai (row ls k)) ∧ m ≤ ci ∧ m ≤ 17592186044416 := by
  obtain ⟨b, off, ai, ci, h1, _, h3, h4, _, h6⟩ := h k hk
  exact ⟨b, off, ai, _, ci, h1, h3, rfl, h4, h6, h4.len⟩

set_option maxHeartbeats 2000000 in
theorem holesOf_is (a : Option Addr) (n cap : Nat) (zs : List Int) (w : World) (hs : Shows w a zs) (hn : n = zs.length) {h : Nat} (E : Hid (hol zs = h)) :
    Calls Try.prog 52 #[.slice a n cap] w fun e w' => e = .returned (.int .i64 h) ∧ w' = w := by
  subst hn
  have hl := hs.len
  have HS : Hid (Shows w a zs) := hs
  clear hs
  go_enter Try.func52, Try.ntmps52
  go_wp2
  go_loop [3] (fun i => ∃ k : Nat, k ≤ zs.length ∧ i = .int .i64 k ∧ Hid (∀ j, j < k → zs.getD j 0 = 0)) (fun i => zs.length - (intOf i).toNat)
  case atStart => exact ⟨0, Nat.zero_le _, rfl, fun j hj => by omega⟩
  case round =>
    obtain ⟨k, hk, rfl, HR⟩ := hrel
    by_cases hlt : k < zs.length
    · have hlt' : (k : Int) < (zs.length : Int) := by omega
      obtain ⟨b, off, z, rfl, HZ, hz1, hz2, hc⟩ := HS.out.elem hlt
      by_cases h0 : z = 0
      · have HZ0 : Hid (zs.getD k 0 = 0) := by rw [← HZ.out]; exact h0
        subst h0
        go_wp2
        go_round
        case rel => exact ⟨k + 1, by omega, by go_num, fun j hj => by
                      by_cases e : j = k
                      · subst e; exact HZ0.out
                      · exact HR.out j (by omega)⟩
        case measure => simp [intOf]; omega
      · have hz0 : (z == 0) = false := by simp; exact h0
        have HE : Hid (h = k) := by
          show _ = _
          rw [← E.out]
          exact hol_is (Nat.le_of_lt hlt) HR.out (fun _ => by rw [← HZ.out]; exact h0)
        clear h0
        go_wp2
        go_ret
        exact ⟨ret_int (by rw [HE.out]), rfl⟩
    · obtain rfl : k = zs.length := by omega
      have hlt' : ¬ (zs.length : Int) < (zs.length : Int) := by omega
      have HE : Hid (h = zs.length) := by
        show _ = _
        rw [← E.out]
        exact hol_is (Nat.le_refl _) HR.out (fun q => by omega)
      go_wp2
      go_ret
      exact ⟨ret_int (by rw [HE.out]), rfl⟩
set_option maxHeartbeats 2000000 in
theorem srises_any (a : Option Addr) (cap : Nat) (zs : List Int) (w : World) (hs : Shows w a zs) :
    Calls Try.prog 62 #[.slice a zs.length cap] w fun e w' => e = .returned (.bool (risesB zs)) ∧ w' = w := by
  have hl := hs.len
  go_enter Try.func62, Try.ntmps62
  go_wp2
  go_loop [3, 8] (fun s i => ∃ (k : Nat) (y : Int), k ≤ zs.length ∧ i = .int .i64 k ∧ s = .int .i64 y ∧ 1 ≤ y ∧ y ≤ 99 ∧ Hid (0 < k → y = zs.getD (k - 1) 0) ∧ Hid (k = 0 → y = 1) ∧ Hid (∀ j, j < k → 1 ≤ zs.getD j 0 ∧ zs.getD j 0 ≤ 99 ∧ (0 < j → zs.getD (j - 1) 0 ≤ zs.getD j 0))) (fun _ i => zs.length - (intOf i).toNat)
  case atStart => exact ⟨0, 1, Nat.zero_le _, rfl, rfl, by omega, by omega, fun h => by omega, fun _ => rfl, fun j hj => by omega⟩
  case round =>
    obtain ⟨k, y, hk, rfl, rfl, hy1, hy2, HY, HY0, HR⟩ := hrel
    by_cases hlt : k < zs.length
    · obtain ⟨b, off, z, rfl, HZ, hz1, hz2, hc⟩ := hs.elem hlt
      by_cases h1 : z < y
      · have HF : Hid (risesB zs = false) := by
          refine risesB_no hlt ?_
          rw [← HZ.out]
          rcases Nat.eq_zero_or_pos k with h0 | h0
          · left; have := HY0.out h0; omega
          · right; right; have := HY.out h0; omega
        go_wp2
        go_ret
        exact ⟨ret_bool HF.out.symm, rfl⟩
      · by_cases h2 : 99 < z
        · have HF : Hid (risesB zs = false) := by
            refine risesB_no hlt ?_
            rw [← HZ.out]; right; left; exact h2
          go_wp2
          go_ret
          exact ⟨ret_bool HF.out.symm, rfl⟩
        · go_wp2
          go_round
          case rel => exact ⟨k + 1, z, by omega, by go_num, rfl, by omega, by omega, fun _ => HZ.out, fun h => by omega, fun j hj => by
                        by_cases hj' : j < k
                        · exact HR.out j hj'
                        · obtain rfl : j = k := by omega
                          rw [← HZ.out]
                          exact ⟨by omega, by omega, fun h0 => by have := HY.out h0; omega⟩⟩
          case measure => simp [intOf]; omega
    · obtain rfl : k = zs.length := by omega
      have HT : Hid (risesB zs = true) := risesB_iff.2 HR.out
      go_wp2
      go_ret
      exact ⟨ret_bool HT.out.symm, rfl⟩

theorem srises_is {t : Bool} (a : Option Addr) (n cap : Nat) (zs : List Int) (w : World) (hs : Shows w a zs) (hn : n = zs.length) (E : Hid (risesB zs = t)) :
    Calls Try.prog 62 #[.slice a n cap] w fun e w' => e = .returned (.bool t) ∧ w' = w := by
  subst hn; have := srises_any a cap zs w hs; rw [E.out] at this; exact this

theorem lieB_no {r up : List Int} (h : ¬ (r.length ≤ up.length ∧ hol r ≤ hol up ∧ ∀ j, hol up ≤ j → j < r.length → up.getD j 0 < r.getD j 0)) : lieB r up = false := by
  cases e : lieB r up with
  | false => rfl
  | true => exact absurd (lieB_iff.1 e) h
set_option maxHeartbeats 4000000 in
theorem sliesUnder_is {t : Bool} (a b : Option Addr) (n m ca cb : Nat) (zs ys : List Int) (w : World) (hs : Shows w a zs) (ht : Shows w b ys) (hn : n = zs.length) (hm : m = ys.length) (E : Hid (lieB zs ys = t)) :
    Calls Try.prog 63 #[.slice a n ca, .slice b m cb] w fun e w' => e = .returned (.bool t) ∧ ∃ n, w' = w.drewN n := by
  subst hn; subst hm
  have hl := hs.len
  have hl2 := ht.len
  have HS : Hid (Shows w a zs) := hs
  have HT : Hid (Shows w b ys) := ht
  obtain ⟨p, hp⟩ : ∃ p, hol zs = p := ⟨_, rfl⟩
  obtain ⟨q, hq⟩ : ∃ q, hol ys = q := ⟨_, rfl⟩
  have HP : Hid (hol zs = p) := hp
  have HQ : Hid (hol ys = q) := hq
  have hql : q ≤ ys.length := by rw [← hq]; exact hol_le _
  clear hs ht hp hq
  by_cases c1 : ys.length < zs.length
  · have g1 : decide ((zs.length : Int) > (ys.length : Int)) = true := by simp; omega
    have HF : Hid (t = false) := by rw [← E.out]; exact lieB_no (fun k => by omega)
    go_enter Try.func63, Try.ntmps63
    go_wp2
    go_ret
    exact ⟨by rw [HF.out]; rfl, 0, rfl⟩
  · have g1 : decide ((zs.length : Int) > (ys.length : Int)) = false := by simp; omega
    have hzy : zs.length ≤ ys.length := by omega
    go_enter Try.func63, Try.ntmps63
    go_wp2_with fail
    refine (holesOf_is a _ _ zs w HS.out rfl HP).mono ?_
    rintro e w1 ⟨rfl, hw1⟩
    obtain rfl : w = w1 := hw1.symm
    clear hw1
    go_wp2_with fail
    refine (holesOf_is b _ _ ys w HT.out rfl HQ).mono ?_
    rintro e w1 ⟨rfl, hw1⟩
    obtain rfl : w = w1 := hw1.symm
    clear hw1
    by_cases c2 : q < p
    · have g2 : decide ((p : Int) > (q : Int)) = true := by simp; omega
      have g3 : decide (q < p) = true := by simp; omega
      have HF : Hid (t = false) := by rw [← E.out]; exact lieB_no (fun k => by have := HP.out; have := HQ.out; omega)
      go_wp2
      go_ret
      exact ⟨by rw [HF.out]; rfl, 0, rfl⟩
    · have g2 : decide ((p : Int) > (q : Int)) = false := by simp; omega
      have g3 : decide (q < p) = false := by simp; omega
      have hpq : p ≤ q := by omega
      go_wp2_with fail
      refine (holesOf_is b _ _ ys w HT.out rfl HQ).mono ?_
      rintro e w1 ⟨rfl, hw1⟩
      obtain rfl : w = w1 := hw1.symm
      clear hw1
      go_wp2
      go_loopw [5] (fun i wr => ∃ k : Nat, i = .int .i64 k ∧ k ≤ ys.length ∧ q ≤ k ∧ Hid (∀ j, q ≤ j → j < k → j < zs.length → ys.getD j 0 < zs.getD j 0) ∧ Hid (∃ n, wr = w.drewN n)) (fun i _ => ys.length - (intOf i).toNat)
      case atStart => exact ⟨q, rfl, hql, Nat.le_refl _, fun j h1 h2 => by omega, ⟨0, rfl⟩⟩
      case round =>
        obtain ⟨k, rfl, hky, hqk, HR, HD⟩ := hrel
        by_cases hlt : k < zs.length
        · have hlt1' : (k : Int) < (zs.length : Int) := by omega
          have hlt2' : (k : Int) < (ys.length : Int) := by omega
          have HS1 : Hid (Shows wr a zs) := by obtain ⟨d, hd⟩ := HD.out; rw [hd]; exact HS.out.below (below_drewN (Below.refl _ _) d)
          have HT1 : Hid (Shows wr b ys) := by obtain ⟨d, hd⟩ := HD.out; rw [hd]; exact HT.out.below (below_drewN (Below.refl _ _) d)
          obtain ⟨b1, off, z, rfl, HZ, hz1, hz2, hcz⟩ := HS1.out.elem hlt
          obtain ⟨b2, off2, y, rfl, HY, hy1, hy2, hcy⟩ := HT1.out.elem (k := k) (by omega)
          have HDn : Hid (∀ m, ∃ n, wr.drewN m = w.drewN n) := fun m => by obtain ⟨d, hd⟩ := HD.out; exact ⟨_, by rw [hd]; exact drewN_two _ _ _⟩
          by_cases he : z ≤ y
          · have HF : Hid (t = false) := by rw [← E.out]; exact lieB_no (fun q' => by have := q'.2.2 k (by rw [HQ.out]; exact hqk) hlt; rw [← HZ.out, ← HY.out] at this; omega)
            go_wp2_with fail
            go_quiet (fail)
            go_wp2
            go_ret
            exact ⟨by rw [HF.out]; rfl, HDn.out _⟩
          · have HR2 : Hid (∀ j, q ≤ j → j < k + 1 → j < zs.length → ys.getD j 0 < zs.getD j 0) := fun j h1 h2 h3 => by
              by_cases e : j = k
              · subst e; rw [← HZ.out, ← HY.out]; omega
              · exact HR.out j h1 (by omega) h3
            go_wp2_with fail
            go_quiet (fail)
            go_wp2
            go_roundw
            case rel => exact ⟨k + 1, by go_num, by omega, by omega, HR2, HDn.out _⟩
            case measure => simp [intOf]; omega
        · have hlt' : ¬ (k : Int) < (zs.length : Int) := by omega
          have HTt : Hid (t = true) := by rw [← E.out]; exact lieB_iff.2 ⟨hzy, by have := HP.out; have := HQ.out; omega, fun j h1 h2 => HR.out j (by have := HQ.out; omega) (by omega) h2⟩
          go_wp2
          go_ret
          exact ⟨by rw [HTt.out]; rfl, HD.out⟩

end Go.Proofs.Ytpbkidgdpejenae
