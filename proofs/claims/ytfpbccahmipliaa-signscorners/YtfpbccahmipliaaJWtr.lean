/-
  The contracts of signs.isTriangular, withTriangle.
-/
import Derived.Test.YtfpbccahmipliaaJTri
import Derived.Test.YtfpbccahmipliaaJMee
namespace Go.Proofs.Ytfpbccahmipliaa
open Go.RowKit

set_option maxHeartbeats 2000000 in
theorem isTriangular_at (a : Option Addr) (n cap : Nat) (ls : List (List Int)) (w : World) (B : Bool) (hs : Table w a ls) (hn : n = ls.length) (hl : ls.length ≤ 17592186044416) (HB : Hid (B = true ↔ TrB ls)) :
    Calls Try.prog 36 #[.slice a n cap] w fun e w' => e = .returned (.bool B) ∧ w' = w := by
  subst hn
  have HS : Hid (Table w a ls) := hs
  clear hs
  have HBf : Hid (¬ TrB ls → B = false) := fun h => by
    cases hB : B with
    | false => rfl
    | true => exact absurd (HB.out.1 hB) h
  by_cases h1 : ls.length < 1
  · have h1' : (ls.length : Int) < 1 := by omega
    have hE := HBf.out (fun h => by have := h.n1; omega)
    subst hE
    go_enter Try.func36, Try.ntmps36
    go_wp2
    go_ret
    exact ⟨rfl, rfl⟩
  have h1' : ¬ (ls.length : Int) < 1 := by omega
  by_cases h7 : 7 < ls.length
  · have h7' : (7 : Int) < (ls.length : Int) := by omega
    have hE := HBf.out (fun h => by have := h.n7; omega)
    subst hE
    go_enter Try.func36, Try.ntmps36
    go_wp2
    go_ret
    exact ⟨rfl, rfl⟩
  have h7' : ¬ (7 : Int) < (ls.length : Int) := by omega
  go_enter Try.func36, Try.ntmps36
  go_wp2
  go_loopw [17] (fun q wr => ∃ k : Nat, k ≤ ls.length ∧ q = .int .i64 k ∧ Hid (∀ i, i < k → (row ls i).length = i + 1 ∧ ∀ z ∈ row ls i, 1 ≤ z ∧ z ≤ (ls.length : Int)) ∧ w = wr) (fun q _ => ls.length - (intOf q).toNat)
  case atStart => exact ⟨0, Nat.zero_le _, rfl, fun i h => absurd h (by omega), rfl⟩
  case round =>
    obtain ⟨k, hk, rfl, HK, rfl⟩ := hrel
    by_cases hlt : k < ls.length
    · have hlt' : (k : Int) < (ls.length : Int) := by omega
      obtain ⟨b1, off1, a1, m1, c1, rfl, hc1, HM1, HS1, -, hmb⟩ := HS.out.elemR hlt
      obtain ⟨k1, Hk1⟩ : ∃ k1, Hid (k1 = k + 1) := ⟨_, rfl⟩
      have hwk : IntKind.i64.wrap ((k : Int) + 1) = (k1 : Int) := by rw [IntKind.wrap_i64, Hk1.out]; omega
      by_cases e : m1 = k1
      · subst e
        have hne : ((m1 : Int) != (m1 : Int)) = false := by simp
        go_wp2
        go_loopw [29] (fun q wr => ∃ j : Nat, j ≤ m1 ∧ q = .int .i64 j ∧ Hid (∀ i, i < j → 1 ≤ (ls.getD k []).getD i 0 ∧ (ls.getD k []).getD i 0 ≤ (ls.length : Int)) ∧ w = wr) (fun q _ => m1 - (intOf q).toNat)
        case atStart => exact ⟨0, Nat.zero_le _, rfl, fun i h => absurd h (by omega), rfl⟩
        case round =>
          obtain ⟨j, hj, rfl, HJ, rfl⟩ := hrel
          by_cases hjl : j < m1
          · have hjl' : (j : Int) < (m1 : Int) := by omega
            have HJm : Hid (j < (ls.getD k []).length) := by show _ < _; rw [← HM1.out]; exact hjl
            obtain ⟨b3, o3, z, e3, HZ, hz1, hz2, cz⟩ := HS1.out.elem (k := j) HJm.out
            subst e3
            by_cases hz : 1 ≤ z ∧ z ≤ (ls.length : Int)
            · have g1 : ¬ z < 1 := by omega
              have g2 : ¬ (ls.length : Int) < z := by omega
              go_wp2
              go_roundw
              case rel => exact ⟨j + 1, by omega, by go_num, fun i hi => by
                by_cases e : i = j
                · subst e; rw [← HZ.out]; exact hz
                · exact HJ.out i (by omega), trivial⟩
              case measure => simp [intOf]; omega
            · have hE := HBf.out (fun h => hz (by rw [HZ.out]; exact h.num k hlt _ (getD_mem HJm.out)))
              subst hE
              by_cases g1 : z < 1
              · go_wp2
                go_ret
                exact ⟨rfl, rfl⟩
              · have g2 : (ls.length : Int) < z := by omega
                go_wp2
                go_ret
                exact ⟨rfl, rfl⟩
          · obtain rfl : j = m1 := by omega
            have HK2 : Hid (∀ i, i < k + 1 → (row ls i).length = i + 1 ∧ ∀ z ∈ row ls i, 1 ≤ z ∧ z ≤ (ls.length : Int)) := fun i hi => by
              by_cases e : i = k
              · subst e
                refine ⟨by rw [← Hk1.out]; exact HM1.out.symm, fun z hz => ?_⟩
                obtain ⟨q, hq, rfl⟩ := List.getElem_of_mem hz
                have := HJ.out q (by rw [HM1.out]; exact hq)
                have e : (row ls i)[q] = (row ls i).getD q 0 := by simp only [List.getD, List.getElem?_eq_getElem hq, Option.getD_some]
                rw [e]; exact this
              · exact HK.out i (by omega)
            go_wp2
            go_roundw
            case rel => exact ⟨j, by have := Hk1.out; omega, rfl, fun i hi => HK2.out i (by have := Hk1.out; omega), trivial⟩
            case measure => have := Hk1.out; simp [intOf]; omega
      · have hne : ((m1 : Int) != (k1 : Int)) = true := by rw [bne_iff_ne]; omega
        have hE := HBf.out (fun h => e (by rw [HM1.out, Hk1.out]; exact h.len k hlt))
        subst hE
        clear e
        go_wp2
        go_ret
        exact ⟨rfl, rfl⟩
    · obtain rfl : k = ls.length := by omega
      have hE : B = true := HB.out.2 ⟨by omega, by omega, fun i hi => (HK.out i hi).1, fun i hi => (HK.out i hi).2⟩
      subst hE
      go_wp2
      go_ret
      exact ⟨rfl, rfl⟩

def ccc (ls : List (List Int)) (i k a b : Nat) : Int := if a < i then cnj (row ls a) b else if a = i then cnj ((row ls i).take k) b else 0
def wst (ls : List (List Int)) (i k a b : Nat) : Int := ccc ls i k a b - (if a = 0 then 0 else ccc ls i k (a - 1) b)
theorem cnj_bd (l : List Int) (j : Nat) : 0 ≤ cnj l j ∧ cnj l j ≤ l.length := by
  unfold cnj
  have := List.count_le_length (a := (j : Int) + 1) (l := l)
  omega
theorem ccc_bd {ls : List (List Int)} (h : TrB ls) (i k a b : Nat) : 0 ≤ ccc ls i k a b ∧ ccc ls i k a b ≤ 7 := by
  have hr : ∀ a, (row ls a).length ≤ 7 := fun a => by
    by_cases ha : a < ls.length
    · rw [h.len a ha]; have := h.n7; omega
    · rw [row_out (by omega)]; simp
  unfold ccc
  by_cases h1 : a < i
  · rw [if_pos h1]; have := cnj_bd (row ls a) b; have := hr a; omega
  · rw [if_neg h1]
    by_cases h2 : a = i
    · rw [if_pos h2]; have h5 := cnj_bd ((row ls i).take k) b; rw [List.length_take] at h5; have := hr i; omega
    · rw [if_neg h2]; omega
theorem wst_bd {ls : List (List Int)} (h : TrB ls) (i k a b : Nat) : -7 ≤ wst ls i k a b ∧ wst ls i k a b ≤ 7 := by
  have h1 := ccc_bd h i k a b
  have h2 := ccc_bd h i k (a - 1) b
  unfold wst
  split <;> omega
theorem ccc_step {ls : List (List Int)} {i k : Nat} {j : Nat} (hk : k < (row ls i).length) (hz : (row ls i).getD k 0 = (j : Int) + 1) (a b : Nat) : ccc ls i (k + 1) a b = ccc ls i k a b + (if a = i ∧ b = j then 1 else 0) := by
  unfold ccc
  by_cases h1 : a < i
  · rw [if_pos h1, if_pos h1, if_neg (by omega), Int.add_zero]
  · rw [if_neg h1, if_neg h1]
    by_cases h2 : a = i
    · rw [if_pos h2, if_pos h2, take_snoc _ _ hk, cnj_snoc, hz]
      by_cases h3 : b = j
      · subst h3; rw [if_pos rfl, if_pos ⟨h2, rfl⟩]
      · rw [if_neg (by omega), if_neg (fun q => h3 q.2)]
    · rw [if_neg h2, if_neg h2, if_neg (fun q => h2 q.1)]; rfl
theorem wst_step {ls : List (List Int)} {i k : Nat} {j : Nat} (hk : k < (row ls i).length) (hz : (row ls i).getD k 0 = (j : Int) + 1) (a b : Nat) : wst ls i (k + 1) a b = wst ls i k a b + (if a = i ∧ b = j then 1 else 0) - (if a = i + 1 ∧ b = j then 1 else 0) := by
  unfold wst
  rw [ccc_step hk hz, ccc_step hk hz]
  by_cases h0 : a = 0
  · rw [if_pos h0, if_pos h0, if_neg (show ¬ (a = i + 1 ∧ b = j) by omega)]; omega
  · rw [if_neg h0, if_neg h0]
    by_cases h1 : a = i + 1 ∧ b = j
    · rw [if_pos h1, if_pos (show a - 1 = i ∧ b = j by omega)]; omega
    · rw [if_neg h1, if_neg (show ¬ (a - 1 = i ∧ b = j) by omega)]; omega
theorem ccc_next {ls : List (List Int)} {i : Nat} (k : Nat) (hk : (row ls i).length ≤ k) (a b : Nat) : ccc ls i k a b = ccc ls (i + 1) 0 a b := by
  unfold ccc
  by_cases h1 : a < i
  · rw [if_pos h1, if_pos (by omega)]
  · rw [if_neg h1]
    by_cases h2 : a = i
    · subst h2
      rw [if_pos rfl, if_pos (by omega), List.take_of_length_le hk]
    · rw [if_neg h2, if_neg (by omega)]
      by_cases h3 : a = i + 1
      · rw [if_pos h3, List.take_zero]; rfl
      · rw [if_neg h3]
theorem wst_next {ls : List (List Int)} {i : Nat} (k : Nat) (hk : (row ls i).length ≤ k) (a b : Nat) : wst ls i k a b = wst ls (i + 1) 0 a b := by
  unfold wst
  rw [ccc_next k hk, ccc_next k hk]
theorem wst_end {ls : List (List Int)} {a : Nat} (b : Nat) (ha : a < ls.length) : wst ls ls.length 0 a b = wtr ls a b := by
  unfold wst wtr ccc
  rw [if_pos ha]
  by_cases h0 : a = 0
  · rw [if_pos h0, if_pos h0]
  · rw [if_neg h0, if_neg h0, if_pos (by omega)]
theorem wst_start (ls : List (List Int)) (a b : Nat) : wst ls 0 0 a b = 0 := by
  have e : ∀ a, ccc ls 0 0 a b = 0 := fun a => by
    unfold ccc
    rw [if_neg (by omega)]
    by_cases h : a = 0
    · rw [if_pos h, List.take_zero]; rfl
    · rw [if_neg h]
  unfold wst
  rw [e, e]
  split <;> rfl

theorem Rez.apart {w : World} {lo g r c : Nat} {gs : Nat → Nat} {P : Nat → Nat → Int} (h : Rez w lo g r c gs P) {i k : Nat} (hi : i < r) (hk : k < r) (hne : i ≠ k) : gs i ≠ gs k := fun e => by
  have := h.t.apart i k (by rw [tz_len]; exact hi) (by rw [tz_len]; exact hk) hne
  rw [rvs_at hi, rvs_at hk] at this
  exact this (gs i) rfl (by rw [e]; rfl)
theorem Rez.off {w : World} {lo g r c : Nat} {gs : Nat → Nat} {P : Nat → Nat → Int} (h : Rez w lo g r c gs P) {i : Nat} (hi : i < r) : g ≠ gs i := fun e => by
  have := h.t.off i (by rw [tz_len]; exact hi)
  rw [rvs_at hi] at this
  exact this g rfl (by rw [e]; rfl)

set_option maxHeartbeats 8000000 in
set_option maxRecDepth 100000 in
theorem withTriangle_at (a : Option Addr) (n cap : Nat) (ls : List (List Int)) (w : World) (hs : Table w a ls) (hn : n = ls.length) (t : TrB ls) :
    Calls Try.prog 37 #[.slice a n cap] w fun e w' => ∃ gs, e = .returned (.slice (some ⟨w.heap.size, 0, none⟩) n n) ∧ Hid (Rez w' w.heap.size w.heap.size n n gs (wtr ls)) ∧ Hid (Below w.heap.size w w') := by
  have HS : Hid (Table w a ls) := hs
  have HT : Hid (TrB ls) := t
  have HN : Hid (n = ls.length) := hn
  have n1 : 1 ≤ n := by rw [hn]; exact t.n1
  have n7 : n ≤ 7 := by rw [hn]; exact t.n7
  clear hs t hn
  go_enter Try.func37, Try.ntmps37
  go_wp2_with (go_at_call 41; refine (noughts_at n _ n1 (by omega)).mono ?_; rintro e w1 ⟨gs, rfl, HR1, HB1⟩)
  obtain ⟨R, HRr⟩ : ∃ R, Hid (R = w.heap.size) := ⟨_, rfl⟩
  rw [← HRr.out] at HR1 HB1 ⊢
  have HR2 : Hid (Rez w1 R R n n gs (wst ls 0 0)) := HR1.out.congr (fun i _ j _ => (wst_start ls i j).symm)
  clear HR1
  go_loopw [13] (fun q wr => ∃ i : Nat, i ≤ n ∧ q = .int .i64 i ∧ Hid (Rez wr R R n n gs (wst ls i 0)) ∧ Hid (Below R w wr)) (fun q _ => n - (intOf q).toNat)
  case atStart => exact ⟨0, Nat.zero_le _, rfl, HR2, HB1⟩
  case round =>
    clear HR2 HB1
    obtain ⟨i, hi, rfl, HR, HB⟩ := hrel
    by_cases hlt : i < n
    · have hlt' : (i : Int) < (n : Int) := by omega
      have HIl : Hid (i < ls.length) := by show _ < _; rw [← HN.out]; exact hlt
      have HSw : Hid (∀ W, Below w.heap.size w W → Table W a ls) := fun W hW => HS.out.below hW
      obtain ⟨b1, off1, a1, m1, c1, rfl, hc1, HM1, HS1, -, hmb⟩ := (HSw.out wr (by rw [← HRr.out]; exact HB.out)).elemR HIl.out
      have HM2 : Hid (m1 = i + 1) := HM1.out.trans (HT.out.len i HIl.out)
      have HS0 : Hid (∀ W, Below w.heap.size w W → Shows W a1 (ls.getD i [])) := fun W hW => by
        obtain ⟨b9, off9, a9, m9, c9, e9, hc9, _, HS9, _, _⟩ := (HS.out).elemR HIl.out
        simp only [Option.some.injEq, Addr.mk.injEq, and_true] at e9
        obtain ⟨rfl, rfl⟩ := e9
        have hbl : b1 < w.heap.size := by
          obtain ⟨b8, off8, _, _, e8, h8, _⟩ := HS.out i HIl.out
          simp only [Option.some.injEq, Addr.mk.injEq, and_true] at e8
          rw [e8.1]; exact h8
        have h9 := (HB.out.mono (show w.heap.size ≤ R by rw [HRr.out]; exact Nat.le_refl _)).cell (p := ⟨b1, off1 + i, none⟩) hbl
        rw [hc1, hc9] at h9
        simp only [Option.some.injEq, Value.slice.injEq] at h9
        rw [h9.1]
        exact HS9.out.below hW
      go_wp2
      clear hc1 HS1
      go_loopw [20] (fun q wr => ∃ k : Nat, k ≤ m1 ∧ q = .int .i64 k ∧ Hid (Rez wr R R n n gs (wst ls i k)) ∧ Hid (Below R w wr)) (fun q _ => m1 - (intOf q).toNat)
      case atStart => exact ⟨0, Nat.zero_le _, rfl, HR, HB⟩
      case round =>
        clear HR HB
        obtain ⟨k, hk, rfl, HR, HB⟩ := hrel
        by_cases hkl : k < m1
        · have hkl' : (k : Int) < (m1 : Int) := by omega
          have HKm : Hid (k < (ls.getD i []).length) := by show _ < _; rw [← HM1.out]; exact hkl
          obtain ⟨b3, o3, z, e3, HZ, hz1, hz2, cz⟩ := (HS0.out wr (by rw [← HRr.out]; exact HB.out)).elem (k := k) HKm.out
          subst e3
          have hzn := HT.out.num i HIl.out z (by rw [HZ.out]; exact getD_mem HKm.out)
          rw [← HN.out] at hzn
          obtain ⟨j, Hj⟩ : ∃ j : Nat, Hid (z = (j : Int) + 1) := ⟨(z - 1).toNat, by show _ = _; omega⟩
          have hjl : j < n := by have := Hj.out; omega
          have hjl' : (j : Int) < (n : Int) := by omega
          have hwz : IntKind.i64.wrap (z - 1) = (j : Int) := by rw [IntKind.wrap_i64, Hj.out]; omega
          have HZr : Hid ((row ls i).getD k 0 = (j : Int) + 1) := by show _ = _; rw [← Hj.out, HZ.out]; rfl
          have c0 := HR.out.head hlt
          obtain ⟨cA, fA, hgl, hgh⟩ := HR.out.box hlt hjl
          obtain ⟨x, HX⟩ : ∃ x, Hid (x = wst ls i k i j) := ⟨_, rfl⟩
          rw [← HX.out] at cA
          have bx : -7 ≤ x ∧ x ≤ 7 := by rw [HX.out]; exact wst_bd HT.out i k i j
          have ewx : IntKind.i64.wrap (x + 1) = x + 1 := by rw [IntKind.wrap_i64]; omega
          have hgo := HR.out.off hlt
          obtain ⟨g0, Hg0⟩ : ∃ g, Hid (g = gs i) := ⟨_, rfl⟩
          have HR3 : Hid (Rez (wr.setCell ⟨g0, j, none⟩ (.int .i64 (x + 1))) R R n n gs (updz (wst ls i k) i j (x + 1))) := by
            rw [Hg0.out]; exact HR.out.set hlt (x + 1) rfl
          have HB3 : Hid (Below R w (wr.setCell ⟨g0, j, none⟩ (.int .i64 (x + 1)))) := by
            rw [Hg0.out]; exact HB.out.setCell (p := ⟨gs i, j, none⟩) hgl _
          rw [← Hg0.out] at c0 cA fA hgo hgl hgh
          obtain ⟨i1, Hi1⟩ : ∃ i1, Hid (i1 = i + 1) := ⟨_, rfl⟩
          have hwi : IntKind.i64.wrap ((i : Int) + 1) = (i1 : Int) := by rw [IntKind.wrap_i64, Hi1.out]; omega
          have HUx : Hid (∀ a b, updz (wst ls i k) i j (x + 1) a b = wst ls i k a b + (if a = i ∧ b = j then 1 else 0)) := fun a b => by
            unfold updz
            by_cases e : a = i ∧ b = j
            · rw [if_pos e, if_pos e, HX.out, e.1, e.2]
            · rw [if_neg e, if_neg e, Int.add_zero]
          by_cases hin : i1 < n
          · have hin' : (i1 : Int) < (n : Int) := by omega
            have c1 := HR.out.head hin
            obtain ⟨cB, fB, hgl1, hgh1⟩ := HR.out.box hin hjl
            have hgo1 := HR.out.off hin
            have hga := HR.out.apart hlt hin (by have := Hi1.out; omega)
            obtain ⟨y, HY⟩ : ∃ x, Hid (x = wst ls i k i1 j) := ⟨_, rfl⟩
            rw [← HY.out] at cB
            have byy : -7 ≤ y ∧ y ≤ 7 := by rw [HY.out]; exact wst_bd HT.out i k i1 j
            have ewy : IntKind.i64.wrap (y - 1) = y - 1 := by rw [IntKind.wrap_i64]; omega
            obtain ⟨g1, Hg1⟩ : ∃ g, Hid (g = gs i1) := ⟨_, rfl⟩
            have HR4 : Hid (Rez ((wr.setCell ⟨g0, j, none⟩ (.int .i64 (x + 1))).setCell ⟨g1, j, none⟩ (.int .i64 (y - 1))) R R n n gs (wst ls i (k + 1))) := by
              rw [Hg1.out]
              refine (HR3.out.set hin (y - 1) rfl).congr (fun a _ b _ => ?_)
              rw [wst_step HKm.out HZr.out]
              have hi1 := Hi1.out
              by_cases e : a = i1 ∧ b = j
              · unfold updz
                rw [if_pos e, if_neg (by omega), if_pos (by omega), HY.out, e.1, e.2]; omega
              · have e2 : updz (updz (wst ls i k) i j (x + 1)) i1 j (y - 1) a b = updz (wst ls i k) i j (x + 1) a b := if_neg e
                rw [e2, HUx.out, if_neg (show ¬ (a = i + 1 ∧ b = j) by rw [← hi1]; exact e)]; omega
            have HB4 : Hid (Below R w ((wr.setCell ⟨g0, j, none⟩ (.int .i64 (x + 1))).setCell ⟨g1, j, none⟩ (.int .i64 (y - 1)))) := by
              rw [Hg1.out]; exact HB3.out.setCell (p := ⟨gs i1, j, none⟩) hgl1 _
            rw [← Hg1.out] at c1 cB fB hgo1 hgl1 hgh1
            rw [← Hg0.out, ← Hg1.out] at hga
            have hga' : g1 ≠ g0 := fun e => hga e.symm
            clear HR3 HB3 hgl hgl1
            go_wp2_with fail
            go_roundw
            case rel => exact ⟨k + 1, by omega, by go_num, HR4, HB4⟩
            case measure => simp [intOf]; omega
          · have hin' : ¬ (i1 : Int) < (n : Int) := by omega
            have HR4 : Hid (Rez (wr.setCell ⟨g0, j, none⟩ (.int .i64 (x + 1))) R R n n gs (wst ls i (k + 1))) := HR3.out.congr (fun a ha b _ => by
              have hi1 := Hi1.out
              rw [HUx.out, wst_step HKm.out HZr.out, if_neg (show ¬ (a = i + 1 ∧ b = j) by omega)]; omega)
            clear hgl
            go_wp2_with fail
            go_roundw
            case rel => exact ⟨k + 1, by omega, by go_num, HR4, HB3⟩
            case measure => simp [intOf]; omega
        · obtain rfl : k = m1 := by omega
          have HR4 : Hid (Rez wr R R n n gs (wst ls (i + 1) 0)) := HR.out.congr (fun a _ b _ => wst_next k (by show (ls.getD i []).length ≤ k; rw [HM1.out]; exact Nat.le_refl _) a b)
          go_wp2
          go_roundw
          case rel => exact ⟨i + 1, by omega, by go_num, HR4, HB⟩
          case measure => simp [intOf]; omega
    · obtain rfl : i = n := by omega
      have HR4 : Hid (Rez wr R R i i gs (wtr ls)) := HR.out.congr (fun a ha b _ => by rw [HN.out] at ha ⊢; exact wst_end b ha)
      go_wp2
      go_ret
      refine ⟨gs, ?_, by rw [← HRr.out]; exact HR4, by rw [← HRr.out]; exact HB⟩
      rw [HRr.out]
      try rfl

end Go.Proofs.Ytfpbccahmipliaa
