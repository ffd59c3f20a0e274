/-
  The contracts of signs.areOfLength, mayCome, alternates, column.
-/
import Derived.Test.YtfdhbnbmobmlpaaDoorJRec
namespace Go.Proofs.YtfdhbnbmobmlpaaDoor
open Go.RowKit

set_option maxHeartbeats 1000000 in
theorem areOfLength_at (a : Option Addr) (n cap m : Nat) (ls : List (List Int)) (w : World) (B : Bool) (hs : Table w a ls) (hn : n = ls.length) (hl : ls.length ≤ 17592186044416) (hm : m ≤ 17592186044416) (HB : Hid (B = true ↔ ∀ i, i < ls.length → (row ls i).length = m)) :
    Calls Tryd.prog 36 #[.slice a n cap, .int .i64 (m : Int)] w fun e w' => e = .returned (.bool B) ∧ w' = w := by
  subst hn
  have HS : Hid (Table w a ls) := hs
  clear hs
  go_enter Tryd.func36, Tryd.ntmps36
  go_wp2
  go_loopw [9] (fun q wr => ∃ k : Nat, k ≤ ls.length ∧ q = .int .i64 k ∧ Hid (∀ i, i < k → (row ls i).length = m) ∧ wr = w) (fun q _ => ls.length - (intOf q).toNat)
  case atStart => exact ⟨0, Nat.zero_le _, rfl, fun i h => absurd h (by omega), rfl⟩
  case round =>
    obtain ⟨k, hk, rfl, HK, rfl⟩ := hrel
    by_cases hlt : k < ls.length
    · have hlt' : (k : Int) < (ls.length : Int) := by omega
      obtain ⟨b1, off1, a1, m1, c1, rfl, hc1, HM1, -, -, hmb⟩ := HS.out.elemR hlt
      by_cases e : m1 = m
      · subst e
        have hne : ((m1 : Int) != (m1 : Int)) = false := by simp
        go_wp2
        go_roundw
        case rel => exact ⟨k + 1, by omega, by go_num, fun i hi => by
          by_cases e : i = k
          · subst e; exact HM1.out.symm
          · exact HK.out i (by omega), trivial⟩
        case measure => simp [intOf]; omega
      · have hne : ((m1 : Int) != (m : Int)) = true := by rw [bne_iff_ne]; omega
        have hBf : B = false := by
          cases hB : B with
          | false => rfl
          | true => exact absurd (HM1.out.trans (HB.out.1 hB k hlt)) e
        subst hBf
        have HE : Hid (¬ m1 = m) := e
        clear e
        go_wp2
        go_ret
        exact ⟨rfl, rfl⟩
    · obtain rfl : k = ls.length := by omega
      have hBt : B = true := HB.out.2 HK.out
      subst hBt
      go_wp2
      go_ret
      exact ⟨rfl, rfl⟩

def mayB (s : Int) (l : Bool) : Bool := decide (s = 1) || (decide (s = 0) && !l)
set_option maxHeartbeats 1000000 in
theorem mayCome_sg (s : Int) (l B : Bool) (w : World) (hs : -9223372036854775808 ≤ s ∧ s ≤ 9223372036854775807) (HB : Hid (mayB s l = B)) :
    Calls Tryd.prog 14 #[.int .i64 s, .bool l] w fun e w' => e = .returned (.bool B) ∧ w' = w := by
  obtain ⟨hs1, hs2⟩ := hs
  by_cases h1 : s = 1
  · subst h1
    obtain rfl : B = true := by rw [← HB.out]; rfl
    go_enter Tryd.func14, Tryd.ntmps14
    go_wp2
    go_ret
    exact ⟨rfl, rfl⟩
  · by_cases h0 : s = 0
    · subst h0
      obtain rfl : B = !l := by rw [← HB.out]; rfl
      cases l with
      | true =>
        go_enter Tryd.func14, Tryd.ntmps14
        go_wp2
        go_ret
        exact ⟨rfl, rfl⟩
      | false =>
        go_enter Tryd.func14, Tryd.ntmps14
        go_wp2
        go_ret
        exact ⟨rfl, rfl⟩
    · obtain rfl : B = false := by rw [← HB.out]; unfold mayB; rw [decide_eq_false h1, decide_eq_false h0]; rfl
      have g1 : (s == 1) = false := by simpa using h1
      have g0 : (s == 0) = false := by simpa using h0
      clear h0 h1
      go_enter Tryd.func14, Tryd.ntmps14
      go_wp2
      go_ret
      exact ⟨rfl, rfl⟩

theorem wrap_one {s z : Int} (hs : s = 0 ∨ s = 1) (h1 : -9223372036854775808 ≤ z) (h2 : z ≤ 9223372036854775807) :
    (IntKind.i64.wrap (s + z) = 1 ↔ s + z = 1) ∧ (IntKind.i64.wrap (s + z) = 0 ↔ s + z = 0) ∧ -9223372036854775808 ≤ IntKind.i64.wrap (s + z) ∧ IntKind.i64.wrap (s + z) ≤ 9223372036854775807 := by
  rw [IntKind.wrap_i64]
  omega

set_option maxHeartbeats 1000000 in
theorem alternates_at (a : Option Addr) (n cap : Nat) (zs : List Int) (w : World) (B : Bool) (hs : Shows w a zs) (hn : n = zs.length) (h1 : 1 ≤ zs.length) (h7 : zs.length ≤ 1000) (HB : Hid (alt 0 zs = B)) :
    Calls Tryd.prog 37 #[.slice a n cap] w fun e w' => e = .returned (.bool B) ∧ w' = w := by
  subst hn
  have HS : Hid (Shows w a zs) := hs
  clear hs
  go_enter Tryd.func37, Tryd.ntmps37
  go_wp2
  go_loopw [3, 8] (fun v q wr => ∃ (k : Nat) (s : Int), k ≤ zs.length ∧ q = .int .i64 k ∧ v = .int .i64 s ∧ Hid (s = 0 ∨ s = 1) ∧ Hid (k = zs.length → s = 1) ∧ Hid (alt s (zs.drop k) = B) ∧ wr = w) (fun _ q _ => zs.length - (intOf q).toNat)
  case atStart => exact ⟨0, 0, Nat.zero_le _, rfl, rfl, Or.inl rfl, fun h => by omega, by rw [List.drop_zero]; exact HB, rfl⟩
  case round =>
    obtain ⟨k, s, hk, rfl, rfl, H01, HE, HA, rfl⟩ := hrel
    by_cases hlt : k < zs.length
    · have hlt' : (k : Int) < (zs.length : Int) := by omega
      obtain ⟨b1, o1, z, ha, HZ, hz1, hz2, hcz⟩ := HS.out.elem hlt
      subst ha
      have HA2 : Hid ((decide (s + z = 0 ∨ s + z = 1) && alt (s + z) (zs.drop (k + 1))) = B) := by
        have := HA.out
        rw [drop_cons _ _ hlt, alt, ← HZ.out] at this
        exact this
      have hw := wrap_one H01.out hz1 hz2
      obtain ⟨x, hx⟩ : ∃ x, IntKind.i64.wrap (s + z) = x := ⟨_, rfl⟩
      rw [hx] at hw
      obtain ⟨W1, W0, hx1, hx2⟩ := hw
      have HW1 : Hid (x = 1 ↔ s + z = 1) := W1
      have HW0 : Hid (x = 0 ↔ s + z = 0) := W0
      clear W1 W0 HA
      obtain ⟨l, HL⟩ : ∃ l : Bool, Hid (l = decide ((k : Int) = (zs.length : Int) - 1)) := ⟨_, rfl⟩
      have hlw : IntKind.i64.wrap ((zs.length : Int) - 1) = (zs.length : Int) - 1 := by rw [IntKind.wrap_i64]; omega
      have hlb : ((k : Int) == (zs.length : Int) - 1) = l := by rw [HL.out]; rfl
      obtain ⟨t, HT⟩ : ∃ t, Hid (mayB x l = t) := ⟨_, rfl⟩
      cases t with
      | true =>
        have HX : Hid (x = 1 ∨ (x = 0 ∧ ¬ (k : Int) = (zs.length : Int) - 1)) := by
          have := HT.out
          unfold mayB at this
          rw [HL.out] at this
          show _ ∨ _
          simpa using this
        have H01' : Hid (x = 0 ∨ x = 1) := by rcases HX.out with h | h; exact Or.inr h; exact Or.inl h.1
        have HA3 : Hid (alt x (zs.drop (k + 1)) = B) := by
          have e : s + z = x := by
            rcases H01'.out with h | h
            · rw [h]; exact HW0.out.1 h
            · rw [h]; exact HW1.out.1 h
          rw [← HA2.out, e, decide_eq_true H01'.out, Bool.true_and]
          rfl
        have HE' : Hid (k + 1 = zs.length → x = 1) := fun h => by rcases HX.out with h1 | h1; exact h1; exact absurd h1.2 (by simp; omega)
        go_wp2_with (go_at_call 14; refine (mayCome_sg x l true _ ⟨hx1, hx2⟩ HT).mono ?_; rintro e w' ⟨rfl, rfl⟩)
        go_roundw
        case rel => exact ⟨k + 1, x, by omega, by go_num, rfl, H01', HE', HA3, trivial⟩
        case measure => simp [intOf]; omega
      | false =>
        have hBf : B = false := by
          rw [← HA2.out]
          by_cases h : s + z = 0 ∨ s + z = 1
          · rw [decide_eq_true h, Bool.true_and]
            have hx0 : ¬ x = 1 := fun e => by
              have := HT.out
              rw [e] at this
              exact absurd this (by simp [mayB])
            have hs0 : s + z = 0 := by rcases h with h | h; exact h; exact absurd (HW1.out.2 h) hx0
            have hll : l = true := by
              have := HT.out
              rw [HW0.out.2 hs0] at this
              simpa [mayB] using this
            rw [HL.out, decide_eq_true_eq] at hll
            rw [List.drop_eq_nil_of_le (by omega), hs0]
            rfl
          · rw [decide_eq_false h]; rfl
        subst hBf
        go_wp2_with (go_at_call 14; refine (mayCome_sg x l false _ ⟨hx1, hx2⟩ HT).mono ?_; rintro e w' ⟨rfl, rfl⟩)
        go_ret
        exact ⟨rfl, rfl⟩
    · obtain rfl : k = zs.length := by omega
      have hBt : B = true := by rw [← HA.out, HE.out rfl, List.drop_length]; rfl
      subst hBt
      go_wp2
      go_ret
      exact ⟨rfl, rfl⟩

/-- a row of a square that came in -/
theorem Table.rowZ {w : World} {a : Option Addr} {r c : Nat} {P : Nat → Nat → Int} (h : Table w a (tz r c P)) {i : Nat} (hi : i < r) :
    ∃ b off ai ci, a = some ⟨b, off, none⟩ ∧ Hid (∀ W, Below w.heap.size w W → W.cell? ⟨b, off + i, none⟩ = some (.slice ai c ci)) ∧ Hid (∀ W, Below w.heap.size w W → Shows W ai (tab c (P i))) := by
  obtain ⟨b, off, ai, ci, h1, h2, h3, h4, _⟩ := h i (by rw [tz_len]; exact hi)
  rw [tz_get hi] at h3 h4
  rw [tab_length] at h3
  exact ⟨b, off, ai, ci, h1, fun W hW => (hW.cell (p := ⟨b, off + i, none⟩) h2).trans h3, fun W hW => h4.below hW⟩
theorem Shows.boxZ {w : World} {a : Option Addr} {c : Nat} {f : Nat → Int} (h : Shows w a (tab c f)) {j : Nat} (hj : j < c) :
    ∃ b off, a = some ⟨b, off, none⟩ ∧ w.cell? ⟨b, off + j, none⟩ = some (.int .i64 (f j)) ∧ -9223372036854775808 ≤ f j ∧ f j ≤ 9223372036854775807 := by
  obtain ⟨b, o, z, ha, HZ, h1, h2, hc⟩ := h.elem (k := j) (by rw [tab_length]; exact hj)
  have := HZ.out
  rw [tab_getD _ _ _ hj] at this
  subst this
  exact ⟨b, o, ha, hc, h1, h2⟩

/-- a list of numbers in block X -/
def Roz (w : World) (X n : Nat) (f : Nat → Int) : Prop := Owns w X (.slice (some ⟨X, 0, none⟩) n n) (tab n f)
theorem Roz.cell {w : World} {X n : Nat} {f : Nat → Int} (h : Roz w X n f) {i : Nat} (hi : i < n) : w.cell? ⟨X, i, none⟩ = some (.int .i64 (f i)) ∧ w.frozen? ⟨X, i, none⟩ = false ∧ X < w.heap.size := by
  obtain ⟨g8, cap8, e8, hg8, hgs8, hfr8, hce8⟩ := h.head (by rw [tab_length]; omega)
  simp only [Value.slice.injEq, Option.some.injEq, Addr.mk.injEq, and_true] at e8
  obtain ⟨rfl, -, -⟩ := e8
  have := hce8 i (by rw [tab_length]; exact hi)
  rw [tab_getD _ _ _ hi] at this
  exact ⟨this, hfr8 i, hgs8⟩
theorem Roz.congr {w : World} {X n : Nat} {f g : Nat → Int} (h : Roz w X n f) (e : ∀ i, i < n → f i = g i) : Roz w X n g := by
  unfold Roz; rw [← tab_congr e]; exact h
theorem Roz.below {w w' : World} {X n : Nat} {f : Nat → Int} (h : Roz w X n f) (hb : Below w.heap.size w w') : Roz w' X n f := Owns.below h hb
theorem Roz.set {w W : World} {X n : Nat} {f : Nat → Int} (h : Roz w X n f) (i : Nat) (x : Int) (hW : W.heap = w.heap) : Roz (W.setCell ⟨X, i, none⟩ (.int .i64 x)) X n fun k => if k = i then x else f k := by
  have h1 : Owns W X (.slice (some ⟨X, 0, none⟩) n n) (tab n f) := ownsRow_blocks h (fun k _ => by rw [hW])
  have h2 := h1.store (by rw [tab_length]) i x
  rw [tab_setz] at h2
  exact h2
theorem roz_made {w : World} {n : Nat} (hn : n ≤ 1000) : Roz (w.alloc (.cells (madeCells #[Value.int .i64 0] n) 3)) w.heap.size n fun _ => 0 := by
  have hmade : (madeCells #[Value.int .i64 0] n) = (List.replicate n (Value.int .i64 0)).toArray := by
    apply Array.toList_inj.1
    rw [toList_madeCells_one]
  have e : tab n (fun _ => 0) = List.replicate n 0 := by
    rw [List.eq_replicate_iff]
    exact ⟨tab_length _ _, fun x hx => by obtain ⟨_, _, rfl⟩ := tab_mem hx; rfl⟩
  unfold Roz
  rw [e]
  refine owns_of_row (Nat.le_refl _) ?_ (by simp) (by simp; omega)
  rw [heap_alloc_new w, hmade]; simp

set_option maxHeartbeats 2000000 in
theorem column_at (a : Option Addr) (n cap m j : Nat) (P : Nat → Nat → Int) (w : World) (hs : Table w a (tz n n P)) (hm : m = n) (hn : n ≤ 20) (hj : j < n) :
    Calls Tryd.prog 38 #[.slice a m cap, .int .i64 (j : Int)] w fun e w' => e = .returned (.slice (some ⟨w.heap.size, 0, none⟩) n n) ∧ Hid (Roz w' w.heap.size n fun i => P i j) ∧ Hid (Below w.heap.size w w') := by
  subst hm
  have HS : Hid (Table w a (tz m m P)) := hs
  clear hs
  have hj' : (j : Int) < (m : Int) := by omega
  have hmP : ∀ W, (Instr.makeSlice 22 (.int .i64 (m : Int)) (.int .i64 (m : Int))).run Tryd.prog W = .ok (.slice (some ⟨W.heap.size, 0, none⟩) m m) (W.alloc (.cells (madeCells #[Value.int .i64 0] m) 3)) := fun W =>
        run_make_row' (P := Tryd.prog) 22 3 (.int .i64 0) 8 Tryd.underlying22 (by kernel_rfl) rfl .i64 .i64 m (by omega) (by omega) W
  have HR0 : Hid (Roz (w.alloc (.cells (madeCells #[Value.int .i64 0] m) 3)) w.heap.size m fun i => if i < 0 then P i j else 0) := roz_made (by omega)
  have HB0 : Hid (Below w.heap.size w (w.alloc (.cells (madeCells #[Value.int .i64 0] m) 3))) := (Below.refl _ _).alloc (Nat.le_refl _) _
  go_enter Tryd.func38, Tryd.ntmps38
  go_wp2_with fail
  clear hmP
  obtain ⟨X, HX⟩ : ∃ X, Hid (X = w.heap.size) := ⟨_, rfl⟩
  rw [← HX.out] at HR0 HB0 ⊢
  go_loopw [13] (fun q wr => ∃ i : Nat, i ≤ m ∧ q = .int .i64 i ∧ Hid (Roz wr X m fun k => if k < i then P k j else 0) ∧ Hid (Below X w wr)) (fun q _ => m - (intOf q).toNat)
  case atStart => exact ⟨0, Nat.zero_le _, rfl, HR0, HB0⟩
  case round =>
    clear HR0 HB0
    obtain ⟨i, hi, rfl, HR, HB⟩ := hrel
    by_cases hlt : i < m
    · have hlt' : (i : Int) < (m : Int) := by omega
      obtain ⟨b, off, ai, ci, rfl, HCi, HSi⟩ := HS.out.rowZ (i := i) hlt
      have hb : Below w.heap.size w wr := by rw [← HX.out]; exact HB.out
      have hci := HCi.out wr hb
      obtain ⟨b1, o1, hai, hcx, -, -⟩ := (HSi.out wr hb).boxZ hj
      subst hai
      obtain ⟨x, HXx⟩ : ∃ x, Hid (x = P i j) := ⟨_, rfl⟩
      rw [← HXx.out] at hcx
      obtain ⟨cB, fB, hhi⟩ := HR.out.cell (i := i) hlt
      have HR3 : Hid (∀ W : World, W.heap = wr.heap → Roz (W.setCell ⟨X, i, none⟩ (.int .i64 x)) X m fun k => if k < i + 1 then P k j else 0) := fun W hW => by
        refine (HR.out.set i x hW).congr (fun k _ => ?_)
        by_cases e : k = i
        · subst e; rw [if_pos rfl, if_pos (by omega), HXx.out]
        · rw [if_neg e]
          by_cases h : k < i
          · rw [if_pos h, if_pos (by omega)]
          · rw [if_neg h, if_neg (by omega)]
      clear HCi HSi hb
      go_wp2
      go_roundw
      case rel => exact ⟨i + 1, by omega, by go_num, HR3.out _ rfl, HB.out.setCell (p := ⟨X, i, none⟩) (Nat.le_refl _) _⟩
      case measure => simp [intOf]; omega
    · obtain rfl : i = m := by omega
      have HRe : Hid (Roz wr X i fun k => P k j) := HR.out.congr (fun k hk => by rw [if_pos hk])
      go_wp2
      go_ret
      refine ⟨?_, by rw [← HX.out]; exact HRe, by rw [← HX.out]; exact HB⟩
      rw [HX.out]
      try rfl

end Go.Proofs.YtfdhbnbmobmlpaaDoor
