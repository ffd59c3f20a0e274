/-
  The law ferkeep.SlidesRound.
-/
import Derived.Test.YtpbkidgdpejenaeSEvc
import Derived.Test.YtpbkidgdpejenaeIEq
namespace Go.Proofs.Ytpbkidgdpejenae
open Go.RowKit

theorem evaT_std {ls : List (List Int)} (h : scode ls = 0) : Std ls.flatten.length (evaT ls) := evT_std (scode_ok.1 h).1
theorem evaT_twice {ls : List (List Int)} (h : scode ls = 0) : scode (evaT ls) = 0 ∧ evaT (evaT ls) = ls := by
  have hs := (scode_ok.1 h).1
  refine ⟨(evaT_std h).code, ?_⟩
  unfold evaT
  have := evT_std hs
  rw [this.flat, evT_evT hs]
theorem proT_std {ls : List (List Int)} (h : scode ls = 0) : Std ls.flatten.length (proT ls) ∧ (0 < ls.flatten.length → Prom ls.flatten.length ls (proT ls)) := by
  have hs := (scode_ok.1 h).1
  unfold proT
  by_cases c : ls.flatten.length = 0
  · rw [if_pos c]
    have := std_nil hs c
    refine ⟨?_, fun q => by omega⟩
    rw [c, this] at hs; rw [c]; exact hs
  · rw [if_neg c]
    obtain ⟨h1, h2⟩ := pr_ok hs (by omega)
    exact ⟨h1, fun _ => h2⟩
theorem demT_std {ls : List (List Int)} (h : scode ls = 0) : Std ls.flatten.length (demT ls) ∧ (0 < ls.flatten.length → Prom ls.flatten.length (demT ls) ls) := by
  have hs := (scode_ok.1 h).1
  by_cases c : ls.flatten.length = 0
  · have e := std_nil hs c
    refine ⟨?_, fun q => by omega⟩
    have e2 : demT ls = [] := by unfold demT; rw [if_pos c]
    rw [e2, c]; rw [c, e] at hs; exact hs
  · obtain ⟨i, hi, hla⟩ := std_last hs (by omega)
    have hp : 0 < (row ls i).length := (T_row.1 hs.tab i hi).1
    have hj : (row ls i).length - 1 < (row ls i).length := by omega
    rw [demT_is hs (by omega) hj hla]
    obtain ⟨h1, h2⟩ := dm_ok hs hj hla
    exact ⟨h1, fun _ => h2⟩
theorem pro_dem {ls : List (List Int)} (h : scode ls = 0) : scode (demT ls) = 0 ∧ proT (demT ls) = ls := by
  have hs := (scode_ok.1 h).1
  obtain ⟨d1, d2⟩ := demT_std h
  refine ⟨d1.code, ?_⟩
  by_cases c : ls.flatten.length = 0
  · unfold proT
    rw [d1.flat, if_pos c, std_nil hs c]
  · have p := proT_std d1.code
    rw [d1.flat] at p
    exact (p.2 (by omega)).uniq (d2 (by omega)) p.1 hs
theorem dem_pro {ls : List (List Int)} (h : scode ls = 0) : scode (proT ls) = 0 ∧ demT (proT ls) = ls := by
  have hs := (scode_ok.1 h).1
  obtain ⟨p1, p2⟩ := proT_std h
  refine ⟨p1.code, ?_⟩
  by_cases c : ls.flatten.length = 0
  · unfold demT
    rw [p1.flat, if_pos c, std_nil hs c]
  · have d := demT_std p1.code
    rw [p1.flat] at d
    exact (d.2 (by omega)).inj (p2 (by omega)) d.1 hs p1
theorem std_bd {ls : List (List Int)} (h : scode ls = 0) : ∀ l ∈ ls, l.length ≤ 17592186044416 ∧ ∀ z ∈ l, -9223372036854775808 ≤ z ∧ z ≤ 9223372036854775807 := (few_std (scode_ok.1 h).1).bd

/-- A literal of a row of two and a row of one. -/
theorem table_lit21 (w : World) (x y z : Int) (hx : -1000 ≤ x ∧ x ≤ 1000) (hy : -1000 ≤ y ∧ y ≤ 1000) (hz : -1000 ≤ z ∧ z ≤ 1000) :
    Table (((w.alloc (.cells #[.int .i64 x, .int .i64 y] 3)).alloc (.cells #[.int .i64 z] 3)).alloc (.cells #[.slice (some ⟨w.heap.size, 0, none⟩) 2 2, .slice (some ⟨w.heap.size + 1, 0, none⟩) 1 1] 22)) (some ⟨w.heap.size + 2, 0, none⟩) [[x, y], [z]] := by
  have h1 := shows_lit w [x, y] #[.int .i64 x, .int .i64 y] rfl (by simp) (by simp; omega)
  have h2 := shows_lit (w.alloc (.cells #[.int .i64 x, .int .i64 y] 3)) [z] #[.int .i64 z] rfl (by simp) (by simp; omega)
  have h1' := (h1.below ((Below.refl _ _).alloc (Nat.le_refl _) (.cells #[.int .i64 z] 3))).below ((Below.refl _ _).alloc (Nat.le_refl _) (.cells #[.slice (some ⟨w.heap.size, 0, none⟩) 2 2, .slice (some ⟨w.heap.size + 1, 0, none⟩) 1 1] 22))
  have h2' := h2.below ((Below.refl _ _).alloc (Nat.le_refl _) (.cells #[.slice (some ⟨w.heap.size, 0, none⟩) 2 2, .slice (some ⟨w.heap.size + 1, 0, none⟩) 1 1] 22))
  intro i hi
  have hi' : i = 0 ∨ i = 1 := by simp at hi; omega
  rcases hi' with rfl | rfl
  · refine ⟨w.heap.size + 2, 0, some ⟨w.heap.size, 0, none⟩, 2, rfl, by simp, ?_, h1', fun h => by cases h⟩
    rw [World.cell?_alloc_at _ _ _ _ (by simp)]; rfl
  · refine ⟨w.heap.size + 2, 0, some ⟨w.heap.size + 1, 0, none⟩, 1, rfl, by simp, ?_, by simpa using h2', fun h => by cases h⟩
    rw [World.cell?_alloc_at _ _ _ _ (by simp)]; rfl
theorem below_lit21 (w : World) (c1 c2 c3 : Array Value) (t1 t2 t3 : TypeId) : Below w.heap.size w (((w.alloc (.cells c1 t1)).alloc (.cells c2 t2)).alloc (.cells c3 t3)) :=
  (((Below.refl _ _).alloc (Nat.le_refl _) _).alloc (by simp) _).alloc (by simp; omega) _

theorem rect_len {ls : List (List Int)} (h : T ls) (h0 : 0 < ls.length) (he : (row ls (ls.length - 1)).length = (row ls 0).length) : Rect ls (row ls 0).length ∧ ls.flatten.length = ls.length * (row ls 0).length := by
  have hr : Rect ls (row ls 0).length := fun a ha => by
    have h1 := h.shp.shorter' (a := 0) (b := a) (by omega)
    have h2 := h.shp.shorter' (a := a) (b := ls.length - 1) (by omega)
    omega
  refine ⟨hr, ?_⟩
  rw [flat_sum, S_congr (g := fun _ => (row ls 0).length) (fun a ha => hr a ha)]
  have : ∀ (n m : Nat), S n (fun _ => m) = n * m := by
    intro n m
    induction n with
    | zero => simp [S]
    | succ n ih => simp only [S]; rw [ih]; rw [Nat.succ_mul]
  exact this _ _

theorem lit_pro : scode [[1, 2], [3]] = 0 ∧ proT [[1, 2], [3]] = [[1, 3], [2]] := by decide

set_option maxHeartbeats 16000000 in
theorem round_any (a : Option Addr) (cap : Nat) (ls : List (List Int)) (w : World) (hs : Table w a ls) (hl : ls.length ≤ 17592186044416) :
    Calls Try.prog 8 #[.slice a ls.length cap] w fun e w' => e = .returned (.bool true) ∧ Below w.heap.size w w' := by
  have HS : Hid (Table w a ls) := hs
  clear hs
  go_enter Try.func8, Try.ntmps8
  go_wp2_with fail
  refine (Promote_at _ 2 _ [[1, 2], [3]] _ (table_lit21 w 1 2 3 (by omega) (by omega) (by omega)) rfl (by simp)).mono ?_
  rintro e w1 ⟨v1, rfl, hT1, hb1⟩
  have HB1 : Hid (Below w.heap.size w w1) := (below_lit21 w _ _ _ _ _ _).trans (hb1.mono (below_lit21 w _ _ _ _ _ _).size)
  rw [lit_pro.1, if_pos rfl, lit_pro.2] at hT1
  rw [lit_pro.1]
  obtain ⟨p1, n1, k1, rfl, hP1, HN1⟩ := hT1.table (by decide)
  have HP1 : Hid (Table w1 p1 [[1, 3], [2]]) := hP1
  clear hT1 hb1 hP1
  go_wp2_with fail
  refine (RowsL_i _ _ _ _ _ _ [[1, 3], [2]] _ (HP1.out.below (below_lit21 w1 _ _ _ _ _ _)) (table_lit21 w1 1 3 2 (by omega) (by omega) (by omega)) HN1.out rfl (by simp)).mono ?_
  rintro e w2 ⟨rfl, d2, hw2⟩
  have HB2 : Hid (Below w.heap.size w w2) := by rw [hw2]; exact below_drewN (HB1.out.trans ((below_lit21 w1 _ _ _ _ _ _).mono HB1.out.size)) d2
  clear hw2 HP1 HN1
  go_wp2_with fail
  refine (Evacuate_at a ls.length cap ls w2 (HS.out.below HB2.out) rfl hl).mono ?_
  rintro e w3 ⟨v3, rfl, hT3, hb3⟩
  have HB3 : Hid (Below w.heap.size w w3) := HB2.out.trans (hb3.mono HB2.out.size)
  by_cases hc : scode ls = 0
  · have HC : Hid (scode ls = 0) := hc
    rw [hc]
    rw [hc, if_pos rfl] at hT3
    obtain ⟨A, HA⟩ : ∃ A, Hid (A = evaT ls) := ⟨_, rfl⟩
    obtain ⟨C, HCc⟩ : ∃ C, Hid (C = proT ls) := ⟨_, rfl⟩
    obtain ⟨X, HX⟩ : ∃ X, Hid (X = demT ls) := ⟨_, rfl⟩
    rw [← HA.out] at hT3
    have HfA : Hid (scode A = 0 ∧ evaT A = ls) := by rw [HA.out]; exact evaT_twice hc
    have HfC : Hid (scode C = 0 ∧ demT C = ls) := by rw [HCc.out]; exact dem_pro hc
    have HfX : Hid (scode X = 0 ∧ proT X = ls) := by rw [HX.out]; exact pro_dem hc
    have HStd : Hid (Std ls.flatten.length ls) := (scode_ok.1 hc).1
    have HFew : Hid (Few ls) := few_std HStd.out
    have hl2 : ls.length ≤ 1000 := HFew.out.len
    have HlA : Hid (A.length ≤ 17592186044416) := by have := (few_std (scode_ok.1 HfA.out.1).1).len; show _ ≤ _; omega
    have HlC : Hid (C.length ≤ 17592186044416) := by have := (few_std (scode_ok.1 HfC.out.1).1).len; show _ ≤ _; omega
    have HlX : Hid (X.length ≤ 17592186044416) := by have := (few_std (scode_ok.1 HfX.out.1).1).len; show _ ≤ _; omega
    obtain ⟨p3, n3, k3, rfl, hP3, HN3⟩ := hT3.table (std_bd HfA.out.1)
    have HP3 : Hid (Table w3 p3 A) := hP3
    clear hT3 hb3 hP3 hc
    go_wp2_with fail
    refine (Evacuate_at p3 n3 k3 A w3 HP3.out HN3.out HlA.out).mono ?_
    rintro e w4 ⟨v4, rfl, hT4, hb4⟩
    have HB4 : Hid (Below w.heap.size w w4) := HB3.out.trans (hb4.mono HB3.out.size)
    rw [HfA.out.1, if_pos rfl, HfA.out.2] at hT4
    rw [HfA.out.1]
    obtain ⟨p4, n4, k4, rfl, hP4, HN4⟩ := hT4.table (std_bd HC.out)
    have HP4 : Hid (Table w4 p4 ls) := hP4
    have HP3w4 : Hid (Table w4 p3 A) := HP3.out.below hb4
    clear hT4 hb4 hP4
    go_wp2_with fail
    refine (Promote_at a ls.length cap ls w4 (HS.out.below HB4.out) rfl hl).mono ?_
    rintro e w5 ⟨v5, rfl, hT5, hb5⟩
    have HB5 : Hid (Below w.heap.size w w5) := HB4.out.trans (hb5.mono HB4.out.size)
    rw [HC.out, if_pos rfl, ← HCc.out] at hT5
    rw [HC.out]
    obtain ⟨p5, n5, k5, rfl, hP5, HN5⟩ := hT5.table (std_bd HfC.out.1)
    have HP5 : Hid (Table w5 p5 C) := hP5
    have HP3w5 : Hid (Table w5 p3 A) := HP3w4.out.below hb5
    have HP4w5 : Hid (Table w5 p4 ls) := HP4.out.below hb5
    clear hT5 hb5 hP5
    go_wp2_with fail
    refine (Demote_at p5 n5 k5 C w5 HP5.out HN5.out HlC.out).mono ?_
    rintro e w6 ⟨v6, rfl, hT6, hb6⟩
    have HB6 : Hid (Below w.heap.size w w6) := HB5.out.trans (hb6.mono HB5.out.size)
    rw [HfC.out.1, if_pos rfl, HfC.out.2] at hT6
    rw [HfC.out.1]
    obtain ⟨p6, n6, k6, rfl, hP6, HN6⟩ := hT6.table (std_bd HC.out)
    have HP6 : Hid (Table w6 p6 ls) := hP6
    have HP3w6 : Hid (Table w6 p3 A) := HP3w5.out.below hb6
    have HP4w6 : Hid (Table w6 p4 ls) := HP4w5.out.below hb6
    have HP5w6 : Hid (Table w6 p5 C) := HP5.out.below hb6
    clear hT6 hb6 hP6
    go_wp2_with fail
    refine (Demote_at a ls.length cap ls w6 (HS.out.below HB6.out) rfl hl).mono ?_
    rintro e w7 ⟨v7, rfl, hT7, hb7⟩
    have HB7 : Hid (Below w.heap.size w w7) := HB6.out.trans (hb7.mono HB6.out.size)
    rw [HC.out, if_pos rfl, ← HX.out] at hT7
    rw [HC.out]
    obtain ⟨p7, n7, k7, rfl, hP7, HN7⟩ := hT7.table (std_bd HfX.out.1)
    have HP7 : Hid (Table w7 p7 X) := hP7
    have HP3w7 : Hid (Table w7 p3 A) := HP3w6.out.below hb7
    have HP4w7 : Hid (Table w7 p4 ls) := HP4w6.out.below hb7
    have HP5w7 : Hid (Table w7 p5 C) := HP5w6.out.below hb7
    have HP6w7 : Hid (Table w7 p6 ls) := HP6.out.below hb7
    clear hT7 hb7 hP7
    go_wp2_with fail
    refine (Promote_at p7 n7 k7 X w7 HP7.out HN7.out HlX.out).mono ?_
    rintro e w8 ⟨v8, rfl, hT8, hb8⟩
    have HB8 : Hid (Below w.heap.size w w8) := HB7.out.trans (hb8.mono HB7.out.size)
    rw [HfX.out.1, if_pos rfl, HfX.out.2] at hT8
    rw [HfX.out.1]
    obtain ⟨p8, n8, k8, rfl, hP8, HN8⟩ := hT8.table (std_bd HC.out)
    have HP8 : Hid (Table w8 p8 ls) := hP8
    have HP3w8 : Hid (Table w8 p3 A) := HP3w7.out.below hb8
    have HP4w8 : Hid (Table w8 p4 ls) := HP4w7.out.below hb8
    have HP5w8 : Hid (Table w8 p5 C) := HP5w7.out.below hb8
    have HP6w8 : Hid (Table w8 p6 ls) := HP6w7.out.below hb8
    have HP7w8 : Hid (Table w8 p7 X) := HP7.out.below hb8
    clear hT8 hb8 hP8
    go_wp2_with fail
    refine (RowsL_i _ _ _ _ _ _ ls w8 HP4w8.out (HS.out.below HB8.out) HN4.out rfl hl).mono ?_
    rintro e w9 ⟨rfl, d9, hw9⟩
    have hb9 : Below w8.heap.size w8 w9 := by rw [hw9]; exact below_drewN (Below.refl _ _) d9
    have HB9 : Hid (Below w.heap.size w w9) := HB8.out.trans (hb9.mono HB8.out.size)
    have HP6w9 : Hid (Table w9 p6 ls) := HP6w8.out.below hb9
    have HP8w9 : Hid (Table w9 p8 ls) := HP8.out.below hb9
    clear hw9 hb9
    go_wp2_with fail
    refine (RowsL_i _ _ _ _ _ _ ls w9 HP6w9.out (HS.out.below HB9.out) HN6.out rfl hl).mono ?_
    rintro e w10 ⟨rfl, d10, hw10⟩
    have hb10 : Below w9.heap.size w9 w10 := by rw [hw10]; exact below_drewN (Below.refl _ _) d10
    have HB10 : Hid (Below w.heap.size w w10) := HB9.out.trans (hb10.mono HB9.out.size)
    have HP8w10 : Hid (Table w10 p8 ls) := HP8w9.out.below hb10
    clear hw10 hb10
    go_wp2_with fail
    refine (RowsL_i _ _ _ _ _ _ ls w10 HP8w10.out (HS.out.below HB10.out) HN8.out rfl hl).mono ?_
    rintro e w11 ⟨rfl, d11, hw11⟩
    have hb11 : Below w10.heap.size w10 w11 := by rw [hw11]; exact below_drewN (Below.refl _ _) d11
    have HB11 : Hid (Below w.heap.size w w11) := HB10.out.trans (hb11.mono HB10.out.size)
    clear hw11 hb11
    clear HN3 HN4 HN5 HN6 HN7 HN8
    by_cases h0 : ls.length = 0
    · have he : ((ls.length : Int) == 0) = true := by simp [h0]
      clear h0
      go_wp2_with fail
      go_quiet (fail)
      go_wp2
      go_ret
      exact ⟨rfl, below_drewN HB11.out _⟩
    · have he : ((ls.length : Int) == 0) = false := beq_false_of_ne (by omega)
      have hpos : (0 : Int) < (ls.length : Int) := by omega
      obtain ⟨Lr, HLr⟩ : ∃ Lr, Hid (ls.length = Lr + 1) := ⟨ls.length - 1, by show _ = _; omega⟩
      have hLl : Lr < ls.length := by have := HLr.out; omega
      have hLl' : (Lr : Int) < (ls.length : Int) := by omega
      have hsub : IntKind.i64.wrap ((ls.length : Int) - 1) = (Lr : Int) := by have := HLr.out; rw [IntWalk.i64_left, IntWalk.wrap64_in _ (by omega)]; omega
      have HS11 : Hid (Table w11 a ls) := HS.out.below HB11.out
      obtain ⟨b, off, ai, m0, ci, hA1, hc0, HM0, -, -, -⟩ := HS11.out.elem (k := 0) (by omega)
      obtain ⟨b', off', ai', mL, ci', hA2, hcL, HML, -, -, -⟩ := HS11.out.elem hLl
      rw [hA1] at hA2
      simp only [Option.some.injEq, Addr.mk.injEq, and_true] at hA2
      obtain ⟨rfl, rfl⟩ := hA2
      subst hA1
      simp only [Nat.add_zero] at hc0
      have hm0 : m0 ≤ 1000 := by rw [HM0.out]; exact (HFew.out.one _ (row_mem (by omega))).2
      clear h0
      by_cases hm : mL = m0
      · have hne : ((mL : Int) != (m0 : Int)) = false := by simp [hm]
        obtain ⟨N, HN⟩ : ∃ N, Hid (N = ls.flatten.length) := ⟨_, rfl⟩
        have hrl := rect_len HStd.out.tab (by omega) (by rw [show ls.length - 1 = Lr by have := HLr.out; omega, ← HML.out, ← HM0.out, hm])
        have HRect : Hid (Rect ls (row ls 0).length) := hrl.1
        have hN40 : N ≤ 40 := by rw [HN.out]; exact (scode_ok.1 HC.out).2
        have hmul : IntKind.i64.wrap ((ls.length : Int) * (m0 : Int)) = (N : Int) := by
          have e : (ls.length : Int) * (m0 : Int) = (N : Int) := by rw [HN.out, hrl.2, ← HM0.out]; simp
          rw [e, IntWalk.i64_left, IntWalk.wrap64_in _ (by omega)]
        have HStN : Hid (Std N ls) := by rw [HN.out]; exact HStd.out
        have HN0 : Hid (0 < N) := by
          rw [HN.out]
          have := row_le_flat (ls := ls) (a := 0) (by omega)
          have := (HFew.out.one _ (row_mem (ls := ls) (a := 0) (by omega))).1
          show 0 < _; omega
        have HRnd : Hid (prN N N ls = ls) := rect_round HStN.out HN0.out HRect.out
        have HPr : Hid (∀ k, scode (prN N k ls) = 0 ∧ proT (prN N k ls) = prN N (k + 1) ls ∧ (prN N k ls).length ≤ 17592186044416) := fun k => by
          have hk := prN_std HStN.out HN0.out k
          refine ⟨hk.code, ?_, by have := (few_std hk).len; omega⟩
          unfold proT
          rw [hk.flat, if_neg (by have := HN0.out; omega)]; rfl
        clear hm hrl
        go_wp2_with fail
        go_quiet (fail)
        go_wp2
        go_loopw [17, 131] (fun nv iv wr => ∃ (k rn : Nat) (ra : Option Addr) (rc : Nat), k ≤ N ∧ iv = .int .i64 k ∧ nv = .slice ra rn rc ∧ Hid (Table wr ra (prN N k ls)) ∧ Hid (rn = (prN N k ls).length) ∧ Hid (Below w.heap.size w wr)) (fun _ iv _ => N - (intOf iv).toNat)
        case atStart => exact ⟨0, _, _, _, Nat.zero_le _, rfl, rfl, HS11.out.drewN _, rfl, below_drewN HB11.out _⟩
        case round =>
          obtain ⟨k, rn, ra, rc, hk, rfl, rfl, HTk, HNk, HBk⟩ := hrel
          by_cases hkN : k < N
          · have hkN' : (k : Int) < (N : Int) := by omega
            go_wp2_with fail
            refine (Promote_at ra rn rc (prN N k ls) wr HTk.out HNk.out (HPr.out k).2.2).mono ?_
            rintro e w12 ⟨v12, rfl, hT12, hb12⟩
            have HB12 : Hid (Below w.heap.size w w12) := HBk.out.trans (hb12.mono HBk.out.size)
            rw [(HPr.out k).1, if_pos rfl, (HPr.out k).2.1] at hT12
            rw [(HPr.out k).1]
            obtain ⟨p12, n12, k12, rfl, hP12, HN12⟩ := hT12.table (std_bd (HPr.out (k + 1)).1)
            have HP12 : Hid (Table w12 p12 (prN N (k + 1) ls)) := hP12
            clear hT12 hb12 hP12
            go_wp2
            go_roundw
            case rel => exact ⟨k + 1, _, _, _, by omega, by go_num, rfl, HP12, HN12, HB12⟩
            case measure => simp [intOf]; omega
          · obtain rfl : k = N := by omega
            have hkN' : ¬ (k : Int) < (k : Int) := by omega
            have HTe : Hid (Table wr ra ls) := by have := HTk.out; rw [HRnd.out] at this; exact this
            have HNe : Hid (rn = ls.length) := by have := HNk.out; rw [HRnd.out] at this; exact this
            go_wp2_with fail
            refine (RowsL_i _ _ _ _ _ _ ls wr HTe.out (HS.out.below HBk.out) HNe.out rfl hl).mono ?_
            rintro e w13 ⟨rfl, d13, rfl⟩
            go_wp2
            go_ret
            exact ⟨rfl, below_drewN HBk.out d13⟩
      · have hne : ((mL : Int) != (m0 : Int)) = true := bne_iff_ne.2 (by omega)
        clear hm
        go_wp2_with fail
        go_quiet (fail)
        go_wp2
        go_ret
        exact ⟨rfl, below_drewN HB11.out _⟩
  · obtain ⟨c, HC⟩ : ∃ c, Hid (c = scode ls) := ⟨_, rfl⟩
    have hcb : (c != 0) = true := by rw [HC.out]; exact bne_iff_ne.2 hc
    rw [← HC.out]
    rw [if_neg hc] at hT3
    obtain ⟨a3, c3, rfl⟩ : ∃ a3 c3, v3 = .slice a3 0 c3 := by obtain ⟨vs, h⟩ := hT3; exact h.shape
    clear hT3 hb3 hc
    go_wp2
    go_ret
    exact ⟨rfl, HB3.out⟩

end Go.Proofs.Ytpbkidgdpejenae
