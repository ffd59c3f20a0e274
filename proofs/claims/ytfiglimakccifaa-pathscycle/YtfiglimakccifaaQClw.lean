/-
  The law PathsCycle: its walk.
-/
import Derived.Test.YtfiglimakccifaaQCal
import Derived.Laws.Strings
namespace Go.Proofs.Ytfiglimakccifaa
open Go.RowKit

theorem s0_ok : tuC ⟨#[40, 40, 41]⟩ = 0 ∧ tuL ⟨#[40, 40, 41]⟩ = [0] := by decide +kernel

set_option maxHeartbeats 16000000 in
set_option maxRecDepth 100000 in
theorem pcycle_at (s : ByteArray) (n r : Int) (w : World) (hs : s.size ≤ 9223372036854775807) (hr1 : -9223372036854775808 ≤ r) (hr2 : r ≤ 9223372036854775807) :
    Calls Try.prog 3 #[.string s, .int .i64 n, .int .i64 r] w fun e w' => e = .returned (.bool true) ∧ Below w.heap.size w w' := by
  have HT0 : Hid (∀ W, Calls Try.prog 4 #[.string ⟨#[40, 40, 41]⟩] W fun e w' => ∃ a cp, e = .returned (.tuple #[.slice a 1 cp, .int .i64 0]) ∧ Hid (Shows w' a [0]) ∧ Hid (Below W.heap.size W w')) := fun W => by
    refine (Turns_all ⟨#[40, 40, 41]⟩ W).mono ?_
    rintro e w' ⟨v, rfl, h1, h2⟩
    rw [s0_ok.2] at h1
    obtain ⟨a, cp, rfl, hS⟩ := h1.out.shows (by simp) (fun z hz => by rw [List.mem_singleton.1 hz]; omega)
    exact ⟨a, cp, by rw [s0_ok.1]; rfl, hS, h2⟩
  obtain ⟨c1, HC1⟩ : ∃ c1, Hid (c1 = tuC s) := ⟨_, rfl⟩
  obtain ⟨m1, HM1⟩ : ∃ m1, Hid (m1 = (tuL s).length) := ⟨_, rfl⟩
  have HT1 : Hid (∀ W, Calls Try.prog 4 #[.string s] W fun e w' => ∃ a cp, e = .returned (.tuple #[.slice a m1 cp, .int .i64 c1]) ∧ Hid (Below W.heap.size W w')) := fun W => by
    refine (Turns_all s W).mono ?_
    rintro e w' ⟨v, rfl, h1, h2⟩
    obtain ⟨a, cp, rfl⟩ := h1.out.shape
    exact ⟨a, cp, by rw [HC1.out, HM1.out], h2⟩
  obtain ⟨x4, HX4⟩ : ∃ x4, Hid (x4 = s.data.toList.count 40) := ⟨_, rfl⟩
  obtain ⟨x5, HX5⟩ : ∃ x5, Hid (x5 = s.data.toList.count 41) := ⟨_, rfl⟩
  have HK4 : Hid (∀ W, Calls Try.prog 6 #[.string s, .string ⟨#[40]⟩] W fun e w' => e = .returned (.int .i64 (x4 : Int)) ∧ w' = W) := fun W => by rw [HX4.out]; exact Count_at s 40 W
  have HK5 : Hid (∀ W, Calls Try.prog 6 #[.string s, .string ⟨#[41]⟩] W fun e w' => e = .returned (.int .i64 (x5 : Int)) ∧ w' = W) := fun W => by rw [HX5.out]; exact Count_at s 41 W
  have h4b : x4 ≤ s.size := by rw [HX4.out]; exact Nat.le_trans List.count_le_length (by simp)
  have h5b : x5 ≤ s.size := by rw [HX5.out]; exact Nat.le_trans List.count_le_length (by simp)
  have HMx : Hid (c1 = 0 → (m1 : Int) = max 0 ((x4 : Int) - (x5 : Int))) := fun h => by
    rw [HM1.out, HX4.out, HX5.out, ← smB_count, ← tnL_len]
    unfold tuL
    rw [if_pos (by rw [← HC1.out]; exact h)]
    unfold plN tnL
    rw [List.length_map, show s.data.toList.length = s.size by simp]
  have HM0 : Hid (c1 ≠ 0 → m1 = 0) := fun h => by
    rw [HM1.out]
    unfold tuL
    rw [if_neg (by rw [← HC1.out]; exact h)]; rfl
  obtain ⟨c2, HC2⟩ : ∃ c2, Hid (c2 = raC s) := ⟨_, rfl⟩
  obtain ⟨v2, HV2⟩ : ∃ v2, Hid (v2 = raV s) := ⟨_, rfl⟩
  have HR1 : Hid (∀ W, Calls Try.prog 7 #[.string s] W fun e w' => e = .returned (.tuple #[.int .i64 v2, .int .i64 c2]) ∧ Hid (Below W.heap.size W w')) := fun W => by
    rw [HC2.out, HV2.out]; exact Rank_all s W
  have HU1 : Hid (c2 = 0 → ∀ W, Calls Try.prog 8 #[.int .i64 ((s.size / 2 : Nat) : Int), .int .i64 v2] W fun e w' => e = .returned (.tuple #[.string s, .int .i64 0]) ∧ Hid (Below W.heap.size W w')) := fun h W => by
    have h1 := un_ra (s := s) (by rw [← HC2.out]; exact h)
    have h2 := Unrank_all ((s.size / 2 : Nat) : Int) v2 W
    rw [HV2.out, h1.1, h1.2] at h2
    rw [HV2.out]; exact h2
  obtain ⟨c3, HC3⟩ : ∃ c3, Hid (c3 = unC n r) := ⟨_, rfl⟩
  obtain ⟨T, HTt⟩ : ∃ T, Hid (T = unS n r) := ⟨_, rfl⟩
  have HU2 : Hid (∀ W, Calls Try.prog 8 #[.int .i64 n, .int .i64 r] W fun e w' => e = .returned (.tuple #[.string T, .int .i64 c3]) ∧ Hid (Below W.heap.size W w')) := fun W => by
    rw [HC3.out, HTt.out]; exact Unrank_all n r W
  have HTn : Hid (c3 ≠ 0 → T = ⟨#[]⟩) := fun h => by
    rw [HC3.out] at h
    rw [HTt.out]
    unfold unC at h
    unfold unS
    cases hb : unB n r with
    | true => rw [hb] at h; exact absurd rfl h
    | false => simp
  have HR2 : Hid (c3 = 0 → ∀ W, Calls Try.prog 7 #[.string T] W fun e w' => e = .returned (.tuple #[.int .i64 r, .int .i64 0]) ∧ Hid (Below W.heap.size W w')) := fun h W => by
    have h1 := ra_un (n := n) (k := r) (by rw [← HC3.out]; exact h)
    have h2 := Rank_all T W
    rw [HTt.out, h1.1, h1.2] at h2
    rw [HTt.out]; exact h2
  have HRb : Hid (c3 = 0 → 0 ≤ r ∧ r ≤ 1152921504606846976) := fun h => un_bd (n := n) (by rw [← HC3.out]; exact h)
  obtain ⟨c4, HC4⟩ : ∃ c4, Hid (c4 = unC n (r + 1)) := ⟨_, rfl⟩
  obtain ⟨U, HUu⟩ : ∃ U, Hid (U = unS n (r + 1)) := ⟨_, rfl⟩
  have HU3 : Hid (∀ W, Calls Try.prog 8 #[.int .i64 n, .int .i64 (r + 1)] W fun e w' => e = .returned (.tuple #[.string U, .int .i64 c4]) ∧ Hid (Below W.heap.size W w')) := fun W => by
    rw [HC4.out, HUu.out]; exact Unrank_all n (r + 1) W
  have HLs : Hid (c3 = 0 → c4 = 0 → Op.bytesLess T.toList U.toList = true) := fun h3 h4 => by
    have h := un_less (n := n) (k := r) (by rw [← HC3.out]; exact h3) (by rw [← HC4.out]; exact h4)
    rw [lsB_is, HTt.out, HUu.out, ByteArray.toList_eq, ByteArray.toList_eq]
    exact h
  go_enter Try.func3, Try.ntmps3
  go_wp2_with fail
  refine (HT0.out _).mono ?_
  rintro e w1 ⟨a0, cp0, rfl, HS0, HB1⟩
  have HB1a : Hid (Below w.heap.size w (w1.alloc (.cells #[.int .i64 0] 3))) := HB1.out.alloc HB1.out.size _
  have HS1 : Hid (Shows (w1.alloc (.cells #[.int .i64 0] 3)) a0 [0]) := HS0.out.below ((Below.refl _ _).alloc (Nat.le_refl _) _)
  have HS2 : Hid (Shows (w1.alloc (.cells #[.int .i64 0] 3)) (some ⟨w1.heap.size, 0, none⟩) [0]) := by
    refine ⟨by simp, fun z hz => by rw [List.mem_singleton.1 hz]; omega, fun _ => ⟨w1.heap.size, 0, rfl, by simp, fun j hj => ?_⟩⟩
    obtain rfl : j = 0 := by simpa using hj
    rw [World.cell?_alloc_at _ _ _ _ (by simp)]; rfl
  go_wp2_with fail
  refine (Same_at a0 (some ⟨w1.heap.size, 0, none⟩) 1 1 cp0 1 [0] [0] _ HS1.out HS2.out rfl rfl true (by simp)).mono ?_
  rintro e w2 ⟨rfl, q2, hw2⟩
  have HB2 : Hid (Below w.heap.size w w2) := by rw [hw2]; exact below_drewN HB1a.out q2
  clear hw2 HS0 HS1 HS2 HB1 HB1a HT0
  go_wp2_with fail
  refine (HT1.out _).mono ?_
  rintro e w3 ⟨a1, cp1, rfl, HB3⟩
  have HB4 : Hid (Below w.heap.size w w3) := HB2.out.trans (HB3.out.mono HB2.out.size)
  clear HB2 HB3 HT1
  by_cases h1 : c1 = 0
  · have HMe := hid_w (HMx.out h1)
    have HMa : Hid ((x4 ≤ x5 → m1 = 0) ∧ (x5 ≤ x4 → m1 + x5 = x4)) := by
      have h := HMe.out
      refine ⟨fun q => ?_, fun q => ?_⟩
      · rw [Int.max_eq_left (by omega)] at h; omega
      · rw [Int.max_eq_right (by omega)] at h; omega
    subst h1
    clear HM0 HMx HMe
    go_upto_region 7 with fail
    go_cut [50] (fun s50 wx => s50 = .bool false ∧ Hid (wx = w3))
    case first =>
      go_wp2_with fail
      refine (HK4.out _).mono ?_
      rintro e w4 ⟨rfl, hw4⟩
      obtain rfl : w3 = w4 := hw4.symm
      clear hw4
      go_wp2_with fail
      refine (HK5.out _).mono ?_
      rintro e w4 ⟨rfl, hw4⟩
      obtain rfl : w3 = w4 := hw4.symm
      clear hw4
      rcases Nat.lt_or_ge x5 x4 with h45 | h45
      · obtain rfl : x4 = m1 + x5 := (HMa.out.2 (by omega)).symm
        have hm0 : 0 < m1 := by omega
        go_wp2_with fail
        all_goals (
          go_meet
          exact ⟨rfl, rfl⟩)
      · obtain rfl : m1 = 0 := HMa.out.1 h45
        go_wp2_with fail
        all_goals (
          go_meet
          exact ⟨rfl, rfl⟩)
    obtain ⟨rfl, HW⟩ := hcut
    obtain rfl : w3 = wc := HW.out.symm
    clear HW
    go_wp2_with fail
    refine (HR1.out _).mono ?_
    rintro e w5 ⟨rfl, HB5⟩
    have HB6 : Hid (Below w.heap.size w w5) := HB4.out.trans (HB5.out.mono HB4.out.size)
    clear HB4 HB5 HK4 HK5 HMa HR1
    go_upto_if 57 with fail
    go_cut [0] (fun s0 wx => s0 = .string s ∧ Hid (Below w.heap.size w wx))
    case first =>
      by_cases h2 : c2 = 0
      · have HU1a := hid_w (HU1.out h2)
        subst h2
        have hq : Int.tdiv (s.size : Int) 2 = ((s.size / 2 : Nat) : Int) := rfl
        have hss : (s.toList == s.toList) = true := by simp
        go_wp2_with fail
        refine (HU1a.out _).mono ?_
        rintro e w6 ⟨rfl, HB7⟩
        have HB8 : Hid (Below w.heap.size w w6) := HB6.out.trans (HB7.out.mono HB6.out.size)
        go_wp2_with fail
        go_meet
        exact ⟨rfl, HB8⟩
      · have h2b : (c2 == 0) = false := by simp [h2]
        clear h2
        go_wp2_with fail
        go_meet
        exact ⟨rfl, HB6⟩
    obtain ⟨rfl, HB7⟩ := hcut
    go_wp2_with fail
    refine (HU2.out _).mono ?_
    rintro e w6 ⟨rfl, HB8⟩
    have HB9 : Hid (Below w.heap.size w w6) := HB7.out.trans (HB8.out.mono HB7.out.size)
    clear HB6 HB7 HB8 HU1 HU2
    by_cases h3 : c3 = 0
    · have HR2a := hid_w (HR2.out h3)
      have hrb := HRb.out h3
      subst h3
      have hrr : (r == r) = true := by simp
      go_wp2_with fail
      refine (HR2a.out _).mono ?_
      rintro e w7 ⟨rfl, HB10⟩
      have HB11 : Hid (Below w.heap.size w w7) := HB9.out.trans (HB10.out.mono HB9.out.size)
      clear HB9 HB10 HR2a
      go_wp2_with fail
      refine (HU3.out _).mono ?_
      rintro e w8 ⟨rfl, HB12⟩
      have HB13 : Hid (Below w.heap.size w w8) := HB11.out.trans (HB12.out.mono HB11.out.size)
      clear HB11 HB12 HU3
      by_cases h4 : c4 = 0
      · have hls := HLs.out trivial h4
        subst h4
        go_wp2
        go_ret
        exact ⟨rfl, HB13.out⟩
      · have h4b : (c4 != 0) = true := by simp [h4]
        clear h4
        go_wp2
        go_ret
        exact ⟨rfl, HB13.out⟩
    · have h3b : (c3 != 0) = true := by simp [h3]
      have hT := HTn.out h3
      subst hT
      clear h3
      go_wp2
      go_ret
      exact ⟨rfl, HB9.out⟩
  · have h1b : (c1 != 0) = true := by simp [h1]
    have hm0 : m1 = 0 := HM0.out h1
    subst hm0
    clear h1 HMx
    go_wp2
    go_ret
    exact ⟨rfl, HB4.out⟩

end Go.Proofs.Ytfiglimakccifaa
