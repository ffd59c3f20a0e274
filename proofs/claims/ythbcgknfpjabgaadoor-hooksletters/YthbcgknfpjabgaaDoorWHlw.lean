/-
  The law HooksLetters.
-/
import Derived.Test.YthbcgknfpjabgaaDoorWFil
import Derived.Test.YthbcgknfpjabgaaDoorWTo
import Derived.BigGuard
namespace Go.Proofs.YthbcgknfpjabgaaDoor
open Go.RowKit

theorem Itoa_at (k : Nat) (hk : k ≤ 2000) (w : World) (htab : Lib.TabIs Tryd.prog w "internal/strconv.uint64pow10" .u64 Lib.pow10Tab) :
    Calls Tryd.prog 6 #[.int .i64 (k : Int)] w fun e w' => e = .returned (.string ⟨(numT k).toArray⟩) ∧ Below w.heap.size w w' := by
  refine (Go.Proofs.Tryd.strconv_Itoa (k : Int) (by omega) (by omega) w htab).mono ?_
  rintro e w' ⟨rfl, n, os, rfl⟩
  refine ⟨?_, ?_⟩
  · rw [numT_small (by omega)]
    unfold Lib.itoa
    rw [if_neg (by omega)]
    rfl
  · exact ⟨rfl, rfl, rfl, by first | (simp [Go.Sort.grow]; done) | (simp [Go.Sort.grow]; omega), fun i hi => by
      show ((w.drewN n).heap ++ os)[i]? = _
      rw [Array.getElem?_append_left (by show i < w.heap.size; omega)]
      rfl⟩
theorem fil21 : (tabsOf [2, 1] 2).length = 2 := by decide
theorem pt21 : IsPt [2, 1] := pt_of (by decide)

/-- The first call of the law. -/
theorem first_call (w : World) (htab : Lib.TabIs Tryd.prog w "internal/strconv.uint64pow10" .u64 Lib.pow10Tab) :
    Calls Tryd.prog 4 #[.slice (some ⟨w.heap.size, 0, none⟩) 2 2, .int .i64 2] (w.alloc (.cells #[.int .i64 2, .int .i64 1] 3)) fun e w' => e = .returned (.tuple #[.string ⟨#[50]⟩, .int .i64 0]) ∧ Below w.heap.size w w' := by
  have hb : Below w.heap.size w (w.alloc (.cells #[.int .i64 2, .int .i64 1] 3)) := (Below.refl _ _).alloc (Nat.le_refl _) _
  have hs : Shows (w.alloc (.cells #[.int .i64 2, .int .i64 1] 3)) (some ⟨w.heap.size, 0, none⟩) [2, 1] := shows_lit w [2, 1] _ rfl (by simp) (by simp)
  have h := HFil_ok (some ⟨w.heap.size, 0, none⟩) 2 2 2 [2, 1] _ hs rfl pt21 (by omega) (by omega) (Lib.tabBelow_of_tabIs htab _ hb)
  rw [fil21] at h
  refine h.mono ?_
  rintro e w' ⟨rfl, h2⟩
  refine ⟨?_, hb.trans (h2.mono hb.size)⟩
  rw [numT_small (by omega), Lib.decDigits_one (by omega)]
  rfl

set_option maxHeartbeats 4000000 in
set_option maxRecDepth 100000 in
/-- Where Fillings answers an error. -/
theorem hlet_err (a : Option Addr) (n cap : Nat) (most k : Int) (w : World) (hk : k ≠ 0)
    (H1 : Hid (Calls Tryd.prog 4 #[.slice (some ⟨w.heap.size, 0, none⟩) 2 2, .int .i64 2] (w.alloc (.cells #[.int .i64 2, .int .i64 1] 3)) fun e w' => e = .returned (.tuple #[.string ⟨#[50]⟩, .int .i64 0]) ∧ Hid (Below w.heap.size w w')))
    (H2 : Hid (∀ W, Below w.heap.size w W → Calls Tryd.prog 4 #[.slice a n cap, .int .i64 most] W fun e w' => e = .returned (.tuple #[.string ⟨#[]⟩, .int .i64 k]) ∧ Hid (Below W.heap.size W w'))) :
    Calls Tryd.prog 3 #[.slice a n cap, .int .i64 most] w fun e w' => e = .returned (.bool true) ∧ Below w.heap.size w w' := by
  have hk1 : (k == 0) = false := by simp [hk]
  have hk2 : (k != 0) = true := by simp [hk]
  go_enter Tryd.func3, Tryd.ntmps3
  go_wp2_with fail
  refine H1.out.mono ?_
  rintro e w1 ⟨rfl, HB1⟩
  have H2c := hid_w (H2.out w1 HB1.out)
  clear H1 H2
  go_wp2_with fail
  refine H2c.out.mono ?_
  rintro e w2 ⟨rfl, HB2⟩
  have HB3 : Hid (Below w.heap.size w w2) := HB1.out.trans (HB2.out.mono HB1.out.size)
  go_wp2
  go_ret
  exact ⟨rfl, HB3.out⟩

set_option maxHeartbeats 8000000 in
set_option maxRecDepth 100000 in
/-- Where Fillings answers a text. -/
theorem hlet_ok (a : Option Addr) (n cap M : Nat) (zs : List Int) (s t : ByteArray) (w : World) (HFin : Hid ((decide (M < n) == (s.toList == [48])) = true))
    (H1 : Hid (Calls Tryd.prog 4 #[.slice (some ⟨w.heap.size, 0, none⟩) 2 2, .int .i64 2] (w.alloc (.cells #[.int .i64 2, .int .i64 1] 3)) fun e w' => e = .returned (.tuple #[.string ⟨#[50]⟩, .int .i64 0]) ∧ Hid (Below w.heap.size w w')))
    (H2 : Hid (∀ W, Below w.heap.size w W → Calls Tryd.prog 4 #[.slice a n cap, .int .i64 (M : Int)] W fun e w' => e = .returned (.tuple #[.string s, .int .i64 0]) ∧ Hid (Below W.heap.size W w')))
    (H3 : Hid (∀ W, Below w.heap.size w W → Calls Tryd.prog 5 #[.slice a n cap, .int .i64 (M : Int)] W fun e w' => ∃ (al : Option Addr) (k cl : Nat) (r : Int), e = .returned (.tuple #[.slice al k cl, .int .i64 r]) ∧ AoR zs M r k ∧ Hid (Below W.heap.size W w')))
    (H4 : Hid (∀ W k, Below w.heap.size w W → AoR zs M 0 k → Calls Tryd.prog 6 #[.int .i64 (k : Int)] W fun e w' => e = .returned (.string s) ∧ Hid (Below W.heap.size W w')))
    (H5 : Hid (∀ W, Below w.heap.size w W → Calls Tryd.prog 7 #[.slice a n cap] W fun e w' => ∃ ac nc cc, e = .returned (.tuple #[.slice ac nc cc, .int .i64 0]) ∧ Hid (nc = pF zs 0) ∧ Hid (Shows w' ac (ptConj zs)) ∧ Hid (Below W.heap.size W w')))
    (H6 : Hid (∀ W, Below w.heap.size w W → Calls Tryd.prog 8 #[.slice a n cap] W fun e w' => e = .returned (.tuple #[.string t, .int .i64 0]) ∧ Hid (Below W.heap.size W w')))
    (H7 : Hid (∀ W ac nc cc, Below w.heap.size w W → Shows W ac (ptConj zs) → nc = pF zs 0 → Calls Tryd.prog 8 #[.slice ac nc cc] W fun e w' => e = .returned (.tuple #[.string t, .int .i64 0]) ∧ Hid (Below W.heap.size W w'))) :
    Calls Tryd.prog 3 #[.slice a n cap, .int .i64 (M : Int)] w fun e w' => e = .returned (.bool true) ∧ Below w.heap.size w w' := by
  go_enter Tryd.func3, Tryd.ntmps3
  go_wp2_with fail
  refine H1.out.mono ?_
  rintro e w1 ⟨rfl, HB1⟩
  have H2c := hid_w (H2.out w1 HB1.out)
  clear H1 H2
  go_wp2_with fail
  refine H2c.out.mono ?_
  rintro e w2 ⟨rfl, HB2⟩
  have HB3 : Hid (Below w.heap.size w w2) := HB1.out.trans (HB2.out.mono HB1.out.size)
  have H3c := hid_w (H3.out w2 HB3.out)
  clear H2c HB1 HB2 H3
  go_wp2_with fail
  refine H3c.out.mono ?_
  rintro e w3 ⟨al, k, cl, r, rfl, hAo, HB4⟩
  have HB5 : Hid (Below w.heap.size w w3) := HB3.out.trans (HB4.out.mono HB3.out.size)
  clear H3c HB3 HB4
  by_cases hr : r = 0
  · subst hr
    have H4c := hid_w (H4.out w3 k HB5.out hAo)
    clear H4
    go_wp2_with fail
    refine H4c.out.mono ?_
    rintro e w4 ⟨rfl, HB6⟩
    have HB7 : Hid (Below w.heap.size w w4) := HB5.out.trans (HB6.out.mono HB5.out.size)
    have H5c := hid_w (H5.out w4 HB7.out)
    clear H4c HB5 HB6 H5
    go_wp2_with fail
    refine H5c.out.mono ?_
    rintro e w5 ⟨ac, nc, cc, rfl, HNc, HSc, HB8⟩
    have HB9 : Hid (Below w.heap.size w w5) := HB7.out.trans (HB8.out.mono HB7.out.size)
    have H6c := hid_w (H6.out w5 HB9.out)
    clear H5c HB7 HB8 H6
    go_wp2_with fail
    refine H6c.out.mono ?_
    rintro e w6 ⟨rfl, HB10⟩
    have HB11 : Hid (Below w.heap.size w w6) := HB9.out.trans (HB10.out.mono HB9.out.size)
    have H7c := hid_w (H7.out w6 ac nc cc HB11.out (HSc.out.below HB10.out) HNc.out)
    clear H6c HB9 HB10 H7 HSc HNc
    go_wp2_with fail
    refine H7c.out.mono ?_
    rintro e w7 ⟨rfl, HB12⟩
    have HB13 : Hid (Below w.heap.size w w7) := HB11.out.trans (HB12.out.mono HB11.out.size)
    clear H7c HB11 HB12
    go_wp2
    go_ret
    exact ⟨by rw [← HFin.out]; rfl, HB13.out⟩
  · have hr1 : (r == 0) = false := by simp [hr]
    have H5c := hid_w (H5.out w3 HB5.out)
    clear H4 H5
    go_wp2_with fail
    refine H5c.out.mono ?_
    rintro e w5 ⟨ac, nc, cc, rfl, HNc, HSc, HB8⟩
    have HB9 : Hid (Below w.heap.size w w5) := HB5.out.trans (HB8.out.mono HB5.out.size)
    have H6c := hid_w (H6.out w5 HB9.out)
    clear H5c HB5 HB8 H6
    go_wp2_with fail
    refine H6c.out.mono ?_
    rintro e w6 ⟨rfl, HB10⟩
    have HB11 : Hid (Below w.heap.size w w6) := HB9.out.trans (HB10.out.mono HB9.out.size)
    have H7c := hid_w (H7.out w6 ac nc cc HB11.out (HSc.out.below HB10.out) HNc.out)
    clear H6c HB9 HB10 H7 HSc HNc
    go_wp2_with fail
    refine H7c.out.mono ?_
    rintro e w7 ⟨rfl, HB12⟩
    have HB13 : Hid (Below w.heap.size w w7) := HB11.out.trans (HB12.out.mono HB11.out.size)
    clear H7c HB11 HB12
    go_wp2
    go_ret
    exact ⟨by rw [← HFin.out]; rfl, HB13.out⟩

theorem hlet_at (a : Option Addr) (n cap : Nat) (most : Int) (zs : List Int) (w : World) (hs : Shows w a zs) (hn : n = zs.length) (htab : Lib.TabIs Tryd.prog w "internal/strconv.uint64pow10" .u64 Lib.pow10Tab) :
    Calls Tryd.prog 3 #[.slice a n cap, .int .i64 most] w fun e w' => e = .returned (.bool true) ∧ Below w.heap.size w w' := by
  have H1 := hid_w (first_call w htab)
  have hT : ∀ W, Below w.heap.size w W → Lib.TabIs Tryd.prog W "internal/strconv.uint64pow10" .u64 Lib.pow10Tab := fun W hW => Lib.tabBelow_of_tabIs htab W hW
  by_cases hp0 : ptC zs = 0
  · have hp := pt_of hp0
    by_cases hm : most < 0 ∨ 99 < most
    · exact hlet_err a n cap most 1 w (by omega) H1 (fun W hW => HFil_arg a n cap most zs W (hs.below hW) hn hp hm)
    · obtain ⟨M, rfl⟩ : ∃ M : Nat, most = (M : Int) := ⟨most.toNat, by omega⟩
      have hM : M ≤ 99 := by omega
      have H3 : Hid (∀ W, Below w.heap.size w W → Calls Tryd.prog 5 #[.slice a n cap, .int .i64 (M : Int)] W fun e w' => ∃ (al : Option Addr) (k cl : Nat) (r : Int), e = .returned (.tuple #[.slice al k cl, .int .i64 r]) ∧ AoR zs M r k ∧ Hid (Below W.heap.size W w')) := fun W hW => AllOf_at a n cap M zs W (hs.below hW) hn hp hM
      have H5 : Hid (∀ W, Below w.heap.size w W → Calls Tryd.prog 7 #[.slice a n cap] W fun e w' => ∃ ac nc cc, e = .returned (.tuple #[.slice ac nc cc, .int .i64 0]) ∧ Hid (nc = pF zs 0) ∧ Hid (Shows w' ac (ptConj zs)) ∧ Hid (Below W.heap.size W w')) := fun W hW => by
        refine (Conjugate_ok a n cap zs W (hs.below hW) hn hp).mono ?_
        rintro e w' ⟨v, rfl, ho, hb⟩
        obtain ⟨ac, cc, rfl, hh⟩ := ho.shows (by rw [conj_len]; have := pF_le hp 0; omega) (fun z hz => by have := (conj_pt hp).range z hz; omega)
        exact ⟨ac, _, cc, rfl, conj_len zs, hh, hb⟩
      have H6 : Hid (∀ W, Below w.heap.size w W → Calls Tryd.prog 8 #[.slice a n cap] W fun e w' => e = .returned (.tuple #[.string ⟨(numT (stdN zs)).toArray⟩, .int .i64 0]) ∧ Hid (Below W.heap.size W w')) := fun W hW => HStd_ok a n cap zs W (hs.below hW) hn hp (hT W hW)
      have H7 : Hid (∀ W ac nc cc, Below w.heap.size w W → Shows W ac (ptConj zs) → nc = pF zs 0 → Calls Tryd.prog 8 #[.slice ac nc cc] W fun e w' => e = .returned (.tuple #[.string ⟨(numT (stdN zs)).toArray⟩, .int .i64 0]) ∧ Hid (Below W.heap.size W w')) := fun W ac nc cc hW hS hnc => by
        have h := HStd_ok ac nc cc (ptConj zs) W hS (by rw [hnc, conj_len]) (conj_pt hp) (hT W hW)
        rw [stdN_conj hp] at h
        exact h
      by_cases hlt : M < n
      · refine hlet_ok a n cap M zs ⟨#[48]⟩ _ w (by show _ = _; rw [ByteArray.toList_eq]; simp [hlt]) H1 (fun W hW => HFil_zero a n cap M zs W (hs.below hW) hn hp hM hlt) H3 (fun W k hW hA => ?_) H5 H6 H7
        rcases hA with ⟨_, h2, h3⟩ | h
        · rw [tabs_none hp (by rw [← hn]; exact hlt)] at h2
          have hk : k = 0 := h2
          subst hk
          have h := Itoa_at 0 (by omega) W (hT W hW)
          rw [numT_small (by omega), dec_zero] at h
          exact h
        · exact absurd h (by decide)
      · have hle : n ≤ M := by omega
        have hpos := tabs_pos hp (M := M) (by rw [← hn]; exact hle) hM
        refine hlet_ok a n cap M zs ⟨(numT (tabsOf zs M).length).toArray⟩ _ w (by
          show _ = _
          rw [ByteArray.toList_eq, decide_eq_false hlt]
          have := numT_ne hpos
          simp [this]) H1 (fun W hW => HFil_ok a n cap M zs W (hs.below hW) hn hp hM hle (hT W hW)) H3 (fun W k hW hA => ?_) H5 H6 H7
        rcases hA with ⟨_, h2, h3⟩ | h
        · rw [← h2]; exact Itoa_at k h3 W (hT W hW)
        · exact absurd h (by decide)
  · exact hlet_err a n cap most (ptC zs) w hp0 H1 (fun W hW => by
      refine (HFil_no a n cap most zs W (hs.below hW) hn hp0).mono ?_
      rintro e w' ⟨rfl, rfl⟩
      exact ⟨rfl, Below.refl _ _⟩)

end Go.Proofs.YthbcgknfpjabgaaDoor
