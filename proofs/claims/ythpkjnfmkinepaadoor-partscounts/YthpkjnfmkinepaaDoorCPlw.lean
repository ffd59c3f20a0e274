/-
  The walk of ferlaw.PartsCounts.
-/
import Derived.Test.YthpkjnfmkinepaaDoorCApt
import Derived.Test.YthpkjnfmkinepaaDoorCLst
import Derived.Test.YthpkjnfmkinepaaDoorCErr
import Derived.Test.YthpkjnfmkinepaaDoorCRow
import Derived.Test.YthpkjnfmkinepaaDoorCTab
import Derived.Test.YthpkjnfmkinepaaDoorCFmt
namespace Go.Proofs.YthpkjnfmkinepaaDoor
open Go.RowKit Go.Shelf

/-- What All answers, held against AllParts. -/
theorem pall_ok (n : Nat) (h : n ≤ 20) (w0 : World) :
    ∀ w, Below w0.heap.size w0 w → Calls Tryd.prog 5 #[.int .i64 n] w fun e w' => Hid (∃ a ca, e = .returned (.tuple #[.slice a (genA n).length ca, .int .i64 0]) ∧ Hid (Table w' a (genA n)) ∧ Hid (Below w0.heap.size w0 w')) := fun w hb => by
  refine (All_ok n h w).mono ?_
  rintro e w' ⟨v, rfl, h1, h2⟩
  obtain ⟨a, na, ca, rfl, ht, hl⟩ := h1.table (fun l hl => by have := genA_row h l hl; exact ⟨by have := this.1; omega, fun z hz => by have := this.2 z hz; omega⟩)
  exact ⟨a, ca, by rw [hl.out], ht, hb.trans (h2.mono hb.size)⟩
theorem papt_ok {ρ : Go.Shelf.Ren} (L : SlLaysF.n6 Tryd.prog ρ) (hρ : ρ.f 6 = 18) (n : Nat) (h : n ≤ 20) (w0 : World) :
    ∀ w (a : Option Addr), Below w0.heap.size w0 w → Table w a (genA n) → Calls Tryd.prog 8 #[.int .i64 n] w fun e w' => Hid (∃ b cb, e = .returned (.slice b (genA n).length cb) ∧ Hid (Table w' a (genA n) ∧ Table w' b (genA n)) ∧ Hid (Below w0.heap.size w0 w')) := fun w a hb hta => by
  refine (AllParts_ok L hρ n h w).mono ?_
  rintro e w' ⟨v, rfl, h1, h2⟩
  obtain ⟨b, nb, cb, rfl, ht, hl⟩ := h1.table (fun l hl => by have := genA_row h l hl; exact ⟨by have := this.1; omega, fun z hz => by have := this.2 z hz; omega⟩)
  exact ⟨b, cb, by rw [hl.out], ⟨hta.below h2, ht⟩, hb.trans (h2.mono hb.size)⟩
theorem genA_short {n : Nat} (h : n ≤ 20) : (genA n).length ≤ 17592186044416 := by
  have := genA_len h; omega

set_option maxHeartbeats 4000000 in
set_option maxRecDepth 100000 in
theorem pcounts_kk {ρ : Go.Shelf.Ren} (L : SlLaysF.n6 Tryd.prog ρ) (hρ : ρ.f 6 = 18) (n : Nat) (hn : n ≤ 400) (m : Nat) (hm : m ≤ 20) (w : World) (htab : Lib.TabIs Tryd.prog w "internal/strconv.uint64pow10" .u64 Lib.pow10Tab) :
    Calls Tryd.prog 3 #[.int .i64 (n : Int), .int .i64 (m : Int)] w fun e w' => e = .returned (.bool true) ∧ Below w.heap.size w w' := by
  obtain ⟨s, HSD⟩ : ∃ s : ByteArray, Hid (s = ⟨(Lib.decDigits (dp n n)).toArray⟩) := ⟨_, rfl⟩
  have HF : Hid (Calls Tryd.prog 4 #[.int .i64 (n : Int)] w fun e w' => e = .returned (.tuple #[.string s, .int .i64 0]) ∧ Below w.heap.size w w') := by
    rw [HSD.out]
    exact Count_ok n w hn (fun x W hx hb => FormatUint_at x (by omega) W (Lib.tabBelow_of_tabIs htab W hb))
  have HP : Hid (∀ W, Below w.heap.size w W → Calls Tryd.prog 6 #[.int .i64 (n : Int)] W fun e w' => e = .returned (.string s) ∧ Hid (Below W.heap.size W w') ∧ Hid (Below w.heap.size w w')) := fun W hb => by
    refine (Partitions_ok n W hn).mono ?_
    rintro e w' ⟨rfl, h2⟩
    exact ⟨by rw [HSD.out], h2, hb.trans (h2.mono hb.size)⟩
  have g1 : ¬ ((n : Int) < 0) := by omega
  have g2 : ¬ ((n : Int) > 400) := by omega
  have g2' : ¬ (400 < (n : Int)) := by omega
  have HA : Hid (∀ W, Below w.heap.size w W → Calls Tryd.prog 5 #[.int .i64 (m : Int)] W fun e w' => Hid (∃ a ca, e = .returned (.tuple #[.slice a (genA m).length ca, .int .i64 0]) ∧ Hid (Table w' a (genA m)) ∧ Hid (Below w.heap.size w w'))) := pall_ok m hm w
  have HQ : Hid (∀ W (a : Option Addr), Below w.heap.size w W → Table W a (genA m) → Calls Tryd.prog 8 #[.int .i64 (m : Int)] W fun e w' => Hid (∃ b cb, e = .returned (.slice b (genA m).length cb) ∧ Hid (Table w' a (genA m) ∧ Table w' b (genA m)) ∧ Hid (Below w.heap.size w w'))) := papt_ok L hρ m hm w
  have HL : Hid ((genA m).length ≤ 17592186044416) := genA_short hm
  have k1 : ¬ ((m : Int) < 0) := by omega
  have k2 : ¬ ((m : Int) > 20) := by omega
  have k2' : ¬ (20 < (m : Int)) := by omega
  clear L hρ
  clear htab
  go_enter Tryd.func3, Tryd.ntmps3
  go_wp2_with fail
  refine HF.out.mono ?_
  rintro e w1 ⟨rfl, hb1⟩
  have HB1 : Hid (Below w.heap.size w w1) := hb1
  clear hb1
  go_wp2_with fail
  refine (HA.out w1 HB1.out).mono ?_
  intro e w2 h2
  obtain ⟨a, ca, rfl, HTa, HB2⟩ := h2.out
  clear h2
  go_wp2_with fail
  refine (HP.out w2 HB2.out).mono ?_
  rintro e w3 ⟨rfl, HB23, HB3⟩
  have HTaa : Hid (Table w3 a (genA m)) := HTa.out.below HB23.out
  go_wp2_with fail
  refine (HQ.out _ a HB3.out HTaa.out).mono ?_
  intro e w4 h4
  obtain ⟨b, cb, rfl, HT4, HB4⟩ := h4.out
  clear h4
  go_wp2_with fail
  refine (RowsL_r a b ca cb (genA m).length (genA m).length (genA m) w4 HT4.out.1 HT4.out.2 rfl rfl HL.out).mono ?_
  rintro e w5 ⟨rfl, q, rfl⟩
  go_wp2
  go_ret
  exact ⟨rfl, below_drewN HB4.out q⟩

set_option maxHeartbeats 4000000 in
set_option maxRecDepth 100000 in
theorem pcounts_kl (n : Nat) (hn : n ≤ 400) (m : Int) (hm : m < 0) (w : World) (htab : Lib.TabIs Tryd.prog w "internal/strconv.uint64pow10" .u64 Lib.pow10Tab) :
    Calls Tryd.prog 3 #[.int .i64 (n : Int), .int .i64 m] w fun e w' => e = .returned (.bool true) ∧ Below w.heap.size w w' := by
  obtain ⟨s, HSD⟩ : ∃ s : ByteArray, Hid (s = ⟨(Lib.decDigits (dp n n)).toArray⟩) := ⟨_, rfl⟩
  have HF : Hid (Calls Tryd.prog 4 #[.int .i64 (n : Int)] w fun e w' => e = .returned (.tuple #[.string s, .int .i64 0]) ∧ Below w.heap.size w w') := by
    rw [HSD.out]
    exact Count_ok n w hn (fun x W hx hb => FormatUint_at x (by omega) W (Lib.tabBelow_of_tabIs htab W hb))
  have HP : Hid (∀ W, Below w.heap.size w W → Calls Tryd.prog 6 #[.int .i64 (n : Int)] W fun e w' => e = .returned (.string s) ∧ Hid (Below W.heap.size W w') ∧ Hid (Below w.heap.size w w')) := fun W hb => by
    refine (Partitions_ok n W hn).mono ?_
    rintro e w' ⟨rfl, h2⟩
    exact ⟨by rw [HSD.out], h2, hb.trans (h2.mono hb.size)⟩
  have g1 : ¬ ((n : Int) < 0) := by omega
  have g2 : ¬ ((n : Int) > 400) := by omega
  have g2' : ¬ (400 < (n : Int)) := by omega
  have HA : Hid (∀ W, Calls Tryd.prog 5 #[.int .i64 m] W fun e w' => e = .returned (.tuple #[.slice none 0 0, .int .i64 1]) ∧ Below W.heap.size W w') := fun W => All_err m (.inl hm) W
  clear htab
  go_enter Tryd.func3, Tryd.ntmps3
  go_wp2_with fail
  refine HF.out.mono ?_
  rintro e w1 ⟨rfl, hb1⟩
  have HB1 : Hid (Below w.heap.size w w1) := hb1
  clear hb1
  go_wp2_with fail
  refine (HA.out w1).mono ?_
  rintro e w2 ⟨rfl, hb2⟩
  have HB2 : Hid (Below w.heap.size w w2) := HB1.out.trans (hb2.mono HB1.out.size)
  clear hb2
  go_wp2_with fail
  refine (HP.out w2 HB2.out).mono ?_
  rintro e w3 ⟨rfl, HB23, HB3⟩
  go_wp2
  go_ret
  exact ⟨rfl, HB3.out⟩

set_option maxHeartbeats 4000000 in
set_option maxRecDepth 100000 in
theorem pcounts_kg (n : Nat) (hn : n ≤ 400) (m : Int) (hm : 20 < m) (w : World) (htab : Lib.TabIs Tryd.prog w "internal/strconv.uint64pow10" .u64 Lib.pow10Tab) :
    Calls Tryd.prog 3 #[.int .i64 (n : Int), .int .i64 m] w fun e w' => e = .returned (.bool true) ∧ Below w.heap.size w w' := by
  obtain ⟨s, HSD⟩ : ∃ s : ByteArray, Hid (s = ⟨(Lib.decDigits (dp n n)).toArray⟩) := ⟨_, rfl⟩
  have HF : Hid (Calls Tryd.prog 4 #[.int .i64 (n : Int)] w fun e w' => e = .returned (.tuple #[.string s, .int .i64 0]) ∧ Below w.heap.size w w') := by
    rw [HSD.out]
    exact Count_ok n w hn (fun x W hx hb => FormatUint_at x (by omega) W (Lib.tabBelow_of_tabIs htab W hb))
  have HP : Hid (∀ W, Below w.heap.size w W → Calls Tryd.prog 6 #[.int .i64 (n : Int)] W fun e w' => e = .returned (.string s) ∧ Hid (Below W.heap.size W w') ∧ Hid (Below w.heap.size w w')) := fun W hb => by
    refine (Partitions_ok n W hn).mono ?_
    rintro e w' ⟨rfl, h2⟩
    exact ⟨by rw [HSD.out], h2, hb.trans (h2.mono hb.size)⟩
  have g1 : ¬ ((n : Int) < 0) := by omega
  have g2 : ¬ ((n : Int) > 400) := by omega
  have g2' : ¬ (400 < (n : Int)) := by omega
  have HA : Hid (∀ W, Calls Tryd.prog 5 #[.int .i64 m] W fun e w' => e = .returned (.tuple #[.slice none 0 0, .int .i64 1]) ∧ Below W.heap.size W w') := fun W => All_err m (.inr hm) W
  have k1 : ¬ (m < 0) := by omega
  have k2 : m > 20 := hm
  clear htab
  go_enter Tryd.func3, Tryd.ntmps3
  go_wp2_with fail
  refine HF.out.mono ?_
  rintro e w1 ⟨rfl, hb1⟩
  have HB1 : Hid (Below w.heap.size w w1) := hb1
  clear hb1
  go_wp2_with fail
  refine (HA.out w1).mono ?_
  rintro e w2 ⟨rfl, hb2⟩
  have HB2 : Hid (Below w.heap.size w w2) := HB1.out.trans (hb2.mono HB1.out.size)
  clear hb2
  go_wp2_with fail
  refine (HP.out w2 HB2.out).mono ?_
  rintro e w3 ⟨rfl, HB23, HB3⟩
  go_wp2
  go_ret
  exact ⟨rfl, HB3.out⟩

set_option maxHeartbeats 4000000 in
set_option maxRecDepth 100000 in
theorem pcounts_lk {ρ : Go.Shelf.Ren} (L : SlLaysF.n6 Tryd.prog ρ) (hρ : ρ.f 6 = 18) (n : Int) (hn : n < 0) (m : Nat) (hm : m ≤ 20) (w : World) :
    Calls Tryd.prog 3 #[.int .i64 n, .int .i64 (m : Int)] w fun e w' => e = .returned (.bool true) ∧ Below w.heap.size w w' := by
  have HF : Hid (Calls Tryd.prog 4 #[.int .i64 n] w fun e w' => e = .returned (.tuple #[.string ⟨#[]⟩, .int .i64 1]) ∧ w' = w) := Count_err n (.inl hn) w
  have HA : Hid (∀ W, Below w.heap.size w W → Calls Tryd.prog 5 #[.int .i64 (m : Int)] W fun e w' => Hid (∃ a ca, e = .returned (.tuple #[.slice a (genA m).length ca, .int .i64 0]) ∧ Hid (Table w' a (genA m)) ∧ Hid (Below w.heap.size w w'))) := pall_ok m hm w
  have HQ : Hid (∀ W (a : Option Addr), Below w.heap.size w W → Table W a (genA m) → Calls Tryd.prog 8 #[.int .i64 (m : Int)] W fun e w' => Hid (∃ b cb, e = .returned (.slice b (genA m).length cb) ∧ Hid (Table w' a (genA m) ∧ Table w' b (genA m)) ∧ Hid (Below w.heap.size w w'))) := papt_ok L hρ m hm w
  have HL : Hid ((genA m).length ≤ 17592186044416) := genA_short hm
  have k1 : ¬ ((m : Int) < 0) := by omega
  have k2 : ¬ ((m : Int) > 20) := by omega
  have k2' : ¬ (20 < (m : Int)) := by omega
  clear L hρ
  go_enter Tryd.func3, Tryd.ntmps3
  go_wp2_with fail
  refine HF.out.mono ?_
  rintro e w1 ⟨rfl, hw1⟩
  have HB1 : Hid (Below w.heap.size w w1) := by rw [hw1]; exact Below.refl _ _
  clear hw1
  go_wp2_with fail
  refine (HA.out w1 HB1.out).mono ?_
  intro e w2 h2
  obtain ⟨a, ca, rfl, HTa, HB2⟩ := h2.out
  clear h2
  have HTaa : Hid (Table w2 a (genA m)) := HTa
  go_wp2_with fail
  refine (HQ.out _ a HB2.out HTaa.out).mono ?_
  intro e w4 h4
  obtain ⟨b, cb, rfl, HT4, HB4⟩ := h4.out
  clear h4
  go_wp2_with fail
  refine (RowsL_r a b ca cb (genA m).length (genA m).length (genA m) w4 HT4.out.1 HT4.out.2 rfl rfl HL.out).mono ?_
  rintro e w5 ⟨rfl, q, rfl⟩
  go_wp2
  go_ret
  exact ⟨rfl, below_drewN HB4.out q⟩

set_option maxHeartbeats 4000000 in
set_option maxRecDepth 100000 in
theorem pcounts_ll (n : Int) (hn : n < 0) (m : Int) (hm : m < 0) (w : World) :
    Calls Tryd.prog 3 #[.int .i64 n, .int .i64 m] w fun e w' => e = .returned (.bool true) ∧ Below w.heap.size w w' := by
  have HF : Hid (Calls Tryd.prog 4 #[.int .i64 n] w fun e w' => e = .returned (.tuple #[.string ⟨#[]⟩, .int .i64 1]) ∧ w' = w) := Count_err n (.inl hn) w
  have HA : Hid (∀ W, Calls Tryd.prog 5 #[.int .i64 m] W fun e w' => e = .returned (.tuple #[.slice none 0 0, .int .i64 1]) ∧ Below W.heap.size W w') := fun W => All_err m (.inl hm) W
  go_enter Tryd.func3, Tryd.ntmps3
  go_wp2_with fail
  refine HF.out.mono ?_
  rintro e w1 ⟨rfl, hw1⟩
  have HB1 : Hid (Below w.heap.size w w1) := by rw [hw1]; exact Below.refl _ _
  clear hw1
  go_wp2_with fail
  refine (HA.out w1).mono ?_
  rintro e w2 ⟨rfl, hb2⟩
  have HB2 : Hid (Below w.heap.size w w2) := HB1.out.trans (hb2.mono HB1.out.size)
  clear hb2
  go_wp2
  go_ret
  exact ⟨rfl, HB2.out⟩

set_option maxHeartbeats 4000000 in
set_option maxRecDepth 100000 in
theorem pcounts_lg (n : Int) (hn : n < 0) (m : Int) (hm : 20 < m) (w : World) :
    Calls Tryd.prog 3 #[.int .i64 n, .int .i64 m] w fun e w' => e = .returned (.bool true) ∧ Below w.heap.size w w' := by
  have HF : Hid (Calls Tryd.prog 4 #[.int .i64 n] w fun e w' => e = .returned (.tuple #[.string ⟨#[]⟩, .int .i64 1]) ∧ w' = w) := Count_err n (.inl hn) w
  have HA : Hid (∀ W, Calls Tryd.prog 5 #[.int .i64 m] W fun e w' => e = .returned (.tuple #[.slice none 0 0, .int .i64 1]) ∧ Below W.heap.size W w') := fun W => All_err m (.inr hm) W
  have k1 : ¬ (m < 0) := by omega
  have k2 : m > 20 := hm
  go_enter Tryd.func3, Tryd.ntmps3
  go_wp2_with fail
  refine HF.out.mono ?_
  rintro e w1 ⟨rfl, hw1⟩
  have HB1 : Hid (Below w.heap.size w w1) := by rw [hw1]; exact Below.refl _ _
  clear hw1
  go_wp2_with fail
  refine (HA.out w1).mono ?_
  rintro e w2 ⟨rfl, hb2⟩
  have HB2 : Hid (Below w.heap.size w w2) := HB1.out.trans (hb2.mono HB1.out.size)
  clear hb2
  go_wp2
  go_ret
  exact ⟨rfl, HB2.out⟩

set_option maxHeartbeats 4000000 in
set_option maxRecDepth 100000 in
theorem pcounts_gk {ρ : Go.Shelf.Ren} (L : SlLaysF.n6 Tryd.prog ρ) (hρ : ρ.f 6 = 18) (n : Int) (hn : 400 < n) (m : Nat) (hm : m ≤ 20) (w : World) :
    Calls Tryd.prog 3 #[.int .i64 n, .int .i64 (m : Int)] w fun e w' => e = .returned (.bool true) ∧ Below w.heap.size w w' := by
  have HF : Hid (Calls Tryd.prog 4 #[.int .i64 n] w fun e w' => e = .returned (.tuple #[.string ⟨#[]⟩, .int .i64 1]) ∧ w' = w) := Count_err n (.inr hn) w
  have g1 : ¬ (n < 0) := by omega
  have g2 : n > 400 := hn
  have HA : Hid (∀ W, Below w.heap.size w W → Calls Tryd.prog 5 #[.int .i64 (m : Int)] W fun e w' => Hid (∃ a ca, e = .returned (.tuple #[.slice a (genA m).length ca, .int .i64 0]) ∧ Hid (Table w' a (genA m)) ∧ Hid (Below w.heap.size w w'))) := pall_ok m hm w
  have HQ : Hid (∀ W (a : Option Addr), Below w.heap.size w W → Table W a (genA m) → Calls Tryd.prog 8 #[.int .i64 (m : Int)] W fun e w' => Hid (∃ b cb, e = .returned (.slice b (genA m).length cb) ∧ Hid (Table w' a (genA m) ∧ Table w' b (genA m)) ∧ Hid (Below w.heap.size w w'))) := papt_ok L hρ m hm w
  have HL : Hid ((genA m).length ≤ 17592186044416) := genA_short hm
  have k1 : ¬ ((m : Int) < 0) := by omega
  have k2 : ¬ ((m : Int) > 20) := by omega
  have k2' : ¬ (20 < (m : Int)) := by omega
  clear L hρ
  go_enter Tryd.func3, Tryd.ntmps3
  go_wp2_with fail
  refine HF.out.mono ?_
  rintro e w1 ⟨rfl, hw1⟩
  have HB1 : Hid (Below w.heap.size w w1) := by rw [hw1]; exact Below.refl _ _
  clear hw1
  go_wp2_with fail
  refine (HA.out w1 HB1.out).mono ?_
  intro e w2 h2
  obtain ⟨a, ca, rfl, HTa, HB2⟩ := h2.out
  clear h2
  have HTaa : Hid (Table w2 a (genA m)) := HTa
  go_wp2_with fail
  refine (HQ.out _ a HB2.out HTaa.out).mono ?_
  intro e w4 h4
  obtain ⟨b, cb, rfl, HT4, HB4⟩ := h4.out
  clear h4
  go_wp2_with fail
  refine (RowsL_r a b ca cb (genA m).length (genA m).length (genA m) w4 HT4.out.1 HT4.out.2 rfl rfl HL.out).mono ?_
  rintro e w5 ⟨rfl, q, rfl⟩
  go_wp2
  go_ret
  exact ⟨rfl, below_drewN HB4.out q⟩

set_option maxHeartbeats 4000000 in
set_option maxRecDepth 100000 in
theorem pcounts_gl (n : Int) (hn : 400 < n) (m : Int) (hm : m < 0) (w : World) :
    Calls Tryd.prog 3 #[.int .i64 n, .int .i64 m] w fun e w' => e = .returned (.bool true) ∧ Below w.heap.size w w' := by
  have HF : Hid (Calls Tryd.prog 4 #[.int .i64 n] w fun e w' => e = .returned (.tuple #[.string ⟨#[]⟩, .int .i64 1]) ∧ w' = w) := Count_err n (.inr hn) w
  have g1 : ¬ (n < 0) := by omega
  have g2 : n > 400 := hn
  have HA : Hid (∀ W, Calls Tryd.prog 5 #[.int .i64 m] W fun e w' => e = .returned (.tuple #[.slice none 0 0, .int .i64 1]) ∧ Below W.heap.size W w') := fun W => All_err m (.inl hm) W
  go_enter Tryd.func3, Tryd.ntmps3
  go_wp2_with fail
  refine HF.out.mono ?_
  rintro e w1 ⟨rfl, hw1⟩
  have HB1 : Hid (Below w.heap.size w w1) := by rw [hw1]; exact Below.refl _ _
  clear hw1
  go_wp2_with fail
  refine (HA.out w1).mono ?_
  rintro e w2 ⟨rfl, hb2⟩
  have HB2 : Hid (Below w.heap.size w w2) := HB1.out.trans (hb2.mono HB1.out.size)
  clear hb2
  go_wp2
  go_ret
  exact ⟨rfl, HB2.out⟩

set_option maxHeartbeats 4000000 in
set_option maxRecDepth 100000 in
theorem pcounts_gg (n : Int) (hn : 400 < n) (m : Int) (hm : 20 < m) (w : World) :
    Calls Tryd.prog 3 #[.int .i64 n, .int .i64 m] w fun e w' => e = .returned (.bool true) ∧ Below w.heap.size w w' := by
  have HF : Hid (Calls Tryd.prog 4 #[.int .i64 n] w fun e w' => e = .returned (.tuple #[.string ⟨#[]⟩, .int .i64 1]) ∧ w' = w) := Count_err n (.inr hn) w
  have g1 : ¬ (n < 0) := by omega
  have g2 : n > 400 := hn
  have HA : Hid (∀ W, Calls Tryd.prog 5 #[.int .i64 m] W fun e w' => e = .returned (.tuple #[.slice none 0 0, .int .i64 1]) ∧ Below W.heap.size W w') := fun W => All_err m (.inr hm) W
  have k1 : ¬ (m < 0) := by omega
  have k2 : m > 20 := hm
  go_enter Tryd.func3, Tryd.ntmps3
  go_wp2_with fail
  refine HF.out.mono ?_
  rintro e w1 ⟨rfl, hw1⟩
  have HB1 : Hid (Below w.heap.size w w1) := by rw [hw1]; exact Below.refl _ _
  clear hw1
  go_wp2_with fail
  refine (HA.out w1).mono ?_
  rintro e w2 ⟨rfl, hb2⟩
  have HB2 : Hid (Below w.heap.size w w2) := HB1.out.trans (hb2.mono HB1.out.size)
  clear hb2
  go_wp2
  go_ret
  exact ⟨rfl, HB2.out⟩


theorem pcounts_at {ρ : Go.Shelf.Ren} (L : SlLaysF.n6 Tryd.prog ρ) (hρ : ρ.f 6 = 18) (n m : Int) (w : World) (htab : Lib.TabIs Tryd.prog w "internal/strconv.uint64pow10" .u64 Lib.pow10Tab) :
    Calls Tryd.prog 3 #[.int .i64 n, .int .i64 m] w fun e w' => e = .returned (.bool true) ∧ Below w.heap.size w w' := by
  by_cases h : n < 0
  · by_cases k : m < 0
    · exact pcounts_ll n h m k w
    · by_cases k2 : 20 < m
      · exact pcounts_lg n h m k2 w
      · obtain ⟨m', rfl⟩ : ∃ m' : Nat, m = m' := ⟨m.toNat, by omega⟩
        exact pcounts_lk L hρ n h m' (by omega) w
  · by_cases h2 : 400 < n
    · by_cases k : m < 0
      · exact pcounts_gl n h2 m k w
      · by_cases k2 : 20 < m
        · exact pcounts_gg n h2 m k2 w
        · obtain ⟨m', rfl⟩ : ∃ m' : Nat, m = m' := ⟨m.toNat, by omega⟩
          exact pcounts_gk L hρ n h2 m' (by omega) w
    · obtain ⟨n', rfl⟩ : ∃ n' : Nat, n = n' := ⟨n.toNat, by omega⟩
      by_cases k : m < 0
      · exact pcounts_kl n' (by omega) m k w htab
      · by_cases k2 : 20 < m
        · exact pcounts_kg n' (by omega) m k2 w htab
        · obtain ⟨m', rfl⟩ : ∃ m' : Nat, m = m' := ⟨m.toNat, by omega⟩
          exact pcounts_kk L hρ n' (by omega) m' (by omega) w htab

end Go.Proofs.YthpkjnfmkinepaaDoor
