/-
  Whole numbers of ferrersbig, told by their value alone; the contract of Binomial.
  The contract of ferrersbig's Binomial.
-/
import Derived.Test.YtgcpconlmihilaaGreatDoorABMul
import Derived.Test.YtgcpconlmihilaaGreatDoorABigB
import Derived.Test.YtgcpconlmihilaaGreatDoorAQui
import Derived.Test.YtgcpconlmihilaaGreatDoorASto
namespace Go.Proofs.YtgcpconlmihilaaGreatDoor
open Go.RowKit

/-- A number in block p, its words in blocks from lo on. -/
def Bz (w : World) (lo p x : Nat) : Prop := (∃ v us, IntAt w lo p v us x) ∧ lo ≤ p
theorem Bz.lt {w : World} {lo p x : Nat} (h : Bz w lo p x) : p < w.heap.size := by
  obtain ⟨⟨v, us, h1⟩, _⟩ := h
  exact (Array.getElem?_eq_some_iff.1 h1.row).1
theorem Bz.low {w : World} {lo p x : Nat} (h : Bz w lo p x) : lo ≤ p := h.2
theorem Bz.mono {w : World} {lo lo' p x : Nat} (h : Bz w lo p x) (hl : lo' ≤ lo) : Bz w lo' p x := by
  obtain ⟨⟨v, us, h1⟩, h2⟩ := h
  exact ⟨⟨v, us, h1.row, h1.own.mono hl⟩, by omega⟩
/-- A block that is no number may turn. -/
theorem Bz.turn {w w' : World} {lo q p x : Nat} (h : Bz w lo p x) (hk : ∀ k, k < w.heap.size → k ≠ q → w'.heap[k]? = w.heap[k]?) (hq : p ≠ q) (hw : ∀ c fr, w.heap[q]? ≠ some (.cells c 89 fr)) : Bz w' lo p x := by
  have hlt := h.lt
  obtain ⟨⟨v, us, h1⟩, h2⟩ := h
  refine ⟨⟨v, us, by rw [hk p hlt hq]; exact h1.row, ⟨h1.own.own.blocks fun k hb => ?_, h1.own.num, h1.own.room⟩⟩, h2⟩
  refine hk k (h1.own.own.lt hb).2 (fun e => ?_)
  subst e
  rcases h1.own.own.2 with ⟨e1, _⟩ | ⟨g, cap, cur, e1, _, hh, _⟩
  · rw [e1] at hb; cases hb
  · rw [e1] at hb
    have hg : g = k := by simpa [Value.ownBlock] using hb
    subst hg
    exact hw _ _ hh
theorem Bz.below {w w' : World} {lo p x : Nat} (h : Bz w lo p x) (hb : Below w.heap.size w w') : Bz w' lo p x := by
  have hlt := h.lt
  obtain ⟨⟨v, us, h1⟩, h2⟩ := h
  exact ⟨⟨v, us, by rw [hb.block p hlt]; exact h1.row, h1.own.below hb⟩, h2⟩
theorem Bz.row {w : World} {lo p x : Nat} (h : Bz w lo p x) : ∃ c, w.heap[p]? = some (.cells c 46 (0, 0)) := by
  obtain ⟨⟨v, us, h1⟩, _⟩ := h
  exact ⟨_, h1.row⟩
theorem Bz.put {w w' : World} {lo lz p q x : Nat} {c : Array Value} (h : Bz w lo p x) (hp : Put w w' lz q) (hq : w.heap[q]? = some (.cells c 46 (0, 0))) (hne : p ≠ q) : Bz w' lo p x :=
  h.turn (q := q) (fun k h1 h2 => hp.block k h1 h2) hne (fun c fr e => by rw [hq] at e; simp at e)
theorem Bz.of {w' : World} {W : World} {lo p x : Nat} {v : Value} {us : List Nat} (hr : w'.heap[p]? = some (.cells #[.bool false, v] 46 (0, 0))) (ho : OwnsN w' W.heap.size v us x) (hl : lo ≤ W.heap.size) (hp : lo ≤ p) : Bz w' lo p x := ⟨⟨v, us, hr, ho.mono hl⟩, hp⟩
theorem Bz.len {w : World} {lo p x : Nat} {v : Value} {us : List Nat} (h : IntAt w lo p v us x) (hx : x < 10 ^ 200) : us.length ≤ 100 := num_len h.own.num (Nat.lt_trans hx (by decide +kernel))

theorem bzMul {W : World} {lo p q x y : Nat} (hx : Bz W lo p x) (hy : Bz W lo q y) (h1 : x < 10 ^ 200) (h2 : y < 10 ^ 200) :
    Calls Tryz.prog 38 #[.pointer (some ⟨p, 0, none⟩), .pointer (some ⟨p, 0, none⟩), .pointer (some ⟨q, 0, none⟩)] W fun e w' => e = .returned (.pointer (some ⟨p, 0, none⟩)) ∧ Hid (Bz w' lo p (x * y)) ∧ Hid (Put W w' lo p) := by
  have hlt := hx.lt
  obtain ⟨⟨vx, xs, ax⟩, hl⟩ := hx
  obtain ⟨⟨vy, ys, ay⟩, _⟩ := hy
  have b1 := Bz.len ax h1
  have b2 := Bz.len ay h2
  refine (BMul_at p p q lo lo false vx vx vy xs ys x y W ax ay ax.row hl (by omega)).mono ?_
  rintro e w' ⟨v, us, rfl, r1, r2, r3⟩
  exact ⟨rfl, Bz.of r1 r2 (by omega) hl, r3⟩
theorem bzQuo {W : World} {lo p q x y : Nat} (hx : Bz W lo p x) (hy : Bz W lo q y) (h1 : x < 10 ^ 200) (h2 : y < 10 ^ 200) (h3 : 0 < x) (h4 : 0 < y) :
    Calls Tryz.prog 43 #[.pointer (some ⟨p, 0, none⟩), .pointer (some ⟨p, 0, none⟩), .pointer (some ⟨q, 0, none⟩)] W fun e w' => e = .returned (.pointer (some ⟨p, 0, none⟩)) ∧ Hid (Bz w' lo p (x / y)) ∧ Hid (Put W w' lo p) := by
  have hlt := hx.lt
  obtain ⟨⟨vx, xs, ax⟩, hl⟩ := hx
  obtain ⟨⟨vy, ys, ay⟩, _⟩ := hy
  have b1 := Bz.len ax h1
  have b2 := Bz.len ay h2
  refine (BQuo_at p p q lo lo false vx vx vy xs ys x y W ax ay ax.row hl (by omega) (by omega) h3 h4).mono ?_
  rintro e w' ⟨v, us, rfl, r1, r2, r3⟩
  exact ⟨rfl, Bz.of r1 r2 (by omega) hl, r3⟩
theorem bzNew {W : World} {x : Nat} (hx : x < 9223372036854775808) :
    Calls Tryz.prog 37 #[.int .i64 (x : Int)] W fun e w' => e = .returned (.pointer (some ⟨W.heap.size, 0, none⟩)) ∧ Hid (Bz w' W.heap.size W.heap.size x) ∧ Hid (Below W.heap.size W w') := by
  refine (NewInt_at x W hx).mono ?_
  rintro e w' ⟨v, us, rfl, r1, r2⟩
  exact ⟨rfl, ⟨⟨v, us, r1⟩, Nat.le_refl _⟩, r2⟩
theorem bzStr {W : World} {lo p x : Nat} (hx : Bz W lo p x) (h1 : x < 10 ^ 200) (hd : (dig x).length ≤ 1000000) :
    Calls Tryz.prog 45 #[.pointer (some ⟨p, 0, none⟩)] W fun e w' => e = .returned (.string ⟨(Lib.decDigits x).toArray⟩) ∧ Hid (Below W.heap.size W w') := by
  obtain ⟨⟨vx, xs, ax⟩, hl⟩ := hx
  have b1 := Bz.len ax h1
  refine (BString_at p lo vx xs x W ax (by omega) hd).mono ?_
  rintro e w' ⟨rfl, r⟩
  exact ⟨rfl, r⟩
end Go.Proofs.YtgcpconlmihilaaGreatDoor

namespace Go.Proofs.YtgcpconlmihilaaGreatDoor
open Go.RowKit

/-- (a + i over i), factor by factor. -/
def binS (a : Nat) : Nat → Nat
  | 0 => 1
  | i + 1 => binS a i * (a + (i + 1)) / (i + 1)
def lesK (n k : Nat) : Nat := if n - k < k then n - k else k
def binG (n k : Nat) : Nat := binS (n - lesK n k) (lesK n k)
def binAll : Bool := (List.range 101).all fun a => (List.range 101).all fun i => decide (0 < binS a i) && decide (binS a i < 10 ^ 100)
theorem bin_all : binAll = true := by decide +kernel
theorem bin_ok {a i : Nat} (ha : a ≤ 100) (hi : i ≤ 100) : 0 < binS a i ∧ binS a i < 10 ^ 100 := by
  have h := bin_all
  unfold binAll at h
  have h1 := List.all_eq_true.1 (List.all_eq_true.1 h a (List.mem_range.2 (by omega))) i (List.mem_range.2 (by omega))
  simp only [Bool.and_eq_true, decide_eq_true_eq] at h1
  exact h1
theorem small_200 {x y : Nat} (h : x < 10 ^ 100) (hy : y ≤ 10 ^ 100) : x * y < 10 ^ 200 := by
  rw [show (10 : Nat) ^ 200 = 10 ^ 100 * 10 ^ 100 by decide +kernel]
  rcases Nat.eq_zero_or_pos y with rfl | h0
  · rw [Nat.mul_zero]; decide +kernel
  · exact Nat.lt_of_lt_of_le ((Nat.mul_lt_mul_right h0).2 h) (Nat.mul_le_mul_left _ hy)
theorem up_200 {x : Nat} (h : x < 10 ^ 100) : x < 10 ^ 200 := Nat.lt_trans h (by decide +kernel)
theorem le_100 {x : Nat} (h : x ≤ 1000) : x ≤ 10 ^ 100 := Nat.le_trans h (by decide +kernel)
theorem lt_200 {x : Nat} (h : x ≤ 1000) : x < 10 ^ 200 := Nat.lt_of_le_of_lt h (by decide +kernel)

set_option maxHeartbeats 4000000 in
set_option maxRecDepth 100000 in
theorem binLoop_at (pz lz : Nat) (b : Bool) (v0 : Value) (n k q : Nat) (w : World) (hz : w.heap[pz]? = some (.cells #[.bool b, v0] 46 (0, 0))) (hlz : lz ≤ pz) (hl2 : lz ≤ w.heap.size) (hn : n ≤ 100) (hk : k ≤ n) (hq : lesK n k = q) :
    Calls Tryz.prog 21 #[.pointer (some ⟨pz, 0, none⟩), .int .i64 (n : Int), .int .i64 (k : Int)] w fun e w' => e = .returned (.pointer (some ⟨pz, 0, none⟩)) ∧ Hid (Bz w' lz pz (binG n k)) ∧ Hid (Put w w' lz pz) := by
  have HG : Hid (binG n k = binS (n - q) q) := by rw [← hq]; rfl
  have HQ : Hid (lesK n k = q) := hq
  have hqn : q ≤ n := by rw [← hq]; unfold lesK; split <;> omega
  have HZ : Hid (w.heap[pz]? = some (.cells #[.bool b, v0] 46 (0, 0))) := hz
  have HZl : Hid (pz < w.heap.size) := (Array.getElem?_eq_some_iff.1 hz).1
  obtain ⟨B, HB0⟩ : ∃ B, Hid (B = w.heap.size) := ⟨_, rfl⟩
  have HN1 : Hid (Calls Tryz.prog 37 #[.int .i64 1] w fun e w' => e = .returned (.pointer (some ⟨B, 0, none⟩)) ∧ Hid (Bz w' B B 1) ∧ Hid (Below B w w')) := by
    rw [HB0.out]; exact bzNew (x := 1) (by omega)
  have HNew : Hid (∀ (W : World) (x : Nat), x ≤ 1000 → B ≤ W.heap.size → Calls Tryz.prog 37 #[.int .i64 (x : Int)] W fun e w' => e = .returned (.pointer (some ⟨W.heap.size, 0, none⟩)) ∧ Hid (Bz w' B W.heap.size x) ∧ Hid (Below W.heap.size W w')) := fun W x hx hB => by
    refine (bzNew (W := W) (x := x) (by omega)).mono ?_
    rintro e w' ⟨rfl, h1, h2⟩
    exact ⟨rfl, h1.out.mono hB, h2⟩
  have HEnd : Hid (∀ W, Below B w W → Bz W B B (binS (n - q) q) → Calls Tryz.prog 40 #[.pointer (some ⟨pz, 0, none⟩), .pointer (some ⟨B, 0, none⟩)] W fun e w' => e = .returned (.pointer (some ⟨pz, 0, none⟩)) ∧ Hid (Bz w' lz pz (binG n k)) ∧ Hid (Put w w' lz pz)) := fun W hW hb => by
    obtain ⟨⟨vx, xs, ax⟩, _⟩ := hb
    have hok := bin_ok (a := n - q) (i := q) (by omega) (by omega)
    have b1 := Bz.len ax (up_200 hok.2)
    have hzW : W.heap[pz]? = some (.cells #[.bool b, v0] 46 (0, 0)) := by rw [hW.block pz (by rw [HB0.out]; exact HZl.out)]; exact HZ.out
    refine (BSetTo_at pz B B lz b v0 vx xs _ W ax hzW hlz (by omega) hok.1).mono ?_
    rintro e w' ⟨v, us, rfl, r1, r2, r3⟩
    have hs := hW.size
    refine ⟨rfl, by rw [HG.out]; exact Bz.of r1 r2 (by omega) hlz, ?_, fun j hj hne => ?_⟩
    · exact (hW.mono (by rw [HB0.out]; exact hl2)).trans r3.below
    · rw [r3.block j (by omega) hne, hW.block j (by rw [HB0.out]; exact hj)]
  have h1 : decide ((k : Int) > (n : Int)) = false := decide_eq_false (by omega)
  have h1' : ¬ (n : Int) < (k : Int) := by omega
  clear hz hq
  by_cases hc : n - k < k
  · have hc1 : decide ((k : Int) > (q : Int)) = true := decide_eq_true (by rw [← HQ.out]; unfold lesK; rw [if_pos hc]; omega)
    have hsub : (n : Int) - (k : Int) = (q : Int) := by rw [← HQ.out]; unfold lesK; rw [if_pos hc]; omega
    have hc2 : q < k := by omega
    clear hc
    go_enter Tryz.func21, Tryz.ntmps21
    go_wp2_with fail
    refine HN1.out.mono ?_
    rintro e w1 ⟨rfl, HR1, HB1⟩
    go_wp2
    go_loopw [8] (fun iv wr => ∃ i : Nat, i ≤ q ∧ iv = .int .i64 ((i : Int) + 1) ∧ Hid (Bz wr B B (binS (n - q) i)) ∧ Hid (Below B w wr)) (fun iv _ => q + 1 - (intOf iv).toNat)
    case atStart => exact ⟨0, Nat.zero_le _, rfl, HR1, HB1⟩
    case round =>
      clear HR1 HB1
      obtain ⟨i, hi, rfl, HR, HB⟩ := hrel
      by_cases hiq : i < q
      · have hiq' : (i : Int) + 1 ≤ (q : Int) := by omega
        obtain ⟨f, HF⟩ : ∃ f : Nat, Hid (f = n - q + (i + 1)) := ⟨_, rfl⟩
        have hf : (n : Int) - (q : Int) + ((i : Int) + 1) = (f : Int) := by rw [HF.out]; omega
        have hf100 : f ≤ 200 := by rw [HF.out]; omega
        have hsz : B ≤ wr.heap.size := by rw [HB0.out]; exact HB.out.size
        obtain ⟨g, HGi⟩ : ∃ g : Nat, Hid (g = i + 1) := ⟨_, rfl⟩
        have hg : (i : Int) + 1 = (g : Int) := by rw [HGi.out]; omega
        have hg100 : g ≤ 101 := by rw [HGi.out]; omega
        have HC1 := HNew.out wr f (by omega) hsz
        have hok := bin_ok (a := n - q) (i := i) (by omega) (by omega)
        have HOk : Hid (0 < binS (n - q) i ∧ binS (n - q) i < 10 ^ 100) := hok
        clear hok
        rw [hg] at hf hiq' ⊢
        go_wp2_with fail
        refine HC1.mono ?_
        rintro e w2 ⟨rfl, HX2, HB2⟩
        clear HC1
        have HR2 : Hid (Bz w2 B B (binS (n - q) i)) := HR.out.below HB2.out
        have HBw2 : Hid (Below B w w2) := HB.out.trans (HB2.out.mono hsz)
        have HC2 := bzMul HR2.out HX2.out (up_200 HOk.out.2) (lt_200 (by omega))
        go_wp2_with fail
        refine HC2.mono ?_
        rintro e w3 ⟨rfl, HR3, HP3⟩
        clear HC2
        have HBw3 : Hid (Below B w w3) := HBw2.out.trans HP3.out.below
        have hsz3 : B ≤ w3.heap.size := by have := HBw3.out.size; rw [← HB0.out] at this; exact this
        have HC3 := HNew.out w3 g (by omega) hsz3
        go_wp2_with fail
        refine HC3.mono ?_
        rintro e w4 ⟨rfl, HX4, HB4⟩
        clear HC3
        have HR4 : Hid (Bz w4 B B (binS (n - q) i * f)) := HR3.out.below HB4.out
        have HBw4 : Hid (Below B w w4) := HBw3.out.trans (HB4.out.mono hsz3)
        have HC4 := bzQuo HR4.out HX4.out (small_200 HOk.out.2 (le_100 (by omega))) (lt_200 (by omega)) (Nat.mul_pos HOk.out.1 (by rw [HF.out]; omega)) (by rw [HGi.out]; omega)
        go_wp2_with fail
        refine HC4.mono ?_
        rintro e w5 ⟨rfl, HR5, HP5⟩
        clear HC4
        have HR6 : Hid (Bz w5 B B (binS (n - q) (i + 1))) := by
          show Bz _ _ _ (binS (n - q) i * (n - q + (i + 1)) / (i + 1))
          rw [← HF.out, ← HGi.out]; exact HR5.out
        have HBw5 : Hid (Below B w w5) := HBw4.out.trans HP5.out.below
        go_wp2
        go_roundw
        case rel => exact ⟨i + 1, by omega, by first | go_num | (rw [HGi.out]; go_num), HR6, HBw5⟩
        case measure => simp [intOf]; omega
      · have hiq' : ¬ (i : Int) + 1 ≤ (q : Int) := by omega
        obtain rfl : i = q := by omega
        have HC := HEnd.out wr HB.out HR.out
        go_wp2_with fail
        refine HC.mono ?_
        rintro e w9 ⟨rfl, h1, h2⟩
        go_wp2
        go_ret
        exact ⟨rfl, h1, h2⟩
  · have hkq : q = k := by rw [← HQ.out]; unfold lesK; rw [if_neg hc]
    subst hkq
    obtain ⟨d, HD⟩ : ∃ d : Nat, Hid (d = n - q) := ⟨_, rfl⟩
    have hsub : (n : Int) - (q : Int) = (d : Int) := by rw [HD.out]; omega
    have hc1 : decide ((q : Int) > (d : Int)) = false := decide_eq_false (by rw [HD.out]; omega)
    have hc2 : ¬ d < q := by rw [HD.out]; exact hc
    have hdn : d ≤ 100 := by rw [HD.out]; omega
    clear hc
    go_enter Tryz.func21, Tryz.ntmps21
    go_wp2_with fail
    refine HN1.out.mono ?_
    rintro e w1 ⟨rfl, HR1, HB1⟩
    go_wp2
    go_loopw [8] (fun iv wr => ∃ i : Nat, i ≤ q ∧ iv = .int .i64 ((i : Int) + 1) ∧ Hid (Bz wr B B (binS (n - q) i)) ∧ Hid (Below B w wr)) (fun iv _ => q + 1 - (intOf iv).toNat)
    case atStart => exact ⟨0, Nat.zero_le _, rfl, HR1, HB1⟩
    case round =>
      clear HR1 HB1
      obtain ⟨i, hi, rfl, HR, HB⟩ := hrel
      by_cases hiq : i < q
      · have hiq' : (i : Int) + 1 ≤ (q : Int) := by omega
        obtain ⟨f, HF⟩ : ∃ f : Nat, Hid (f = n - q + (i + 1)) := ⟨_, rfl⟩
        have hf : (d : Int) + ((i : Int) + 1) = (f : Int) := by rw [HF.out, HD.out]; omega
        have hf100 : f ≤ 200 := by rw [HF.out]; omega
        have hsz : B ≤ wr.heap.size := by rw [HB0.out]; exact HB.out.size
        obtain ⟨g, HGi⟩ : ∃ g : Nat, Hid (g = i + 1) := ⟨_, rfl⟩
        have hg : (i : Int) + 1 = (g : Int) := by rw [HGi.out]; omega
        have hg100 : g ≤ 101 := by rw [HGi.out]; omega
        have HC1 := HNew.out wr f (by omega) hsz
        have hok := bin_ok (a := n - q) (i := i) (by omega) (by omega)
        have HOk : Hid (0 < binS (n - q) i ∧ binS (n - q) i < 10 ^ 100) := hok
        clear hok
        rw [hg] at hf hiq' ⊢
        go_wp2_with fail
        refine HC1.mono ?_
        rintro e w2 ⟨rfl, HX2, HB2⟩
        clear HC1
        have HR2 : Hid (Bz w2 B B (binS (n - q) i)) := HR.out.below HB2.out
        have HBw2 : Hid (Below B w w2) := HB.out.trans (HB2.out.mono hsz)
        have HC2 := bzMul HR2.out HX2.out (up_200 HOk.out.2) (lt_200 (by omega))
        go_wp2_with fail
        refine HC2.mono ?_
        rintro e w3 ⟨rfl, HR3, HP3⟩
        clear HC2
        have HBw3 : Hid (Below B w w3) := HBw2.out.trans HP3.out.below
        have hsz3 : B ≤ w3.heap.size := by have := HBw3.out.size; rw [← HB0.out] at this; exact this
        have HC3 := HNew.out w3 g (by omega) hsz3
        go_wp2_with fail
        refine HC3.mono ?_
        rintro e w4 ⟨rfl, HX4, HB4⟩
        clear HC3
        have HR4 : Hid (Bz w4 B B (binS (n - q) i * f)) := HR3.out.below HB4.out
        have HBw4 : Hid (Below B w w4) := HBw3.out.trans (HB4.out.mono hsz3)
        have HC4 := bzQuo HR4.out HX4.out (small_200 HOk.out.2 (le_100 (by omega))) (lt_200 (by omega)) (Nat.mul_pos HOk.out.1 (by rw [HF.out]; omega)) (by rw [HGi.out]; omega)
        go_wp2_with fail
        refine HC4.mono ?_
        rintro e w5 ⟨rfl, HR5, HP5⟩
        clear HC4
        have HR6 : Hid (Bz w5 B B (binS (n - q) (i + 1))) := by
          show Bz _ _ _ (binS (n - q) i * (n - q + (i + 1)) / (i + 1))
          rw [← HF.out, ← HGi.out]; exact HR5.out
        have HBw5 : Hid (Below B w w5) := HBw4.out.trans HP5.out.below
        go_wp2
        go_roundw
        case rel => exact ⟨i + 1, by omega, by first | go_num | (rw [HGi.out]; go_num), HR6, HBw5⟩
        case measure => simp [intOf]; omega
      · have hiq' : ¬ (i : Int) + 1 ≤ (q : Int) := by omega
        obtain rfl : i = q := by omega
        have HC := HEnd.out wr HB.out HR.out
        go_wp2_with fail
        refine HC.mono ?_
        rintro e w9 ⟨rfl, h1, h2⟩
        go_wp2
        go_ret
        exact ⟨rfl, h1, h2⟩
end Go.Proofs.YtgcpconlmihilaaGreatDoor
