/-
  math/bits.TrailingZeros64.
  Sets of cells as numbers; in how many ways the others can be covered. Plain.
  domino.cellAt, lay, firstFree, lie, stand.
-/
import Derived.Test.YtcnmndbckjmliaaDoorNRdz
import Derived.Shelf.Spec.TrailingZeros
import Derived.Laws.Bits64
namespace Go.Proofs.YtcnmndbckjmliaaDoor
open Go.RowKit

set_option maxHeartbeats 1000000 in
theorem tz_core (x k idx : Nat) (w : World) (hx0 : ((x : Int) == 0) = false)
    (key : IntKind.u64.wrap (bits BinOp.and IntKind.u64 (x : Int) (IntKind.u64.wrap (-(x : Int))) * 285870213051353865) / 288230376151711744 = (idx : Int))
    (hi : idx < 64) (hk : k < 64) (hcell : w.cell? ⟨1, idx, none⟩ = some (.int .u8 k)) :
    Calls Tryd.prog 56 #[.int .u64 x] w fun e w' => e = .returned (.int .i64 k) ∧ w' = w := by
  go_enter Tryd.func56, Tryd.ntmps56
  go_wp2_with (simp only [key])
  go_ret
  exact ⟨rfl, rfl⟩
theorem TZ64_at (x : Nat) (hx : x < 18446744073709551616) (hx0 : x ≠ 0) (w : World) (hT : TabAt 1 Lib.deBruijn64tab w) :
    Calls Tryd.prog 56 #[.int .u64 x] w fun e w' => e = .returned (.int .i64 (Lib.ctz 64 x)) ∧ w' = w := by
  obtain ⟨hlow, hk⟩ := Lib.lowest_bit 64 x hx0 hx
  obtain ⟨hi, htab⟩ := Lib.deBruijn64_at _ hk
  have hcell := hT _ hi
  rw [htab] at hcell
  exact tz_core x _ _ w (by simp; omega) (tz64_key x _ hx hx0 hlow) hi hk hcell
/-- The table in its variable, in later worlds. -/
theorem tab_below {g B : Nat} {l : List Nat} {w w' : World} (h : TabAt g l w) (hb : Below B w w') (hg : g < B) : TabAt g l w' := fun j hj => (hb.cell (p := ⟨g, j, none⟩) hg).trans (h j hj)

end Go.Proofs.YtcnmndbckjmliaaDoor

namespace Go.Proofs.YtcnmndbckjmliaaDoor
open Go.RowKit

def allC : Nat := 18446744073709551615
/-- The first cell that is not covered. -/
def fstC (c : Nat) : Nat := Lib.ctz 64 (allC - c)
theorem ctz_bits (x : Nat) (h0 : x ≠ 0) (hx : x < 2 ^ 64) : x.testBit (Lib.ctz 64 x) = true ∧ (∀ q, q < Lib.ctz 64 x → x.testBit q = false) ∧ Lib.ctz 64 x < 64 := by
  have h := Lib.ctzFrom_spec 64 x (by omega) hx
  obtain ⟨m, hm, hk⟩ := h
  have e : Lib.ctz 64 x = Lib.ctzFrom 64 x := by unfold Lib.ctz; rw [if_neg h0]
  rw [e]
  refine ⟨?_, fun q hq => ?_, hk⟩
  · rw [show x.testBit (Lib.ctzFrom 64 x) = (2 ^ Lib.ctzFrom 64 x * (2 * m + 1)).testBit (Lib.ctzFrom 64 x) by rw [← hm]]
    rw [Nat.testBit_two_pow_mul]
    simp
  · rw [show x.testBit q = (2 ^ Lib.ctzFrom 64 x * (2 * m + 1)).testBit q by rw [← hm]]
    rw [Nat.testBit_two_pow_mul]
    simp; omega
theorem co_bit (c q : Nat) (hc : c ≤ allC) (hq : q < 64) : (allC - c).testBit q = !c.testBit q := by
  have h := Nat.testBit_two_pow_sub_succ (x := c) (n := 64) (by unfold allC at hc; omega) q
  rw [show 2 ^ 64 - (c + 1) = allC - c by unfold allC; omega] at h
  rw [h]; simp [hq]
theorem fst_spec {c : Nat} (hc : c < allC) : fstC c < 64 ∧ c.testBit (fstC c) = false ∧ ∀ q, q < fstC c → c.testBit q = true := by
  obtain ⟨h1, h2, h3⟩ := ctz_bits (allC - c) (by omega) (by unfold allC; omega)
  refine ⟨h3, ?_, fun q hq => ?_⟩
  · have := co_bit c (fstC c) (by omega) h3
    unfold fstC at this ⊢
    rw [h1] at this
    revert this; cases c.testBit (Lib.ctz 64 (allC - c)) <;> simp
  · have := co_bit c q (by omega) (by unfold fstC at hq; omega)
    rw [h2 q hq] at this
    revert this; cases c.testBit q <;> simp
/-- Two cells more. -/
def addC (c p q : Nat) : Nat := c ||| 2 ^ p ||| 2 ^ q
theorem add_bit (c p q j : Nat) : (addC c p q).testBit j = (c.testBit j || decide (p = j) || decide (q = j)) := by
  unfold addC
  rw [Nat.testBit_or, Nat.testBit_or, Nat.testBit_two_pow, Nat.testBit_two_pow]
theorem add_le {c p q : Nat} (hc : c ≤ allC) (hp : p < 64) (hq : q < 64) : addC c p q ≤ allC := by
  have h1 : c < 2 ^ 64 := by unfold allC at hc; omega
  have h2 : 2 ^ p < 2 ^ 64 := Nat.pow_lt_pow_right (by omega) hp
  have h3 : 2 ^ q < 2 ^ 64 := Nat.pow_lt_pow_right (by omega) hq
  have h4 := Nat.or_lt_two_pow (Nat.or_lt_two_pow h1 h2) h3
  unfold addC allC
  omega
/-- May a lying, a standing domino be put on the first cell? -/
def mayL (c : Nat) : Bool := decide (fstC c % 8 < 7) && !c.testBit (fstC c + 1)
def mayS (c : Nat) : Bool := decide (fstC c < 56) && !c.testBit (fstC c + 8)
def lieC (c : Nat) : Nat := addC c (fstC c) (fstC c + 1)
def staC (c : Nat) : Nat := addC c (fstC c) (fstC c + 8)
/-- How many cells are free. -/
def freeC (c : Nat) : Nat := ((List.range 64).filter fun j => !c.testBit j).length
theorem filter_drop : ∀ (l : List Nat) (f g : Nat → Bool) (p : Nat), l.Nodup → p ∈ l → f p = true → g p = false → (∀ j, g j = true → f j = true) → (l.filter g).length + 1 ≤ (l.filter f).length := by
  intro l f g p hn hp h1 h2 h3
  induction l with
  | nil => cases hp
  | cons x r ih =>
    have hn' := List.nodup_cons.1 hn
    by_cases hx : x = p
    · subst hx
      rw [List.filter_cons_of_pos h1, List.filter_cons_of_neg (by rw [h2]; simp), List.length_cons]
      have : (r.filter g).length ≤ (r.filter f).length := by
        clear ih hn hp
        induction r with
        | nil => simp
        | cons y s ihs =>
          have hs := ihs ⟨fun q => hn'.1 (by simp [q]), (List.nodup_cons.1 hn'.2).2⟩
          cases hg : g y with
          | true => rw [List.filter_cons_of_pos hg, List.filter_cons_of_pos (h3 y hg)]; simpa using hs
          | false =>
            rw [List.filter_cons_of_neg (by rw [hg]; simp)]
            cases hf : f y with
            | true => rw [List.filter_cons_of_pos hf]; simp; omega
            | false => rw [List.filter_cons_of_neg (by rw [hf]; simp)]; exact hs
      omega
    · have hp' : p ∈ r := by rcases List.mem_cons.1 hp with e | e; exact absurd e.symm hx; exact e
      have := ih hn'.2 hp'
      cases hg : g x with
      | true => rw [List.filter_cons_of_pos hg, List.filter_cons_of_pos (h3 x hg)]; simp; omega
      | false =>
        rw [List.filter_cons_of_neg (by rw [hg]; simp)]
        cases hf : f x with
        | true => rw [List.filter_cons_of_pos hf]; simp; omega
        | false => rw [List.filter_cons_of_neg (by rw [hf]; simp)]; exact this
theorem free_add {c q : Nat} (hc : c < allC) (hq : q < 64) (hqc : c.testBit q = false) (hne : q ≠ fstC c) : freeC (addC c (fstC c) q) + 2 ≤ freeC c := by
  obtain ⟨h1, h2, h3⟩ := fst_spec hc
  have hnd : (List.range 64).Nodup := List.nodup_range
  have a1 := filter_drop (List.range 64) (fun j => !c.testBit j) (fun j => !(c ||| 2 ^ fstC c).testBit j) (fstC c) hnd (by simpa using h1) (by simp [h2]) (by simp [Nat.testBit_or]) (fun j hj => by
    simp only [Nat.testBit_or, Bool.not_or, Bool.and_eq_true] at hj; exact hj.1)
  have a2 := filter_drop (List.range 64) (fun j => !(c ||| 2 ^ fstC c).testBit j) (fun j => !(addC c (fstC c) q).testBit j) q hnd (by simpa using hq) (by simp [Nat.testBit_or, hqc, Ne.symm hne]) (by simp [add_bit]) (fun j hj => by
    unfold addC at hj
    rw [Nat.testBit_or] at hj
    simp only [Bool.not_or, Bool.and_eq_true] at hj; exact hj.1)
  unfold freeC
  omega
theorem free_lie {c : Nat} (hc : c < allC) (h : mayL c = true) : freeC (lieC c) + 2 ≤ freeC c := by
  unfold mayL at h
  simp only [Bool.and_eq_true, decide_eq_true_eq, Bool.not_eq_true'] at h
  have := (fst_spec hc).1
  exact free_add hc (by omega) h.2 (by omega)
theorem free_sta {c : Nat} (hc : c < allC) (h : mayS c = true) : freeC (staC c) + 2 ≤ freeC c := by
  unfold mayS at h
  simp only [Bool.and_eq_true, decide_eq_true_eq, Bool.not_eq_true'] at h
  exact free_add hc (by omega) h.2 (by omega)
theorem lie_le {c : Nat} (hc : c < allC) (h : mayL c = true) : lieC c ≤ allC := by
  unfold mayL at h
  simp only [Bool.and_eq_true, decide_eq_true_eq] at h
  have := (fst_spec hc).1
  exact add_le (by omega) (by omega) (by omega)
theorem sta_le {c : Nat} (hc : c < allC) (h : mayS c = true) : staC c ≤ allC := by
  unfold mayS at h
  simp only [Bool.and_eq_true, decide_eq_true_eq] at h
  exact add_le (by omega) (by have := (fst_spec hc).1; omega) (by omega)
/-- In how many ways the others can be covered. -/
def cntF : Nat → Nat → Nat
  | 0, _ => 1
  | f + 1, c => if c = allC then 1 else (if mayL c = true then cntF f (lieC c) else 0) + (if mayS c = true then cntF f (staC c) else 0)
theorem free_le (c : Nat) : freeC c ≤ 64 := Nat.le_trans (List.length_filter_le _ _) (by simp)
theorem free_pos {c : Nat} (hc : c < allC) : 0 < freeC c := by
  obtain ⟨h1, h2, _⟩ := fst_spec hc
  exact List.length_pos_iff.2 (List.ne_nil_of_mem (List.mem_filter.2 ⟨List.mem_range.2 h1, by simp [h2]⟩))
theorem cnt_fuel : ∀ (f g c : Nat), c ≤ allC → freeC c ≤ f → freeC c ≤ g → cntF f c = cntF g c := by
  intro f
  induction f with
  | zero =>
    intro g c hc h1 _
    have : c = allC := by
      rcases Nat.lt_or_ge c allC with q | q
      · have := free_pos q; omega
      · omega
    subst this
    cases g with
    | zero => rfl
    | succ g => simp [cntF]
  | succ f ih =>
    intro g c hc h1 h2
    rcases Nat.lt_or_ge c allC with q | q
    · have hp := free_pos q
      obtain ⟨g, rfl⟩ : ∃ g', g = g' + 1 := ⟨g - 1, by omega⟩
      have hne : c ≠ allC := by omega
      have e1 : (if mayL c = true then cntF f (lieC c) else 0) = (if mayL c = true then cntF g (lieC c) else 0) := by
        by_cases h : mayL c = true
        · rw [if_pos h, if_pos h]; have := free_lie q h; exact ih g _ (lie_le q h) (by omega) (by omega)
        · rw [if_neg h, if_neg h]
      have e2 : (if mayS c = true then cntF f (staC c) else 0) = (if mayS c = true then cntF g (staC c) else 0) := by
        by_cases h : mayS c = true
        · rw [if_pos h, if_pos h]; have := free_sta q h; exact ih g _ (sta_le q h) (by omega) (by omega)
        · rw [if_neg h, if_neg h]
      rw [cntF, cntF, if_neg hne, if_neg hne, e1, e2]
    · have : c = allC := by omega
      subst this
      cases g with
      | zero => simp [cntF]
      | succ g => simp [cntF]
theorem cntF_succ (f c : Nat) : cntF (f + 1) c = if c = allC then 1 else (if mayL c = true then cntF f (lieC c) else 0) + (if mayS c = true then cntF f (staC c) else 0) := rfl
def cntC (c : Nat) : Nat := cntF (63 + 1) c
theorem cntC_all : cntC allC = 1 := by unfold cntC; rw [cntF_succ, if_pos rfl]
theorem cntF_mid {f c : Nat} (hc : c < allC) (hf : freeC c ≤ f + 1) (g : Nat) (hg : freeC c ≤ g + 1) : cntF (f + 1) c = (if mayL c = true then cntF (g + 1) (lieC c) else 0) + (if mayS c = true then cntF (g + 1) (staC c) else 0) := by
  have hne : c ≠ allC := by omega
  rw [cntF_succ, if_neg hne]
  have e1 : (if mayL c = true then cntF f (lieC c) else 0) = (if mayL c = true then cntF (g + 1) (lieC c) else 0) := by
    by_cases h : mayL c = true
    · rw [if_pos h, if_pos h]; have := free_lie hc h; exact cnt_fuel _ _ _ (lie_le hc h) (by omega) (by omega)
    · rw [if_neg h, if_neg h]
  have e2 : (if mayS c = true then cntF f (staC c) else 0) = (if mayS c = true then cntF (g + 1) (staC c) else 0) := by
    by_cases h : mayS c = true
    · rw [if_pos h, if_pos h]; have := free_sta hc h; exact cnt_fuel _ _ _ (sta_le hc h) (by omega) (by omega)
    · rw [if_neg h, if_neg h]
  rw [e1, e2]
theorem cntC_step {c : Nat} (hc : c < allC) : cntC c = (if mayL c = true then cntC (lieC c) else 0) + (if mayS c = true then cntC (staC c) else 0) :=
  cntF_mid (f := 63) hc (free_le c) 63 (free_le c)
theorem cnt_le : ∀ (f c : Nat), cntF f c ≤ 2 ^ f := by
  intro f
  induction f with
  | zero => intro c; simp [cntF]
  | succ f ih =>
    intro c
    rw [cntF]
    have h1 := ih (lieC c)
    have h2 := ih (staC c)
    have h3 : 1 ≤ 2 ^ f := Nat.one_le_two_pow
    have h4 : 2 ^ (f + 1) = 2 ^ f + 2 ^ f := by rw [Nat.pow_succ]; omega
    split
    · omega
    · split <;> split <;> omega
/-- A bound that halves the depth: two cells a step. -/
theorem cnt_half : ∀ (k c : Nat), c ≤ allC → freeC c ≤ 2 * k → cntC c ≤ 2 ^ k := by
  intro k
  induction k with
  | zero =>
    intro c hc h
    have : c = allC := by
      rcases Nat.lt_or_ge c allC with q | q
      · have := free_pos q; omega
      · omega
    subst this; rw [cntC_all]; exact Nat.le_refl _
  | succ k ih =>
    intro c hc h
    rcases Nat.lt_or_ge c allC with q | q
    · rw [cntC_step q]
      have h4 : 2 ^ (k + 1) = 2 ^ k + 2 ^ k := by rw [Nat.pow_succ]; omega
      have e1 : (if mayL c = true then cntC (lieC c) else 0) ≤ 2 ^ k := by
        by_cases h : mayL c = true
        · rw [if_pos h]; have := free_lie q h; exact ih _ (lie_le q h) (by omega)
        · rw [if_neg h]; exact Nat.zero_le _
      have e2 : (if mayS c = true then cntC (staC c) else 0) ≤ 2 ^ k := by
        by_cases h : mayS c = true
        · rw [if_pos h]; have := free_sta q h; exact ih _ (sta_le q h) (by omega)
        · rw [if_neg h]; exact Nat.zero_le _
      omega
    · have : c = allC := by omega
      subst this; rw [cntC_all]; exact Nat.one_le_two_pow
theorem cnt_small {c : Nat} (hc : c ≤ allC) : cntC c ≤ 4294967296 := by
  have := cnt_half 32 c hc (by have := free_le c; omega)
  simpa using this

end Go.Proofs.YtcnmndbckjmliaaDoor

namespace Go.Proofs.YtcnmndbckjmliaaDoor
open Go.RowKit

theorem cellAt_at (i j : Nat) (hi : i ≤ 8) (hj : j ≤ 8) (w : World) (x : Nat) (hx : x = if i < 8 ∧ j < 8 then 2 ^ (i * 8 + j) else 0) :
    Calls Tryd.prog 55 #[.int .i64 (i : Int), .int .i64 (j : Int)] w fun e w' => e = .returned (.int .u64 (x : Int)) ∧ w' = w := by
  by_cases h1 : i = 8
  · have hx0 : x = 0 := by rw [hx, if_neg (by omega)]
    clear hx
    subst hx0
    have g1 : (i : Int) ≥ 8 := by omega
    go_enter Tryd.func55, Tryd.ntmps55
    go_wp2
    go_ret
    exact ⟨rfl, rfl⟩
  · by_cases h2 : j = 8
    · have hx0 : x = 0 := by rw [hx, if_neg (by omega)]
      clear hx
      subst hx0
      have g1 : ¬ ((i : Int) ≥ 8) := by omega
      have g2 : (j : Int) ≥ 8 := by omega
      go_enter Tryd.func55, Tryd.ntmps55
      go_wp2
      go_ret
      exact ⟨rfl, rfl⟩
    · obtain ⟨k, hk⟩ : ∃ k : Nat, k = i * 8 + j := ⟨_, rfl⟩
      have hkI : (i : Int) * 8 + (j : Int) = (k : Int) := by omega
      have hk64 : k < 64 := by omega
      have hxp : x = 2 ^ k := by rw [hx, if_pos (by omega), hk]
      have g1 : ¬ ((i : Int) ≥ 8) := by omega
      have g2 : ¬ ((j : Int) ≥ 8) := by omega
      have hx64 : x < 18446744073709551616 := by rw [hxp]; exact Nat.pow_lt_pow_right (by omega) hk64
      have hsh : IntKind.u64.wrap (2 ^ k) = (x : Int) := by
        rw [IntKind.wrap_u64, hxp]
        have h2 : (2 : Nat) ^ k < 18446744073709551616 := by rw [← hxp]; exact hx64
        have e : ((2 : Int) ^ k) = ((2 ^ k : Nat) : Int) := by simp
        rw [e]; omega
      clear hx hk hxp
      go_enter Tryd.func55, Tryd.ntmps55
      go_wp2
      go_ret
      exact ⟨rfl, rfl⟩

theorem or_le {a b : Nat} (ha : a ≤ allC) (hb : b ≤ allC) : a ||| b ≤ allC := by
  have h := Nat.or_lt_two_pow (x := a) (y := b) (n := 64) (by unfold allC at ha; omega) (by unfold allC at hb; omega)
  unfold allC; omega
theorem lay_at (c a b : Nat) (w : World) (hc : c ≤ allC) (ha : a ≤ allC) (hb : b ≤ allC) (o : Bool) (ho : o = (decide (b ≠ 0) && decide (c &&& b = 0))) (d : Nat) (hd : d = c ||| a ||| b) :
    Calls Tryd.prog 57 #[.int .u64 (c : Int), .int .u64 (a : Int), .int .u64 (b : Int)] w fun e w' => e = .returned (.tuple #[.int .u64 (d : Int), .bool o]) ∧ w' = w := by
  have h1 : bits .or .u64 (c : Int) (a : Int) = ((c ||| a : Nat) : Int) := bits_or_u64_nat c a (by unfold allC at hc; omega) (by unfold allC at ha; omega)
  have h2 : bits .or .u64 ((c ||| a : Nat) : Int) (b : Int) = (d : Int) := by
    rw [hd]
    have := or_le hc ha
    exact bits_or_u64_nat _ b (by unfold allC at this; omega) (by unfold allC at hb; omega)
  obtain ⟨e, he⟩ : ∃ e : Nat, e = c ||| a := ⟨_, rfl⟩
  rw [← he] at h1 h2
  obtain ⟨f, hf⟩ : ∃ f : Nat, f = c &&& b := ⟨_, rfl⟩
  have h3 : bits .and .u64 (c : Int) (b : Int) = (f : Int) := by rw [hf]; exact bits_and_u64_nat c b (by unfold allC at hc; omega) (by unfold allC at hb; omega)
  rw [← hf] at ho
  clear hd he hf hc ha
  by_cases hb0 : b = 0
  · subst hb0
    have h2' : bits .or .u64 (e : Int) 0 = (d : Int) := h2
    obtain rfl : o = false := by rw [ho]; rfl
    clear ho h2
    go_enter Tryd.func57, Tryd.ntmps57
    go_wp2
    go_ret2
    exact ⟨rfl, rfl⟩
  · have hbb : ((b : Int) != 0) = true := by simp; omega
    obtain ⟨g, hg⟩ : ∃ g : Bool, ((f : Int) == 0) = g := ⟨_, rfl⟩
    obtain rfl : o = g := by
      rw [ho, ← hg, decide_eq_true hb0, Bool.true_and, Bool.eq_iff_iff]
      simp
    clear ho hb0
    go_enter Tryd.func57, Tryd.ntmps57
    go_wp2
    go_ret2
    exact ⟨rfl, rfl⟩
theorem co_xor (c : Nat) (hc : c ≤ allC) : allC ^^^ c = allC - c := by
  apply Nat.eq_of_testBit_eq
  intro q
  by_cases h : q < 64
  · rw [co_bit c q hc h, Nat.testBit_xor]
    have : allC.testBit q = true := by
      have := Nat.testBit_two_pow_sub_one 64 q
      rw [show 2 ^ 64 - 1 = allC from rfl] at this
      rw [this]; simpa using h
    rw [this]; cases c.testBit q <;> rfl
  · rw [Nat.testBit_lt_two_pow (x := allC ^^^ c), Nat.testBit_lt_two_pow (x := allC - c)]
    · exact Nat.lt_of_lt_of_le (show allC - c < 2 ^ 64 by unfold allC; omega) (Nat.pow_le_pow_right (by omega) (by omega))
    · exact Nat.lt_of_lt_of_le (Nat.xor_lt_two_pow (show allC < 2 ^ 64 by unfold allC; omega) (show c < 2 ^ 64 by unfold allC at hc; omega)) (Nat.pow_le_pow_right (by omega) (by omega))
theorem firstFree_at (c p : Nat) (w : World) (hc : c < allC) (hp : p = fstC c) (hT : TabAt 1 Lib.deBruijn64tab w) :
    Calls Tryd.prog 34 #[.int .u64 (c : Int)] w fun e w' => e = .returned (.tuple #[.int .i64 ((p / 8 : Nat) : Int), .int .i64 ((p % 8 : Nat) : Int)]) ∧ w' = w := by
  have hx : bits .xor .u64 (if IntKind.u64.signed = true then -1 else IntKind.u64.max) (c : Int) = ((allC - c : Nat) : Int) := by
    have h := bits_xor_u64_nat allC c (by unfold allC; omega) (by unfold allC at hc; omega)
    rw [co_xor c (by omega)] at h
    exact h
  have HC := hid_w (TZ64_at (allC - c) (by unfold allC; omega) (by omega) w hT)
  have h64 : p < 64 := by rw [hp]; exact (fst_spec hc).1
  unfold fstC at hp
  rw [← hp] at HC
  obtain ⟨x, hxx⟩ : ∃ x : Nat, x = allC - c := ⟨_, rfl⟩
  rw [← hxx] at hx HC
  obtain ⟨a, ha⟩ : ∃ a : Nat, a = p / 8 := ⟨_, rfl⟩
  obtain ⟨b, hb⟩ : ∃ b : Nat, b = p % 8 := ⟨_, rfl⟩
  have ha8 : a < 8 := by omega
  have hb8 : b < 8 := by omega
  have ha' : (p : Int).tdiv 8 = (a : Int) := by rw [ha, Int.tdiv_eq_ediv_of_nonneg (by omega)]; omega
  have hb' : (p : Int).tmod 8 = (b : Int) := by rw [hb, Int.tmod_eq_emod_of_nonneg (by omega)]; omega
  rw [← ha, ← hb]
  clear hp hxx ha hb hT
  go_enter Tryd.func34, Tryd.ntmps34
  go_wp2_with (go_at_call 56; with_reducible (refine HC.out.mono ?_); rintro e v1 ⟨rfl, rfl⟩)
  go_ret2
  exact ⟨rfl, rfl⟩

end Go.Proofs.YtcnmndbckjmliaaDoor
