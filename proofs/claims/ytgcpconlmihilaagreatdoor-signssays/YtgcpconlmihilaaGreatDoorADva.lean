/-
  ferrersbig.div where it is short: a number that is less, numbers of two words at most, a divisor of one word.
  ferrersbig.div by one word.
  The long division, made ready: the divisor's top word is great; rows and copies of words.
-/
import Derived.Test.YtgcpconlmihilaaGreatDoorARgt
import Derived.Laws.CopyOwn
namespace Go.Proofs.YtgcpconlmihilaaGreatDoor
open Go.RowKit

/-- What div answers. -/
def DivR (w : World) (x y n : Nat) (e : Ending) (w' : World) : Prop :=
  ∃ v1 us1 v2 us2, e = .returned (.tuple #[v1, v2]) ∧ OwnsN w' w.heap.size v1 us1 (x / y) ∧ OwnsN w' w.heap.size v2 us2 (x % y) ∧ us1.length ≤ n ∧ us2.length ≤ n ∧ Below w.heap.size w w'

theorem num_pos_len {us : List Nat} {x n : Nat} (h : Num us x) (hn : n = us.length) (hx : 0 < x) : 0 < n := by
  rcases Nat.eq_zero_or_pos n with e | e
  · have := (num_zero h).1 (List.eq_nil_of_length_eq_zero (by omega)); omega
  · exact e

set_option maxHeartbeats 8000000 in
set_option maxRecDepth 100000 in
theorem div_less (a b : Option Addr) (ca cb n m : Nat) (xs ys : List Nat) (x y : Nat) (w : World) (ha : ShowsW w a ca xs) (hb : ShowsW w b cb ys) (hn : n = xs.length) (hm : m = ys.length) (hx : Num xs x) (hy : Num ys y) (hx0 : 0 < x) (hlt : x < y) :
    Calls Tryz.prog 62 #[.slice a n ca, .slice b m cb] w (DivR w x y n) := by
  have h0 := num_pos_len hx hn hx0
  have h1 := num_pos_len hy hm (by omega)
  have hm0 : ¬ (m : Int) = 0 := by omega
  have HC : Hid (Calls Tryz.prog 86 #[.slice a n ca, .slice b m cb] w fun e w' => e = .returned (.int .i64 (-1)) ∧ ∃ d, w' = w.drewN d) := by
    refine (bcmp_at a b ca cb n m xs ys x y w ha hb hn hm hx hy).mono ?_
    rintro e w' ⟨rfl, hd⟩
    exact ⟨by unfold cmN; rw [if_pos hlt], hd⟩
  have HT : Hid (∀ d, Calls Tryz.prog 59 #[.slice a n ca] (w.drewN d) fun e w' => ∃ v, e = .returned v ∧ Hid (OwnsN w' w.heap.size v xs x ∧ Below w.heap.size w w')) := fun d => by
    have hB : Below w.heap.size w (w.drewN d) := below_drewN (Below.refl _ _) d
    refine (twin_at a ca n xs x (w.drewN d) (ha.below hB) hn h0 hx).mono ?_
    rintro e w' ⟨v, rfl, h2, h3⟩
    exact ⟨v, rfl, h2, hB.trans h3⟩
  have HX : Hid (n = xs.length) := hn
  clear ha hb hn hm hx hy
  go_enter Tryz.func62, Tryz.ntmps62
  go_wp2_with fail
  refine HC.out.mono ?_
  rintro e w1 ⟨rfl, d, rfl⟩
  go_wp2_with fail
  refine (HT.out d).mono ?_
  rintro e w2 ⟨v, rfl, HR⟩
  go_wp2
  go_ret2
  exact ⟨.slice none 0 0, [], v, xs, rfl, by rw [Nat.div_eq_of_lt hlt]; exact ownsN_nil _ _, by rw [Nat.mod_eq_of_lt hlt]; exact HR.out.1, Nat.zero_le _, by rw [HX.out]; exact Nat.le_refl _, HR.out.2⟩

theorem num_nonzero {us : List Nat} {y m : Nat} (h : Num us y) (hm : m = us.length) (h1 : 0 < m) : 0 < y := by
  rcases Nat.eq_zero_or_pos y with e | e
  · have := (num_zero h).2 e; rw [this] at hm; simp at hm; omega
  · exact e
theorem cmN_ge {x y : Nat} (h : y ≤ x) : ∃ c : Int, cmN x y = c ∧ 0 ≤ c := by
  unfold cmN
  rw [if_neg (by omega)]
  split
  · exact ⟨1, rfl, by omega⟩
  · exact ⟨0, rfl, by omega⟩

set_option maxHeartbeats 8000000 in
set_option maxRecDepth 100000 in
theorem div_two (a b : Option Addr) (ca cb n m : Nat) (xs ys : List Nat) (x y : Nat) (w : World) (ha : ShowsW w a ca xs) (hb : ShowsW w b cb ys) (hn : n = xs.length) (hm : m = ys.length) (hx : Num xs x) (hy : Num ys y) (hy0 : 0 < y) (hge : y ≤ x) (h2 : n ≤ 2) :
    Calls Tryz.prog 62 #[.slice a n ca, .slice b m cb] w (fun e w' => DivR w x y 2 e w') := by
  have h1 := num_pos_len hy hm hy0
  have hm0 : ¬ (m : Int) = 0 := by omega
  have h2' : (n : Int) ≤ 2 := by omega
  have hm2 : m ≤ 2 := by
    rcases Nat.lt_or_ge n m with h | h
    · have := num_len_lt hx hy (by omega); omega
    · omega
  obtain ⟨c, hc, hc0⟩ := cmN_ge hge
  have hcn : ¬ c < 0 := by omega
  have HC : Hid (Calls Tryz.prog 86 #[.slice a n ca, .slice b m cb] w fun e w' => e = .returned (.int .i64 c) ∧ ∃ d, w' = w.drewN d) := by
    refine (bcmp_at a b ca cb n m xs ys x y w ha hb hn hm hx hy).mono ?_
    rintro e w' ⟨rfl, hd⟩
    exact ⟨by rw [hc], hd⟩
  have HP : Hid (∀ d, Calls Tryz.prog 85 #[.slice a n ca] (w.drewN d) fun e w' => e = .returned (.int .u64 (x : Int)) ∧ w' = w.drewN d ∧ x < 18446744073709551616) := fun d =>
    plain_at a ca n xs x (w.drewN d) (ha.below (below_drewN (Below.refl _ _) d)) hn h2 hx
  have HQ : Hid (∀ d, Calls Tryz.prog 85 #[.slice b m cb] (w.drewN d) fun e w' => e = .returned (.int .u64 (y : Int)) ∧ w' = w.drewN d ∧ y < 18446744073709551616) := fun d =>
    plain_at b cb m ys y (w.drewN d) (hb.below (below_drewN (Below.refl _ _) d)) hm hm2 hy
  obtain ⟨q, hq⟩ : ∃ q, q = x / y := ⟨_, rfl⟩
  obtain ⟨r, hr⟩ : ∃ r, r = x % y := ⟨_, rfl⟩
  have HQd : Hid (q = x / y) := hq
  have HRd : Hid (r = x % y) := hr
  have hqx : q ≤ x := by rw [hq]; exact Nat.div_le_self _ _
  have hrx : r ≤ x := by rw [hr]; exact Nat.mod_le _ _
  have hy1 : ¬ (y : Int) = 0 := by omega
  have htd : (x : Int).tdiv (y : Int) = (q : Int) := by rw [hq]; rfl
  have htm : (x : Int).tmod (y : Int) = (r : Int) := by rw [hr]; rfl
  clear ha hb hn hm hx hy hc hq hr hc0
  go_enter Tryz.func62, Tryz.ntmps62
  go_wp2_with fail
  refine HC.out.mono ?_
  rintro e w1 ⟨rfl, d, rfl⟩
  go_wp2_with fail
  refine (HP.out d).mono ?_
  rintro e w2 ⟨rfl, rfl, hx64⟩
  go_wp2_with fail
  refine (HQ.out d).mono ?_
  rintro e w3 ⟨rfl, rfl, hy64⟩
  have hwq : IntKind.u64.wrap (q : Int) = (q : Int) := wraps_u64 _ (by omega) (by omega)
  have HW1 : Hid (∀ W, (∃ d', W = w.drewN d') → Calls Tryz.prog 63 #[.int .u64 (q : Int)] W fun e w' => ∃ v us, e = .returned v ∧ Hid (OwnsN w' w.heap.size v us q) ∧ Hid (us.length ≤ 2) ∧ Hid (Below w.heap.size w w')) := by
    rintro W ⟨d', rfl⟩
    refine (words_at q (by omega) _).mono ?_
    rintro e w4 ⟨v1, us1, rfl, H1, L1, B1⟩
    exact ⟨v1, us1, rfl, H1, L1, (below_drewN (Below.refl _ _) d').trans B1⟩
  have HW2 : Hid (∀ W v1 us1, Below w.heap.size w W → OwnsN W w.heap.size v1 us1 q → Calls Tryz.prog 63 #[.int .u64 (r : Int)] W fun e w' => ∃ v us, e = .returned v ∧ Hid (OwnsN w' w.heap.size v us r ∧ OwnsN w' w.heap.size v1 us1 q ∧ us.length ≤ 2 ∧ Below w.heap.size w w')) := by
    intro W v1 us1 hW hO
    refine (words_at r (by omega) _).mono ?_
    rintro e w5 ⟨v2, us2, rfl, H2, L2, B2⟩
    exact ⟨v2, us2, rfl, H2.mono hW.size, hO.below B2, L2, hW.trans (B2.mono hW.size)⟩
  clear HC HP HQ hx64 hy64
  go_wp2_with fail
  go_region_with (go_at_call 63; first
    | (with_reducible refine (HW1.out _ (by first | exact ⟨d, rfl⟩ | exact ⟨d + 1, rfl⟩ | exact ⟨d + 2, rfl⟩)).mono ?_; rintro e W1 ⟨v1, us1, rfl, HO1, HL1, HB1⟩)
    | (with_reducible refine (HW2.out _ v1 us1 (by first | exact HB1.out | exact below_drewN HB1.out 1) (by first | exact HO1.out | exact HO1.out.below (below_drewN (Below.refl _ _) 1))).mono ?_; rintro e W2 ⟨v2, us2, rfl, HR⟩))
  all_goals go_wp2
  all_goals go_ret2
  all_goals exact ⟨v1, us1, v2, us2, rfl, by rw [← HQd.out]; exact HR.out.2.1, by rw [← HRd.out]; exact HR.out.1, HL1.out, HR.out.2.2.1, HR.out.2.2.2⟩

end Go.Proofs.YtgcpconlmihilaaGreatDoor

namespace Go.Proofs.YtgcpconlmihilaaGreatDoor
open Go.RowKit

set_option maxHeartbeats 8000000 in
set_option maxRecDepth 100000 in
theorem div_word (a b : Option Addr) (ca cb n : Nat) (xs ys : List Nat) (x y : Nat) (w : World) (ha : ShowsW w a ca xs) (hb : ShowsW w b cb ys) (hn : n = xs.length) (hm : 1 = ys.length) (hx : Num xs x) (hy : Num ys y) (hy0 : 0 < y) (hge : y ≤ x) (h2 : 2 < n) :
    Calls Tryz.prog 62 #[.slice a n ca, .slice b 1 cb] w (DivR w x y n) := by
  have h2' : ¬ (n : Int) ≤ 2 := by omega
  have hn6 : n ≤ 1000000 := by rw [hn]; exact ha.few
  obtain ⟨c, hc, hc0⟩ := cmN_ge hge
  have hcn : ¬ c < 0 := by omega
  obtain ⟨b1, o1, u, rfl, HU, hu, -, hcu⟩ := hb.elem (k := 0) (by omega)
  obtain rfl : y = u := by
    rcases ys with _ | ⟨z, _ | ⟨z2, l⟩⟩
    · simp at hm
    · have e := hy.eq
      have e2 := HU.out
      simp only [val, Nat.mul_zero, Nat.add_zero] at e
      simp at e2
      omega
    · simp at hm
  rw [Nat.add_zero] at hcu
  have HC : Hid (Calls Tryz.prog 86 #[.slice a n ca, .slice (some ⟨b1, o1, none⟩) 1 cb] w fun e w' => e = .returned (.int .i64 c) ∧ w'.cell? ⟨b1, o1, none⟩ = some (.int .u32 (y : Int)) ∧ ∃ d, w' = w.drewN d) := by
    refine (bcmp_at a _ ca cb n 1 xs ys x y w ha hb hn hm hx hy).mono ?_
    rintro e w' ⟨rfl, d, rfl⟩
    exact ⟨by rw [hc], hcu, d, rfl⟩
  have HS : Hid (∀ W, (∃ d', W = w.drewN d') → Calls Tryz.prog 87 #[.slice a n ca, .int .u32 (y : Int)] W fun e w' => ∃ v us, e = .returned (.tuple #[v, .int .u32 ((x % y : Nat) : Int)]) ∧ Hid (OwnsN w' w.heap.size v us (x / y)) ∧ Hid (us.length ≤ n) ∧ Hid (Below w.heap.size w w')) := by
    rintro W ⟨d', rfl⟩
    have hB : Below w.heap.size w (w.drewN d') := below_drewN (Below.refl _ _) d'
    refine (small_at a ca n y xs x _ (ha.below hB) hn (by omega) hx hy0 hu).mono ?_
    rintro e w4 ⟨v1, us1, rfl, H1, L1, B1⟩
    exact ⟨v1, us1, rfl, H1, L1, hB.trans B1⟩
  obtain ⟨r, hr⟩ : ∃ r, r = x % y := ⟨_, rfl⟩
  rw [← hr] at HS
  have hr2 : r < 4294967296 := by rw [hr]; have := Nat.mod_lt x hy0; omega
  have HRd : Hid (r = x % y) := hr
  have HW : Hid (Wd [r]) := fun z hz => by simp at hz; omega
  clear ha hb hn hm hx hy hc hr hc0 HU hcu
  go_enter Tryz.func62, Tryz.ntmps62
  go_wp2_with fail
  refine HC.out.mono ?_
  rintro e w1 ⟨rfl, hcu, d, HE⟩
  have HD : Hid (w1 = w.drewN d) := HE
  clear HE
  go_wp2_with fail
  refine (HS.out _ ⟨d, HD.out⟩).mono ?_
  rintro e w2 ⟨v1, us1, rfl, HO1, HL1, HB1⟩
  go_wp2_with fail
  have hO : OwnsW (w2.alloc (.cells #[.int .u32 (r : Int)] 89)) w2.heap.size (.slice (some ⟨w2.heap.size, 0, none⟩) 1 1) [r] := ownsW_new w2 [r] 1 rfl (by simp)
  obtain ⟨a3, cap3, hv3, hS⟩ := hO.shows (by simp) HW.out (fun a n cap h _ => by simp only [Value.slice.injEq] at h; omega)
  simp only [Value.slice.injEq] at hv3
  obtain ⟨rfl, -, rfl⟩ := hv3
  have hA : Below w2.heap.size w2 (w2.alloc (.cells #[.int .u32 (r : Int)] 89)) := (Below.refl _ _).alloc (Nat.le_refl _) _
  have hg : w.heap.size ≤ w2.heap.size := HB1.out.size
  have HT : Hid (OwnsN (w2.alloc (.cells #[.int .u32 (r : Int)] 89)) w.heap.size (.slice (some ⟨w2.heap.size, 0, none⟩) (norm [r]).length 1) (norm [r]) r) := by
    have := (ownsN_trim hO HW.out (by omega)).mono hg
    rw [show val [r] = r by simp [val]] at this; exact this
  have HO2 : Hid (OwnsN (w2.alloc (.cells #[.int .u32 (r : Int)] 89)) w.heap.size v1 us1 (x / y)) := HO1.out.below hA
  have HB2 : Hid (Below w.heap.size w (w2.alloc (.cells #[.int .u32 (r : Int)] 89))) := HB1.out.trans (hA.mono hg)
  have HL : Hid ((norm [r]).length ≤ n) := by show _ ≤ _; have := norm_len [r]; simp only [List.length_cons, List.length_nil] at this; omega
  refine (trim_at _ _ _ _ _ hS rfl).mono ?_
  clear hS hO hA hg
  rintro e w' ⟨rfl, rfl⟩
  go_wp2
  go_ret2
  exact ⟨v1, us1, _, norm [r], rfl, HO2.out, by rw [← HRd.out]; exact HT.out, HL1.out, HL.out, HB2.out⟩

end Go.Proofs.YtgcpconlmihilaaGreatDoor

namespace Go.Proofs.YtgcpconlmihilaaGreatDoor
open Go.RowKit

theorem val_top {l : List Nat} {m : Nat} (hm : m + 1 = l.length) : val l = val (l.take m) + 4294967296 ^ m * l.getD m 0 := by
  have e : val (l.take (m + 1)) = val l := by rw [List.take_of_length_le (by omega)]
  rw [val_take (by omega)] at e
  exact e.symm
/-- The divisor put to the left has as many words, and its top one is great. -/
theorem left_top {ys us : List Nat} {y m k s : Nat} (hy : Num ys y) (hm : m + 1 = ys.length) (h1 : 2 ^ k ≤ ys.getD m 0) (h2 : ys.getD m 0 < 2 ^ (k + 1)) (hk : k < 32) (hs : s = 31 - k) (hu : Num us (y * 2 ^ s)) :
    us.length = m + 1 ∧ 2147483648 ≤ us.getD m 0 := by
  have e := val_top hm
  rw [hy.eq] at e
  have ht := val_take_lt hy.wd m
  have p1 : 2 ^ k * 2 ^ s = 2147483648 := by rw [← Nat.pow_add, show k + s = 31 by omega]
  have p2 : 2 ^ (k + 1) * 2 ^ s = 4294967296 := by rw [← Nat.pow_add, show k + 1 + s = 32 by omega]
  have b1 : y * 2 ^ s < 4294967296 ^ (m + 1) := by
    have : y + 1 ≤ 4294967296 ^ m * 2 ^ (k + 1) := by
      have := Nat.mul_le_mul_left (4294967296 ^ m) (show ys.getD m 0 + 1 ≤ 2 ^ (k + 1) from h2)
      rw [Nat.mul_add, Nat.mul_one] at this
      omega
    have h3 := Nat.mul_le_mul_right (2 ^ s) this
    rw [Nat.mul_assoc, p2, Nat.add_mul, ← Nat.pow_succ] at h3
    have : 0 < 2 ^ s := Nat.pow_pos (by omega)
    omega
  have b2 : 4294967296 ^ m * 2147483648 ≤ y * 2 ^ s := by
    rw [← p1, ← Nat.mul_assoc]
    refine Nat.mul_le_mul_right _ ?_
    have := Nat.mul_le_mul_left (4294967296 ^ m) h1
    omega
  have l1 := num_len hu b1
  have l2 : m < us.length := by
    rcases Nat.lt_or_ge m us.length with h | h
    · exact h
    · have h3 := val_lt us hu.wd
      have h4 : 4294967296 ^ us.length ≤ 4294967296 ^ m := Nat.pow_le_pow_right (by omega) h
      have h5 : 4294967296 ^ m * 1 ≤ 4294967296 ^ m * 2147483648 := Nat.mul_le_mul_left _ (by omega)
      rw [hu.eq] at h3
      omega
  have hl : m + 1 = us.length := by omega
  refine ⟨hl.symm, ?_⟩
  have e2 := val_top hl
  rw [hu.eq] at e2
  have ht2 := val_take_lt hu.wd m
  have h6 : 4294967296 ^ m * 2147483648 < 4294967296 ^ m * (us.getD m 0 + 1) := by rw [Nat.mul_add, Nat.mul_one]; omega
  have := Nat.lt_of_mul_lt_mul_left h6
  omega

theorem OwnsW.row {w : World} {base g n : Nat} {us : List Nat} (h : OwnsW w base (.slice (some ⟨g, 0, none⟩) n n) us) (hn : n = us.length) : w.heap[g]? = some (.cells (us.map wv).toArray 89 (0, 0)) ∧ base ≤ g := by
  subst hn
  rcases h.2 with ⟨h1, _⟩ | ⟨g', cap, cur, hv, hg, hh, h3, h4, h5, h6⟩
  · cases h1
  · simp only [Value.slice.injEq, Option.some.injEq, Addr.mk.injEq] at hv
    obtain ⟨⟨rfl, -, -⟩, -, rfl⟩ := hv
    refine ⟨?_, hg⟩
    rw [hh, ← h6, List.take_of_length_le (by simp; omega)]
theorem OwnsW.ofRow {w : World} {base g : Nat} {us : List Nat} (h : w.heap[g]? = some (.cells (us.map wv).toArray 89 (0, 0))) (hb : base ≤ g) (hl : us.length ≤ 1000000) : OwnsW w base (.slice (some ⟨g, 0, none⟩) us.length us.length) us :=
  ⟨by simp, Or.inr ⟨g, us.length, (us.map wv).toArray, rfl, hb, h, Nat.le_refl _, by unfold maxLen; omega, by simp, by simp; rw [List.take_of_length_le (by simp)]⟩⟩
/-- A store elsewhere. -/
theorem OwnsW.other {w : World} {base g g' n cap j : Nat} {us : List Nat} {x : Value} (h : OwnsW w base (.slice (some ⟨g, 0, none⟩) n cap) us) (hne : g ≠ g') : OwnsW (w.setCell ⟨g', j, none⟩ x) base (.slice (some ⟨g, 0, none⟩) n cap) us :=
  h.blocks (fun k e => by simp only [Value.ownBlock, Option.some.injEq] at e; subst e; exact heap_setCell_other _ _ _ _ hne)
theorem wv_one (us : List Nat) : ∀ u ∈ us.map wv, u.oneCell' = true := fun u hu => by
  obtain ⟨z, _, rfl⟩ := List.mem_map.1 hu
  rfl
theorem val_app_zeros (l : List Nat) (n : Nat) : val (l ++ List.replicate n 0) = val l := by
  have e := val_split (l ++ List.replicate n 0) l.length
  rw [List.take_left' rfl, List.drop_left' rfl, val_zeros, Nat.mul_zero, Nat.add_zero] at e
  exact e
theorem wd_app_zeros {l : List Nat} (h : Wd l) (n : Nat) : Wd (l ++ List.replicate n 0) := fun u hu => by
  rw [List.mem_append] at hu
  rcases hu with hu | hu
  · exact h u hu
  · rw [List.eq_of_mem_replicate hu]; omega

end Go.Proofs.YtgcpconlmihilaaGreatDoor
