/-
  The contract of ferrersbig.plain: a number of two words at most; words compared, all three answers.
  The contract of ferrersbig.length at a number that is not 0.
  The contract of ferrersbig.left, by less than a word.
  The contract of ferrersbig.right, by less than a word.
-/
import Derived.Test.YtgcpconlmihilaaGreatDoorATwn
import Derived.Test.YtgcpconlmihilaaGreatDoorABig
namespace Go.Proofs.YtgcpconlmihilaaGreatDoor
open Go.RowKit

set_option maxHeartbeats 4000000 in
theorem plain_at (a : Option Addr) (ca n : Nat) (xs : List Nat) (x : Nat) (w : World) (ha : ShowsW w a ca xs) (hn : n = xs.length) (h2 : n ≤ 2) (hx : Num xs x) :
    Calls Tryz.prog 85 #[.slice a n ca] w fun e w' => e = .returned (.int .u64 (x : Int)) ∧ w' = w ∧ x < 18446744073709551616 := by
  have hv := hx.eq
  have hwd := hx.wd
  rcases xs with _ | ⟨u, _ | ⟨v, _ | ⟨z, l⟩⟩⟩
  · obtain rfl : n = 0 := hn
    simp only [val] at hv
    subst hv
    clear ha hx hwd h2
    go_enter Tryz.func85, Tryz.ntmps85
    go_wp2
    go_ret
    exact ⟨rfl, rfl, by omega⟩
  · obtain rfl : n = 1 := hn
    obtain ⟨b, off, u', rfl, hu, hlt, -, hc⟩ := ha.elem (k := 0) (by simp)
    obtain rfl : u' = u := hu.out
    rw [Nat.add_zero] at hc
    simp only [val, Nat.mul_zero, Nat.add_zero] at hv
    subst hv
    clear ha hx hwd h2
    go_enter Tryz.func85, Tryz.ntmps85
    go_wp2
    go_ret
    exact ⟨rfl, rfl, by omega⟩
  · obtain rfl : n = 2 := hn
    obtain ⟨b, off, u', rfl, hu, hlt, -, hc⟩ := ha.elem (k := 0) (by simp)
    obtain rfl : u' = u := hu.out
    rw [Nat.add_zero] at hc
    obtain ⟨b2, off2, v', he, hv', hlt2, -, hc2⟩ := ha.elem (k := 1) (by simp)
    obtain rfl : v' = v := hv'.out
    simp only [Option.some.injEq, Addr.mk.injEq] at he
    obtain ⟨rfl, rfl, -⟩ := he
    simp only [val, Nat.mul_zero, Nat.add_zero] at hv
    have HOr : Hid (bits BinOp.or IntKind.u64 (u' : Int) ((v' : Int) * 4294967296) = (x : Int)) := by
      show _ = _
      rw [bits_join_low .u64 64 (by decide) wraps_u64 32 _ _ (by omega) (by omega) (by omega) (by omega) (by omega) (by omega)]
      omega
    have hlx : x < 18446744073709551616 := by omega
    clear ha hx hwd h2 hv
    go_enter Tryz.func85, Tryz.ntmps85
    go_wp2_with fail
    rw [HOr.out]
    go_ret
    exact ⟨rfl, rfl, hlx⟩
  · simp only [List.length_cons] at hn; omega

/-- Longer is more. -/
theorem num_len_lt {xs ys : List Nat} {x y : Nat} (hx : Num xs x) (hy : Num ys y) (h : xs.length < ys.length) : x < y := by
  rcases Nat.lt_or_ge x y with h1 | h1
  · exact h1
  · have h2 : x < 4294967296 ^ xs.length := by rw [← hx.eq]; exact val_lt _ hx.wd
    have := num_len hy (k := xs.length) (by omega)
    omega
/-- Alike above, less at a word: less. -/
theorem val_less {xs ys : List Nat} {k : Nat} (hl : xs.length = ys.length) (hk : k < xs.length) (hw : Wd xs) (hd : xs.drop (k + 1) = ys.drop (k + 1)) (h : xs.getD k 0 < ys.getD k 0) : val xs < val ys := by
  have e1 := val_split xs k
  have e2 := val_split ys k
  rw [val_drop hk, hd] at e1
  rw [val_drop (by omega : k < ys.length)] at e2
  have h1 := val_take_lt hw k
  have h2 : 4294967296 ^ k * (xs.getD k 0 + 4294967296 * val (ys.drop (k + 1)) + 1) ≤ 4294967296 ^ k * (ys.getD k 0 + 4294967296 * val (ys.drop (k + 1))) := Nat.mul_le_mul_left _ (by omega)
  rw [Nat.mul_add _ _ 1, Nat.mul_one] at h2
  omega
/-- The answer of cmp. -/
def cmN (x y : Nat) : Int := if x < y then -1 else if y < x then 1 else 0

set_option maxHeartbeats 8000000 in
set_option maxRecDepth 100000 in
theorem bcmp_at (a b : Option Addr) (ca cb n m : Nat) (xs ys : List Nat) (x y : Nat) (w : World) (ha : ShowsW w a ca xs) (hb : ShowsW w b cb ys) (hn : n = xs.length) (hm : m = ys.length) (hx : Num xs x) (hy : Num ys y) :
    Calls Tryz.prog 86 #[.slice a n ca, .slice b m cb] w fun e w' => e = .returned (.int .i64 (cmN x y)) ∧ ∃ d, w' = w.drewN d := by
  have hn6 : n ≤ 1000000 := by rw [hn]; exact ha.few
  have hm6 : m ≤ 1000000 := by rw [hm]; exact hb.few
  rcases Nat.lt_trichotomy n m with h | h | h
  · have hc : cmN x y = -1 := by have := num_len_lt hx hy (by omega); unfold cmN; rw [if_pos this]
    have h1 : ¬ (n : Int) = (m : Int) := by omega
    have h2 : (n : Int) < (m : Int) := by omega
    rw [hc]
    clear ha hb hx hy hn hm hc
    go_enter Tryz.func86, Tryz.ntmps86
    go_wp2
    go_ret
    exact ⟨rfl, 0, rfl⟩
  · subst h
    have HA : Hid (ShowsW w a ca xs) := ha
    have HB : Hid (ShowsW w b cb ys) := hb
    have HN : Hid (n = xs.length) := hn
    have HM : Hid (n = ys.length) := hm
    have HX : Hid (Num xs x) := hx
    have HY : Hid (Num ys y) := hy
    clear ha hb hx hy hn hm
    go_enter Tryz.func86, Tryz.ntmps86
    go_wp2
    go_loopw [5] (fun iv wr => ∃ k : Nat, k ≤ n ∧ iv = .int .i64 ((k : Int) - 1) ∧ Hid (xs.drop k = ys.drop k) ∧ Hid (∃ d, wr = w.drewN d)) (fun iv _ => ((intOf iv) + 1).toNat)
    case atStart => exact ⟨n, Nat.le_refl _, rfl, by show _ = _; rw [List.drop_eq_nil_of_le (by rw [← HN.out]; omega), List.drop_eq_nil_of_le (by rw [← HM.out]; omega)], ⟨0, rfl⟩⟩
    case round =>
      obtain ⟨k, hk, rfl, HE, HD⟩ := hrel
      rcases Nat.eq_zero_or_pos k with h0 | h0
      · subst h0
        have hc : cmN x y = 0 := by
          have e : xs = ys := by simpa using HE.out
          have e1 := HX.out.eq
          have e2 := HY.out.eq
          rw [e] at e1
          unfold cmN
          rw [if_neg (by omega), if_neg (by omega)]
        go_wp2
        go_ret
        exact ⟨by rw [hc]; rfl, HD.out⟩
      · obtain ⟨j, Hj⟩ : ∃ j, Hid (k = j + 1) := ⟨k - 1, by show _ = _; omega⟩
        have hj : (k : Int) - 1 = (j : Int) := by have := Hj.out; omega
        have hjn : j < n := by have := Hj.out; omega
        have hjn' : (j : Int) < (n : Int) := by omega
        have hj0 : (0 : Int) ≤ (j : Int) := by omega
        obtain ⟨d, hd⟩ := HD.out
        obtain ⟨b1, o1, u, hax, HU, hu, -, hc1⟩ := HA.out.elem (k := j) (by rw [← HN.out]; exact hjn)
        obtain ⟨b2, o2, v, hay, HV, hv, -, hc2⟩ := HB.out.elem (k := j) (by rw [← HM.out]; exact hjn)
        subst hax; subst hay
        have hc1' : wr.cell? ⟨b1, o1 + j, none⟩ = some (.int .u32 (u : Int)) := by rw [hd]; exact hc1
        have hc2' : wr.cell? ⟨b2, o2 + j, none⟩ = some (.int .u32 (v : Int)) := by rw [hd]; exact hc2
        have HD1 : Hid (∃ d, wr.drew = w.drewN d) := ⟨d + 1, by rw [hd]; rfl⟩
        have HD2 : Hid (∃ d, wr.drew.drew = w.drewN d) := ⟨d + 2, by rw [hd]; rfl⟩
        have HE1 : Hid (xs.drop (j + 1) = ys.drop (j + 1)) := by have := HE.out; rw [Hj.out] at this; exact this
        have hlt : Hid (u < v → cmN x y = -1) := fun h => by
          have := val_less (by rw [← HN.out, ← HM.out]) (by rw [← HN.out]; exact hjn) HX.out.wd HE1.out (by rw [← HU.out, ← HV.out]; exact h)
          rw [HX.out.eq, HY.out.eq] at this
          unfold cmN; rw [if_pos this]
        have hgt : Hid (v < u → cmN x y = 1) := fun h => by
          have := val_less (by rw [← HN.out, ← HM.out]) (by rw [← HM.out]; exact hjn) HY.out.wd HE1.out.symm (by rw [← HU.out, ← HV.out]; exact h)
          rw [HX.out.eq, HY.out.eq] at this
          unfold cmN; rw [if_neg (by omega), if_pos this]
        have heq : Hid (u = v → xs.drop j = ys.drop j) := fun h => by
          have e1 : xs.drop j = xs.getD j 0 :: xs.drop (j + 1) := by
            have hj2 : j < xs.length := by rw [← HN.out]; exact hjn
            rw [List.drop_eq_getElem_cons hj2]; simp [List.getD, List.getElem?_eq_getElem hj2]
          have e2 : ys.drop j = ys.getD j 0 :: ys.drop (j + 1) := by
            have hj2 : j < ys.length := by rw [← HM.out]; exact hjn
            rw [List.drop_eq_getElem_cons hj2]; simp [List.getD, List.getElem?_eq_getElem hj2]
          rw [e1, e2, HE1.out, ← HU.out, ← HV.out, h]
        clear hc1 hc2 hd
        rw [hj]
        rcases Nat.lt_trichotomy u v with h | h | h
        · have g1 : ¬ (u : Int) = (v : Int) := by omega
          have g2 : (u : Int) < (v : Int) := by omega
          go_wp2_with fail
          go_region
          all_goals go_wp2_with fail
          all_goals go_region
          all_goals go_wp2
          all_goals go_ret
          all_goals exact ⟨by rw [hlt.out h]; rfl, HD2.out⟩
        · subst h
          have HEQ : Hid (xs.drop j = ys.drop j) := heq.out rfl
          clear heq hlt hgt
          go_wp2_with fail
          go_region
          all_goals go_wp2
          all_goals exact ⟨⟨j, by omega, rfl, HEQ, HD1⟩, by simp [intOf]⟩
        · have g1 : ¬ (u : Int) = (v : Int) := by omega
          have g2 : ¬ (u : Int) < (v : Int) := by omega
          go_wp2_with fail
          go_region
          all_goals go_wp2_with fail
          all_goals go_region
          all_goals go_wp2
          all_goals go_ret
          all_goals exact ⟨by rw [hgt.out h]; rfl, HD2.out⟩
  · have hc : cmN x y = 1 := by have := num_len_lt hy hx (by omega); unfold cmN; rw [if_neg (by omega), if_pos this]
    have h1 : ¬ (n : Int) = (m : Int) := by omega
    have h2 : ¬ (n : Int) < (m : Int) := by omega
    rw [hc]
    clear ha hb hx hy hn hm hc
    go_enter Tryz.func86, Tryz.ntmps86
    go_wp2
    go_ret
    exact ⟨rfl, 0, rfl⟩

end Go.Proofs.YtgcpconlmihilaaGreatDoor

namespace Go.Proofs.YtgcpconlmihilaaGreatDoor
open Go.RowKit

/-- How many bits a word has. -/
theorem bits_of {t c : Nat} (h : t / 2 ^ c ≠ 0) : 2 ^ c ≤ t := by
  rcases Nat.lt_or_ge t (2 ^ c) with h1 | h1
  · exact absurd (Nat.div_eq_of_lt h1) h
  · exact h1

set_option maxHeartbeats 4000000 in
set_option maxRecDepth 100000 in
theorem length_at (a : Option Addr) (ca n : Nat) (xs : List Nat) (w : World) (ha : ShowsW w a ca xs) (hn : n = xs.length) (h0 : 0 < n) (ht : xs.getD (n - 1) 0 ≠ 0) :
    Calls Tryz.prog 88 #[.slice a n ca] w fun e w' => ∃ k : Nat, e = .returned (.int .i64 (((n : Int) - 1) * 32 + ((k : Int) + 1))) ∧ w' = w ∧ k < 32 ∧ 2 ^ k ≤ xs.getD (n - 1) 0 ∧ xs.getD (n - 1) 0 < 2 ^ (k + 1) := by
  have hn6 : n ≤ 1000000 := by rw [hn]; exact ha.few
  obtain ⟨b, off, t, rfl, ht2, hlt, -, hc⟩ := ha.elem (k := n - 1) (by omega)
  rw [← ht2.out]
  rw [← ht2.out] at ht
  obtain ⟨m, hm⟩ : ∃ m, m = n - 1 := ⟨_, rfl⟩
  rw [← hm] at hc
  have hm1 : (n : Int) - 1 = (m : Int) := by omega
  have hmn : (m : Int) < (n : Int) := by omega
  have hn0 : ¬ (n : Int) = 0 := by omega
  have HT : Hid (t ≠ 0) := ht
  have HL : Hid (t < 4294967296) := hlt
  clear ha hn ht ht2 hm
  go_enter Tryz.func88, Tryz.ntmps88
  go_wp2_with fail
  try rw [hm1]
  go_wp2
  go_loop [3, 4] (fun c i => ∃ k : Nat, k ≤ 32 ∧ c = .int .i64 (k : Int) ∧ i = .int .u32 ((t / 2 ^ k : Nat) : Int) ∧ Hid (0 < k → 2 ^ (k - 1) ≤ t)) (fun _ i => (intOf i).toNat)
  case atStart => exact ⟨0, by omega, rfl, by simp, fun h => absurd h (by omega)⟩
  case round =>
    obtain ⟨k, hk, rfl, rfl, HK⟩ := hrel
    obtain ⟨s, hs⟩ : ∃ s, s = t / 2 ^ k := ⟨_, rfl⟩
    rw [← hs]
    by_cases hs0 : s = 0
    · subst hs0
      have hk0 : 0 < k := by
        rcases Nat.eq_zero_or_pos k with e | e
        · subst e; simp at hs; exact absurd hs.symm HT.out
        · exact e
      have hlt2 : t < 2 ^ k := by
        rcases Nat.lt_or_ge t (2 ^ k) with h1 | h1
        · exact h1
        · have := Nat.div_pos h1 (Nat.pow_pos (by omega : 0 < 2)); omega
      have HG : Hid (2 ^ (k - 1) ≤ t ∧ t < 2 ^ (k - 1 + 1)) := ⟨HK.out hk0, by rw [show k - 1 + 1 = k by omega]; exact hlt2⟩
      clear hs hlt2
      go_wp2
      go_ret
      refine ⟨k - 1, ?_, rfl, by omega, HG.out.1, HG.out.2⟩
      rw [show ((k - 1 : Nat) : Int) + 1 = (k : Int) by omega]
      first | rfl | (rw [hm1]; rfl)
    · have h1 : ¬ (s : Int) = 0 := by omega
      have hb : 2 ^ k ≤ t := bits_of (by rw [← hs]; exact hs0)
      have hk1 : k < 32 := by
        rcases Nat.lt_or_ge k 32 with q | q
        · exact q
        · have : 2 ^ 32 ≤ 2 ^ k := Nat.pow_le_pow_right (by omega) q
          have := HL.out
          omega
      have HK1 : Hid (0 < k + 1 → 2 ^ (k + 1 - 1) ≤ t) := fun _ => hb
      have HS : Hid (s / 2 = t / 2 ^ (k + 1)) := by show _ = _; rw [hs, Nat.div_div_eq_div_mul, Nat.pow_succ]
      have hs2 : s < 4294967296 := by rw [hs]; exact Nat.lt_of_le_of_lt (Nat.div_le_self _ _) HL.out
      have hs4 : s / 2 < s := by omega
      clear hs hb
      go_wp2
      refine ⟨⟨k + 1, by omega, by first | rfl | go_num, ?_, HK1⟩, ?_⟩
      · rw [← HS.out]; first | rfl | (congr 1; omega) | go_num
      · simp [intOf]; omega

end Go.Proofs.YtgcpconlmihilaaGreatDoor

namespace Go.Proofs.YtgcpconlmihilaaGreatDoor
open Go.RowKit

theorem val_zeros : ∀ n, val (List.replicate n 0) = 0
  | 0 => rfl
  | n + 1 => by rw [List.replicate_succ, val, val_zeros n]
theorem getD_zeros (n j : Nat) : (List.replicate n 0).getD j 0 = (0 : Nat) := by simp only [List.getD, List.getElem?_replicate]; split <;> rfl
/-- What a word is worth, put to the left: two words. -/
theorem left_word {u s P lo hi : Nat} (hu : u < 4294967296) (hs : s < 32) (hP : P = 2 ^ s) (hlo : lo = u * P % 4294967296) (hhi : hi = u * P / 4294967296) :
    0 < P ∧ P ≤ 2147483648 ∧ u * P < 18446744073709551616 ∧ hi < P ∧ lo % P = 0 ∧ lo + P ≤ 4294967296 := by
  have h1 : P ≤ 2147483648 := by rw [hP]; exact Nat.le_trans (Nat.pow_le_pow_right (by omega) (show s ≤ 31 by omega)) (by decide)
  have h0 : 0 < P := by rw [hP]; exact Nat.pow_pos (by omega)
  have h2 : u * P ≤ 4294967295 * 2147483648 := Nat.mul_le_mul (by omega) h1
  obtain ⟨Q, hQ⟩ : ∃ Q, 4294967296 = P * Q := ⟨2 ^ (32 - s), by rw [hP, ← Nat.pow_add, show s + (32 - s) = 32 by omega]⟩
  have h3 : hi < P := by
    rw [hhi, Nat.div_lt_iff_lt_mul (by omega), Nat.mul_comm P]
    exact Nat.mul_lt_mul_of_pos_right hu h0
  have h4 : lo = P * (u % Q) := by rw [hlo, hQ, Nat.mul_comm u P, Nat.mul_mod_mul_left]
  have hQ0 : 0 < Q := by rcases Nat.eq_zero_or_pos Q with e | e; · subst e; omega
                         · exact e
  refine ⟨h0, h1, by omega, h3, by rw [h4]; exact Nat.mul_mod_right _ _, ?_⟩
  have h5 : u % Q + 1 ≤ Q := Nat.mod_lt _ hQ0
  have h6 : P * (u % Q + 1) ≤ P * Q := Nat.mul_le_mul_left _ h5
  rw [Nat.mul_add, Nat.mul_one] at h6
  omega

set_option maxHeartbeats 8000000 in
set_option maxRecDepth 100000 in
theorem left_at (a : Option Addr) (ca n s : Nat) (xs : List Nat) (x : Nat) (w : World) (ha : ShowsW w a ca xs) (hn : n = xs.length) (h0 : 0 < n) (hx : Num xs x) (hs : s < 32) (hf : n ≤ 900000) :
    Calls Tryz.prog 89 #[.slice a n ca, .int .u64 (s : Int)] w fun e w' => ∃ v us, e = .returned v ∧ OwnsN w' w.heap.size v us (x * 2 ^ s) ∧ us.length ≤ n + 1 ∧ Below w.heap.size w w' := by
  have HX : Hid (n = xs.length) := hn
  have HSx : Hid (ShowsW w a ca xs) := ha
  have HNx : Hid (Num xs x) := hx
  obtain ⟨N, hN⟩ : ∃ N, N = n + 1 := ⟨_, rfl⟩
  have hN1 : (n : Int) + 1 = (N : Int) := by omega
  have HN : Hid (N = n + 1) := hN
  have hN9 : N ≤ 900001 := by omega
  have hn0 : ¬ (n : Int) = 0 := by omega
  have hd0 : (s : Int).tdiv 32 = 0 := by rw [show (s : Int).tdiv 32 = ((s / 32 : Nat) : Int) from rfl]; omega
  have hm0 : (s : Int).tmod 32 = (s : Int) := by rw [show (s : Int).tmod 32 = ((s % 32 : Nat) : Int) from rfl]; omega
  obtain ⟨P, HP⟩ : ∃ P, Hid (P = 2 ^ s) := ⟨2 ^ s, rfl⟩
  rw [← HP.out]
  clear hn ha hx hN
  obtain ⟨i0, hi, hz0, hz1, hz2⟩ := info_parts Tryz.infoW
  go_enter Tryz.func89, Tryz.ntmps89
  go_wp2_with (at_make; refine wpList_make_full _ rfl _ _ 44 rfl w.heap.size 89 i0 (.int .u32 0) 1 Tryz.underlying44 hi hz0 hz1 _ _ _ _ N rfl rfl rfl rfl ?b1 ?b2 ?b3 ?_)
  case b1 => first | omega | (rw [hz2]; omega)
  case b2 => first | omega | (unfold maxLen; omega)
  try (case b3 => exact Nat.le_refl _)
  intro w1 hown hgrow
  have HB1 : Hid (Below w.heap.size w w1) := (Below.refl _ _).grown hgrow (Nat.le_refl _) (fun k h => by cases h)
  have HO1 : Hid (OwnsW w1 w.heap.size (.slice (some ⟨w.heap.size, 0, none⟩) N N) (List.replicate N 0)) := ownsW_made (by simpa [Value.cells] using hown)
  clear hown hgrow
  generalize HGe : w.heap.size = G at *
  have HGw : Hid (w.heap.size = G) := HGe
  clear HGe
  go_wp2
  go_loopw [8] (fun i wr => ∃ (k : Nat) (rs : List Nat), k ≤ n ∧ i = .int .i64 k ∧ Hid (rs.length = N) ∧ Hid (Wd rs) ∧ Hid (rs.getD k 0 < P) ∧ Hid (∀ j, k < j → rs.getD j 0 = 0) ∧ Hid (val rs = val (xs.take k) * P) ∧ Hid (OwnsW wr G (.slice (some ⟨G, 0, none⟩) N N) rs) ∧ Hid (Below G w wr)) (fun i _ => n - (intOf i).toNat)
  case atStart => exact ⟨0, List.replicate N 0, Nat.zero_le _, rfl, List.length_replicate, fun u hu => by rw [List.eq_of_mem_replicate hu]; omega, by rw [getD_zeros, HP.out]; exact Nat.pow_pos (by omega), fun j _ => getD_zeros _ _, by rw [val_zeros]; simp [val, Hid], HO1, HB1⟩
  case round =>
    obtain ⟨k, rs, hk, rfl, HRl, HRw, HK, HZ, HV, HO, HB⟩ := hrel
    by_cases hkn : k < n
    · have hkn' : (k : Int) < (n : Int) := by omega
      have HKx : Hid (k < xs.length) := by rw [← HX.out]; exact hkn
      obtain ⟨bx, ox, u, hax, HU, hu, -, hcx⟩ := (HSx.out.below (by rw [HGw.out]; exact HB.out)).elem HKx.out
      subst hax
      obtain ⟨z, Hz⟩ : ∃ z, Hid (z = rs.getD k 0) := ⟨_, rfl⟩
      obtain ⟨lo, hlo⟩ : ∃ lo, lo = u * P % 4294967296 := ⟨_, rfl⟩
      obtain ⟨hh, hhi⟩ : ∃ hh, hh = u * P / 4294967296 := ⟨_, rfl⟩
      obtain ⟨p0, p1, p2, p3, p4, p5⟩ := left_word hu hs HP.out hlo hhi
      have hz : z < P := by rw [Hz.out]; exact HK.out
      have hkN : k < N := by have := HN.out; omega
      have hkN' : (k : Int) < (N : Int) := by omega
      have hkN1 : (k : Int) + 1 < (N : Int) := by have := HN.out; omega
      obtain ⟨hfz, hcz⟩ := HO.out.at HRl.out.symm (j := k) (by rw [HRl.out]; exact hkN)
      rw [← Hz.out] at hcz
      obtain ⟨v, hv⟩ : ∃ v, v = u * P := ⟨_, rfl⟩
      have hvw : IntKind.u64.wrap ((u : Int) * 2 ^ s) = (v : Int) := by
        have e : (u : Int) * 2 ^ s = (v : Int) := by rw [hv, HP.out]; simp
        rw [e, wraps_u64 _ (by omega) (by omega)]
      obtain ⟨q, hq⟩ : ∃ q, q = z + lo := ⟨_, rfl⟩
      have hlo2 : (v : Int) % 4294967296 = (lo : Int) := by rw [hlo, hv]; omega
      have hhi2 : (v : Int) / 4294967296 % 4294967296 = (hh : Int) := by rw [← hv] at hhi; omega
      have hor1 : bits BinOp.or IntKind.u32 (z : Int) (lo : Int) = (q : Int) := by
        have e : (2 : Int) ^ s = (P : Int) := by rw [HP.out]; simp
        rw [bits_join_low .u32 32 (by decide) wraps_u32 s _ _ (by omega) (by rw [e]; omega) (by omega) (by omega) (by rw [e]; omega) (by omega)]
        omega
      have hor2 : bits BinOp.or IntKind.u32 0 (hh : Int) = (hh : Int) := by
        have := bits_join_low .u32 32 (by decide) wraps_u32 0 0 (hh : Int) (by omega) (by omega) (by omega) (by omega) (by omega) (by omega)
        rw [this]; omega
      have HO2 : Hid (OwnsW (wr.setCell ⟨G, k, none⟩ (.int .u32 (q : Int))) G (.slice (some ⟨G, 0, none⟩) N N) (rs.set k q)) := HO.out.store HRl.out.symm k q
      have HL2 : Hid (N = (rs.set k q).length) := by show _ = _; rw [List.length_set]; exact HRl.out.symm
      obtain ⟨hfz2, hcz2⟩ := HO2.out.at HL2.out (j := k + 1) (by rw [← HL2.out]; omega)
      rw [bset_getD, if_neg (by omega), HZ.out (k + 1) (by omega)] at hcz2
      have HO3 : Hid (OwnsW ((wr.setCell ⟨G, k, none⟩ (.int .u32 (q : Int))).setCell ⟨G, k + 1, none⟩ (.int .u32 (hh : Int))) G (.slice (some ⟨G, 0, none⟩) N N) ((rs.set k q).set (k + 1) hh)) := HO2.out.store HL2.out (k + 1) hh
      have HB3 : Hid (Below G w ((wr.setCell ⟨G, k, none⟩ (.int .u32 (q : Int))).setCell ⟨G, k + 1, none⟩ (.int .u32 (hh : Int)))) := (HB.out.setCell (p := ⟨G, k, none⟩) (Nat.le_refl _) _).setCell (p := ⟨G, k + 1, none⟩) (Nat.le_refl _) _
      have HL3 : Hid (((rs.set k q).set (k + 1) hh).length = N) := by show _ = _; rw [List.length_set]; exact HL2.out.symm
      have HW3 : Hid (Wd ((rs.set k q).set (k + 1) hh)) := wd_set (wd_set HRw.out (by omega)) (by omega)
      have HK3 : Hid (((rs.set k q).set (k + 1) hh).getD (k + 1) 0 < P) := by rw [bset_getD, if_pos ⟨rfl, by rw [← HL2.out]; omega⟩]; exact p3
      have HZ3 : Hid (∀ j, k + 1 < j → ((rs.set k q).set (k + 1) hh).getD j 0 = 0) := fun j hj => by
        rw [bset_getD, if_neg (by omega), bset_getD, if_neg (by omega)]; exact HZ.out j (by omega)
      have HV3 : Hid (val ((rs.set k q).set (k + 1) hh) = val (xs.take (k + 1)) * P) := by
        show _ = _
        have e1 := val_set rs k q (by rw [HRl.out]; exact hkN)
        have e2 := val_set (rs.set k q) (k + 1) hh (by rw [← HL2.out]; omega)
        rw [bset_getD, if_neg (by omega), HZ.out (k + 1) (by omega), Nat.mul_zero, Nat.add_zero] at e2
        rw [← Hz.out, HV.out, hq, Nat.mul_add] at e1
        rw [val_take HKx.out, ← HU.out, Nat.add_mul, e2, hq, Nat.pow_succ]
        have e3 : 4294967296 ^ k * u * P = 4294967296 ^ k * (hh * 4294967296 + lo) := by rw [Nat.mul_assoc]; congr 1; omega
        rw [Nat.mul_add] at e3
        have e4 : 4294967296 ^ k * 4294967296 * hh = 4294967296 ^ k * (hh * 4294967296) := by rw [Nat.mul_assoc, Nat.mul_comm 4294967296]
        omega
      unfold wv at hcz hcz2
      have hq2 : q < 4294967296 := by omega
      have hh2 : hh < 4294967296 := by omega
      clear hlo hhi hv hq p0 p1 p2 p3 p4 p5 hz
      go_wp2
      exact ⟨⟨k + 1, (rs.set k q).set (k + 1) hh, by omega, by go_num, HL3, HW3, HK3, HZ3, HV3, HO3, HB3⟩, by simp [intOf]; omega⟩
    · obtain rfl : n = k := by omega
      have hkn' : ¬ (n : Int) < (n : Int) := by omega
      have HVl : Hid (val rs = x * P) := by
        have h1 := HV.out
        rw [List.take_of_length_le (l := xs) (by rw [← HX.out]; exact Nat.le_refl _), HNx.out.eq] at h1
        exact h1
      go_wp2_with fail
      obtain ⟨a3, c3, hv3, hS3⟩ := HO.out.shows (by rw [HRl.out]; omega) HRw.out (fun a5 n5 cap5 h _ => by simp only [Value.slice.injEq] at h; have := HN.out; have := h.2.2; omega)
      simp only [Value.slice.injEq] at hv3
      obtain ⟨rfl, -, rfl⟩ := hv3
      have HT3 := ownsN_trim HO.out HRw.out (by have := HN.out; omega)
      rw [HVl.out] at HT3
      have HT4 : Hid (OwnsN wr G (.slice (some ⟨G, 0, none⟩) (norm rs).length N) (norm rs) (x * P)) := HT3
      have HL4 : Hid ((norm rs).length ≤ n + 1) := by show _ ≤ _; have := norm_len rs; rw [HRl.out, HN.out] at this; exact this
      clear HT3
      refine (trim_at _ _ _ _ _ hS3 HRl.out.symm).mono ?_
      rintro e w' ⟨rfl, rfl⟩
      go_wp2
      go_ret
      exact ⟨_, _, rfl, by rw [HGw.out]; exact HT4.out, HL4.out, by rw [HGw.out]; exact HB.out⟩

end Go.Proofs.YtgcpconlmihilaaGreatDoor

namespace Go.Proofs.YtgcpconlmihilaaGreatDoor
open Go.RowKit

/-- A word put to the right, with what comes down of the next. -/
theorem right_word {u t s P y : Nat} (_hu : u < 4294967296) (hs : s < 32) (hP : P = 2 ^ s) (hy : y = (u + t * 4294967296) / P % 4294967296) :
    0 < P ∧ y * P + u % P = u + t % P * 4294967296 := by
  have h0 : 0 < P := by rw [hP]; exact Nat.pow_pos (by omega)
  obtain ⟨Q, hQ⟩ : ∃ Q, 4294967296 = P * Q := ⟨2 ^ (32 - s), by rw [hP, ← Nat.pow_add, show s + (32 - s) = 32 by omega]⟩
  refine ⟨h0, ?_⟩
  have hQ0 : 0 < Q := by rcases Nat.eq_zero_or_pos Q with e | e; · subst e; omega
                         · exact e
  have e1 : (u + t * 4294967296) / P = u / P + t * Q := by
    rw [hQ, show t * (P * Q) = P * (t * Q) by simp only [Nat.mul_left_comm], Nat.add_mul_div_left _ _ h0]
  have hul : u / P < Q := by rw [Nat.div_lt_iff_lt_mul h0, Nat.mul_comm Q, ← hQ]; exact _hu
  -- t = P * (t / P) + t % P
  have e2 : u / P + t * Q = u / P + t % P * Q + 4294967296 * (t / P) := by
    have := Nat.div_add_mod t P
    conv => lhs; rw [← this]
    rw [Nat.add_mul, hQ]
    have : P * (t / P) * Q = P * Q * (t / P) := by simp only [Nat.mul_comm, Nat.mul_left_comm]
    omega
  have e3 : u / P + t % P * Q < 4294967296 := by
    have h1 : (t % P + 1) * Q ≤ P * Q := Nat.mul_le_mul_right _ (Nat.mod_lt _ h0)
    rw [Nat.add_mul, Nat.one_mul] at h1
    omega
  have e4 : y = u / P + t % P * Q := by rw [hy, e1, e2, Nat.add_mul_mod_self_left, Nat.mod_eq_of_lt e3]
  rw [e4, Nat.add_mul]
  have e5 : t % P * Q * P = t % P * 4294967296 := by rw [hQ, Nat.mul_assoc, Nat.mul_comm Q P]
  have e6 := Nat.div_add_mod u P
  rw [Nat.mul_comm] at e6
  omega

set_option maxHeartbeats 8000000 in
set_option maxRecDepth 100000 in
theorem right_at (a : Option Addr) (ca n s : Nat) (xs : List Nat) (x : Nat) (w : World) (ha : ShowsW w a ca xs) (hn : n = xs.length) (h0 : 0 < n) (hx : Num xs x) (hs : s < 32) :
    Calls Tryz.prog 90 #[.slice a n ca, .int .u64 (s : Int)] w fun e w' => ∃ v us, e = .returned v ∧ OwnsN w' w.heap.size v us (x / 2 ^ s) ∧ us.length ≤ n ∧ Below w.heap.size w w' := by
  have hn6 : n ≤ 1000000 := by rw [hn]; exact ha.few
  have HX : Hid (n = xs.length) := hn
  have HSx : Hid (ShowsW w a ca xs) := ha
  have HNx : Hid (Num xs x) := hx
  have hn0 : ¬ (n : Int) ≤ 0 := by omega
  have hd0 : (s : Int).tdiv 32 = 0 := by rw [show (s : Int).tdiv 32 = ((s / 32 : Nat) : Int) from rfl]; omega
  have hm0 : (s : Int).tmod 32 = (s : Int) := by rw [show (s : Int).tmod 32 = ((s % 32 : Nat) : Int) from rfl]; omega
  obtain ⟨P, HP⟩ : ∃ P, Hid (P = 2 ^ s) := ⟨2 ^ s, rfl⟩
  have HP0 : Hid (0 < P) := by rw [HP.out]; exact Nat.pow_pos (by omega)
  rw [← HP.out]
  clear hn ha hx
  obtain ⟨i0, hi, hz0, hz1, hz2⟩ := info_parts Tryz.infoW
  go_enter Tryz.func90, Tryz.ntmps90
  go_wp2_with (at_make; refine wpList_make_full _ rfl _ _ 44 rfl w.heap.size 89 i0 (.int .u32 0) 1 Tryz.underlying44 hi hz0 hz1 _ _ _ _ n rfl rfl rfl rfl ?b1 ?b2 ?b3 ?_)
  case b1 => first | omega | (rw [hz2]; omega)
  case b2 => first | omega | (unfold maxLen; omega)
  try (case b3 => exact Nat.le_refl _)
  intro w1 hown hgrow
  have HB1 : Hid (Below w.heap.size w w1) := (Below.refl _ _).grown hgrow (Nat.le_refl _) (fun k h => by cases h)
  have HO1 : Hid (OwnsW w1 w.heap.size (.slice (some ⟨w.heap.size, 0, none⟩) n n) (part [] n)) := by
    have := ownsW_made (w := w1) (base := w.heap.size) (g := w.heap.size) (n := n) (by simpa [Value.cells] using hown)
    simpa [Hid, part] using this
  clear hown hgrow
  generalize HGe : w.heap.size = G at *
  have HGw : Hid (w.heap.size = G) := HGe
  clear HGe
  go_wp2
  go_loopw [8] (fun i wr => ∃ (k : Nat) (rs : List Nat), k ≤ n ∧ i = .int .i64 k ∧ Hid (rs.length = k) ∧ Hid (Wd rs) ∧ Hid (val rs * P + xs.getD 0 0 % P = val (xs.take k) + 4294967296 ^ k * (xs.getD k 0 % P)) ∧ Hid (OwnsW wr G (.slice (some ⟨G, 0, none⟩) n n) (part rs (n - k))) ∧ Hid (Below G w wr)) (fun i _ => n - (intOf i).toNat)
  case atStart => exact ⟨0, [], Nat.zero_le _, rfl, rfl, fun u hu => by simp at hu, by simp [val, Hid], HO1, HB1⟩
  case round =>
    obtain ⟨k, rs, hk, rfl, HRl, HRw, HV, HO, HB⟩ := hrel
    by_cases hkn : k < n
    · have hkn' : (k : Int) < (n : Int) := by omega
      have HKx : Hid (k < xs.length) := by rw [← HX.out]; exact hkn
      obtain ⟨bx, ox, u, hax, HU, hu, -, hcx⟩ := (HSx.out.below (by rw [HGw.out]; exact HB.out)).elem HKx.out
      subst hax
      obtain ⟨t, Ht⟩ : ∃ t, Hid (t = xs.getD (k + 1) 0) := ⟨xs.getD (k + 1) 0, rfl⟩
      have ht : t < 4294967296 := by rw [Ht.out]; exact wd_getD HNx.out.wd _
      obtain ⟨y, hy⟩ : ∃ y, y = (u + t * 4294967296) / P % 4294967296 := ⟨_, rfl⟩
      obtain ⟨-, HY⟩ := right_word hu hs HP.out hy
      have HPl : Hid (n = (part rs (n - k)).length) := by show _ = _; rw [part_len, HRl.out]; omega
      obtain ⟨hfz, hcz⟩ := HO.out.at HPl.out (j := k) (by rw [← HPl.out]; exact hkn)
      have HO2 : Hid (OwnsW (wr.setCell ⟨G, k, none⟩ (.int .u32 (y : Int))) G (.slice (some ⟨G, 0, none⟩) n n) (part (rs ++ [y]) (n - (k + 1)))) := by
        have h1 := HO.out.store HPl.out k y
        have e := part_set rs (n - (k + 1)) y
        rw [HRl.out, show n - (k + 1) + 1 = n - k by omega] at e
        rw [e] at h1
        exact h1
      have HB2 : Hid (Below G w (wr.setCell ⟨G, k, none⟩ (.int .u32 (y : Int)))) := HB.out.setCell (p := ⟨G, k, none⟩) (Nat.le_refl _) _
      have HL2 : Hid ((rs ++ [y]).length = k + 1) := by show _ = _; rw [List.length_append, HRl.out]; rfl
      have hy2 : y < 4294967296 := by rw [hy]; exact Nat.mod_lt _ (by omega)
      have HW2 : Hid (Wd (rs ++ [y])) := fun z hz => by
        rw [List.mem_append] at hz
        rcases hz with hz | hz
        · exact HRw.out z hz
        · simp at hz; omega
      have HV2 : Hid (val (rs ++ [y]) * P + xs.getD 0 0 % P = val (xs.take (k + 1)) + 4294967296 ^ (k + 1) * (xs.getD (k + 1) 0 % P)) := by
        show _ = _
        have e1 := HV.out
        rw [val_snoc, HRl.out, val_take HKx.out, ← HU.out, ← Ht.out, Nat.pow_succ, Nat.add_mul]
        rw [← HU.out] at e1
        have e2 : 4294967296 ^ k * (y * P + u % P) = 4294967296 ^ k * (u + t % P * 4294967296) := by rw [HY]
        rw [Nat.mul_add, Nat.mul_add] at e2
        have e3 : 4294967296 ^ k * y * P = 4294967296 ^ k * (y * P) := Nat.mul_assoc _ _ _
        have e4 : 4294967296 ^ k * 4294967296 * (t % P) = 4294967296 ^ k * (t % P * 4294967296) := by rw [Nat.mul_assoc, Nat.mul_comm 4294967296]
        omega
      unfold wv at hcz
      have HYp : Hid ((u + t * 4294967296) / P % 4294967296 = y) := hy.symm
      have HE : Hid ((2 : Int) ^ s = (P : Int)) := by show _ = _; rw [HP.out]; simp
      clear hy HY
      by_cases hk1 : k + 1 < n
      · have hk1' : (k : Int) + 1 < (n : Int) := by omega
        obtain ⟨bx2, ox2, t', hax2, HT', ht', -, hcx2⟩ := (HSx.out.below (by rw [HGw.out]; exact HB.out)).elem (k := k + 1) (by rw [← HX.out]; exact hk1)
        simp only [Option.some.injEq, Addr.mk.injEq] at hax2
        obtain ⟨rfl, rfl, -⟩ := hax2
        obtain rfl : t' = t := by rw [HT'.out, Ht.out]
        obtain ⟨v, hv⟩ : ∃ v, v = u + t' * 4294967296 := ⟨_, rfl⟩
        have hor : bits BinOp.or IntKind.u64 (u : Int) ((t' : Int) * 4294967296) = (v : Int) := by
          rw [bits_join_low .u64 64 (by decide) wraps_u64 32 _ _ (by omega) (by omega) (by omega) (by omega) (by omega) (by omega)]
          omega
        have HYv : Hid ((v : Int) / 2 ^ s % 4294967296 = (y : Int)) := by
          show _ = _
          rw [HE.out, ← HYp.out, ← hv]; simp
        have hv2 : v < 18446744073709551616 := by omega
        clear hv
        go_wp2
        rw [HYv.out]
        exact ⟨⟨k + 1, rs ++ [y], by omega, by go_num, HL2, HW2, HV2, HO2, HB2⟩, by simp [intOf]; omega⟩
      · have hk1' : ¬ (k : Int) + 1 < (n : Int) := by omega
        obtain rfl : t = 0 := by rw [Ht.out]; simp only [List.getD]; rw [List.getElem?_eq_none (by rw [← HX.out]; omega)]; rfl
        have HYv : Hid ((u : Int) / 2 ^ s % 4294967296 = (y : Int)) := by
          show _ = _
          have e := HYp.out
          rw [Nat.zero_mul, Nat.add_zero] at e
          rw [HE.out, ← e]; simp
        go_wp2
        rw [HYv.out]
        exact ⟨⟨k + 1, rs ++ [y], by omega, by go_num, HL2, HW2, HV2, HO2, HB2⟩, by simp [intOf]; omega⟩
    · obtain rfl : n = k := by omega
      have hkn' : ¬ (n : Int) < (n : Int) := by omega
      have e0 : part rs (n - n) = rs := by simp [part]
      have HOw : Hid (OwnsW wr G (.slice (some ⟨G, 0, none⟩) n n) rs) := by have := HO.out; rw [e0] at this; exact this
      have HVl : Hid (val rs = x / P) := by
        show _ = _
        have h1 := HV.out
        have e1 : xs.getD n 0 = 0 := by simp only [List.getD]; rw [List.getElem?_eq_none (by rw [← HX.out]; exact Nat.le_refl _)]; rfl
        rw [List.take_of_length_le (l := xs) (by rw [← HX.out]; exact Nat.le_refl _), HNx.out.eq, e1, Nat.zero_mod, Nat.mul_zero, Nat.add_zero] at h1
        rw [← h1, Nat.mul_comm, Nat.mul_add_div HP0.out, Nat.div_eq_of_lt (Nat.mod_lt _ HP0.out), Nat.add_zero]
      clear e0
      go_wp2_with fail
      obtain ⟨a3, c3, hv3, hS3⟩ := HOw.out.shows (by rw [HRl.out]; omega) HRw.out (fun a5 n5 cap5 h _ => by simp only [Value.slice.injEq] at h; have := h.2.2; omega)
      simp only [Value.slice.injEq] at hv3
      obtain ⟨rfl, -, rfl⟩ := hv3
      have HT3 := ownsN_trim HOw.out HRw.out (by omega)
      rw [HVl.out] at HT3
      have HT4 : Hid (OwnsN wr G (.slice (some ⟨G, 0, none⟩) (norm rs).length n) (norm rs) (x / P)) := HT3
      have HL4 : Hid ((norm rs).length ≤ n) := by show _ ≤ _; have := norm_len rs; rw [HRl.out] at this; exact this
      clear HT3
      refine (trim_at _ _ _ _ _ hS3 HRl.out.symm).mono ?_
      rintro e w' ⟨rfl, rfl⟩
      go_wp2
      go_ret
      exact ⟨_, _, rfl, by rw [HGw.out]; exact HT4.out, HL4.out, by rw [HGw.out]; exact HB.out⟩

end Go.Proofs.YtgcpconlmihilaaGreatDoor
