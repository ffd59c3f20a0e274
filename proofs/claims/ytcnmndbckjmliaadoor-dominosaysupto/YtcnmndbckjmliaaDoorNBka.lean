/-
  What the law DominoBack meets at each call.
-/
import Derived.Test.YtcnmndbckjmliaaDoorNBkq
import Derived.Test.YtcnmndbckjmliaaDoorNPt
namespace Go.Proofs.YtcnmndbckjmliaaDoor
open Go.RowKit

set_option maxHeartbeats 1000000 in
theorem Pick_n (x : Int) (n : Nat) (w : World) (hx : -9223372036854775808 ≤ x ∧ x ≤ 9223372036854775807) (hn : 0 < n) (hn2 : n ≤ 1000) :
    Calls Tryd.prog 30 #[.int .i64 x, .int .i64 n] w fun e w' => ∃ c : Nat, e = .returned (.int .i64 c) ∧ c < n ∧ w' = w := by
  have hn0 : ¬ (n : Int) = 0 := by omega
  have hn0b : ((n : Int) == 0) = false := beq_false_of_ne hn0
  have hres : ∀ y : Int, 0 ≤ y → ∃ c : Nat, Int.tmod y (n : Int) = (c : Int) ∧ c < n := fun y hy => by
    refine ⟨(Int.tmod y (n : Int)).toNat, ?_, ?_⟩
    · rw [Int.toNat_of_nonneg (Int.tmod_nonneg _ hy)]
    · have h1 := Int.tmod_lt_of_pos y (show (0 : Int) < n by omega)
      have h2 := Int.tmod_nonneg (n : Int) hy
      omega
  by_cases hneg : x < 0
  · have h1 : IntKind.i64.wrap (x + 1) = x + 1 := by rw [IntWalk.i64_left, IntWalk.wrap64_in _ (by omega)]
    have h2 : IntKind.i64.wrap (-(x + 1)) = -(x + 1) := by rw [IntWalk.i64_left, IntWalk.wrap64_in _ (by omega)]
    obtain ⟨c, hc, hcn⟩ := hres (-(x + 1)) (by omega)
    have h3 : IntKind.i64.wrap (Int.tmod (-(x + 1)) (n : Int)) = (c : Int) := by rw [hc, IntWalk.i64_left, IntWalk.wrap64_in _ (by omega)]
    have HC : Hid (c < n) := hcn
    clear hres
    go_enter Tryd.func30, Tryd.ntmps30
    go_wp2
    go_ret
    exact ⟨c, rfl, HC.out, rfl⟩
  · obtain ⟨c, hc, hcn⟩ := hres x (by omega)
    have h3 : IntKind.i64.wrap (Int.tmod x (n : Int)) = (c : Int) := by rw [hc, IntWalk.i64_left, IntWalk.wrap64_in _ (by omega)]
    have HC : Hid (c < n) := hcn
    clear hres
    go_enter Tryd.func30, Tryd.ntmps30
    go_wp2
    go_ret
    exact ⟨c, rfl, HC.out, rfl⟩

theorem til_eqB {s : List UInt8} {r c r' c' : Nat} (h : Til s r c) (h' : Til s r' c') : r' = r ∧ c' = c := by
  have e1 := shz_eq h.1
  have e2 := shz_eq h'.1
  exact ⟨e2.1.trans e1.1.symm, e2.2.trans e1.2.symm⟩
theorem shz_at {lt s : List UInt8} {r c : Nat} (h : Shz lt r c (pz s)) {i j : Nat} (hi : i < r) (hj : j < c) : cef (pz s) (i * 8 + j) ∈ lt := by
  have hc8 := h.2.2.2.2.1
  rw [cef_at _ _ _ (by omega)]
  have hm : (pz s).getD i [] ∈ pz s := by rw [List.getD_eq_getElem?_getD, List.getElem?_eq_getElem (by rw [h.1]; exact hi), Option.getD_some]; exact List.getElem_mem _
  have h6 := h.2.2.2.2.2 _ hm
  apply h6.2
  obtain ⟨z, hz⟩ : ∃ z, z = (pz s).getD i [] := ⟨_, rfl⟩
  rw [← hz] at h6 ⊢
  rw [List.getD_eq_getElem?_getD, List.getElem?_eq_getElem (by rw [h6.1]; exact hj), Option.getD_some]
  exact List.getElem_mem _
/-- The blocks of a tiling. -/
def blQ (s : List UInt8) (r c : Nat) : List (Int × Int) := flp (qR (cef (pz s))) r c
theorem blQ_len {s : List UInt8} {r c : Nat} (h : Til s (r + 1) (c + 1)) : (blQ s r c).length ≤ 64 := by
  have h1 := flp_length (qR (cef (pz s))) r c
  have h2 := h.1.2.2.1
  have h3 := h.1.2.2.2.2.1
  have h4 : r * c ≤ 8 * 8 := Nat.mul_le_mul (by omega) (by omega)
  unfold blQ; omega
/-- The turned text, and what it is. -/
def turned (s : List UInt8) (r c i j : Nat) : List UInt8 := tx (r + 1) (c + 1) (cvF (cef (pz s)) i j (cef (pz s) (i * 8 + j) == 108))
theorem turned_til {s : List UInt8} {r c i j : Nat} (h : Til s (r + 1) (c + 1)) (hi : i < r) (hj : j < c) (hq : qR (cef (pz s)) i j = true) :
    Til (turned s r c i j) (r + 1) (c + 1) ∧ ∀ a, a < r + 1 → ∀ b, b < c + 1 → cef (pz (turned s r c i j)) (a * 8 + b) = cvF (cef (pz s)) i j (cef (pz s) (i * 8 + j) == 108) (a * 8 + b) := by
  have hc8 := h.1.2.2.2.2.1
  have hl : ∀ a, a < r + 1 → ∀ b, b < c + 1 → cvF (cef (pz s)) i j (cef (pz s) (i * 8 + j) == 108) (a * 8 + b) ∈ lrud := fun a ha b hb => by
    rcases cv_half (f := cef (pz s)) (i := i) (cef (pz s) (i * 8 + j) == 108) (by omega : j + 1 < 8) (a * 8 + b) with e | e
    · exact lrud_of (Or.inl e)
    · rw [e]; exact shz_at h.1 ha hb
  exact ⟨til_mk h.1.2.1 h.1.2.2.1 h.1.2.2.2.1 hc8 hl (cv_ok _ hc8 hi hj hq h.2), fun a ha b hb => cef_tx h.1.2.1 hc8 hl no47 ha hb⟩
theorem turned_qR {s : List UInt8} {r c i j : Nat} (h : Til s (r + 1) (c + 1)) (hi : i < r) (hj : j < c) (hq : qR (cef (pz s)) i j = true) : qR (cef (pz (turned s r c i j))) i j = true := by
  have hc8 := h.1.2.2.2.2.1
  have e := (turned_til h hi hj hq).2
  have := cv_qR (cef (pz s)) i j (cef (pz s) (i * 8 + j) == 108) (by omega)
  unfold qR at this ⊢
  rw [e i (by omega) j (by omega), e i (by omega) (j + 1) (by omega), e (i + 1) (by omega) j (by omega), e (i + 1) (by omega) (j + 1) (by omega)]
  exact this
theorem turned_back {s : List UInt8} {r c i j : Nat} (h : Til s (r + 1) (c + 1)) (hi : i < r) (hj : j < c) (hq : qR (cef (pz s)) i j = true) : turned (turned s r c i j) r c i j = s := by
  have hc8 := h.1.2.2.2.2.1
  have hj8 : j + 1 < 8 := by omega
  obtain ⟨up, hup⟩ : ∃ up, up = (cef (pz s) (i * 8 + j) == 108) := ⟨_, rfl⟩
  have e := (turned_til h hi hj hq).2
  rw [← hup] at e
  have hup2 : (cef (pz (turned s r c i j)) (i * 8 + j) == 108) = !up := by
    rw [e i (by omega) j (by omega), cv_corner2 _ i j up hj8]; cases up <;> rfl
  have hb := cv_back up hj8 hq hup
  have hg : tx (r + 1) (c + 1) (cvF (cef (pz (turned s r c i j))) i j (!up)) = tx (r + 1) (c + 1) (cef (pz s)) := tx_congr (fun a ha b hb' => by
    rw [cv_cases _ i j (!up) hj8, e a ha b hb', ← cv_cases (cvF (cef (pz s)) i j up) i j (!up) hj8, hb])
  unfold turned at hup2 hg ⊢
  rw [hup2, hg]
  exact tx_cef h.1
theorem turned_ne {s : List UInt8} {r c i j : Nat} (h : Til s (r + 1) (c + 1)) (hi : i < r) (hj : j < c) (hq : qR (cef (pz s)) i j = true) : turned s r c i j ≠ s := fun q => by
  have hc8 := h.1.2.2.2.2.1
  have e := (turned_til h hi hj hq).2 i (by omega) j (by omega)
  rw [q, cv_corner2 _ i j _ (by omega)] at e
  cases hb : (cef (pz s) (i * 8 + j) == 108) with
  | true =>
    rw [hb, if_pos rfl] at e
    rw [e] at hb; cases hb
  | false =>
    rw [hb, if_neg (by simp)] at e
    rw [e] at hb; cases hb
/-- The board of a tiling. -/
def brdT (s : List UInt8) (r c : Nat) : List UInt8 := tx r c (brdF (cef (pz s)))
theorem turned_brd {s : List UInt8} {r c i j : Nat} (h : Til s (r + 1) (c + 1)) (hi : i < r) (hj : j < c) (hq : qR (cef (pz s)) i j = true) : brdT (turned s r c i j) (r + 1) (c + 1) = brdT s (r + 1) (c + 1) := by
  have hc8 := h.1.2.2.2.2.1
  have e := (turned_til h hi hj hq).2
  refine tx_congr (fun a ha b hb => ?_)
  rw [← brd_same (cef (pz s) (i * 8 + j) == 108) (by omega) hq]
  unfold brdF
  rw [e a ha b hb]

section
variable (t : ByteArray) (m : Int) (w : World) (hm : w.cell? ⟨0, 0, none⟩ = some (.int .i64 m))
include hm
theorem BFlips_no (hT : ∀ r c, ¬ Til t.data.toList r c) : Calls Tryd.prog 20 #[.string t] w fun e w' => e = .returned (.tuple #[.slice none 0 0, .int .i64 1]) ∧ Hid (Below w.heap.size w w') := by
  refine (Flips_at t m w hm).mono ?_
  rintro e w' ⟨v, er, rfl, hF, hB⟩
  rcases hF.out with ⟨_, r, c, h, _⟩ | ⟨rfl, rfl, _⟩
  · exact absurd h (hT r c)
  · exact ⟨rfl, hB⟩
theorem BFlips_ok (r c : Nat) (hT : Til t.data.toList (r + 1) (c + 1)) (n : Nat) (hn : n = (blQ t.data.toList r c).length) : Calls Tryd.prog 20 #[.string t] w fun e w' => ∃ a cp, e = .returned (.tuple #[.slice a n cp, .int .i64 0]) ∧ Hid (PtI w' a (blQ t.data.toList r c)) ∧ Hid (Below w.heap.size w w') := by
  subst hn
  refine (Flips_at t m w hm).mono ?_
  rintro e w' ⟨v, er, rfl, hF, hB⟩
  rcases hF.out with ⟨rfl, r', c', h, hO⟩ | ⟨_, _, hno⟩
  · obtain ⟨rfl, rfl⟩ := til_eqB hT h
    have e : flp (mtQ (r + 1) (c + 1) (cef (pz t.data.toList))) (r + 1) (c + 1) = flp (qR (cef (pz t.data.toList))) r c := flips_eq hT.2
    rw [e] at hO
    obtain ⟨a, cp, rfl, hP, _⟩ := OwPt.open hO
    exact ⟨a, cp, rfl, hP, hB⟩
  · exact absurd hT (hno _ _)
theorem BFlip_on (i j : Nat) (r c : Nat) (hT : Til t.data.toList (r + 1) (c + 1)) (hi : i < r) (hj : j < c) (hq : qR (cef (pz t.data.toList)) i j = true) (u : ByteArray) (hu : u = ⟨(turned t.data.toList r c i j).toArray⟩) : Calls Tryd.prog 21 #[.string t, .agg #[.int .i64 (j : Int), .int .i64 (i : Int)]] w fun e w' => e = .returned (.tuple #[.string u, .int .i64 0]) ∧ Hid (Below w.heap.size w w') := by
  subst hu
  refine (Flip_at t (j : Int) (i : Int) m w hm).mono ?_
  rintro e w' ⟨v, er, rfl, hF, hB⟩
  rcases hF.out with ⟨r', c', h, h2⟩ | ⟨_, _, hno⟩
  · obtain ⟨rfl, rfl⟩ := til_eqB hT h
    rcases h2 with ⟨rfl, i', j', h3, h4, _, _, _, rfl⟩ | ⟨_, _, hn⟩
    · obtain rfl : i = i' := by omega
      obtain rfl : j = j' := by omega
      exact ⟨rfl, hB⟩
    · have := (mem_flips hT.2 (j : Int) (i : Int)).1 ((mem_flp _ _ _ _ _).2 ⟨i, j, by omega, by omega, hq, rfl, rfl⟩)
      rw [hn] at this; cases this
  · exact absurd hT (hno _ _)
theorem BBoard_ok (r c : Nat) (hT : Til t.data.toList r c) (u : ByteArray) (hu : u = ⟨(brdT t.data.toList r c).toArray⟩) : Calls Tryd.prog 10 #[.string t] w fun e w' => e = .returned (.tuple #[.string u, .int .i64 0]) ∧ Hid (Below w.heap.size w w') := by
  subst hu
  refine (Board_at t m w hm).mono ?_
  rintro e w' ⟨v, er, rfl, hF, hB⟩
  rcases hF.out with ⟨rfl, r', c', h, rfl⟩ | ⟨_, _, hno⟩
  · obtain ⟨rfl, rfl⟩ := til_eqB hT h
    exact ⟨rfl, hB⟩
  · exact absurd hT (hno _ _)
theorem BBoard_any : Calls Tryd.prog 10 #[.string t] w fun e w' => ∃ v er, e = .returned (.tuple #[.string v, .int .i64 er]) ∧ Hid (Below w.heap.size w w') := by
  refine (Board_at t m w hm).mono ?_
  rintro e w' ⟨v, er, rfl, hF, hB⟩
  rcases hF.out with ⟨rfl, r', c', h, rfl⟩ | ⟨rfl, rfl, hno⟩
  · exact ⟨_, _, rfl, hB⟩
  · exact ⟨_, _, rfl, hB⟩
variable (hT : TabAt 1 Lib.deBruijn64tab w)
include hT
theorem BFirst_two : Calls Tryd.prog 9 #[.string ⟨#[35, 35]⟩] w fun e w' => e = .returned (.tuple #[.string ⟨#[108, 114]⟩, .int .i64 0]) ∧ Hid (Below w.heap.size w w') := by
  refine (First_at ⟨#[35, 35]⟩ m w hm hT).mono ?_
  rintro e w' ⟨v, er, rfl, hF, hB⟩
  obtain ⟨rfl, rfl⟩ := first_two hF.out
  exact ⟨rfl, hB⟩
theorem BCount_no (hz : ∀ r c, ¬ Shz bdL r c (pz t.data.toList)) : Calls Tryd.prog 8 #[.string t] w fun e w' => e = .returned (.tuple #[.int .i64 0, .int .i64 1]) ∧ Hid (Below w.heap.size w w') := by
  refine (Count_at t m w hm hT).mono ?_
  rintro e w' ⟨n, er, rfl, hF, hB⟩
  rcases hF.out with ⟨_, r, c, _, h, _⟩ | ⟨rfl, rfl, _⟩
  · exact absurd h (hz r c)
  · exact ⟨rfl, hB⟩
theorem BFirst_no (hz : ∀ r c, ¬ Shz bdL r c (pz t.data.toList)) : Calls Tryd.prog 9 #[.string t] w fun e w' => e = .returned (.tuple #[.string ⟨#[]⟩, .int .i64 1]) ∧ Hid (Below w.heap.size w w') := by
  refine (First_at t m w hm hT).mono ?_
  rintro e w' ⟨v, er, rfl, hF, hB⟩
  rcases hF.out with ⟨r, c, _, h, _⟩ | ⟨rfl, rfl, _⟩
  · exact absurd h (hz r c)
  · exact ⟨rfl, hB⟩
/-- Board of r rows and c columns, with n tilings. -/
def BdN (s : List UInt8) (r c n : Nat) : Prop := Shz bdL r c (pz s) ∧ ∃ x, OutP r c (cef (pz s)) r 0 x ∧ n = cntC x
omit hm hT in
theorem bdn_eq {s : List UInt8} {r c n r' c' x : Nat} (h : BdN s r c n) (h1 : Shz bdL r' c' (pz s)) (h2 : OutP r' c' (cef (pz s)) r' 0 x) : r' = r ∧ c' = c ∧ cntC x = n := by
  have e1 := shz_eq h.1
  have e2 := shz_eq h1
  obtain rfl : r' = r := e2.1.trans e1.1.symm
  obtain rfl : c' = c := e2.2.trans e1.2.symm
  obtain ⟨y, hy, hn⟩ := h.2
  exact ⟨rfl, rfl, by rw [out_uniq h2 hy, hn]⟩
theorem BCount_ok (r c n : Nat) (h : BdN t.data.toList r c n) : Calls Tryd.prog 8 #[.string t] w fun e w' => e = .returned (.tuple #[.int .i64 (n : Int), .int .i64 0]) ∧ Hid (Below w.heap.size w w') := by
  refine (Count_at t m w hm hT).mono ?_
  rintro e w' ⟨n', er, rfl, hF, hB⟩
  rcases hF.out with ⟨rfl, r', c', x, h1, h2, h3⟩ | ⟨_, _, hno⟩
  · obtain ⟨_, _, e⟩ := bdn_eq h h1 h2
    exact ⟨by rw [h3, e], hB⟩
  · exact absurd h.1 (hno _ _)
theorem BFirst_none (r c : Nat) (h : BdN t.data.toList r c 0) : Calls Tryd.prog 9 #[.string t] w fun e w' => e = .returned (.tuple #[.string ⟨#[]⟩, .int .i64 5]) ∧ Hid (Below w.heap.size w w') := by
  refine (First_at t m w hm hT).mono ?_
  rintro e w' ⟨v, er, rfl, hF, hB⟩
  rcases hF.out with ⟨r', c', x, h1, h2, h3⟩ | ⟨_, _, hno⟩
  · obtain ⟨rfl, rfl, e⟩ := bdn_eq h h1 h2
    rcases h3 with ⟨_, h4, _⟩ | ⟨rfl, _, rfl⟩
    · omega
    · exact ⟨rfl, hB⟩
  · exact absurd h.1 (hno _ _)
theorem BFirst_ok (r c n : Nat) (h : BdN t.data.toList r c n) (hn : 0 < n) : Calls Tryd.prog 9 #[.string t] w fun e w' => ∃ u : ByteArray, e = .returned (.tuple #[.string u, .int .i64 0]) ∧ Hid (Til u.data.toList r c ∧ brdT u.data.toList r c = t.data.toList) ∧ Hid (Below w.heap.size w w') := by
  refine (First_at t m w hm hT).mono ?_
  rintro e w' ⟨v, er, rfl, hF, hB⟩
  rcases hF.out with ⟨r', c', x, h1, h2, h3⟩ | ⟨_, _, hno⟩
  · obtain ⟨rfl, rfl, e⟩ := bdn_eq h h1 h2
    rcases h3 with ⟨rfl, _, f, hf, rfl⟩ | ⟨_, h0, _⟩
    · exact ⟨_, rfl, tilOf_til h1 hf, hB⟩
    · omega
  · exact absurd h.1 (hno _ _)
end

end Go.Proofs.YtcnmndbckjmliaaDoor
