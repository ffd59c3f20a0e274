/-
  Whole numbers as lists of words of 32 bits, the least first: plain facts.
  Slices of words as the world shows them; the contracts of ferrersbig.trim, ferrersbig.words.
-/
import Derived.Test.YtgcpconlmihilaaGreatDoorTTab
namespace Go.Proofs.YtgcpconlmihilaaGreatDoor

def val : List Nat → Nat
  | [] => 0
  | u :: us => u + 4294967296 * val us
def Wd (us : List Nat) : Prop := ∀ u ∈ us, u < 4294967296
/-- Without the noughts at the end. -/
def norm : List Nat → List Nat
  | [] => []
  | u :: us => if norm us = [] ∧ u = 0 then [] else u :: norm us
/-- us are the words of x. -/
structure Num (us : List Nat) (x : Nat) : Prop where
  wd : Wd us
  eq : val us = x
  nm : norm us = us

theorem norm_val : ∀ us, val (norm us) = val us := by
  intro us
  induction us with
  | nil => rfl
  | cons u us ih =>
    rw [norm]
    by_cases h : norm us = [] ∧ u = 0
    · rw [if_pos h]
      rw [h.1] at ih
      simp only [val] at *
      omega
    · rw [if_neg h]; simp only [val, ih]
theorem norm_norm : ∀ us, norm (norm us) = norm us := by
  intro us
  induction us with
  | nil => rfl
  | cons u us ih =>
    rw [norm]
    by_cases h : norm us = [] ∧ u = 0
    · rw [if_pos h]; rfl
    · rw [if_neg h, norm, ih, if_neg h]
theorem norm_take : ∀ us, norm us = us.take (norm us).length := by
  intro us
  induction us with
  | nil => rfl
  | cons u us ih =>
    rw [norm]
    by_cases h : norm us = [] ∧ u = 0
    · rw [if_pos h]; rfl
    · rw [if_neg h, List.length_cons, List.take_succ_cons, ← ih]
theorem norm_len (us : List Nat) : (norm us).length ≤ us.length := by
  have := congrArg List.length (norm_take us)
  rw [List.length_take] at this; omega
theorem norm_wd {us : List Nat} (h : Wd us) : Wd (norm us) := fun u hu => h u (by rw [norm_take] at hu; exact List.mem_of_mem_take hu)
theorem num_norm {us : List Nat} (h : Wd us) : Num (norm us) (val us) := ⟨norm_wd h, norm_val us, norm_norm us⟩
theorem norm_zero : ∀ l, norm (l ++ [0]) = norm l := by
  intro l
  induction l with
  | nil => rfl
  | cons u l ih => rw [List.cons_append, norm, norm, ih]
theorem norm_end {u : Nat} (hu : u ≠ 0) : ∀ l, norm (l ++ [u]) = l ++ [u] := by
  intro l
  induction l with
  | nil => rw [List.nil_append, norm, if_neg (fun h => hu h.2)]; rfl
  | cons x l ih => rw [List.cons_append, norm, ih, if_neg (fun h => by simp at h)]
theorem val_snoc : ∀ l u, val (l ++ [u]) = val l + 4294967296 ^ l.length * u := by
  intro l u
  induction l with
  | nil => simp [val]
  | cons x l ih =>
    rw [List.cons_append, val, val, ih, List.length_cons, Nat.pow_succ, Nat.mul_add]
    rw [Nat.mul_comm (4294967296 ^ l.length) 4294967296, Nat.mul_assoc]; omega
theorem val_take {l : List Nat} {k : Nat} (h : k < l.length) : val (l.take (k + 1)) = val (l.take k) + 4294967296 ^ k * l.getD k 0 := by
  rw [List.take_succ_eq_append_getElem h, val_snoc, List.length_take, Nat.min_eq_left (by omega)]
  simp [List.getD, List.getElem?_eq_getElem h]
theorem val_lt : ∀ l, Wd l → val l < 4294967296 ^ l.length := by
  intro l
  induction l with
  | nil => intro _; simp [val]
  | cons u l ih =>
    intro h
    have h1 := ih (fun x hx => h x (by simp [hx]))
    have h2 := h u (by simp)
    rw [val, List.length_cons, Nat.pow_succ]
    omega
theorem num_zero {us : List Nat} {x : Nat} (h : Num us x) : us = [] ↔ x = 0 := by
  constructor
  · intro e; subst e; exact h.eq.symm
  · intro e
    have key : ∀ l, val l = 0 → norm l = [] := by
      intro l
      induction l with
      | nil => intro _; rfl
      | cons u l ih =>
        intro hl
        simp only [val] at hl
        rw [norm, if_pos ⟨ih (by omega), by omega⟩]
    rw [← h.nm]; exact key us (by rw [h.eq, e])
theorem num_nil : Num [] 0 := ⟨fun _ h => by simp at h, rfl, rfl⟩

/-- One step of an addition, word by word. -/
theorem add_step {a b c u v r d P X Y R : Nat} (h : R + c * P = X + Y) (ha : u < 4294967296) (hb : v < 4294967296) (hc : c ≤ 1) (hr : r = (c + u + v) % 4294967296) (hd : d = (c + u + v) / 4294967296) (_ : a = a) (_ : b = b) :
    (R + P * r) + d * (P * 4294967296) = (X + P * u) + (Y + P * v) ∧ d ≤ 1 := by
  have e : c + u + v = 4294967296 * d + r := by omega
  constructor
  · have h1 : P * (c + u + v) = P * (4294967296 * d + r) := by rw [e]
    rw [Nat.mul_add, Nat.mul_add, Nat.mul_add] at h1
    have h2 : c * P = P * c := Nat.mul_comm _ _
    have h3 : d * (P * 4294967296) = P * (4294967296 * d) := by
      rw [Nat.mul_comm d, Nat.mul_assoc]
    rw [h3]
    omega
  · omega

end Go.Proofs.YtgcpconlmihilaaGreatDoor

namespace Go.Proofs.YtgcpconlmihilaaGreatDoor
open Go.RowKit

theorem Tryz.infoW : (Tryz.prog.info? 89).map (fun i => (i.zero, i.size, i.bytes)) = some (some (.int .u32 0), 1, 4) := by kernel_rfl
theorem elem_word : Elem 44 89 (.int .u32 0) 4 := ⟨Tryz.underlying44, Tryz.infoW, rfl⟩

def wv (u : Nat) : Value := .int .u32 (u : Int)
/-- v owns the words us, in a block from base on. -/
def OwnsW (w : World) (base : Nat) (v : Value) (us : List Nat) : Prop := w.ownsRow base 89 1 v us.length (us.map wv)
theorem OwnsW.mono {w : World} {base base' : Nat} {v : Value} {us : List Nat} (h : OwnsW w base v us) (hb : base' ≤ base) : OwnsW w base' v us := ownsRow_down h hb
theorem OwnsW.blocks {w w' : World} {base : Nat} {v : Value} {us : List Nat} (h : OwnsW w base v us) (hk : ∀ k, v.ownBlock = some k → w'.heap[k]? = w.heap[k]?) : OwnsW w' base v us := ownsRow_blocks h hk
theorem OwnsW.lt {w : World} {base : Nat} {v : Value} {us : List Nat} (h : OwnsW w base v us) {g : Nat} (hg : v.ownBlock = some g) : base ≤ g ∧ g < w.heap.size := World.ownsRow.lt h g hg
theorem OwnsW.below {w w' : World} {base : Nat} {v : Value} {us : List Nat} (h : OwnsW w base v us) (hb : Below w.heap.size w w') : OwnsW w' base v us := h.blocks (fun k e => hb.block k (h.lt e).2)
/-- The slice of words us at a, as an argument. -/
structure ShowsW (w : World) (a : Option Addr) (cap : Nat) (us : List Nat) : Prop where
  len : us.length ≤ cap
  few : us.length ≤ 1000000
  capm : cap ≤ maxLen
  wd : Wd us
  nil : a = none → cap = 0
  cells : a ≠ none → 0 < cap ∧ ∃ b off, a = some ⟨b, off, none⟩ ∧ b < w.heap.size ∧ ∀ j, j < us.length → w.cell? ⟨b, off + j, none⟩ = some (wv (us.getD j 0))
theorem ShowsW.below {w w' : World} {a : Option Addr} {cap : Nat} {us : List Nat} (h : ShowsW w a cap us) (hb : Below w.heap.size w w') : ShowsW w' a cap us := by
  refine ⟨h.len, h.few, h.capm, h.wd, h.nil, fun hne => ?_⟩
  obtain ⟨h0, b, off, ha, hlt, hc⟩ := h.cells hne
  exact ⟨h0, b, off, ha, Nat.lt_of_lt_of_le hlt hb.size, fun j hj => (hb.cell (p := ⟨b, off + j, none⟩) hlt).trans (hc j hj)⟩
theorem ShowsW.empty (w : World) : ShowsW w none 0 [] := ⟨by simp, by simp, by unfold maxLen; omega, fun _ h => by simp at h, fun _ => rfl, fun h => absurd rfl h⟩
theorem ShowsW.elem {w : World} {a : Option Addr} {cap : Nat} {us : List Nat} (h : ShowsW w a cap us) {k : Nat} (hk : k < us.length) :
    ∃ (b off u : Nat), a = some ⟨b, off, none⟩ ∧ Hid (u = us.getD k 0) ∧ u < 4294967296 ∧ b < w.heap.size ∧ w.cell? ⟨b, off + k, none⟩ = some (.int .u32 (u : Int)) := by
  obtain ⟨_, b, off, ha, hlt, hc⟩ := h.cells (fun e => by have := h.nil e; have := h.len; omega)
  exact ⟨b, off, _, ha, rfl, h.wd _ (by simp [List.getD, List.getElem?_eq_getElem hk]), hlt, hc k hk⟩
/-- What is owned and has room, as an argument. -/
theorem OwnsW.shows {w : World} {base : Nat} {v : Value} {us : List Nat} (h : OwnsW w base v us) (hf : us.length ≤ 1000000) (hw : Wd us) (hc : ∀ a n cap, v = .slice a n cap → a ≠ none → 0 < cap) : ∃ a cap, v = .slice a us.length cap ∧ ShowsW w a cap us := by
  have h0 := h
  rcases h.2 with ⟨h2, h3⟩ | ⟨g, cap, cur, hv, hg, hh, h4, h5, h6, h7⟩
  · obtain rfl : us = [] := List.eq_nil_of_length_eq_zero h3
    exact ⟨none, 0, h2, ShowsW.empty w⟩
  · refine ⟨_, cap, hv, h4, hf, h5, hw, fun h => (by cases h), fun hne => ⟨hc _ _ _ hv hne, g, 0, rfl, (Array.getElem?_eq_some_iff.1 hh).1, fun j hj => ?_⟩⟩
    subst hv
    unfold OwnsW at h0
    rw [Nat.zero_add, World.ownsRow.cellAt h0 j (by omega)]
    simp [List.getD, List.getElem?_eq_getElem hj]
theorem OwnsW.cut {w : World} {base n cap : Nat} {a : Option Addr} {us : List Nat} (h : OwnsW w base (.slice a n cap) us) (m : Nat) (hm : m ≤ us.length) (ha : a = none → m = 0) : OwnsW w base (.slice a m cap) (us.take m) := by
  rcases h.2 with ⟨h2, h3⟩ | ⟨g, cap', cur, hv, hg, hh, h4, h5, h6, h7⟩
  · simp only [Value.slice.injEq] at h2
    obtain ⟨rfl, rfl, rfl⟩ := h2
    obtain rfl : m = 0 := ha rfl
    exact ⟨by simp, Or.inl ⟨rfl, by simp⟩⟩
  · simp only [Value.slice.injEq] at hv
    obtain ⟨rfl, rfl, rfl⟩ := hv
    have e : (us.take m).length = m := by rw [List.length_take]; omega
    refine ⟨by simp, Or.inr ⟨g, cap, cur, by rw [e], hg, hh, by rw [e]; omega, h5, h6, ?_⟩⟩
    rw [e, Nat.mul_one] at *
    rw [List.map_take, ← h7, List.take_take]
    rw [Nat.min_eq_left hm]

set_option maxHeartbeats 2000000 in
theorem trim_at (a : Option Addr) (n cap : Nat) (us : List Nat) (w : World) (hs : ShowsW w a cap us) (hn : n = us.length) :
    Calls Tryz.prog 84 #[.slice a n cap] w fun e w' => e = .returned (.slice a (norm us).length cap) ∧ w' = w := by
  subst hn
  cases a with
  | none =>
    obtain rfl : cap = 0 := hs.nil rfl
    obtain rfl : us = [] := List.eq_nil_of_length_eq_zero (by have := hs.len; omega)
    clear hs
    go_enter Tryz.func84, Tryz.ntmps84
    go_wp2
    go_loop [3] (fun i => i = .int .i64 0) (fun i => 0)
    case atStart => rfl
    case round =>
      subst hrel
      go_wp2
      go_ret
      exact ⟨rfl, rfl⟩
  | some ad =>
    obtain ⟨hcap, b, off, had, hlt, hc⟩ := hs.cells (by simp)
    simp only [Option.some.injEq] at had
    subst had
    have hlen := hs.len
    have hfew := hs.few
    have hcm := hs.capm
    unfold maxLen at hcm
    have HC : Hid (∀ j, j < us.length → w.cell? ⟨b, off + j, none⟩ = some (wv (us.getD j 0))) := hc
    have HW : Hid (Wd us) := hs.wd
    clear hc hs
    go_enter Tryz.func84, Tryz.ntmps84
    go_wp2
    go_loop [3] (fun i => ∃ k : Nat, k ≤ us.length ∧ i = .int .i64 k ∧ Hid (norm us = norm (us.take k))) (fun i => (intOf i).toNat)
    case atStart => exact ⟨us.length, Nat.le_refl _, rfl, by rw [List.take_length]; exact rfl⟩
    case round =>
      obtain ⟨k, hk, rfl, HR⟩ := hrel
      rcases Nat.eq_zero_or_pos k with h0 | h0
      · subst h0
        have HE : Hid ((norm us).length = 0) := by show _ = _; rw [HR.out, List.take_zero]; rfl
        go_wp2
        go_ret
        exact ⟨by rw [HE.out]; rfl, rfl⟩
      · obtain ⟨m, hm⟩ : ∃ m, m = k - 1 := ⟨_, rfl⟩
        have hm1 : (k : Int) - 1 = (m : Int) := by omega
        have hml : (m : Int) < (us.length : Int) := by omega
        have g0 : decide ((k : Int) > 0) = true := decide_eq_true (by omega)
        have HKm : Hid (k = m + 1) := by show _ = _; omega
        have hcz := HC.out m (by omega)
        obtain ⟨u, HU⟩ : ∃ u, Hid (u = us.getD m 0) := ⟨_, rfl⟩
        rw [← HU.out] at hcz
        unfold wv at hcz
        have HT : Hid (us.take k = us.take m ++ [u]) := by
          show _ = _
          rw [HKm.out, List.take_succ_eq_append_getElem (by omega), HU.out]
          simp [List.getD, List.getElem?_eq_getElem (show m < us.length by omega)]
        clear hm
        by_cases hu : u = 0
        · subst hu
          have HN : Hid (norm us = norm (us.take m)) := by show _ = _; rw [HR.out, HT.out, norm_zero]
          go_wp2
          go_round
          case rel => exact ⟨m, by omega, rfl, HN⟩
          case measure => have := HKm.out; simp [intOf]; omega
        · have HN : Hid ((norm us).length = k) := by
            show _ = _
            rw [HR.out, HT.out, norm_end hu, List.length_append, List.length_take, HKm.out, Nat.min_eq_left (by omega)]; rfl
          have gu : ((u : Int) == 0) = false := by simp; omega
          have hkc : (k : Int) ≤ (cap : Int) := by omega
          clear hu
          go_wp2
          go_ret
          exact ⟨by rw [HN.out]; rfl, rfl⟩

theorem ownsW_new (w : World) (us : List Nat) (n : Nat) (hn : n = us.length) (hl : us.length ≤ 1000000) : OwnsW (w.alloc (.cells (us.map wv).toArray 89)) w.heap.size (.slice (some ⟨w.heap.size, 0, none⟩) n n) us := by
  subst hn
  refine ⟨by simp, Or.inr ⟨w.heap.size, us.length, (us.map wv).toArray, rfl, Nat.le_refl _, ?_, Nat.le_refl _, by unfold maxLen; omega, by simp, by simp; rw [List.take_of_length_le (by simp)]⟩⟩
  show (w.heap.push (.cells (us.map wv).toArray 89 (0, 0)))[w.heap.size]? = _
  simp

/-- A number of the call's own: its words, in a slice with room if it is not nil. -/
structure OwnsN (w : World) (base : Nat) (v : Value) (us : List Nat) (x : Nat) : Prop where
  own : OwnsW w base v us
  num : Num us x
  room : ∀ a n cap, v = .slice a n cap → a ≠ none → 0 < cap
theorem OwnsN.mono {w : World} {base base' : Nat} {v : Value} {us : List Nat} {x : Nat} (h : OwnsN w base v us x) (hb : base' ≤ base) : OwnsN w base' v us x := ⟨h.own.mono hb, h.num, h.room⟩
theorem OwnsN.below {w w' : World} {base : Nat} {v : Value} {us : List Nat} {x : Nat} (h : OwnsN w base v us x) (hb : Below w.heap.size w w') : OwnsN w' base v us x := ⟨h.own.below hb, h.num, h.room⟩
theorem OwnsN.shows {w : World} {base : Nat} {v : Value} {us : List Nat} {x : Nat} (h : OwnsN w base v us x) (hf : us.length ≤ 1000000) : ∃ a cap, v = .slice a us.length cap ∧ ShowsW w a cap us := h.own.shows hf h.num.wd h.room
/-- What trim leaves of a slice of the call's own. -/
theorem ownsN_trim {w : World} {base n cap : Nat} {ad : Addr} {us : List Nat} (h : OwnsW w base (.slice (some ad) n cap) us) (hw : Wd us) (hc : 0 < cap) : OwnsN w base (.slice (some ad) (norm us).length cap) (norm us) (val us) := by
  refine ⟨?_, num_norm hw, fun a n c e _ => ?_⟩
  · have := h.cut (norm us).length (norm_len us) (fun e => by cases e)
    rw [← norm_take] at this; exact this
  · simp only [Value.slice.injEq] at e; omega

set_option maxHeartbeats 2000000 in
theorem words_at (x : Nat) (hx : x < 18446744073709551616) (w : World) :
    Calls Tryz.prog 63 #[.int .u64 (x : Int)] w fun e w' => ∃ v us, e = .returned v ∧ OwnsN w' w.heap.size v us x ∧ us.length ≤ 2 ∧ Below w.heap.size w w' := by
  have e1 : IntKind.u32.wrap (x : Int) = ((x % 4294967296 : Nat) : Int) := by simp [IntKind.wrap, IntKind.signed, IntKind.bits]
  obtain ⟨lo, hlo⟩ : ∃ lo, lo = x % 4294967296 := ⟨_, rfl⟩
  obtain ⟨hi, hhi⟩ : ∃ hi, hi = x / 4294967296 := ⟨_, rfl⟩
  have HX : Hid (val [lo, hi] = x) := by show _ = _; simp only [val]; omega
  have HW : Hid (Wd [lo, hi]) := fun u hu => by
    simp at hu
    rcases hu with rfl | rfl <;> omega
  have HL : Hid ((x : Int) % 4294967296 = (lo : Int)) := by show _ = _; omega
  have HH : Hid ((x : Int) / 4294967296 = (hi : Int)) := by show _ = _; omega
  clear hlo hhi
  go_enter Tryz.func63, Tryz.ntmps63
  go_wp2_with fail
  rw [HL.out, HH.out]
  have hO : OwnsW (w.alloc (.cells #[.int .u32 (lo : Int), .int .u32 (hi : Int)] 89)) w.heap.size (.slice (some ⟨w.heap.size, 0, none⟩) 2 2) [lo, hi] := ownsW_new w [lo, hi] 2 rfl (by simp)
  obtain ⟨a, cap, hv, hS⟩ := hO.shows (by simp) HW.out (fun a n cap h _ => by simp only [Value.slice.injEq] at h; omega)
  simp only [Value.slice.injEq] at hv
  obtain ⟨rfl, -, rfl⟩ := hv
  have HT : Hid (OwnsN (w.alloc (.cells #[.int .u32 (lo : Int), .int .u32 (hi : Int)] 89)) w.heap.size (.slice (some ⟨w.heap.size, 0, none⟩) (norm [lo, hi]).length 2) (norm [lo, hi]) x) := by
    have := ownsN_trim hO HW.out (by omega)
    rw [HX.out] at this; exact this
  refine (trim_at _ _ _ _ _ hS rfl).mono ?_
  rintro e w' ⟨rfl, rfl⟩
  go_wp2
  go_ret
  exact ⟨_, _, rfl, HT.out, norm_len _, (Below.refl _ _).alloc (Nat.le_refl _) _⟩

end Go.Proofs.YtgcpconlmihilaaGreatDoor
