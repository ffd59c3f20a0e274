/-
  Texts of tableaux: plain facts.
-/
import Derived.Test.YtgcagoalnhgljacDoorLMath
import Derived.Lib.SplitLaws
import Derived.Lib.IndexBytes
import Derived.Lib.Join
import Derived.Lib.ItoaNum
import Derived.Lib.Atoi
namespace Go.Proofs.YtgcagoalnhgljacDoor

def ltxt (z : Int) : List UInt8 := Lib.decDigits z.toNat
def rtxt (r : List Int) : List UInt8 := Lib.join (r.map ltxt) [32]
def ttxt (ls : List (List Int)) : List UInt8 := Lib.join (ls.map rtxt) [47]
def Lt (z : Int) : Prop := 1 ≤ z ∧ z ≤ 99
/-- Rows of letters, one or more in each. -/
def RowsOk (ls : List (List Int)) : Prop := ∀ r ∈ ls, r ≠ [] ∧ ∀ z ∈ r, Lt z

def dg (n : Nat) : UInt8 := UInt8.ofNat (48 + n)
theorem dg_toNat {n : Nat} (h : n < 10) : (dg n).toNat = 48 + n := by
  unfold dg; simp; omega
theorem ltxt_cases {z : Int} (h : Lt z) : (∃ a, 1 ≤ a ∧ a < 10 ∧ z = (a : Nat) ∧ ltxt z = [dg a]) ∨ ∃ a b, 1 ≤ a ∧ a < 10 ∧ b < 10 ∧ z = ((10 * a + b : Nat) : Int) ∧ ltxt z = [dg a, dg b] := by
  obtain ⟨h1, h2⟩ := h
  unfold ltxt
  by_cases h10 : z.toNat < 10
  · left
    refine ⟨z.toNat, by omega, h10, by omega, ?_⟩
    rw [Lib.decDigits, dif_pos h10]; rfl
  · right
    refine ⟨z.toNat / 10, z.toNat % 10, by omega, by omega, by omega, by omega, ?_⟩
    rw [Lib.decDigits, dif_neg h10, Lib.decDigits, dif_pos (by omega)]; rfl
theorem ltxt_one {a : Nat} (h : a < 10) : ltxt (a : Int) = [dg a] := by
  unfold ltxt
  rw [Lib.decDigits, dif_pos (by omega)]; simp [dg]
theorem ltxt_two {a b : Nat} (h0 : 1 ≤ a) (h : a < 10) (hb : b < 10) : ltxt ((10 * a + b : Nat) : Int) = [dg a, dg b] := by
  unfold ltxt
  rw [Lib.decDigits, dif_neg (by omega), Lib.decDigits, dif_pos (by omega)]
  have e1 : (((10 * a + b : Nat) : Int)).toNat / 10 = a := by omega
  have e2 : (((10 * a + b : Nat) : Int)).toNat % 10 = b := by omega
  rw [e1, e2]; rfl
theorem atoi_one : ∀ a, a < 10 → Lib.atoi [UInt8.ofNat (48 + a)] = some (a : Int) := by decide
theorem atoi_two : ∀ a, a < 10 → ∀ b, b < 10 → Lib.atoi [UInt8.ofNat (48 + a), UInt8.ofNat (48 + b)] = some ((10 * a + b : Nat) : Int) := by decide
theorem atoi_ltxt {z : Int} (h : Lt z) : Lib.atoi (ltxt z) = some z ∧ (ltxt z).length ≤ 2 := by
  rcases ltxt_cases h with ⟨a, _, h2, e, ht⟩ | ⟨a, b, _, h2, h3, e, ht⟩
  · rw [ht, e]; exact ⟨atoi_one a h2, by simp⟩
  · rw [ht, e]; exact ⟨atoi_two a h2 b h3, by simp⟩
theorem ltxt_no {z : Int} (h : Lt z) {c : UInt8} (hc : c ∈ ltxt z) : 48 ≤ c.toNat ∧ c.toNat ≤ 57 := by
  rcases ltxt_cases h with ⟨a, _, h2, _, ht⟩ | ⟨a, b, _, h2, h3, _, ht⟩
  · rw [ht] at hc; simp at hc; subst hc; rw [dg_toNat h2]; omega
  · rw [ht] at hc; simp at hc
    rcases hc with rfl | rfl
    · rw [dg_toNat h2]; omega
    · rw [dg_toNat h3]; omega
theorem ltxt_pos {z : Int} (h : Lt z) : 0 < (ltxt z).length := by
  rcases ltxt_cases h with ⟨a, _, _, _, ht⟩ | ⟨a, b, _, _, _, _, ht⟩ <;> rw [ht] <;> simp

/-- Does a letter that has d digits go on with c? -/
def nextB (c : UInt8) (d : Nat) : Bool := if d = 0 then decide (49 ≤ c.toNat) && decide (c.toNat ≤ 57) else if d = 1 then decide (48 ≤ c.toNat) && decide (c.toNat ≤ 57) else false
def sepB (c : UInt8) : Bool := decide (c.toNat = 47) || decide (c.toNat = 32)
def okB : Nat → List UInt8 → Bool
  | d, [] => decide (0 < d)
  | d, c :: l => if nextB c d = true then okB (d + 1) l else if 0 < d ∧ sepB c = true then okB 0 l else false
/-- The first byte with which the text can not go on, -1 if there is none. -/
def wrongAt : Nat → Nat → List UInt8 → Int
  | d, i, [] => if d = 0 ∧ 0 < i then (i : Int) else -1
  | d, i, c :: l => if nextB c d = true then wrongAt (d + 1) (i + 1) l else if 0 < d ∧ sepB c = true then wrongAt 0 (i + 1) l else (i : Int)
theorem wrongAt_ok : ∀ (l : List UInt8) (d i : Nat), 0 < i ∨ 0 < l.length → (wrongAt d i l = -1 ↔ okB d l = true) := by
  intro l
  induction l with
  | nil =>
    intro d i h
    have hi : 0 < i := by rcases h with h | h; exact h; simp at h
    simp only [wrongAt, okB, decide_eq_true_eq]
    by_cases e : d = 0
    · rw [if_pos ⟨e, hi⟩]; omega
    · rw [if_neg (fun x => e x.1)]; omega
  | cons c l ih =>
    intro d i _
    simp only [wrongAt, okB]
    by_cases h1 : nextB c d = true
    · rw [if_pos h1, if_pos h1]; exact ih (d + 1) (i + 1) (Or.inl (by omega))
    · rw [if_neg h1, if_neg h1]
      by_cases h2 : 0 < d ∧ sepB c = true
      · rw [if_pos h2, if_pos h2]; exact ih 0 (i + 1) (Or.inl (by omega))
      · rw [if_neg h2, if_neg h2]; simp <;> omega
theorem wrongAt_range : ∀ (l : List UInt8) (d i : Nat), wrongAt d i l = -1 ∨ (i : Int) ≤ wrongAt d i l ∧ wrongAt d i l ≤ ((i + l.length : Nat) : Int) := by
  intro l
  induction l with
  | nil =>
    intro d i
    simp only [wrongAt]
    split
    · right; simp
    · left; rfl
  | cons c l ih =>
    intro d i
    simp only [wrongAt]
    split
    · rcases ih (d + 1) (i + 1) with h | h
      · exact Or.inl h
      · right; simp only [List.length_cons]; omega
    · split
      · rcases ih 0 (i + 1) with h | h
        · exact Or.inl h
        · right; simp only [List.length_cons]; omega
      · right; simp only [List.length_cons]; omega

/-- What is behind a letter: the rest of its row, and the rows behind. -/
def Tl (r : List Int) (rows : List (List Int)) : List UInt8 := Lib.joinTail [32] (r.map ltxt) ++ Lib.joinTail [47] (rows.map rtxt)
theorem rtxt_cons (z : Int) (r : List Int) : rtxt (z :: r) = ltxt z ++ Lib.joinTail [32] (r.map ltxt) := by
  unfold rtxt; rw [List.map_cons, Lib.join_cons]
theorem ttxt_cons (z : Int) (r : List Int) (rows : List (List Int)) : ttxt ((z :: r) :: rows) = ltxt z ++ Tl r rows := by
  unfold ttxt Tl; rw [List.map_cons, Lib.join_cons, rtxt_cons, List.append_assoc]
theorem Tl_cons (y : Int) (r : List Int) (rows : List (List Int)) : Tl (y :: r) rows = 32 :: (ltxt y ++ Tl r rows) := by
  unfold Tl; simp [Lib.joinTail]
theorem Tl_row (z : Int) (r : List Int) (rows : List (List Int)) : Tl [] ((z :: r) :: rows) = 47 :: (ltxt z ++ Tl r rows) := by
  unfold Tl; simp [Lib.joinTail, rtxt_cons]
theorem Tl_nil : Tl [] [] = [] := rfl

theorem sep_cases {c : UInt8} (h : sepB c = true) : c = 47 ∨ c = 32 := by
  simp only [sepB, Bool.or_eq_true, decide_eq_true_eq] at h
  rcases h with h | h
  · left; exact UInt8.toNat_inj.1 h
  · right; exact UInt8.toNat_inj.1 h
theorem digit_of {c : UInt8} (h1 : 48 ≤ c.toNat) (h2 : c.toNat ≤ 57) : ∃ a, a < 10 ∧ c = dg a ∧ a = c.toNat - 48 :=
  ⟨c.toNat - 48, by omega, UInt8.toNat_inj.1 (by rw [dg_toNat (by omega)]; omega), rfl⟩

/-- What can go on is a text of rows. -/
theorem ok_text : ∀ (l : List UInt8) (d : Nat), okB d l = true →
    (d = 0 → ∃ z r rows, Lt z ∧ (∀ y ∈ r, Lt y) ∧ RowsOk rows ∧ l = ltxt z ++ Tl r rows) ∧
    (d = 1 → ∃ e r rows, (e = [] ∨ ∃ b, b < 10 ∧ e = [dg b]) ∧ (∀ y ∈ r, Lt y) ∧ RowsOk rows ∧ l = e ++ Tl r rows) ∧
    (1 < d → ∃ r rows, (∀ y ∈ r, Lt y) ∧ RowsOk rows ∧ l = Tl r rows) := by
  intro l
  induction l with
  | nil =>
    intro d h
    simp only [okB, decide_eq_true_eq] at h
    exact ⟨fun e => by omega, fun _ => ⟨[], [], [], Or.inl rfl, by simp, by simp [RowsOk], rfl⟩, fun _ => ⟨[], [], by simp, by simp [RowsOk], rfl⟩⟩
  | cons c l ih =>
    intro d h
    simp only [okB] at h
    -- a separator
    have hsep : 0 < d → ¬ nextB c d = true → ∃ r rows, (∀ y ∈ r, Lt y) ∧ RowsOk rows ∧ c :: l = Tl r rows := by
      intro hd hn
      rw [if_neg hn] at h
      by_cases h2 : 0 < d ∧ sepB c = true
      · rw [if_pos h2] at h
        obtain ⟨z, r, rows, hz, hr, hrows, hl⟩ := (ih 0 h).1 rfl
        rcases sep_cases h2.2 with e | e
        · refine ⟨[], (z :: r) :: rows, by simp, ?_, by rw [Tl_row, e, hl]⟩
          intro q hq
          rcases List.mem_cons.1 hq with rfl | hq
          · exact ⟨by simp, fun y hy => by rcases List.mem_cons.1 hy with rfl | hy; exact hz; exact hr y hy⟩
          · exact hrows q hq
        · refine ⟨z :: r, rows, fun y hy => ?_, hrows, by rw [Tl_cons, e, hl]⟩
          rcases List.mem_cons.1 hy with rfl | hy
          · exact hz
          · exact hr y hy
      · rw [if_neg h2] at h; cases h
    refine ⟨fun e => ?_, fun e => ?_, fun e => ?_⟩
    · subst e
      by_cases h1 : nextB c 0 = true
      · rw [if_pos h1] at h
        obtain ⟨q, r, rows, hq, hr, hrows, hl⟩ := (ih 1 h).2.1 rfl
        simp only [nextB, if_pos, Bool.and_eq_true, decide_eq_true_eq] at h1
        obtain ⟨a, ha, rfl, ha2⟩ := digit_of (c := c) (by omega) h1.2
        have ha1 : 1 ≤ a := by omega
        rcases hq with rfl | ⟨b, hb, rfl⟩
        · exact ⟨(a : Int), r, rows, ⟨by omega, by omega⟩, hr, hrows, by rw [ltxt_one ha, hl]; rfl⟩
        · exact ⟨((10 * a + b : Nat) : Int), r, rows, ⟨by omega, by omega⟩, hr, hrows, by rw [ltxt_two ha1 ha hb, hl]; rfl⟩
      · rw [if_neg h1, if_neg (by omega)] at h; cases h
    · subst e
      by_cases h1 : nextB c 1 = true
      · rw [if_pos h1] at h
        obtain ⟨r, rows, hr, hrows, hl⟩ := (ih 2 h).2.2 (by omega)
        have h1' : 48 ≤ c.toNat ∧ c.toNat ≤ 57 := by simpa [nextB] using h1
        obtain ⟨a, ha, rfl, _⟩ := digit_of (c := c) h1'.1 h1'.2
        exact ⟨[dg a], r, rows, Or.inr ⟨a, ha, rfl⟩, hr, hrows, by rw [hl]; rfl⟩
      · obtain ⟨r, rows, hr, hrows, hl⟩ := hsep (by omega) h1
        exact ⟨[], r, rows, Or.inl rfl, hr, hrows, hl⟩
    · exact hsep (by omega) (by unfold nextB; rw [if_neg (by omega), if_neg (by omega)]; simp)

/-- And a text of rows can go on. -/
theorem ok_ltxt {z : Int} (h : Lt z) (t : List UInt8) : ∃ d, 0 < d ∧ okB 0 (ltxt z ++ t) = okB d t ∧ (d = 1 ∨ d = 2) := by
  rcases ltxt_cases h with ⟨a, h1, h2, _, ht⟩ | ⟨a, b, h1, h2, h3, _, ht⟩
  · refine ⟨1, by omega, ?_, Or.inl rfl⟩
    rw [ht]
    simp only [List.cons_append, List.nil_append, okB]
    rw [if_pos (by unfold nextB; rw [if_pos rfl, dg_toNat h2]; simp; omega)]
  · refine ⟨2, by omega, ?_, Or.inr rfl⟩
    rw [ht]
    simp only [List.cons_append, List.nil_append, okB]
    rw [if_pos (by unfold nextB; rw [if_pos rfl, dg_toNat h2]; simp; omega), if_pos (by unfold nextB; rw [if_neg (by omega), if_pos (by omega), dg_toNat h3]; simp; omega)]
theorem next_sep {c : UInt8} (h : c = 47 ∨ c = 32) (d : Nat) : nextB c d = false := by
  unfold nextB
  rcases h with rfl | rfl <;> by_cases h0 : d = 0 <;> by_cases h1 : d = 1 <;> simp [h0, h1]
theorem ok_Tl : ∀ (rows : List (List Int)), RowsOk rows → ∀ (r : List Int), (∀ y ∈ r, Lt y) → ∀ d, 0 < d → okB d (Tl r rows) = true := by
  intro rows
  induction rows with
  | nil =>
    intro _ r
    induction r with
    | nil => intro _ d hd; rw [Tl_nil]; simp [okB]; omega
    | cons y r ihr =>
      intro hr d hd
      rw [Tl_cons]
      simp only [okB]
      rw [next_sep (Or.inr rfl), if_neg (by simp), if_pos ⟨hd, by decide⟩]
      obtain ⟨d', hd', e, _⟩ := ok_ltxt (hr y (by simp)) (Tl r [])
      rw [e]; exact ihr (fun x hx => hr x (by simp [hx])) d' hd'
  | cons q rows ih =>
    intro hrows r
    have hq := hrows q (by simp)
    have hrest : RowsOk rows := fun x hx => hrows x (by simp [hx])
    induction r with
    | nil =>
      intro _ d hd
      obtain ⟨z, q', rfl⟩ : ∃ z q', q = z :: q' := by
        cases q with
        | nil => exact absurd rfl hq.1
        | cons z q' => exact ⟨z, q', rfl⟩
      rw [Tl_row]
      simp only [okB]
      rw [next_sep (Or.inl rfl), if_neg (by simp), if_pos ⟨hd, by decide⟩]
      obtain ⟨d', hd', e, _⟩ := ok_ltxt (hq.2 z (by simp)) (Tl q' rows)
      rw [e]; exact ih hrest q' (fun x hx => hq.2 x (by simp [hx])) d' hd'
    | cons y r ihr =>
      intro hr d hd
      rw [Tl_cons]
      simp only [okB]
      rw [next_sep (Or.inr rfl), if_neg (by simp), if_pos ⟨hd, by decide⟩]
      obtain ⟨d', hd', e, _⟩ := ok_ltxt (hr y (by simp)) (Tl r (q :: rows))
      rw [e]; exact ihr (fun x hx => hr x (by simp [hx])) d' hd'

theorem text_of_ok {l : List UInt8} (h : okB 0 l = true) : ∃ ls, ls ≠ [] ∧ RowsOk ls ∧ l = ttxt ls := by
  obtain ⟨z, r, rows, hz, hr, hrows, hl⟩ := (ok_text l 0 h).1 rfl
  refine ⟨(z :: r) :: rows, by simp, ?_, by rw [ttxt_cons, hl]⟩
  intro q hq
  rcases List.mem_cons.1 hq with rfl | hq
  · exact ⟨by simp, fun y hy => by rcases List.mem_cons.1 hy with rfl | hy; exact hz; exact hr y hy⟩
  · exact hrows q hq
theorem ok_of_text {ls : List (List Int)} (h0 : ls ≠ []) (h : RowsOk ls) : okB 0 (ttxt ls) = true := by
  cases ls with
  | nil => exact absurd rfl h0
  | cons q rows =>
    have hq := h q (by simp)
    cases q with
    | nil => exact absurd rfl hq.1
    | cons z r =>
      rw [ttxt_cons]
      obtain ⟨d, hd, e, _⟩ := ok_ltxt (hq.2 z (by simp)) (Tl r rows)
      rw [e]; exact ok_Tl rows (fun x hx => h x (by simp [hx])) r (fun x hx => hq.2 x (by simp [hx])) d hd
theorem ttxt_pos {ls : List (List Int)} (h0 : ls ≠ []) (h : RowsOk ls) : 0 < (ttxt ls).length := by
  cases ls with
  | nil => exact absurd rfl h0
  | cons q rows =>
    have hq := h q (by simp)
    cases q with
    | nil => exact absurd rfl hq.1
    | cons z r => rw [ttxt_cons, List.length_append]; have := ltxt_pos (hq.2 z (by simp)); omega

-- Cut again.
theorem indexByte_at (x : List UInt8) (c : UInt8) (t : List UInt8) (h : c ∉ x) : Lib.indexByte (x ++ c :: t) c = (x.length : Int) := by
  induction x with
  | nil => simp [Lib.indexByte]
  | cons b x ih =>
    have h1 : b ≠ c := fun e => h (by simp [e])
    have h2 := ih (fun e => h (by simp [e]))
    rw [List.cons_append, Lib.indexByte, if_neg (by simpa using h1), h2, if_neg (by simp <;> omega)]
    simp
theorem splitK_join (c : UInt8) : ∀ (xs : List (List UInt8)), xs ≠ [] → (∀ x ∈ xs, c ∉ x) → Lib.split (Lib.join xs [c]) [c] = xs ∧ (Lib.join xs [c]).count c + 1 = xs.length := by
  intro xs
  induction xs with
  | nil => intro h; exact absurd rfl h
  | cons x xs ih =>
    intro _ hx
    cases xs with
    | nil =>
      rw [Lib.join_one]
      have h0 : x.count c = 0 := List.count_eq_zero.2 (hx x (by simp))
      refine ⟨?_, by rw [h0]; rfl⟩
      unfold Lib.split
      rw [Lib.count_one, h0]; rfl
    | cons y r =>
      obtain ⟨h1, h2⟩ := ih (by simp) (fun z hz => hx z (by simp [hz]))
      have hc : c ∉ x := hx x (by simp)
      have e : Lib.join (x :: y :: r) [c] = x ++ c :: Lib.join (y :: r) [c] := by
        rw [Lib.join_cons, Lib.join_cons]; simp [Lib.joinTail]
      have hcnt : (Lib.join (x :: y :: r) [c]).count c = (Lib.join (y :: r) [c]).count c + 1 := by
        rw [e, List.count_append, List.count_eq_zero.2 hc, List.count_cons_self]; omega
      refine ⟨?_, by rw [hcnt, h2]; simp⟩
      unfold Lib.split at h1 ⊢
      rw [Lib.count_one] at h1 ⊢
      rw [hcnt]
      have hix : Lib.index (Lib.join (x :: y :: r) [c]) [c] = (x.length : Int) := by rw [Lib.index_one, e]; exact indexByte_at x c _ hc
      rw [Lib.splitK, if_neg (by rw [hix]; simp <;> omega), hix]
      have e1 : (Lib.join (x :: y :: r) [c]).take (((x.length : Int)).toNat + 0) = x := by rw [e]; simp
      have e2 : (Lib.join (x :: y :: r) [c]).drop (((x.length : Int)).toNat + ([c] : List UInt8).length) = Lib.join (y :: r) [c] := by rw [e]; simp
      rw [e1, e2, h1]

theorem rtxt_mem {r : List Int} (h : ∀ z ∈ r, Lt z) {c : UInt8} (hc : c ∈ rtxt r) : c = 32 ∨ 48 ≤ c.toNat ∧ c.toNat ≤ 57 := by
  cases r with
  | nil => unfold rtxt at hc; simp [Lib.join_nil] at hc
  | cons z r =>
    rw [rtxt_cons, List.mem_append] at hc
    rcases hc with hc | hc
    · exact Or.inr (ltxt_no (h z (by simp)) hc)
    · unfold Lib.joinTail at hc
      obtain ⟨t, ht, hct⟩ := List.mem_flatten.1 hc
      rw [List.map_map] at ht
      obtain ⟨y, hy, rfl⟩ := List.mem_map.1 ht
      simp at hct
      rcases hct with rfl | hct
      · exact Or.inl rfl
      · exact Or.inr (ltxt_no (h y (by simp [hy])) hct)
theorem cut_rows {ls : List (List Int)} (h0 : ls ≠ []) (h : RowsOk ls) : Lib.split (ttxt ls) [47] = ls.map rtxt ∧ (ttxt ls).count 47 + 1 = ls.length := by
  have := splitK_join 47 (ls.map rtxt) (by simpa using h0) (fun x hx => by
    obtain ⟨r, hr, rfl⟩ := List.mem_map.1 hx
    intro hc
    rcases rtxt_mem (h r hr).2 hc with e | e
    · exact absurd e (by decide)
    · exact absurd e.1 (by decide))
  rw [List.length_map] at this
  exact this
theorem cut_row {r : List Int} (h0 : r ≠ []) (h : ∀ z ∈ r, Lt z) : Lib.split (rtxt r) [32] = r.map ltxt ∧ (rtxt r).count 32 + 1 = r.length := by
  have := splitK_join 32 (r.map ltxt) (by simpa using h0) (fun x hx => by
    obtain ⟨z, hz, rfl⟩ := List.mem_map.1 hx
    intro hc
    exact absurd (ltxt_no (h z hz) hc).1 (by decide))
  rw [List.length_map] at this
  exact this
/-- As many letters as separators, and one. -/
theorem count_text {ls : List (List Int)} (h0 : ls ≠ []) (h : RowsOk ls) : (ttxt ls).count 47 + (ttxt ls).count 32 + 1 = ls.flatten.length := by
  have hc := (cut_rows h0 h).2
  have key : ∀ (ls : List (List Int)), ls ≠ [] → RowsOk ls → (ttxt ls).count 32 + ls.length = ls.flatten.length := by
    intro ls
    induction ls with
    | nil => intro h; exact absurd rfl h
    | cons q rows ih =>
      intro _ h
      have hq := cut_row (h q (by simp)).1 (h q (by simp)).2
      cases rows with
      | nil =>
        unfold ttxt
        rw [List.map_cons, List.map_nil, Lib.join_one]
        simp; omega
      | cons p rows =>
        have h1 := ih (by simp) (fun x hx => h x (by simp [hx]))
        have e : ttxt (q :: p :: rows) = rtxt q ++ 47 :: ttxt (p :: rows) := by
          unfold ttxt
          rw [List.map_cons, Lib.join_cons, List.map_cons, Lib.join_cons]; simp [Lib.joinTail]
        rw [e, List.count_append, List.count_cons_of_ne (by decide), List.flatten_cons, List.length_append, ← h1, List.length_cons]
        omega
  have := key ls h0 h
  omega

theorem IsTab.rowsOk {ls : List (List Int)} (h : IsTab ls) : RowsOk ls := by
  intro r hr
  obtain ⟨a, ha, rfl⟩ := mem_row hr
  refine ⟨fun e => by have := (h.ok a ha).one; rw [e] at this; simp at this, fun z hz => h.mem (List.mem_flatten.2 ⟨_, hr, hz⟩)⟩

end Go.Proofs.YtgcagoalnhgljacDoor
