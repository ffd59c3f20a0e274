/-
  ROBINSON, SCHENSTED, KNUTH: insertion into a tableau and its undoing: plain facts.
  Pairs put in and taken out again: KNUTH'S there and back: plain facts.
  Pairs taken out are in order, and make the same two tableaux: plain facts.
  KNUTH'S steps: they keep the tableau of a word; a word is as its tableau's: plain facts.
-/
import Derived.Test.YtpbmcaoomcippadICol
namespace Go.Proofs.Ytpbmcaoomcippad

def lastOf (r : List Int) : Int := r.getD (r.length - 1) 0
/-- The last place whose letter is less than x. -/
def back (x : Int) : List Int → Nat
  | [] => 0
  | _ :: l => if l.any (fun z => decide (z < x)) = true then back x l + 1 else 0
structure IsBack (x : Int) (r : List Int) (k : Nat) : Prop where
  lt : k < r.length
  less : r.getD k 0 < x
  after : ∀ m, k < m → m < r.length → x ≤ r.getD m 0
theorem back_is {x : Int} : ∀ {r : List Int}, (∃ m, m < r.length ∧ r.getD m 0 < x) → IsBack x r (back x r) := by
  intro r
  induction r with
  | nil => rintro ⟨m, h, _⟩; simp at h
  | cons z l ih =>
    rintro ⟨m, hm, hz⟩
    simp only [back]
    by_cases h : l.any (fun z => decide (z < x)) = true
    · rw [if_pos h]
      obtain ⟨y, hy, hyx⟩ := List.any_eq_true.1 h
      obtain ⟨k, hk, rfl⟩ := List.mem_iff_getElem.1 hy
      have := ih ⟨k, hk, by simpa [List.getD, List.getElem?_eq_getElem hk] using hyx⟩
      refine ⟨by simpa using this.lt, by simpa using this.less, fun q hq hl => ?_⟩
      match q, hq, hl with
      | q + 1, hq, hl => simpa using this.after q (by omega) (by simpa using hl)
    · rw [if_neg h]
      have hno : ∀ q, q < l.length → x ≤ l.getD q 0 := fun q hq => by
        refine Int.not_lt.1 (fun hlt => h (List.any_eq_true.2 ⟨l.getD q 0, getD_mem hq, by simpa using hlt⟩))
      match m, hm, hz with
      | 0, _, hz => exact ⟨by simp, by simpa using hz, fun q hq hl => by
          match q, hq, hl with
          | q + 1, _, hl => simpa using hno q (by simpa using hl)⟩
      | m + 1, hm, hz =>
        have := hno m (by simpa using hm)
        have hz : l.getD m 0 < x := by simpa using hz
        omega
theorem IsBack.uniq {x : Int} {r : List Int} {k m : Nat} (h : IsBack x r k) (h' : IsBack x r m) : k = m := by
  rcases Nat.lt_trichotomy k m with c | c | c
  · have := h.after m c h'.lt; have := h'.less; omega
  · exact c
  · have := h'.after k c h.lt; have := h.less; omega

/-- The last letter of row i is taken out, and the row with it if no other is left. -/
def tk (ls : List (List Int)) (i : Nat) : List (List Int) := if (row ls i).length ≤ 1 then ls.take i else ls.set i (row ls i).dropLast
/-- The letter goes up again through the rows ahead of i. -/
def unUp : Nat → Int → List (List Int) → Int × List (List Int)
  | 0, x, ls => (x, ls)
  | i + 1, x, ls => unUp i (box ls i (back x (row ls i))) (ls.set i ((row ls i).set (back x (row ls i)) x))
def un (i : Nat) (ls : List (List Int)) : Int × List (List Int) := unUp i (lastOf (row ls i)) (tk ls i)

theorem unUp_cons : ∀ (i : Nat) (x : Int) (r : List Int) (t : List (List Int)), unUp (i + 1) x (r :: t) = (r.getD (back (unUp i x t).1 r) 0, r.set (back (unUp i x t).1 r) (unUp i x t).1 :: (unUp i x t).2) := by
  intro i
  induction i with
  | zero => intro x r t; simp [unUp, row, box]
  | succ i ih =>
    intro x r t
    rw [unUp]
    have e1 : row (r :: t) (i + 1) = row t i := rfl
    have e2 : ∀ k, box (r :: t) (i + 1) k = box t i k := fun k => rfl
    rw [e1, e2, List.set_cons_succ, ih]; rfl
theorem tk_cons (r : List Int) (t : List (List Int)) (i : Nat) : tk (r :: t) (i + 1) = r :: tk t i := by
  unfold tk
  have e1 : row (r :: t) (i + 1) = row t i := rfl
  rw [e1]
  split <;> simp
theorem un_cons (r : List Int) (t : List (List Int)) (i : Nat) : un (i + 1) (r :: t) = (r.getD (back (un i t).1 r) 0, r.set (back (un i t).1 r) (un i t).1 :: (un i t).2) := by
  unfold un
  have e1 : row (r :: t) (i + 1) = row t i := rfl
  rw [tk_cons, e1, unUp_cons]

def Srt (r : List Int) : Prop := ∀ j, j + 1 < r.length → r.getD j 0 ≤ r.getD (j + 1) 0
def Dn (u r : List Int) : Prop := r.length ≤ u.length ∧ ∀ j, j < r.length → u.getD j 0 < r.getD j 0
/-- A tableau, row by row. -/
def T : List (List Int) → Prop
  | [] => True
  | r :: t => 0 < r.length ∧ Srt r ∧ Dn r (t.headD []) ∧ T t

theorem Srt.le {r : List Int} (h : Srt r) {i j : Nat} (hij : i ≤ j) (hj : j < r.length) : r.getD i 0 ≤ r.getD j 0 := by
  induction j with
  | zero => obtain rfl : i = 0 := by omega
            exact Int.le_refl _
  | succ j ih =>
    by_cases e : i = j + 1
    · subst e; exact Int.le_refl _
    · have := ih (by omega) (by omega)
      have := h j hj
      omega
theorem getD_set (r : List Int) (k : Nat) (x : Int) (j : Nat) : (r.set k x).getD j 0 = if j = k ∧ k < r.length then x else r.getD j 0 := by
  simp only [List.getD, List.getElem?_set]
  by_cases h : k = j
  · subst h
    by_cases hl : k < r.length
    · simp [hl]
    · simp [hl]
  · rw [if_neg h, if_neg (fun e => h e.1.symm)]
theorem getD_app (r : List Int) (x : Int) (j : Nat) : (r ++ [x]).getD j 0 = if j < r.length then r.getD j 0 else if j = r.length then x else 0 := by
  simp only [List.getD, List.getElem?_append]
  by_cases h : j < r.length
  · rw [if_pos h, if_pos h]
  · rw [if_neg h, if_neg h]
    by_cases e : j = r.length
    · subst e; simp
    · rw [if_neg e, List.getElem?_eq_none (by simp; omega)]; rfl
theorem getD_drop (r : List Int) (j : Nat) : r.dropLast.getD j 0 = if j + 1 < r.length then r.getD j 0 else 0 := by
  simp only [List.getD, List.getElem?_dropLast]
  by_cases h : j + 1 < r.length
  · rw [if_pos (by omega), if_pos h]
  · rw [if_neg (by omega), if_neg h]; rfl
theorem drop_last {r : List Int} (h : 0 < r.length) : r.dropLast ++ [lastOf r] = r := by
  refine ext_getD (by simp; omega) (fun j hj => ?_)
  rw [getD_app]
  simp at hj
  by_cases e : j < r.dropLast.length
  · rw [if_pos e, getD_drop, if_pos (by simp at e; omega)]
  · rw [if_neg e, if_pos (by simp at e ⊢; omega)]
    simp at e
    rw [lastOf, show r.length - 1 = j by omega]
theorem srt_app {r : List Int} {x : Int} (h : Srt r) (hx : ∀ j, j < r.length → r.getD j 0 ≤ x) : Srt (r ++ [x]) := fun j hj => by
  simp at hj
  rw [getD_app, getD_app, if_pos (by omega)]
  by_cases e : j + 1 < r.length
  · rw [if_pos e]; exact h j e
  · rw [if_neg e, if_pos (by omega)]; exact hx j (by omega)
theorem srt_set {r : List Int} {x : Int} {k : Nat} (h : Srt r) (h1 : ∀ j, j < k → j < r.length → r.getD j 0 ≤ x) (h2 : ∀ j, k < j → j < r.length → x ≤ r.getD j 0) : Srt (r.set k x) := fun j hj => by
  rw [List.length_set] at hj
  rw [getD_set, getD_set]
  by_cases e : j = k ∧ k < r.length
  · rw [if_pos e, if_neg (by omega)]; exact h2 _ (by omega) hj
  · rw [if_neg e]
    by_cases e2 : j + 1 = k ∧ k < r.length
    · rw [if_pos e2]; exact h1 _ (by omega) (by omega)
    · rw [if_neg e2]; exact h j hj
theorem dn_nil (r : List Int) : Dn r [] := ⟨by simp, fun j h => by simp at h⟩

theorem passes_le {x z : Int} : passes false x z = true ↔ z ≤ x := by simp [passes]
theorem passes_no {x z : Int} : passes false x z = false ↔ x < z := by simp [passes]
theorem spot_all {x : Int} {r : List Int} (h : ∀ j, j < r.length → r.getD j 0 ≤ x) : spot false x r = r.length := spot_is (Nat.le_refl _) (fun j hj => passes_le.2 (h j hj)) (Or.inl rfl)

/-- The first row by then. -/
def put (k : Nat) (x : Int) (r : List Int) : List Int := if k = r.length then r ++ [x] else r.set k x
theorem ins_head (x : Int) (ls : List (List Int)) : (ins false x ls).headD [] = put (spot false x (ls.headD [])) x (ls.headD []) := by
  cases ls with
  | nil => simp [ins, put, spot]
  | cons r t =>
    show (ins false x (r :: t)).headD [] = put (spot false x r) x r
    unfold put
    simp only [ins]
    by_cases e : spot false x r = r.length
    · rw [if_pos e, if_pos e]; rfl
    · rw [if_neg e, if_neg e]; rfl
theorem put_len (k : Nat) (x : Int) (r : List Int) : (put k x r).length = if k = r.length then r.length + 1 else r.length := by unfold put; split <;> simp
theorem put_getD {k : Nat} {x : Int} {r : List Int} (hk : k ≤ r.length) (j : Nat) : (put k x r).getD j 0 = if j = k then x else if j < r.length then r.getD j 0 else 0 := by
  unfold put
  by_cases h : k = r.length
  · rw [if_pos h, getD_app]
    by_cases e : j < r.length
    · rw [if_pos e, if_neg (by omega), if_pos e]
    · rw [if_neg e, ← h]
      by_cases e2 : j = k
      · rw [if_pos e2, if_pos e2]
      · rw [if_neg e2, if_neg e2, if_neg (by omega)]
  · rw [if_neg h, getD_set]
    by_cases e : j = k
    · rw [if_pos ⟨e, by omega⟩, if_pos e]
    · rw [if_neg (fun q => e q.1), if_neg e]
      by_cases e2 : j < r.length
      · rw [if_pos e2]
      · rw [if_neg e2]; simp [List.getD, List.getElem?_eq_none (Nat.le_of_not_lt e2)]

theorem set_same {r : List Int} {k : Nat} {x : Int} (hx : x = r.getD k 0) : r.set k x = r := by
  refine ext_getD (by simp) (fun j _ => ?_)
  rw [getD_set]
  by_cases e : j = k ∧ k < r.length
  · rw [if_pos e, e.1, hx]
  · rw [if_neg e]

theorem ins_T : ∀ {ls : List (List Int)} {x : Int}, T ls → T (ins false x ls) ∧ un (insAt false x ls) (ins false x ls) = (x, ls) := by
  intro ls
  induction ls with
  | nil =>
    intro x _
    refine ⟨⟨by simp, fun j hj => absurd hj (by simp), dn_nil _, trivial⟩, ?_⟩
    simp [ins, insAt, un, unUp, tk, row, lastOf]
  | cons r t ih =>
    intro x hT
    obtain ⟨h1, h2, h3, h4⟩ := hT
    have hsl := spot_le false x r
    have hpass : ∀ j, j < spot false x r → r.getD j 0 ≤ x := fun j hj => passes_le.1 (spot_pass false x r j hj)
    simp only [ins, insAt]
    by_cases e : spot false x r = r.length
    · rw [if_pos e, if_pos e]
      rw [e] at hpass
      refine ⟨⟨by simp, srt_app h2 hpass, ⟨by have := h3.1; rw [List.length_append]; omega, fun j hj => ?_⟩, h4⟩, ?_⟩
      · have := h3.1
        rw [getD_app, if_pos (by omega)]; exact h3.2 j hj
      · have e1 : row ((r ++ [x]) :: t) 0 = r ++ [x] := rfl
        unfold un tk
        rw [e1, if_neg (by rw [List.length_append, List.length_singleton]; omega)]
        simp only [unUp, lastOf]
        rw [getD_app]
        simp
    · rw [if_neg e, if_neg e]
      have hlt : spot false x r < r.length := by omega
      obtain ⟨k, hk⟩ : ∃ k, k = spot false x r := ⟨_, rfl⟩
      rw [← hk] at hpass hlt e ⊢
      obtain ⟨y, hy⟩ : ∃ y, y = r.getD k 0 := ⟨_, rfl⟩
      have hxy : x < y := by rw [hy, hk]; exact passes_no.1 (spot_stop false x r (by omega))
      rw [← hy]
      obtain ⟨ihT, ihU⟩ := @ih y h4
      refine ⟨⟨by simpa using h1, srt_set h2 (fun j hj _ => hpass j hj) (fun j hj hl => ?_), ?_, ihT⟩, ?_⟩
      · have := h2.le (i := k) (j := j) (by omega) hl; omega
      · rw [ins_head]
        obtain ⟨r1, hr1⟩ : ∃ r1, r1 = t.headD [] := ⟨_, rfl⟩
        rw [← hr1] at h3 ⊢
        have hml := spot_le false y r1
        have hmk : spot false y r1 ≤ k := Nat.le_of_not_lt (fun hgt => by
          have a1 := passes_le.1 (spot_pass false y r1 k hgt)
          have a2 := h3.2 k (by omega)
          omega)
        obtain ⟨m, hm⟩ : ∃ m, m = spot false y r1 := ⟨_, rfl⟩
        rw [← hm] at hml hmk ⊢
        refine ⟨?_, fun j hj => ?_⟩
        · rw [put_len, List.length_set]; have := h3.1; split <;> omega
        · rw [put_getD hml, getD_set]
          rw [put_len] at hj
          by_cases e2 : j = m
          · rw [if_pos e2]
            by_cases e3 : j = k ∧ k < r.length
            · rw [if_pos e3]; exact hxy
            · rw [if_neg e3]
              have := hpass j (by omega); omega
          · have hj1 : j < r1.length := by split at hj <;> omega
            rw [if_neg e2, if_pos hj1]
            have := h3.2 j hj1
            by_cases e3 : j = k ∧ k < r.length
            · rw [if_pos e3, ]
              rw [e3.1, ← hy] at this
              rw [e3.1]; omega
            · rw [if_neg e3]; exact this
      · rw [un_cons, ihU]
        have hb : IsBack y (r.set k x) k := ⟨by simpa using hlt, by rw [getD_set, if_pos ⟨rfl, hlt⟩]; exact hxy, fun m hm hl => by
          rw [List.length_set] at hl
          rw [getD_set, if_neg (by omega), hy]; exact h2.le (by omega) hl⟩
        have hbk : back y (r.set k x) = k := (back_is ⟨k, hb.lt, hb.less⟩).uniq hb
        simp only [hbk]
        rw [getD_set, if_pos ⟨rfl, hlt⟩, List.set_set, set_same hy]

/-- What the first row is by then, and which letter of it went up. -/
structure Undo (r0 : List Int) (y : Int) (c : Nat) (h' : List Int) : Prop where
  lt : c < r0.length
  is : y = r0.getD c 0
  len : h'.length ≤ r0.length
  same : ∀ m, m < h'.length → m ≠ c → h'.getD m 0 = r0.getD m 0
  more : ∀ m, m < h'.length → c ≤ m → y < h'.getD m 0

theorem un_T : ∀ {ls : List (List Int)} {i : Nat}, T ls → i < ls.length → (row ls (i + 1)).length < (row ls i).length →
    T (un i ls).2 ∧ ins false (un i ls).1 (un i ls).2 = ls ∧ insAt false (un i ls).1 (un i ls).2 = i ∧ ∃ c, Undo (ls.headD []) (un i ls).1 c ((un i ls).2.headD []) := by
  intro ls
  induction ls with
  | nil => intro i _ h; simp at h
  | cons r t ih =>
    intro i hT hi hc
    obtain ⟨h1, h2, h3, h4⟩ := hT
    cases i with
    | zero =>
      have e0 : row (r :: t) 0 = r := rfl
      have e1 : row (r :: t) (0 + 1) = t.headD [] := by cases t <;> rfl
      rw [e0, e1] at hc
      have hlast : ∀ j, j < r.length → r.getD j 0 ≤ lastOf r := fun j hj => h2.le (by omega) (by omega)
      by_cases hl : r.length ≤ 1
      · have ht : t = [] := by
          cases t with
          | nil => rfl
          | cons r1 t1 => have := h4.1; simp at hc; omega
        subst ht
        have eu : un 0 [r] = (lastOf r, []) := by unfold un tk; rw [show row [r] 0 = r from rfl, if_pos hl]; rfl
        rw [eu]
        refine ⟨trivial, ?_, rfl, 0, ⟨by simpa using h1, by simp [lastOf]; rw [show r.length - 1 = 0 by omega], by simp, fun m h => by simp at h, fun m h => by simp at h⟩⟩
        have := drop_last h1
        have e5 : r.dropLast = [] := List.eq_nil_of_length_eq_zero (by simp; omega)
        rw [e5] at this
        simp only [ins]
        simpa using this
      · have eu : un 0 (r :: t) = (lastOf r, r.dropLast :: t) := by unfold un tk; rw [e0, if_neg hl]; rfl
        rw [eu]
        have hsp : spot false (lastOf r) r.dropLast = r.dropLast.length := spot_all (fun j hj => by
          simp at hj
          rw [getD_drop, if_pos (by omega)]; exact hlast j (by omega))
        refine ⟨⟨by rw [List.length_dropLast]; omega, fun j hj => ?_, ⟨by rw [List.length_dropLast]; omega, fun j hj => ?_⟩, h4⟩, ?_, ?_, r.length - 1, ⟨by simp; omega, rfl, by simp, fun m hm _ => ?_, fun m hm hcm => ?_⟩⟩
        · simp at hj
          rw [getD_drop, getD_drop, if_pos (by omega), if_pos (by omega)]; exact h2 j (by omega)
        · rw [getD_drop, if_pos (by omega)]; exact h3.2 j hj
        · simp only [ins]; rw [if_pos hsp, drop_last h1]
        · simp only [insAt]; rw [if_pos hsp]
        · simp at hm
          simp only [List.headD_cons]
          rw [getD_drop, if_pos (by omega)]
        · simp at hm; omega
    | succ i =>
      have e0 : row (r :: t) (i + 1) = row t i := rfl
      have e1 : row (r :: t) (i + 1 + 1) = row t (i + 1) := rfl
      rw [e0, e1] at hc
      obtain ⟨t1, t2, t3, c, hu⟩ := ih h4 (by simpa using hi) hc
      rw [un_cons]
      obtain ⟨y, hy⟩ : ∃ y, y = (un i t).1 := ⟨_, rfl⟩
      obtain ⟨t', ht'⟩ : ∃ t', t' = (un i t).2 := ⟨_, rfl⟩
      rw [← hy, ← ht'] at t2 t3 hu ⊢
      rw [← ht'] at t1
      have hcr : c < r.length := by have := hu.lt; have := h3.1; omega
      have hrc : r.getD c 0 < y := by rw [hu.is]; exact h3.2 c hu.lt
      have hb := back_is (x := y) (r := r) ⟨c, hcr, hrc⟩
      obtain ⟨k, hk⟩ : ∃ k, k = back y r := ⟨_, rfl⟩
      rw [← hk] at hb ⊢
      have hck : c ≤ k := Nat.le_of_not_lt (fun h => by have := hb.after c h hcr; omega)
      have hless := hb.less
      have hkl := hb.lt
      have hsp : spot false (r.getD k 0) (r.set k y) = k := by
        refine spot_is (by simp; omega) (fun j hj => passes_le.2 ?_) (Or.inr (passes_no.2 ?_))
        · rw [getD_set, if_neg (by omega)]; exact h2.le (by omega) hkl
        · rw [getD_set, if_pos ⟨rfl, hkl⟩]; exact hless
      refine ⟨⟨by simpa using h1, srt_set h2 (fun j hj _ => ?_) (fun j hj hl => hb.after j hj hl), ⟨?_, fun j hj => ?_⟩, t1⟩, ?_, ?_, k, ⟨by simpa using hkl, rfl, by simp, fun m hm hmk => ?_, fun m hm hkm => ?_⟩⟩
      · have := h2.le (i := j) (j := k) (by omega) hkl; omega
      · rw [List.length_set]; have := hu.len; have := h3.1; omega
      · rw [getD_set]
        have hjl : j < (t.headD []).length := by have := hu.len; omega
        by_cases e : j = k ∧ k < r.length
        · rw [if_pos e]; exact hu.more j hj (by omega)
        · rw [if_neg e]
          by_cases e2 : j = c
          · subst e2; have := hu.more j hj (Nat.le_refl _); omega
          · rw [hu.same j hj e2]; exact h3.2 j hjl
      · simp only [ins]
        rw [hsp, if_neg (by simp; omega), getD_set, if_pos ⟨rfl, hkl⟩, t2, List.set_set, set_same rfl]
      · simp only [insAt]
        rw [hsp, if_neg (by simp; omega), getD_set, if_pos ⟨rfl, hkl⟩, t3]
      · simp only [List.headD_cons]; rw [getD_set, if_neg (fun h => hmk h.1)]
      · simp at hm
        simp only [List.headD_cons]
        rw [getD_set]
        by_cases e : m = k ∧ k < r.length
        · rw [if_pos e]; exact hless
        · rw [if_neg e]; have := hb.after m (by omega) hm; omega

/-- Where the next box comes. -/
theorem at_le : ∀ {ls : List (List Int)} {x y : Int}, T ls → x ≤ y → insAt false y (ins false x ls) ≤ insAt false x ls := by
  intro ls
  induction ls with
  | nil => intro x y _ h; simp [ins, insAt, spot, passes, h]
  | cons r t ih =>
    intro x y hT hxy
    obtain ⟨h1, h2, h3, h4⟩ := hT
    have hsl := spot_le false x r
    have hpass : ∀ j, j < spot false x r → r.getD j 0 ≤ x := fun j hj => passes_le.1 (spot_pass false x r j hj)
    obtain ⟨k, hk⟩ : ∃ k, k = spot false x r := ⟨_, rfl⟩
    simp only [ins, insAt, ← hk]
    rw [← hk] at hpass hsl
    by_cases e : k = r.length
    · rw [if_pos e, if_pos e]
      simp only [insAt]
      rw [if_pos]
      · omega
      · refine spot_all (fun j hj => ?_)
        simp at hj
        rw [getD_app]
        by_cases e2 : j < r.length
        · rw [if_pos e2]; have := hpass j (by omega); omega
        · rw [if_neg e2, if_pos (by omega)]; exact hxy
    · rw [if_neg e, if_neg e]
      have hlt : k < r.length := by omega
      simp only [insAt]
      by_cases e2 : spot false y (r.set k x) = (r.set k x).length
      · rw [if_pos e2]; omega
      · rw [if_neg e2]
        have hsl2 := spot_le false y (r.set k x)
        have hst := passes_no.1 (spot_stop false y (r.set k x) (by omega))
        obtain ⟨m, hm⟩ : ∃ m, m = spot false y (r.set k x) := ⟨_, rfl⟩
        rw [← hm] at hst e2 hsl2 ⊢
        rw [List.length_set] at e2 hsl2
        have hmk : k < m := Nat.lt_of_not_le (fun hle => by
          rw [getD_set] at hst
          by_cases e3 : m = k ∧ k < r.length
          · rw [if_pos e3] at hst; omega
          · rw [if_neg e3] at hst; have := hpass m (by omega); omega)
        have e4 : (r.set k x).getD m 0 = r.getD m 0 := by rw [getD_set, if_neg (by omega)]
        rw [e4]
        have := @ih (r.getD k 0) (r.getD m 0) h4 (h2.le (by omega) (by omega))
        omega
theorem at_lt : ∀ {ls : List (List Int)} {x y : Int}, T ls → y < x → insAt false x ls < insAt false y (ins false x ls) := by
  intro ls
  induction ls with
  | nil => intro x y _ h; simp [ins, insAt, spot, passes]; rw [if_neg (by omega)]; simp
  | cons r t ih =>
    intro x y hT hxy
    obtain ⟨h1, h2, h3, h4⟩ := hT
    have hsl := spot_le false x r
    have hpass : ∀ j, j < spot false x r → r.getD j 0 ≤ x := fun j hj => passes_le.1 (spot_pass false x r j hj)
    obtain ⟨k, hk⟩ : ∃ k, k = spot false x r := ⟨_, rfl⟩
    have hst : k < r.length → x < r.getD k 0 := fun h => by rw [hk]; exact passes_no.1 (spot_stop false x r (by omega))
    simp only [ins, insAt, ← hk]
    rw [← hk] at hpass hsl
    by_cases e : k = r.length
    · rw [if_pos e, if_pos e]
      simp only [insAt]
      rw [if_neg]
      · omega
      · intro h
        have := passes_le.1 (spot_pass false y (r ++ [x]) r.length (by rw [h]; simp))
        rw [getD_app, if_neg (by omega), if_pos rfl] at this
        omega
    · rw [if_neg e, if_neg e]
      have hlt : k < r.length := by omega
      simp only [insAt]
      have hsl2 := spot_le false y (r.set k x)
      have hp2 := spot_pass false y (r.set k x)
      obtain ⟨m, hm⟩ : ∃ m, m = spot false y (r.set k x) := ⟨_, rfl⟩
      rw [← hm] at hsl2 hp2 ⊢
      rw [List.length_set] at hsl2 ⊢
      have hmk : m ≤ k := Nat.le_of_not_lt (fun h => by
        have := passes_le.1 (hp2 k h)
        rw [getD_set, if_pos ⟨rfl, hlt⟩] at this; omega)
      rw [if_neg (by omega)]
      have hk2 := hst hlt
      have : (r.set k x).getD m 0 < r.getD k 0 := by
        rw [getD_set]
        by_cases e3 : m = k ∧ k < r.length
        · rw [if_pos e3]; exact hk2
        · rw [if_neg e3]; have := hpass m (by omega); omega
      have := @ih (r.getD k 0) ((r.set k x).getD m 0) h4 this
      omega

end Go.Proofs.Ytpbmcaoomcippad

namespace Go.Proofs.Ytpbmcaoomcippad

/-- The uppermost row at whose end the greatest letter stands. -/
structure IsTop (q : List (List Int)) (i : Nat) : Prop where
  lt : i < q.length
  most : ∀ a, a < q.length → lastOf (row q a) ≤ lastOf (row q i)
  first : ∀ a, a < i → lastOf (row q a) < lastOf (row q i)
theorem IsTop.uniq {q : List (List Int)} {i j : Nat} (h : IsTop q i) (h' : IsTop q j) : i = j := by
  rcases Nat.lt_trichotomy i j with c | c | c
  · have := h'.first i c; have := h.most j h'.lt; omega
  · exact c
  · have := h.first j c; have := h'.most i h.lt; omega
def top : List (List Int) → Nat
  | [] => 0
  | r :: t => if t = [] then 0 else if lastOf (row t (top t)) ≤ lastOf r then 0 else top t + 1
theorem top_is : ∀ {q : List (List Int)}, 0 < q.length → IsTop q (top q) := by
  intro q
  induction q with
  | nil => intro h; simp at h
  | cons r t ih =>
    intro _
    simp only [top]
    by_cases e : t = []
    · rw [if_pos e]; subst e
      exact ⟨by simp, fun a ha => by simp at ha; subst ha; exact Int.le_refl _, fun a ha => by omega⟩
    · rw [if_neg e]
      have ih := ih (List.length_pos_iff.2 e)
      by_cases h : lastOf (row t (top t)) ≤ lastOf r
      · rw [if_pos h]
        refine ⟨by simp, fun a ha => ?_, fun a ha => by omega⟩
        cases a with
        | zero => exact Int.le_refl _
        | succ a => exact Int.le_trans (ih.most a (by simpa using ha)) h
      · rw [if_neg h]
        have e2 : row (r :: t) (top t + 1) = row t (top t) := rfl
        refine ⟨by have := ih.lt; simpa using this, fun a ha => ?_, fun a ha => ?_⟩
        · rw [e2]
          cases a with
          | zero => exact Int.le_of_lt (Int.not_le.1 h)
          | succ a => exact ih.most a (by simpa using ha)
        · rw [e2]
          cases a with
          | zero => exact Int.not_le.1 h
          | succ a => exact ih.first a (by omega)

/-- One pair more. -/
def put1 (s : List (List Int) × List (List Int)) (c : Int × Int) : List (List Int) × List (List Int) := (ins false c.2 s.1, lng s.2 (insAt false c.2 s.1) c.1)
def mk (l : List (Int × Int)) : List (List Int) × List (List Int) := l.foldl put1 ([], [])
theorem mk_snoc (l : List (Int × Int)) (c : Int × Int) : mk (l ++ [c]) = put1 (mk l) c := by simp [mk]
def undo : Nat → List (List Int) → List (List Int) → List (Int × Int)
  | 0, _, _ => []
  | n + 1, p, q => undo n (un (top q) p).2 (tk q (top q)) ++ [(lastOf (row q (top q)), (un (top q) p).1)]
theorem undo_length : ∀ (n : Nat) (p q : List (List Int)), (undo n p q).length = n := by
  intro n
  induction n with
  | zero => intro p q; rfl
  | succ n ih => intro p q; simp [undo, ih]

/-- In order, by A, then by B. -/
def Ord2 (c d : Int × Int) : Prop := c.1 < d.1 ∨ c.1 = d.1 ∧ c.2 ≤ d.2

-- Tableaux row by row, and by their rows.
theorem T_row : ∀ {ls : List (List Int)}, T ls ↔ ∀ i, i < ls.length → 0 < (row ls i).length ∧ Srt (row ls i) ∧ Dn (row ls i) (row ls (i + 1)) := by
  intro ls
  induction ls with
  | nil => simp [T]
  | cons r t ih =>
    have e0 : row (r :: t) (0 + 1) = t.headD [] := by cases t <;> rfl
    constructor
    · rintro ⟨h1, h2, h3, h4⟩ i hi
      cases i with
      | zero => rw [e0]; exact ⟨h1, h2, h3⟩
      | succ i => exact ih.1 h4 i (by simpa using hi)
    · intro h
      obtain ⟨h1, h2, h3⟩ := h 0 (by simp)
      rw [e0] at h3
      exact ⟨h1, h2, h3, ih.2 (fun i hi => h (i + 1) (by simpa using hi))⟩
theorem T.shp {ls : List (List Int)} (h : T ls) : Shp ls := ⟨fun a ha => (T_row.1 h a ha).1, fun a ha => (T_row.1 h a (by omega)).2.2.1⟩
theorem IsTab.T {ls : List (List Int)} (h : IsTab ls) : T ls := by
  refine T_row.2 (fun i hi => ⟨(h.ok i hi).one, fun j hj => (h.ok i hi).rise j hj, ?_⟩)
  by_cases hn : i + 1 < ls.length
  · exact ⟨h.shorter (by omega) hn, fun j hj => h.column (by omega) hn hj⟩
  · rw [row_out (a := i + 1) (by omega)]; exact dn_nil _
theorem T.isTab {ls : List (List Int)} (h : T ls) (hf : ls.flatten.length ≤ 40) (hl : ∀ z ∈ ls.flatten, 1 ≤ z ∧ z ≤ 99) : IsTab ls := by
  refine ⟨hf, fun i hi => ⟨(T_row.1 h i hi).1, fun h0 => ?_, fun j hj => hl _ (box_mem hi hj), fun j hj => (T_row.1 h i hi).2.1 j hj, fun h0 j hj => ?_⟩⟩
  · obtain ⟨k, rfl⟩ : ∃ k, i = k + 1 := ⟨i - 1, by omega⟩
    rw [upOf_succ]; exact (T_row.1 h k (by omega)).2.2.1
  · obtain ⟨k, rfl⟩ : ∃ k, i = k + 1 := ⟨i - 1, by omega⟩
    rw [upOf_succ]; exact (T_row.1 h k (by omega)).2.2.2 j hj

theorem corner_top {q : List (List Int)} (h : T q) (h0 : 0 < q.length) : (row q (top q + 1)).length < (row q (top q)).length := by
  have hq := top_is h0
  refine Nat.lt_of_not_le (fun hle => ?_)
  have t1 := (T_row.1 h (top q) hq.lt)
  have t2 : top q + 1 < q.length := Nat.lt_of_not_le (fun hh => by rw [row_out (a := top q + 1) hh] at hle; have := t1.1; rw [List.length_nil] at hle; omega)
  have t3 := t1.2.2.1
  have t4 := t1.2.2.2 ((row q (top q)).length - 1) (by have := t1.1; omega)
  have t5 := hq.most _ t2
  have t6 : (row q (top q + 1)).length = (row q (top q)).length := by omega
  unfold lastOf at t5
  rw [t6] at t5
  omega

/-- Where a box comes the row is shorter than the one above. -/
theorem at_corner : ∀ {ls : List (List Int)} {x : Int}, T ls → (∀ i, (row (ins false x ls) i).length = (row ls i).length + if i = insAt false x ls then 1 else 0) := by
  intro ls
  induction ls with
  | nil =>
    intro x _ i
    cases i with
    | zero => simp [ins, insAt, row]
    | succ i => simp [ins, insAt, row]
  | cons r t ih =>
    intro x hT i
    obtain ⟨h1, h2, h3, h4⟩ := hT
    by_cases e : spot false x r = r.length
    · have e1 : ins false x (r :: t) = (r ++ [x]) :: t := by simp only [ins]; rw [if_pos e]
      have e2 : insAt false x (r :: t) = 0 := by simp only [insAt]; rw [if_pos e]
      rw [e1, e2]
      cases i with
      | zero => simp [row]
      | succ i => simp [row]
    · have e1 : ins false x (r :: t) = r.set (spot false x r) x :: ins false (r.getD (spot false x r) 0) t := by simp only [ins]; rw [if_neg e]
      have e2 : insAt false x (r :: t) = insAt false (r.getD (spot false x r) 0) t + 1 := by simp only [insAt]; rw [if_neg e]
      rw [e1, e2]
      cases i with
      | zero => simp [row]
      | succ i =>
        have := @ih (r.getD (spot false x r) 0) h4 i
        rw [show row (r.set (spot false x r) x :: ins false (r.getD (spot false x r) 0) t) (i + 1) = row (ins false (r.getD (spot false x r) 0) t) i from rfl, show row (r :: t) (i + 1) = row t i from rfl, this]
        congr 1
        by_cases e2 : i = insAt false (r.getD (spot false x r) 0) t
        · rw [if_pos e2, if_pos (by omega)]
        · rw [if_neg e2, if_neg (by omega)]

theorem lastOf_app (r : List Int) (x : Int) : lastOf (r ++ [x]) = x := by unfold lastOf; rw [getD_app]; simp
theorem row_le_last {r : List Int} (h : Srt r) {j : Nat} (hj : j < r.length) : r.getD j 0 ≤ lastOf r := h.le (by omega) (by omega)
theorem tk_lng {ls : List (List Int)} (h : ∀ r ∈ ls, 0 < r.length) {i : Nat} (hi : i ≤ ls.length) (x : Int) : tk (lng ls i x) i = ls := by
  unfold tk
  rw [lng_row hi, if_pos rfl]
  by_cases e : i = ls.length
  · rw [row_out (by omega)]
    unfold lng
    rw [if_pos e]
    simp [e]
  · have hp : 0 < (row ls i).length := h _ (row_mem (by omega))
    rw [if_neg (by rw [List.length_append, List.length_singleton]; omega)]
    unfold lng
    rw [if_neg e, List.set_set]
    simp only [List.dropLast_concat]
    refine ext_row (by simp) (fun a _ => ?_)
    rw [row_set]
    by_cases k : a = i ∧ i < ls.length
    · rw [if_pos k, k.1]
    · rw [if_neg k]

/-- What holds of the pairs that were put in. -/
structure Made (l : List (Int × Int)) (p q : List (List Int)) : Prop where
  tp : T p
  tq : T q
  lens : ∀ i, (row p i).length = (row q i).length
  len : p.length = q.length
  most : ∀ c, l.getLast? = some c → ∀ z ∈ q.flatten, z ≤ c.1
  up : ∀ c, l.getLast? = some c → ∀ i, i < q.length → lastOf (row q i) = c.1 → insAt false c.2 (un (top q) p).2 ≤ i
  back : undo l.length p q = l
  cnt : q.flatten.length = l.length

theorem flat_sum (ls : List (List Int)) : ls.flatten.length = S ls.length (fun a => (row ls a).length) := by
  have : ∀ k, k ≤ ls.length → S k (fun a => (row ls a).length) = (ls.take k).flatten.length := by
    intro k
    induction k with
    | zero => intro _; simp [S]
    | succ k ih => intro hk; rw [S, ih (by omega), flat_take ls k (by omega), List.length_append]
  rw [this ls.length (Nat.le_refl _), List.take_length]
theorem lng_flat {ls : List (List Int)} {i : Nat} (hi : i ≤ ls.length) (x : Int) : (lng ls i x).flatten.length = ls.flatten.length + 1 ∧ ∀ z ∈ (lng ls i x).flatten, z = x ∨ z ∈ ls.flatten := by
  unfold lng
  by_cases e : i = ls.length
  · rw [if_pos e]
    refine ⟨by simp, fun z hz => ?_⟩
    rw [List.flatten_append, List.mem_append] at hz
    rcases hz with hz | hz
    · exact Or.inr hz
    · left; simpa using hz
  · rw [if_neg e, List.set_eq_take_append_cons_drop, if_pos (by omega)]
    have e2 : ls = ls.take i ++ row ls i :: ls.drop (i + 1) := by
      conv => lhs; rw [← List.take_append_drop i ls]
      rw [List.drop_eq_getElem_cons (by omega)]; simp [row, List.getD, List.getElem?_eq_getElem (show i < ls.length by omega)]
    refine ⟨?_, fun z hz => ?_⟩
    · conv => rhs; rw [e2]
      simp only [List.flatten_append, List.flatten_cons, List.length_append, List.length_singleton]; omega
    · rw [List.flatten_append, List.flatten_cons, List.mem_append, List.mem_append, List.mem_append] at hz
      rw [e2, List.flatten_append, List.flatten_cons, List.mem_append, List.mem_append]
      rcases hz with hz | (hz | hz) | hz
      · exact Or.inr (Or.inl hz)
      · exact Or.inr (Or.inr (Or.inl hz))
      · left; simpa using hz
      · exact Or.inr (Or.inr (Or.inr hz))

theorem made_nil : Made [] [] [] := ⟨trivial, trivial, fun _ => rfl, rfl, fun c h => by simp at h, fun c h => by simp at h, rfl, rfl⟩

theorem Made.snoc {l : List (Int × Int)} {p q : List (List Int)} (h : Made l p q) (c : Int × Int) (hc : ∀ d, l.getLast? = some d → Ord2 d c) (h1 : l = [] → q = []) (hl : l ≠ [] → ins false (un (top q) p).1 (un (top q) p).2 = p ∧ ∀ d, l.getLast? = some d → d.2 = (un (top q) p).1) :
    Made (l ++ [c]) (ins false c.2 p) (lng q (insAt false c.2 p) c.1) := by
  obtain ⟨a, b⟩ := c
  simp only at *
  obtain ⟨hT, hU⟩ := ins_T (x := b) h.tp
  have hle : insAt false b p ≤ q.length := by rw [← h.len]; exact insAt_le
  have hcor := at_corner (x := b) h.tp
  obtain ⟨i, hi⟩ : ∃ i, i = insAt false b p := ⟨_, rfl⟩
  rw [← hi] at hU hle hcor ⊢
  -- all letters of q are at most a; rows above i do not end with a
  have hmost : ∀ z ∈ q.flatten, z ≤ a := fun z hz => by
    cases e : l.getLast? with
    | none =>
      rw [List.getLast?_eq_none_iff] at e
      rw [h1 e] at hz; simp at hz
    | some d =>
      have k1 := h.most d e z hz
      have := hc d e
      unfold Ord2 at this; simp only at this; omega
  have hup : ∀ k, k < q.length → lastOf (row q k) = a → i ≤ k := fun k hk ha => by
    cases e : l.getLast? with
    | none =>
      rw [List.getLast?_eq_none_iff] at e
      rw [h1 e] at hk; simp at hk
    | some d =>
      have hne : l ≠ [] := fun e2 => by rw [e2] at e; simp at e
      obtain ⟨g1, g2⟩ := hl hne
      have g2 := g2 d e
      have hrow : 0 < (row q k).length := (T_row.1 h.tq k hk).1
      have hmem : lastOf (row q k) ∈ q.flatten := box_mem hk (show (row q k).length - 1 < (row q k).length by omega)
      have k1 := h.most d e _ hmem
      have k2 := hc d e
      unfold Ord2 at k2; simp only at k2
      have k3 : d.1 = a := by omega
      have k4 : d.2 ≤ b := by omega
      have k5 := h.up d e k hk (by omega)
      have hTu : T (un (top q) p).2 := by
        have hq := top_is (q := q) (by omega)
        refine (un_T h.tp (by rw [h.len]; exact hq.lt) ?_).1
        rw [h.lens, h.lens]
        exact corner_top h.tq (by omega)
      have k6 := at_le (ls := (un (top q) p).2) (x := d.2) (y := b) hTu k4
      rw [g2] at k6
      rw [g1, ← hi] at k6
      rw [← g2] at k6
      omega
  have hrow : ∀ k, row (lng q i a) k = if k = i then row q i ++ [a] else row q k := lng_row hle a
  have hlen : ∀ k, (row (ins false b p) k).length = (row (lng q i a) k).length := fun k => by
    rw [hcor k, h.lens, hrow]
    by_cases e : k = i
    · rw [if_pos e, if_pos e, e]; simp
    · rw [if_neg e, if_neg e]; simp
  have hsame : (ins false b p).length = (lng q i a).length := by
    have o1 := hT.shp.one
    have f1 : ∀ {A B : List (List Int)}, (∀ k, k < A.length → 0 < (row A k).length) → (∀ k, (row A k).length = (row B k).length) → A.length ≤ B.length := fun {A B} hA hAB => by
      refine Nat.le_of_not_lt (fun hlt => ?_)
      have := hA B.length hlt
      rw [hAB, row_out (Nat.le_refl _)] at this; simp at this
    refine Nat.le_antisymm (f1 o1 hlen) (f1 (fun k hk => ?_) (fun k => (hlen k).symm))
    rw [hrow]
    by_cases e : k = i
    · rw [if_pos e]; simp
    · rw [if_neg e]
      rw [lng_length] at hk
      exact h.tq.shp.one k (by split at hk <;> omega)
  have hq1 : ∀ k, k < q.length → ∀ j, j < (row q k).length → (row q k).getD j 0 ≤ a := fun k hk j hj => hmost _ (box_mem hk hj)
  have hshort : ∀ k, k + 1 = i → (row q i).length < (row q k).length := fun k hk => by
    have s1 := hT.shp.shorter' (a := k) (b := i) (by omega)
    rw [hcor, hcor, if_pos rfl, if_neg (by omega), h.lens, h.lens] at s1
    omega
  have htq : T (lng q i a) := by
    refine T_row.2 (fun k hk => ?_)
    have hk' : k ≠ i → k < q.length := fun e => by rw [lng_length] at hk; split at hk <;> omega
    rw [hrow, hrow]
    by_cases e : k = i
    · rw [if_pos e, if_neg (by omega)]
      subst e
      by_cases hkq : k < q.length
      · obtain ⟨r1, r2, r3⟩ := T_row.1 h.tq k hkq
        refine ⟨by simp, srt_app r2 (fun j hj => hq1 k hkq j hj), ⟨by have := r3.1; rw [List.length_append]; omega, fun j hj => ?_⟩⟩
        have := r3.1
        rw [getD_app, if_pos (by omega)]; exact r3.2 j hj
      · rw [row_out (a := k) (by omega), row_out (a := k + 1) (by omega)]
        exact ⟨by simp, fun j hj => absurd hj (by simp), dn_nil _⟩
    · rw [if_neg e]
      obtain ⟨r1, r2, r3⟩ := T_row.1 h.tq k (hk' e)
      refine ⟨r1, r2, ?_⟩
      by_cases e2 : k + 1 = i
      · rw [if_pos e2]
        have hs := hshort k e2
        refine ⟨by rw [List.length_append, List.length_singleton]; omega, fun j hj => ?_⟩
        rw [List.length_append, List.length_singleton] at hj
        rw [getD_app]
        by_cases e3 : j < (row q i).length
        · rw [if_pos e3, ← e2]; rw [← e2] at e3; exact r3.2 j e3
        · rw [if_neg e3, if_pos (by omega)]
          -- the letter above is not a
          have a1 := row_le_last r2 (j := j) (by omega)
          have a2 := hq1 k (hk' e) ((row q k).length - 1) (by omega)
          have a3 : lastOf (row q k) ≠ a := fun ea => by have := hup k (hk' e) ea; omega
          unfold lastOf at a1 a3
          omega
      · rw [if_neg e2]; exact r3
  have htop : IsTop (lng q i a) i := by
    refine ⟨by rw [lng_length]; split <;> omega, fun k hk => ?_, fun k hk => ?_⟩
    · rw [hrow, hrow, if_pos rfl, lastOf_app]
      by_cases e : k = i
      · rw [if_pos e, lastOf_app]; exact Int.le_refl _
      · rw [if_neg e]
        have hk' : k < q.length := by rw [lng_length] at hk; split at hk <;> omega
        exact hq1 k hk' _ (by have := h.tq.shp.one k hk'; omega)
    · rw [hrow, hrow, if_pos rfl, lastOf_app, if_neg (by omega)]
      have hk' : k < q.length := by omega
      have b1 := hq1 k hk' ((row q k).length - 1) (by have := h.tq.shp.one k hk'; omega)
      have b2 : lastOf (row q k) ≠ a := fun ea => by have := hup k hk' ea; omega
      unfold lastOf at b2 ⊢
      omega
  have etop : top (lng q i a) = i := (top_is (by have := htop.lt; omega)).uniq htop
  have hlast : (l ++ [(a, b)]).getLast? = some (a, b) := by simp
  refine ⟨hT, htq, hlen, hsame, fun d hd z hz => ?_, fun d hd k hk hk2 => ?_, ?_, ?_⟩
  · rw [hlast] at hd; cases hd
    rcases (lng_flat hle a).2 z hz with e | e
    · simp only; omega
    · exact hmost z e
  · rw [hlast] at hd; cases hd
    simp only at hk2 ⊢
    rw [etop, hU]
    simp only
    rw [← hi]
    by_cases e : k = i
    · omega
    · rw [hrow, if_neg e] at hk2
      have hk' : k < q.length := by rw [lng_length] at hk; split at hk <;> omega
      exact hup k hk' hk2
  · rw [List.length_append, List.length_singleton]
    simp only [undo]
    rw [etop, hU, hrow, if_pos rfl, lastOf_app, tk_lng (fun r hr => ?_) hle]
    · rw [h.back]
    · obtain ⟨k, hk, rfl⟩ := mem_row hr
      exact h.tq.shp.one k hk
  · rw [(lng_flat hle a).1, h.cnt]; simp

/-- In order, all of them. -/
def Ordered (l : List (Int × Int)) : Prop := ∀ i, i + 1 < l.length → Ord2 (l.getD i (0, 0)) (l.getD (i + 1) (0, 0))

theorem ordered_front {l : List (Int × Int)} {c : Int × Int} (h : Ordered (l ++ [c])) : Ordered l ∧ ∀ d, l.getLast? = some d → Ord2 d c := by
  refine ⟨fun i hi => ?_, fun d hd => ?_⟩
  · have := h i (by simp; omega)
    simp only [List.getD, List.getElem?_append] at this ⊢
    rw [if_pos (by omega), if_pos (by omega)] at this
    exact this
  · have hne : l ≠ [] := fun e => by rw [e] at hd; simp at hd
    have hp : 0 < l.length := List.length_pos_iff.2 hne
    have := h (l.length - 1) (by simp; omega)
    simp only [List.getD, List.getElem?_append] at this
    rw [if_pos (by omega), if_neg (by omega), show l.length - 1 + 1 - l.length = 0 by omega] at this
    rw [List.getLast?_eq_getElem?] at hd
    rw [hd] at this
    simpa using this

theorem mk_made : ∀ (n : Nat) (l : List (Int × Int)), l.length = n → Ordered l → Made l (mk l).1 (mk l).2 ∧ (l = [] → (mk l).2 = []) ∧ (l ≠ [] → ins false (un (top (mk l).2) (mk l).1).1 (un (top (mk l).2) (mk l).1).2 = (mk l).1 ∧ ∀ d, l.getLast? = some d → d.2 = (un (top (mk l).2) (mk l).1).1) := by
  intro n
  induction n with
  | zero =>
    intro l hl _
    have : l = [] := List.eq_nil_of_length_eq_zero hl
    subst this
    exact ⟨made_nil, fun _ => rfl, fun h => absurd rfl h⟩
  | succ n ih =>
    intro l hl ho
    have hne : l ≠ [] := fun e => by rw [e] at hl; simp at hl
    obtain ⟨f, c, rfl⟩ : ∃ f c, l = f ++ [c] := ⟨l.dropLast, l.getLast hne, (List.dropLast_concat_getLast hne).symm⟩
    obtain ⟨o1, o2⟩ := ordered_front ho
    obtain ⟨m1, m2, m3⟩ := ih f (by simpa using hl) o1
    have hm := m1.snoc c o2 m2 m3
    rw [mk_snoc]
    refine ⟨hm, fun e => by simp at e, fun _ => ?_⟩
    have hb := hm.back
    rw [List.length_append, List.length_singleton] at hb
    simp only [undo] at hb
    have hq : 0 < (lng (mk f).2 (insAt false c.2 (mk f).1) c.1).length := by
      have := hm.cnt
      refine Nat.pos_of_ne_zero (fun e => ?_)
      rw [List.eq_nil_of_length_eq_zero e] at this; simp at this
    have ht := top_is hq
    have hcor : (row (ins false c.2 (mk f).1) (top (lng (mk f).2 (insAt false c.2 (mk f).1) c.1) + 1)).length < (row (ins false c.2 (mk f).1) (top (lng (mk f).2 (insAt false c.2 (mk f).1) c.1))).length := by
      rw [hm.lens, hm.lens]
      exact corner_top hm.tq hq
    have hu := un_T hm.tp (by rw [hm.len]; exact ht.lt) hcor
    refine ⟨hu.2.1, fun d hd => ?_⟩
    have : d = c := by simpa using hd.symm
    subst this
    have e2 := (List.append_inj_right' hb rfl)
    simp only [List.cons.injEq, and_true] at e2
    show d.2 = _
    have e3 := congrArg Prod.snd e2
    simp only at e3
    exact e3.symm

end Go.Proofs.Ytpbmcaoomcippad

namespace Go.Proofs.Ytpbmcaoomcippad

theorem ins_has {s : Bool} : ∀ {ls : List (List Int)} {x : Int}, x ∈ (ins s x ls).flatten ∧ ∀ z ∈ ls.flatten, z ∈ (ins s x ls).flatten := by
  intro ls
  induction ls with
  | nil => intro x; simp [ins]
  | cons r t ih =>
    intro x
    simp only [ins]
    by_cases e : spot s x r = r.length
    · rw [if_pos e]
      refine ⟨by simp, fun z hz => ?_⟩
      rw [List.flatten_cons, List.mem_append] at hz ⊢
      rcases hz with hz | hz
      · left; exact List.mem_append_left _ hz
      · exact Or.inr hz
    · rw [if_neg e]
      have hlt : spot s x r < r.length := by have := spot_le s x r; omega
      obtain ⟨i1, i2⟩ := @ih (r.getD (spot s x r) 0)
      refine ⟨?_, fun z hz => ?_⟩
      · rw [List.flatten_cons, List.mem_append]; left; exact List.mem_set hlt _
      · rw [List.flatten_cons, List.mem_append] at hz ⊢
        rcases hz with hz | hz
        · obtain ⟨k, hk, rfl⟩ := List.mem_iff_getElem.1 hz
          by_cases e2 : k = spot s x r
          · right
            have : r.getD (spot s x r) 0 = r[k] := by simp [List.getD, ← e2, List.getElem?_eq_getElem hk]
            rw [this] at i1 ⊢; exact i1
          · left
            refine List.mem_iff_getElem.2 ⟨k, by simpa using hk, ?_⟩
            rw [List.getElem_set_ne (by omega)]
        · exact Or.inr (i2 z hz)

theorem tk_length {q : List (List Int)} {i : Nat} (hi : i < q.length) : (tk q i).length = if (row q i).length ≤ 1 then i else q.length := by
  unfold tk
  split
  · simp; omega
  · simp
theorem take_row {q : List (List Int)} {i a : Nat} : row (q.take i) a = if a < i then row q a else [] := by
  unfold row
  simp only [List.getD, List.getElem?_take]
  split <;> rfl
/-- A corner's letter taken out: the rows. -/
theorem tk_row {q : List (List Int)} (h : Shp q) {i : Nat} (hi : i < q.length) (hc : (row q (i + 1)).length < (row q i).length) (a : Nat) : row (tk q i) a = if a = i then (row q i).dropLast else row q a := by
  unfold tk
  by_cases e : (row q i).length ≤ 1
  · rw [if_pos e, take_row]
    by_cases e2 : a = i
    · rw [if_neg (by omega), if_pos e2]
      exact (List.eq_nil_of_length_eq_zero (by simp; omega)).symm
    · rw [if_neg e2]
      by_cases e3 : a < i
      · rw [if_pos e3]
      · rw [if_neg e3]
        have := h.shorter' (a := i + 1) (b := a) (by omega)
        exact (List.eq_nil_of_length_eq_zero (by omega)).symm
  · rw [if_neg e, row_set]
    by_cases e2 : a = i
    · rw [if_pos ⟨e2, hi⟩, if_pos e2]
    · rw [if_neg (fun k => e2 k.1), if_neg e2]
theorem lng_tk {q : List (List Int)} (h : Shp q) {i : Nat} (hi : i < q.length) (hc : (row q (i + 1)).length < (row q i).length) : lng (tk q i) i (lastOf (row q i)) = q ∧ i ≤ (tk q i).length := by
  have hp := h.one i hi
  have hle : i ≤ (tk q i).length := by rw [tk_length hi]; split <;> omega
  refine ⟨?_, hle⟩
  have hlast : (row q i).length ≤ 1 → i + 1 = q.length := fun e => by
    refine Nat.le_antisymm (by omega) (Nat.le_of_not_lt (fun hlt => ?_))
    have := h.one (i + 1) hlt; omega
  refine ext_row ?_ (fun a _ => ?_)
  · rw [lng_length, tk_length hi]
    by_cases e : (row q i).length ≤ 1
    · rw [if_pos e, if_pos rfl, hlast e]
    · rw [if_neg e, if_neg (by omega)]
  · rw [lng_row hle, tk_row h hi hc, tk_row h hi hc]
    by_cases e : a = i
    · rw [if_pos e, if_pos rfl, e, drop_last hp]
    · rw [if_neg e, if_neg e]
theorem tk_T {q : List (List Int)} (h : T q) {i : Nat} (hi : i < q.length) (hc : (row q (i + 1)).length < (row q i).length) : T (tk q i) := by
  refine T_row.2 (fun a ha => ?_)
  have hr := tk_row h.shp hi hc
  rw [tk_length hi] at ha
  rw [hr, hr]
  by_cases e : a = i
  · subst e
    obtain ⟨r1, r2, r3⟩ := T_row.1 h a hi
    rw [if_pos rfl, if_neg (by omega)]
    have hlen : ¬ (row q a).length ≤ 1 := fun k => by rw [if_pos k] at ha; omega
    refine ⟨by rw [List.length_dropLast]; omega, fun j hj => ?_, ⟨by rw [List.length_dropLast]; omega, fun j hj => ?_⟩⟩
    · rw [List.length_dropLast] at hj
      rw [getD_drop, getD_drop, if_pos (by omega), if_pos (by omega)]; exact r2 j (by omega)
    · rw [getD_drop, if_pos (by omega)]; exact r3.2 j hj
  · have ha' : a < q.length := by split at ha <;> omega
    obtain ⟨r1, r2, r3⟩ := T_row.1 h a ha'
    rw [if_neg e]
    refine ⟨r1, r2, ?_⟩
    by_cases e2 : a + 1 = i
    · rw [if_pos e2, ← e2]
      refine ⟨by rw [List.length_dropLast]; have := r3.1; omega, fun j hj => ?_⟩
      rw [List.length_dropLast] at hj
      rw [getD_drop, if_pos (by omega)]; exact r3.2 j (by omega)
    · rw [if_neg e2]; exact r3

theorem ordered_snoc {l : List (Int × Int)} {c : Int × Int} (h : Ordered l) (hc : ∀ d, l.getLast? = some d → Ord2 d c) : Ordered (l ++ [c]) := by
  intro i hi
  rw [List.length_append, List.length_singleton] at hi
  simp only [List.getD, List.getElem?_append]
  by_cases e : i + 1 < l.length
  · rw [if_pos (by omega), if_pos e]
    exact h i e
  · rw [if_pos (by omega), if_neg e, show i + 1 - l.length = 0 by omega]
    have e2 : l.getLast? = some l[i] := by
      rw [List.getLast?_eq_getElem?, show l.length - 1 = i by omega, List.getElem?_eq_getElem (by omega)]
    rw [List.getElem?_eq_getElem (show i < l.length by omega)]
    exact hc _ e2

theorem undo_mk : ∀ (n : Nat) (p q : List (List Int)), T p → T q → (∀ i, (row p i).length = (row q i).length) → p.length = q.length → q.flatten.length = n →
    mk (undo n p q) = (p, q) ∧ Ordered (undo n p q) ∧ ∀ c ∈ undo n p q, c.1 ∈ q.flatten ∧ c.2 ∈ p.flatten := by
  intro n
  induction n with
  | zero =>
    intro p q hp hq _ hl hf
    have hq0 : q = [] := by
      cases q with
      | nil => rfl
      | cons r t => have := hq.1; rw [List.flatten_cons, List.length_append] at hf; omega
    have hp0 : p = [] := List.eq_nil_of_length_eq_zero (by rw [hl, hq0]; rfl)
    subst hq0; subst hp0
    exact ⟨rfl, fun i hi => absurd hi (by simp [undo]), fun c hc => by simp [undo] at hc⟩
  | succ n ih =>
    intro p q hp hq hs hl hf
    have h0 : 0 < q.length := Nat.pos_of_ne_zero (fun e => by rw [List.eq_nil_of_length_eq_zero e] at hf; simp at hf)
    have ht := top_is h0
    have hc := corner_top hq h0
    have hip : top q < p.length := by rw [hl]; exact ht.lt
    have hcp : (row p (top q + 1)).length < (row p (top q)).length := by rw [hs, hs]; exact hc
    obtain ⟨u1, u2, u3, c0, u4⟩ := un_T hp hip hcp
    simp only [undo]
    obtain ⟨i, hi⟩ : ∃ i, i = top q := ⟨_, rfl⟩
    obtain ⟨b, hb⟩ : ∃ b, b = (un (top q) p).1 := ⟨_, rfl⟩
    obtain ⟨p', hp'⟩ : ∃ p', p' = (un (top q) p).2 := ⟨_, rfl⟩
    rw [← hb, ← hp'] at u2 u3
    rw [← hp'] at u1
    rw [← hb, ← hp']
    rw [← hi] at u3 ht hc hip hcp ⊢
    have hq1 := tk_T hq ht.lt hc
    obtain ⟨hq2, hq3⟩ := lng_tk hq.shp ht.lt hc
    have hqr := tk_row hq.shp ht.lt hc
    have hcor := at_corner (x := b) u1
    rw [u2, u3] at hcor
    have hone : 0 < (row q i).length := hq.shp.one i ht.lt
    have hs' : ∀ k, (row p' k).length = (row (tk q i) k).length := fun k => by
      have h1 := hcor k
      have h2 := hs k
      rw [hqr]
      by_cases e : k = i
      · subst e; rw [if_pos rfl] at h1 ⊢; rw [List.length_dropLast]; omega
      · rw [if_neg e] at h1 ⊢; omega
    have hl' : p'.length = (tk q i).length := by
      have f1 : ∀ {A B : List (List Int)}, (∀ k, k < A.length → 0 < (row A k).length) → (∀ k, (row A k).length = (row B k).length) → A.length ≤ B.length := fun {A B} hA hAB => by
        refine Nat.le_of_not_lt (fun hlt => ?_)
        have := hA B.length hlt
        rw [hAB, row_out (Nat.le_refl _)] at this; simp at this
      exact Nat.le_antisymm (f1 u1.shp.one hs') (f1 hq1.shp.one (fun k => (hs' k).symm))
    have hf' : (tk q i).flatten.length = n := by
      have := (lng_flat hq3 (lastOf (row q i))).1
      rw [hq2] at this; omega
    obtain ⟨m1, m2, m3⟩ := ih p' (tk q i) u1 hq1 hs' hl' hf'
    have hsubq : ∀ z ∈ (tk q i).flatten, z ∈ q.flatten := fun z hz => by
      obtain ⟨a, c, ha, hc2, rfl⟩ := flat_mem hz
      unfold box
      rw [hqr] at hc2 ⊢
      have ha' : a < q.length := by rw [tk_length ht.lt] at ha; split at ha <;> have := ht.lt <;> omega
      by_cases e : a = i
      · rw [if_pos e] at hc2 ⊢
        rw [List.length_dropLast] at hc2
        rw [getD_drop, if_pos (by omega)]
        exact box_mem ht.lt (by omega)
      · rw [if_neg e] at hc2 ⊢
        exact box_mem ha' hc2
    have hbp : b ∈ p.flatten := by rw [← u2]; exact ins_has.1
    have hsubp : ∀ z ∈ p'.flatten, z ∈ p.flatten := fun z hz => by rw [← u2]; exact ins_has.2 z hz
    have hamem : lastOf (row q i) ∈ q.flatten := box_mem ht.lt (show (row q i).length - 1 < (row q i).length by omega)
    have hmax : ∀ z ∈ q.flatten, z ≤ lastOf (row q i) := fun z hz => by
      obtain ⟨a, c, ha, hc2, rfl⟩ := flat_mem hz
      exact Int.le_trans (row_le_last (T_row.1 hq a ha).2.1 hc2) (ht.most a ha)
    refine ⟨?_, ordered_snoc m2 (fun d hd => ?_), fun c hc2 => ?_⟩
    · rw [mk_snoc, m1]
      unfold put1
      simp only
      rw [u2, u3, hq2]
    · cases n with
      | zero => simp [undo] at hd
      | succ n =>
        simp only [undo] at hd
        rw [List.getLast?_concat] at hd
        cases hd
        have h0' : 0 < (tk q i).length := Nat.pos_of_ne_zero (fun e => by rw [List.eq_nil_of_length_eq_zero e] at hf'; simp at hf')
        have ht' := top_is h0'
        have hc' := corner_top hq1 h0'
        obtain ⟨v1, v2, v3, _⟩ := un_T u1 (by rw [hl']; exact ht'.lt) (by rw [hs', hs']; exact hc')
        obtain ⟨i', hi'⟩ : ∃ i', i' = top (tk q i) := ⟨_, rfl⟩
        rw [← hi'] at ht' v1 v2 v3 ⊢
        have hmem' : lastOf (row (tk q i) i') ∈ (tk q i).flatten := box_mem ht'.lt (by have := hq1.shp.one i' ht'.lt; omega)
        have hle := hmax _ (hsubq _ hmem')
        unfold Ord2
        simp only
        by_cases e : lastOf (row (tk q i) i') < lastOf (row q i)
        · exact Or.inl e
        · right
          refine ⟨by omega, Int.not_lt.1 (fun hlt => ?_)⟩
          have k1 := at_lt (x := (un i' p').1) (y := b) v1 hlt
          rw [v2, v3, u3] at k1
          have k2 := ht.first i' k1
          rw [hqr, if_neg (by omega)] at e
          omega
    · rcases List.mem_append.1 hc2 with k | k
      · obtain ⟨k1, k2⟩ := m3 c k
        exact ⟨hsubq _ k1, hsubp _ k2⟩
      · simp at k
        subst k
        exact ⟨hamem, hbp⟩

/-- Two tableaux of one shape, by their rows' lengths. -/
theorem lens_of_shape {p q : List (List Int)} (h : p.map List.length = q.map List.length) : (∀ i, (row p i).length = (row q i).length) ∧ p.length = q.length := by
  have hl : p.length = q.length := by have := congrArg List.length h; simpa using this
  refine ⟨fun i => ?_, hl⟩
  by_cases hi : i < p.length
  · have := congrArg (fun l => l[i]?) h
    simp only [List.getElem?_map, List.getElem?_eq_getElem hi, List.getElem?_eq_getElem (show i < q.length by omega), Option.map_some, Option.some.injEq] at this
    simp [row, List.getD, List.getElem?_eq_getElem hi, List.getElem?_eq_getElem (show i < q.length by omega), this]
  · rw [row_out (by omega), row_out (by omega)]

theorem lng_perm {ls : List (List Int)} {i : Nat} (hi : i ≤ ls.length) (x : Int) : (lng ls i x).flatten.Perm (x :: ls.flatten) := by
  unfold lng
  by_cases e : i = ls.length
  · rw [if_pos e, List.flatten_append]
    simp
  · rw [if_neg e, List.set_eq_take_append_cons_drop, if_pos (by omega)]
    have e2 : ls = ls.take i ++ row ls i :: ls.drop (i + 1) := by
      conv => lhs; rw [← List.take_append_drop i ls]
      rw [List.drop_eq_getElem_cons (by omega)]; simp [row, List.getD, List.getElem?_eq_getElem (show i < ls.length by omega)]
    conv => rhs; rw [e2]
    simp only [List.flatten_append, List.flatten_cons, List.append_assoc]
    refine (List.Perm.append_left _ ?_).trans (List.perm_middle)
    rw [List.singleton_append]
    exact List.perm_middle

theorem mk_perm : ∀ (n : Nat) (l : List (Int × Int)), l.length = n → Ordered l → (mk l).2.flatten.Perm (l.map Prod.fst) := by
  intro n
  induction n with
  | zero => intro l hl _; rw [List.eq_nil_of_length_eq_zero hl]; exact List.Perm.refl _
  | succ n ih =>
    intro l hl ho
    have hne : l ≠ [] := fun e => by rw [e] at hl; simp at hl
    obtain ⟨f, c, rfl⟩ : ∃ f c, l = f ++ [c] := ⟨l.dropLast, l.getLast hne, (List.dropLast_concat_getLast hne).symm⟩
    obtain ⟨o1, _⟩ := ordered_front ho
    have hm := (mk_made n f (by simpa using hl) o1).1
    rw [mk_snoc]
    unfold put1
    simp only
    refine (lng_perm (by rw [← hm.len]; exact insAt_le) _).trans ?_
    rw [List.map_append]
    exact ((ih f (by simpa using hl) o1).cons _).trans (List.perm_append_comm (l₁ := [c.1]) (l₂ := f.map Prod.fst))
theorem mk_letters : ∀ (n : Nat) (l : List (Int × Int)), l.length = n → (∀ z ∈ (mk l).1.flatten, z ∈ l.map Prod.snd) ∧ (mk l).1.flatten.length = n := by
  intro n
  induction n with
  | zero => intro l hl; rw [List.eq_nil_of_length_eq_zero hl]; exact ⟨fun z hz => by simp [mk] at hz, rfl⟩
  | succ n ih =>
    intro l hl
    have hne : l ≠ [] := fun e => by rw [e] at hl; simp at hl
    obtain ⟨f, c, rfl⟩ : ∃ f c, l = f ++ [c] := ⟨l.dropLast, l.getLast hne, (List.dropLast_concat_getLast hne).symm⟩
    obtain ⟨m1, m2⟩ := ih f (by simpa using hl)
    rw [mk_snoc]
    unfold put1
    simp only
    refine ⟨fun z hz => ?_, by rw [ins_count, m2]⟩
    rw [List.map_append, List.mem_append]
    rcases ins_mem hz with e | e
    · right; simp [e]
    · exact Or.inl (m1 z e)

end Go.Proofs.Ytpbmcaoomcippad

namespace Go.Proofs.Ytpbmcaoomcippad

def insW (t : List (List Int)) (w : List Int) : List (List Int) := w.foldl (fun t x => ins false x t) t
theorem insW_nil (t : List (List Int)) : insW t [] = t := rfl
theorem insW_cons (t : List (List Int)) (x : Int) (w : List Int) : insW t (x :: w) = insW (ins false x t) w := rfl
theorem insW_app (t : List (List Int)) (u v : List Int) : insW t (u ++ v) = insW (insW t u) v := by simp [insW]
theorem insW_T : ∀ (w : List Int) (t : List (List Int)), T t → T (insW t w) := by
  intro w
  induction w with
  | nil => intro t h; exact h
  | cons x w ih => intro t h; exact ih _ (ins_T h).1

/-- What goes on to the next row. -/
def bump (k : Nat) (r : List Int) : List Int := if k = r.length then [] else [r.getD k 0]
def rwW (r : List Int) : List Int → List Int × List Int
  | [] => (r, [])
  | x :: w => ((rwW (put (spot false x r) x r) w).1, bump (spot false x r) r ++ (rwW (put (spot false x r) x r) w).2)

theorem ins_put (x : Int) (r : List Int) (t : List (List Int)) : ins false x (r :: t) = put (spot false x r) x r :: insW t (bump (spot false x r) r) := by
  simp only [ins]
  unfold put bump
  by_cases e : spot false x r = r.length
  · rw [if_pos e, if_pos e, if_pos e]; rfl
  · rw [if_neg e, if_neg e, if_neg e]; rfl
theorem insW_row : ∀ (w : List Int) (r : List Int) (t : List (List Int)), insW (r :: t) w = (rwW r w).1 :: insW t (rwW r w).2 := by
  intro w
  induction w with
  | nil => intro r t; rfl
  | cons x w ih => intro r t; rw [insW_cons, ins_put, ih]; simp only [rwW]; rw [insW_app]
theorem insW_empty {w : List Int} (h : w ≠ []) : insW [] w = insW [[]] w := by
  cases w with
  | nil => exact absurd rfl h
  | cons x w => rw [insW_cons, insW_cons]; rfl

theorem rw3 {r : List Int} {a b c : Int} {k1 k2 k3 : Nat} (h1 : spot false a r = k1) (h2 : spot false b (put k1 a r) = k2) (h3 : spot false c (put k2 b (put k1 a r)) = k3) :
    rwW r [a, b, c] = (put k3 c (put k2 b (put k1 a r)), bump k1 r ++ (bump k2 (put k1 a r) ++ bump k3 (put k2 b (put k1 a r)))) := by
  simp only [rwW, h1, h2, h3, List.append_nil]

theorem bump_no {k : Nat} {r : List Int} (h : k = r.length) : bump k r = [] := if_pos h
theorem bump_yes {k : Nat} {r : List Int} (h : k < r.length) : bump k r = [r.getD k 0] := if_neg (by omega)
theorem put_comm {j k : Nat} {x z : Int} {r : List Int} (hj : j < k) (hk : k ≤ r.length) : put k z (put j x r) = put j x (put k z r) := by
  have hjl : j < r.length := by omega
  have l1 : (put j x r).length = r.length := by rw [put_len, if_neg (by omega)]
  refine ext_getD ?_ (fun m _ => ?_)
  · rw [put_len, l1, put_len, put_len]
    by_cases e : k = r.length
    · rw [if_pos e, if_neg (by omega)]
    · rw [if_neg e, if_neg (by omega)]
  · have l2 : k ≤ (put j x r).length := by omega
    have l3 : j ≤ (put k z r).length := by rw [put_len]; split <;> omega
    rw [put_getD l2, put_getD l3, put_getD (by omega), put_getD hk, l1, put_len]
    by_cases e1 : m = k
    · rw [if_pos e1, if_neg (by omega), if_pos (by split <;> omega), if_pos e1]
    · rw [if_neg e1]
      by_cases e2 : m = j
      · rw [if_pos e2, if_pos (by omega), if_pos e2]
      · rw [if_neg e2, if_neg e2, if_neg e1]
        by_cases e3 : m < r.length
        · rw [if_pos e3, if_pos e3, if_pos (by split <;> omega)]
        · rw [if_neg e3, if_neg e3]; simp
theorem put_srt {r : List Int} {x : Int} {k : Nat} (h : Srt r) (hk : spot false x r = k) : Srt (put k x r) := by
  have hp := spot_pass false x r
  have hs := spot_stop false x r
  rw [hk] at hp hs
  unfold put
  by_cases e : k = r.length
  · rw [if_pos e]; rw [e] at hp; exact srt_app h (fun j hj => passes_le.1 (hp j hj))
  · rw [if_neg e]
    have hl := spot_le false x r
    rw [hk] at hl
    have := passes_no.1 (hs (by omega))
    exact srt_set h (fun j hj _ => passes_le.1 (hp j hj)) (fun j hj hl2 => by have := h.le (i := k) (j := j) (by omega) hl2; omega)

/-- Two words of three letters, one step apart. -/
def K3 (a b : List Int) : Prop := (∃ x y z : Int, x < y ∧ y ≤ z ∧ a = [y, x, z] ∧ b = [y, z, x]) ∨ (∃ x y z : Int, x ≤ y ∧ y < z ∧ a = [x, z, y] ∧ b = [z, x, y])

structure Spot (x : Int) (r : List Int) (k : Nat) : Prop where
  le : k ≤ r.length
  pass : ∀ j, j < k → r.getD j 0 ≤ x
  stop : k < r.length → x < r.getD k 0
theorem spot_has (x : Int) (r : List Int) : Spot x r (spot false x r) := ⟨spot_le _ _ _, fun j hj => passes_le.1 (spot_pass false x r j hj), fun h => passes_no.1 (spot_stop false x r h)⟩
theorem Spot.is {x : Int} {r : List Int} {k : Nat} (h : Spot x r k) : spot false x r = k :=
  spot_is h.le (fun j hj => passes_le.2 (h.pass j hj)) (by
    rcases Nat.lt_or_ge k r.length with c | c
    · exact Or.inr (passes_no.2 (h.stop c))
    · left; have := h.le; omega)

theorem row_k3 {r : List Int} (h : Srt r) {a b : List Int} (hk : K3 a b) :
    (rwW r a).1 = (rwW r b).1 ∧ ((rwW r a).2 = (rwW r b).2 ∨ K3 (rwW r a).2 (rwW r b).2 ∨ K3 (rwW r b).2 (rwW r a).2) ∧ (r = [] → (rwW r a).2 = (rwW r b).2) := by
  rcases hk with ⟨x, y, z, hxy, hyz, rfl, rfl⟩ | ⟨x, y, z, hxy, hyz, rfl, rfl⟩
  · -- y, x, z and y, z, x
    have hi := spot_has y r
    obtain ⟨i, ei⟩ : ∃ i, spot false y r = i := ⟨_, rfl⟩
    rw [ei] at hi
    have hS1 := put_srt h ei
    obtain ⟨r1, er1⟩ : ∃ r1, r1 = put i y r := ⟨_, rfl⟩
    rw [← er1] at hS1
    have l1 : r1.length = if i = r.length then r.length + 1 else r.length := by rw [er1, put_len]
    have il1 : i < r1.length := by rw [l1]; have := hi.le; split <;> omega
    have g1 : ∀ m, r1.getD m 0 = if m = i then y else if m < r.length then r.getD m 0 else 0 := fun m => by rw [er1, put_getD hi.le]
    have gi : r1.getD i 0 = y := by rw [g1, if_pos rfl]
    have hj := spot_has x r1
    obtain ⟨j, ej⟩ : ∃ j, spot false x r1 = j := ⟨_, rfl⟩
    rw [ej] at hj
    have hji : j ≤ i := Nat.le_of_not_lt (fun c => by have := hj.pass i c; omega)
    have hk := spot_has z r1
    obtain ⟨k, ek⟩ : ∃ k, spot false z r1 = k := ⟨_, rfl⟩
    rw [ek] at hk
    have hik : i < k := Nat.lt_of_not_le (fun c => by
      have s1 := hk.stop (by omega)
      have := hS1.le c il1
      omega)
    have hjl : j < r1.length := by omega
    have ek2 : spot false z (put j x r1) = k := by
      have l2 : (put j x r1).length = r1.length := by rw [put_len, if_neg (by omega)]
      refine Spot.is ⟨by rw [l2]; exact hk.le, fun m hm => ?_, fun hm => ?_⟩
      · rw [put_getD (by omega)]
        by_cases e : m = j
        · rw [if_pos e]; omega
        · rw [if_neg e, if_pos (by have := hk.le; omega)]; exact hk.pass m hm
      · rw [l2] at hm
        rw [put_getD (by omega), if_neg (by omega), if_pos hm]; exact hk.stop hm
    have ej2 : spot false x (put k z r1) = j := by
      refine Spot.is ⟨by rw [put_len]; split <;> omega, fun m hm => ?_, fun hm => ?_⟩
      · rw [put_getD hk.le, if_neg (by omega), if_pos (by omega)]; exact hj.pass m hm
      · rw [put_getD hk.le, if_neg (by omega), if_pos hjl]; exact hj.stop hjl
    have eA := rw3 (r := r) (a := y) (b := x) (c := z) (k1 := i) (k2 := j) (k3 := k) ei (by rw [← er1]; exact ej) (by rw [← er1]; exact ek2)
    have eB := rw3 (r := r) (a := y) (b := z) (c := x) (k1 := i) (k2 := k) (k3 := j) ei (by rw [← er1]; exact ek) (by rw [← er1]; exact ej2)
    rw [← er1] at eA eB
    rw [eA, eB]
    have b1 : bump j r1 = [r1.getD j 0] := bump_yes hjl
    have b2 : bump j (put k z r1) = [r1.getD j 0] := by
      rw [bump_yes (by rw [put_len]; split <;> omega), put_getD hk.le, if_neg (by omega), if_pos hjl]
    have l2 : (put j x r1).length = r1.length := by rw [put_len, if_neg (by omega)]
    simp only
    refine ⟨put_comm (by omega) hk.le, ?_⟩
    by_cases c : k = r1.length
    · rw [bump_no (k := k) (r := put j x r1) (by rw [l2]; exact c), bump_no (k := k) (r := r1) c, b1, b2]
      exact ⟨Or.inl (by simp), fun _ => by simp⟩
    · have hkl : k < r1.length := by have := hk.le; omega
      have hil : i < r.length := by rw [l1] at hkl; have := hi.le; split at hkl <;> omega
      have hlr : r1.length = r.length := by rw [l1, if_neg (by omega)]
      have b3 : bump k r1 = [r.getD k 0] := by rw [bump_yes hkl, g1, if_neg (by omega), if_pos (by omega)]
      have b4 : bump k (put j x r1) = [r.getD k 0] := by rw [bump_yes (by omega), put_getD (by omega), if_neg (by omega), if_pos hkl, g1, if_neg (by omega), if_pos (by omega)]
      rw [b1, b2, b3, b4, bump_yes hil]
      refine ⟨Or.inr (Or.inl (Or.inl ⟨r1.getD j 0, r.getD i 0, r.getD k 0, ?_, h.le (by omega) (by omega), rfl, rfl⟩)), fun e => by rw [e] at hil; simp at hil⟩
      have s1 := hi.stop hil
      rw [g1]
      by_cases e : j = i
      · rw [if_pos e]; exact s1
      · rw [if_neg e, if_pos (by omega)]; have := hi.pass j (by omega); omega
  · -- x, z, y and z, x, y
    have hj := spot_has x r
    obtain ⟨j, ej⟩ : ∃ j, spot false x r = j := ⟨_, rfl⟩
    rw [ej] at hj
    have lj : (put j x r).length = if j = r.length then r.length + 1 else r.length := put_len _ _ _
    have gj : ∀ m, (put j x r).getD m 0 = if m = j then x else if m < r.length then r.getD m 0 else 0 := fun m => put_getD hj.le m
    by_cases c0 : j = r.length
    · -- all of r is at most x
      have e1 : put j x r = r ++ [x] := if_pos c0
      have hall : ∀ m, m < r.length → r.getD m 0 ≤ x := fun m hm => hj.pass m (by omega)
      have e2 : spot false z (r ++ [x]) = r.length + 1 := Spot.is ⟨by simp, fun m hm => by
        rw [getD_app]
        by_cases e : m < r.length
        · rw [if_pos e]; have := hall m e; omega
        · rw [if_neg e, if_pos (by omega)]; omega, fun hm => by simp at hm⟩
      have e3 : put (r.length + 1) z (r ++ [x]) = r ++ [x] ++ [z] := if_pos (by simp)
      have g3 : ∀ m, (r ++ [x] ++ [z]).getD m 0 = if m < r.length then r.getD m 0 else if m = r.length then x else if m = r.length + 1 then z else 0 := fun m => by
        rw [getD_app, getD_app]
        simp only [List.length_append, List.length_singleton]
        by_cases q1 : m < r.length
        · rw [if_pos (by omega), if_pos q1, if_pos q1]
        · by_cases q2 : m = r.length
          · rw [if_pos (by omega), if_neg q1, if_pos q2, if_neg q1, if_pos q2]
          · rw [if_neg (by omega), if_neg q1, if_neg q2]
      have e4 : spot false y (r ++ [x] ++ [z]) = r.length + 1 := Spot.is ⟨by simp, fun m hm => by
        rw [g3]
        by_cases e : m < r.length
        · rw [if_pos e]; have := hall m e; omega
        · rw [if_neg e, if_pos (by omega)]; exact hxy, fun _ => by rw [g3, if_neg (by omega), if_neg (by omega), if_pos rfl]; exact hyz⟩
      have f1 : spot false z r = r.length := Spot.is ⟨Nat.le_refl _, fun m hm => by have := hall m hm; omega, fun hm => by omega⟩
      have f2 : put r.length z r = r ++ [z] := if_pos rfl
      have f3 : spot false x (r ++ [z]) = r.length := Spot.is ⟨by simp, fun m hm => by rw [getD_app, if_pos hm]; exact hall m hm, fun _ => by rw [getD_app, if_neg (by omega), if_pos rfl]; omega⟩
      have f4 : put r.length x (r ++ [z]) = r ++ [x] := by unfold put; rw [if_neg (by simp)]; simp
      have f5 : spot false y (r ++ [x]) = r.length + 1 := Spot.is ⟨by simp, fun m hm => by
        rw [getD_app]
        by_cases e : m < r.length
        · rw [if_pos e]; have := hall m e; omega
        · rw [if_neg e, if_pos (by omega)]; exact hxy, fun hm => by simp at hm⟩
      have eA := rw3 (r := r) (a := x) (b := z) (c := y) (k1 := j) (k2 := r.length + 1) (k3 := r.length + 1) ej (by rw [e1]; exact e2) (by rw [e1, e3]; exact e4)
      have eB := rw3 (r := r) (a := z) (b := x) (c := y) (k1 := r.length) (k2 := r.length) (k3 := r.length + 1) f1 (by rw [f2]; exact f3) (by rw [f2, f4]; exact f5)
      rw [e1, e3] at eA
      rw [f2, f4] at eB
      rw [eA, eB]
      have h1 : put (r.length + 1) y (r ++ [x] ++ [z]) = put (r.length + 1) y (r ++ [x]) := by
        unfold put
        rw [if_neg (by simp), if_pos (by simp)]
        rw [show r.length + 1 = (r ++ [x]).length by simp]
        simp
      have bA : bump j r ++ (bump (r.length + 1) (r ++ [x]) ++ bump (r.length + 1) (r ++ [x] ++ [z])) = [z] := by
        rw [bump_no c0, bump_no (by simp), bump_yes (by simp), g3, if_neg (by omega), if_neg (by omega), if_pos rfl]; rfl
      have bB : bump r.length r ++ (bump r.length (r ++ [z]) ++ bump (r.length + 1) (r ++ [x])) = [z] := by
        rw [bump_no rfl, bump_yes (by simp), bump_no (k := r.length + 1) (by simp), getD_app, if_neg (by omega), if_pos rfl]; rfl
      simp only
      rw [bA, bB]
      exact ⟨h1, Or.inl rfl, fun _ => rfl⟩
    · have hjl : j < r.length := by have := hj.le; omega
      have l1 : (put j x r).length = r.length := by rw [lj, if_neg c0]
      have s1 := hj.stop hjl
      have hre : r ≠ [] := fun e => by rw [e] at hjl; simp at hjl
      by_cases c1 : r.getD j 0 ≤ z
      · -- z goes farther on
        have hk := spot_has z r
        obtain ⟨k, ek⟩ : ∃ k, spot false z r = k := ⟨_, rfl⟩
        rw [ek] at hk
        have hjk : j < k := Nat.lt_of_not_le (fun c => by
          have q := hk.stop (by omega)
          have := h.le c hjl; omega)
        have ek2 : spot false z (put j x r) = k := Spot.is ⟨by rw [l1]; exact hk.le, fun m hm => by
          rw [gj]
          by_cases e : m = j
          · rw [if_pos e]; omega
          · rw [if_neg e, if_pos (by have := hk.le; omega)]; exact hk.pass m hm, fun hm => by
          rw [l1] at hm
          rw [gj, if_neg (by omega), if_pos hm]; exact hk.stop hm⟩
        have ej2 : spot false x (put k z r) = j := Spot.is ⟨by rw [put_len]; split <;> omega, fun m hm => by
          rw [put_getD hk.le, if_neg (by omega), if_pos (by omega)]; exact hj.pass m hm, fun hm => by
          rw [put_getD hk.le, if_neg (by omega), if_pos hjl]; exact s1⟩
        have ecomm : put k z (put j x r) = put j x (put k z r) := put_comm hjk hk.le
        obtain ⟨r2, er2⟩ : ∃ r2, r2 = put k z (put j x r) := ⟨_, rfl⟩
        have hm := spot_has y r2
        obtain ⟨m, em⟩ : ∃ m, spot false y r2 = m := ⟨_, rfl⟩
        rw [em] at hm
        have l2 : r2.length = if k = r.length then r.length + 1 else r.length := by rw [er2, put_len, l1]
        have g2' : ∀ n, r2.getD n 0 = if n = k then z else if n = j then x else if n < r.length then r.getD n 0 else 0 := fun n => by
          rw [er2, put_getD (by rw [l1]; exact hk.le), l1, gj]
          by_cases q : n = k
          · rw [if_pos q, if_pos q]
          · rw [if_neg q, if_neg q]
            by_cases q2 : n < r.length
            · rw [if_pos q2, if_pos q2]
            · rw [if_neg q2, if_neg (by omega), if_neg q2]
        have hmk : m ≤ k := Nat.le_of_not_lt (fun c => by have := hm.pass k c; rw [g2', if_pos rfl] at this; omega)
        have hkl2 : k < r2.length := by rw [l2]; have := hk.le; split <;> omega
        have hjm : j < m := Nat.lt_of_not_le (fun c => by
          have q := hm.stop (by omega)
          rw [g2', if_neg (by omega)] at q
          by_cases q1 : m = j
          · rw [if_pos q1] at q; omega
          · rw [if_neg q1, if_pos (by omega)] at q
            have := hj.pass m (by omega); omega)
        have eA := rw3 (r := r) (a := x) (b := z) (c := y) (k1 := j) (k2 := k) (k3 := m) ej ek2 (by rw [← er2]; exact em)
        have eB := rw3 (r := r) (a := z) (b := x) (c := y) (k1 := k) (k2 := j) (k3 := m) ek ej2 (by rw [← ecomm, ← er2]; exact em)
        rw [← er2] at eA
        rw [← ecomm, ← er2] at eB
        rw [eA, eB]
        simp only
        refine ⟨trivial, ?_, fun e => absurd e hre⟩
        have b1 : bump j r = [r.getD j 0] := bump_yes hjl
        have b2 : bump j (put k z r) = [r.getD j 0] := by rw [bump_yes (by rw [put_len]; split <;> omega), put_getD hk.le, if_neg (by omega), if_pos hjl]
        have b3 : bump m r2 = [r2.getD m 0] := bump_yes (by omega)
        rw [b1, b2, b3]
        by_cases c2 : k = r.length
        · rw [bump_no (by rw [l1]; exact c2), bump_no c2]; exact Or.inl (by simp)
        · have hkl : k < r.length := by have := hk.le; omega
          have b4 : bump k r = [r.getD k 0] := bump_yes hkl
          have b5 : bump k (put j x r) = [r.getD k 0] := by rw [bump_yes (by omega), gj, if_neg (by omega), if_pos hkl]
          have s2 := hk.stop hkl
          rw [b4, b5]
          refine Or.inr (Or.inl (Or.inr ⟨r.getD j 0, r2.getD m 0, r.getD k 0, ?_, ?_, rfl, rfl⟩))
          · rw [g2']
            by_cases q : m = k
            · rw [if_pos q]; exact c1
            · rw [if_neg q, if_neg (by omega), if_pos (by omega)]; exact h.le (by omega) (by omega)
          · rw [g2']
            by_cases q : m = k
            · rw [if_pos q]; exact s2
            · rw [if_neg q, if_neg (by omega), if_pos (by omega)]; have := hk.pass m (by omega); omega
      · -- z would go where x goes
        have hz : z < r.getD j 0 := by omega
        have ek : spot false z r = j := Spot.is ⟨hj.le, fun m hm => by have := hj.pass m hm; omega, fun _ => hz⟩
        have lz : (put j z r).length = r.length := by rw [put_len, if_neg c0]
        have gz : ∀ m, (put j z r).getD m 0 = if m = j then z else if m < r.length then r.getD m 0 else 0 := fun m => put_getD hj.le m
        have ej2 : spot false x (put j z r) = j := Spot.is ⟨by rw [lz]; exact hj.le, fun m hm => by
          rw [gz, if_neg (by omega), if_pos (by omega)]; exact hj.pass m hm, fun _ => by rw [gz, if_pos rfl]; omega⟩
        have eback : put j x (put j z r) = put j x r := by
          unfold put
          rw [if_neg c0, if_neg c0, if_neg (by simpa using c0), List.set_set]
        -- the place behind j
        have hnext : ∀ v, v < r.getD j 0 → x ≤ v → spot false v (put j x r) = j + 1 := fun v hv hxv => Spot.is ⟨by rw [l1]; omega, fun m hm => by
          rw [gj]
          by_cases q : m = j
          · rw [if_pos q]; exact hxv
          · rw [if_neg q, if_pos (by omega)]; have := hj.pass m (by omega); omega, fun hm => by
          rw [l1] at hm
          rw [gj, if_neg (by omega), if_pos hm]
          have := h.le (i := j) (j := j + 1) (by omega) hm; omega⟩
        have e2 : spot false z (put j x r) = j + 1 := hnext z hz (by omega)
        have e4 : spot false y (put (j + 1) z (put j x r)) = j + 1 := Spot.is ⟨by rw [put_len, l1]; split <;> omega, fun m hm => by
          rw [put_getD (by rw [l1]; omega), if_neg (by omega), if_pos (by rw [l1]; omega), gj]
          by_cases q : m = j
          · rw [if_pos q]; exact hxy
          · rw [if_neg q, if_pos (by omega)]; have := hj.pass m (by omega); omega, fun _ => by rw [put_getD (by rw [l1]; omega), if_pos rfl]; exact hyz⟩
        have e5 : spot false y (put j x r) = j + 1 := hnext y (by omega) hxy
        have eA := rw3 (r := r) (a := x) (b := z) (c := y) (k1 := j) (k2 := j + 1) (k3 := j + 1) ej e2 e4
        have eB := rw3 (r := r) (a := z) (b := x) (c := y) (k1 := j) (k2 := j) (k3 := j + 1) ek ej2 (by rw [eback]; exact e5)
        rw [eback] at eB
        rw [eA, eB]
        simp only
        have h1 : put (j + 1) y (put (j + 1) z (put j x r)) = put (j + 1) y (put j x r) := by
          obtain ⟨r1, er1⟩ : ∃ r1, r1 = put j x r := ⟨_, rfl⟩
          rw [← er1] at l1 ⊢
          have hle : j + 1 ≤ r1.length := by omega
          unfold put
          by_cases q : j + 1 = r1.length
          · rw [if_pos q, if_pos q, if_neg (by simp; omega), q]; simp
          · rw [if_neg q, if_neg q, if_neg (by simpa using q), List.set_set]
        have b1 : bump j r = [r.getD j 0] := bump_yes hjl
        have b2 : bump j (put j z r) = [z] := by rw [bump_yes (by omega), gz, if_pos rfl]
        have b3 : bump (j + 1) (put (j + 1) z (put j x r)) = [z] := by rw [bump_yes (by rw [put_len, l1]; split <;> omega), put_getD (by rw [l1]; omega), if_pos rfl]
        refine ⟨h1, ?_, fun e => absurd e hre⟩
        rw [b1, b2, b3]
        by_cases c2 : j + 1 = r.length
        · rw [bump_no (by rw [l1]; exact c2)]; exact Or.inl (by simp)
        · have b4 : bump (j + 1) (put j x r) = [r.getD (j + 1) 0] := by rw [bump_yes (by omega), gj, if_neg (by omega), if_pos (by omega)]
          rw [b4]
          exact Or.inr (Or.inr (Or.inl ⟨z, r.getD j 0, r.getD (j + 1) 0, hz, h.le (by omega) (by omega), rfl, rfl⟩))

theorem k3_len {a b : List Int} (h : K3 a b) : a ≠ [] ∧ b ≠ [] := by
  rcases h with ⟨x, y, z, _, _, rfl, rfl⟩ | ⟨x, y, z, _, _, rfl, rfl⟩ <;> simp
theorem k3_same : ∀ (t : List (List Int)), T t → ∀ {a b : List Int}, K3 a b → insW t a = insW t b := by
  intro t
  induction t with
  | nil =>
    intro _ a b h
    rw [insW_empty (k3_len h).1, insW_empty (k3_len h).2, insW_row, insW_row]
    obtain ⟨h1, _, h3⟩ := row_k3 (r := []) (fun j hj => absurd hj (by simp)) h
    rw [h1, h3 rfl]
  | cons r t ih =>
    intro hT a b h
    obtain ⟨h1, h2, h3⟩ := row_k3 hT.2.1 h
    rw [insW_row, insW_row, h1]
    rcases h2 with h2 | h2 | h2
    · rw [h2]
    · rw [ih hT.2.2.2 h2]
    · rw [ih hT.2.2.2 h2]

/-- A sameness of words that KNUTH'S steps keep, whatever stands around them. -/
structure Plac (R : List Int → List Int → Prop) : Prop where
  refl : ∀ u, R u u
  symm : ∀ {u v}, R u v → R v u
  trans : ∀ {u v w}, R u v → R v w → R u w
  app : ∀ (a b : List Int) {u v}, R u v → R (a ++ u ++ b) (a ++ v ++ b)
  k3 : ∀ {u v}, K3 u v → R u v
theorem Plac.left {R : List Int → List Int → Prop} (h : Plac R) (a : List Int) {u v : List Int} (k : R u v) : R (a ++ u) (a ++ v) := by simpa using h.app a [] k
theorem Plac.right {R : List Int → List Int → Prop} (h : Plac R) (b : List Int) {u v : List Int} (k : R u v) : R (u ++ b) (v ++ b) := by simpa using h.app [] b k

/-- The same tableau, whatever stands around. -/
def SameP (u v : List Int) : Prop := ∀ a b, insW [] (a ++ u ++ b) = insW [] (a ++ v ++ b)
theorem plac_P : Plac SameP := by
  refine ⟨fun u a b => rfl, fun h a b => (h a b).symm, fun h k a b => (h a b).trans (k a b), fun c d u v h a b => ?_, fun {u v} h a b => ?_⟩
  · have := h (a ++ c) (d ++ b)
    simpa using this
  · rw [insW_app, insW_app, insW_app, insW_app, k3_same _ (insW_T a [] trivial) h]

theorem getD_cons_succ (x : Int) (l : List Int) (j : Nat) : (x :: l).getD (j + 1) 0 = l.getD j 0 := rfl
theorem Srt.tail {x : Int} {l : List Int} (h : Srt (x :: l)) : Srt l := fun j hj => by have := h (j + 1) (by simpa using hj); simpa using this

/-- x goes to the left through letters above it, none below the one ahead, b the first of them. -/
theorem pass_left {R : List Int → List Int → Prop} (h : Plac R) (x : Int) : ∀ (l : List Int) (b : Int), Srt (b :: l) → x < b → R (b :: l ++ [x]) (b :: x :: l) := by
  intro l
  induction l with
  | nil => intro b _ _; exact h.refl _
  | cons c l ih =>
    intro b hs hx
    have hbc : b ≤ c := by have := hs 0 (by simp); simpa using this
    have h1 := h.left [b] (ih c hs.tail (by omega))
    have h2 : R ([b, c, x] ++ l) ([b, x, c] ++ l) := h.right l (h.symm (h.k3 (Or.inl ⟨x, b, c, hx, hbc, rfl, rfl⟩)))
    exact h.trans (by simpa using h1) (by simpa using h2)
/-- b goes to the left through letters at most x, which stands behind them. -/
theorem pass_right {R : List Int → List Int → Prop} (h : Plac R) (b : Int) : ∀ (l : List Int) (x : Int), Srt (l ++ [x]) → x < b → R (l ++ [b, x]) (b :: l ++ [x]) := by
  intro l
  induction l with
  | nil => intro x _ _; exact h.refl _
  | cons a l ih =>
    intro x hs hx
    have h1 := h.left [a] (ih x (by simpa using Srt.tail hs) hx)
    -- a b (first of l ++ [x]) ..
    obtain ⟨c, m, hcm⟩ : ∃ c m, l ++ [x] = c :: m := by cases l with
      | nil => exact ⟨x, [], rfl⟩
      | cons c l => exact ⟨c, l ++ [x], rfl⟩
    have hs' : Srt (a :: c :: m) := by rw [← hcm]; simpa using hs
    have hac : a ≤ c := by have := hs' 0 (by simp); simpa using this
    have hcb : c < b := by
      have hc0 : c = (l ++ [x]).getD 0 0 := by rw [hcm]; rfl
      have hx0 : x = (l ++ [x]).getD l.length 0 := by rw [getD_app]; simp
      have := (show Srt (l ++ [x]) by rw [hcm]; exact hs'.tail).le (i := 0) (j := l.length) (by omega) (by simp)
      omega
    have h2 : R ([a, b, c] ++ m) ([b, a, c] ++ m) := h.right m (h.k3 (Or.inr ⟨a, c, b, hac, hcb, rfl, rfl⟩))
    refine h.trans (by simpa using h1) ?_
    have e1 : a :: b :: (l ++ [x]) = [a, b, c] ++ m := by rw [hcm]; rfl
    have e2 : b :: a :: l ++ [x] = [b, a, c] ++ m := by simp only [List.cons_append, hcm, List.nil_append]
    rw [e2]
    simpa [e1] using h2

theorem row_word {R : List Int → List Int → Prop} (h : Plac R) {r : List Int} (hs : Srt r) (x : Int) : R (r ++ [x]) (bump (spot false x r) r ++ put (spot false x r) x r) := by
  have hk := spot_has x r
  obtain ⟨k, ek⟩ : ∃ k, spot false x r = k := ⟨_, rfl⟩
  rw [ek] at hk ⊢
  by_cases c : k = r.length
  · rw [bump_no c]
    unfold put
    rw [if_pos c]; exact h.refl _
  · have hkl : k < r.length := by have := hk.le; omega
    have s1 := hk.stop hkl
    obtain ⟨b, hb⟩ : ∃ b, b = r.getD k 0 := ⟨_, rfl⟩
    have e : r = r.take k ++ b :: r.drop (k + 1) := by
      conv => lhs; rw [← List.take_append_drop k r]
      rw [drop_cons r k hkl, hb]
    rw [bump_yes hkl, ← hb]
    unfold put
    rw [if_neg c, List.set_eq_take_append_cons_drop, if_pos hkl]
    have hsd : Srt (b :: r.drop (k + 1)) := fun j hj => by
      have q : (b :: r.drop (k + 1)) = r.drop k := by rw [drop_cons r k hkl, hb]
      rw [q] at hj ⊢
      rw [List.length_drop] at hj
      simp only [List.getD, List.getElem?_drop]
      exact hs (k + j) (by omega)
    have h1 := h.left (r.take k) (pass_left h x _ b hsd (by omega))
    have hst : Srt (r.take k ++ [x]) := srt_app (fun j hj => by
      rw [List.length_take] at hj
      have q : ∀ m, m < k → (r.take k).getD m 0 = r.getD m 0 := fun m hm => by simp [List.getD, hm]
      rw [q j (by omega), q (j + 1) (by omega)]; exact hs j (by omega)) (fun j hj => by
      rw [List.length_take] at hj
      have q : (r.take k).getD j 0 = r.getD j 0 := by simp [List.getD, show j < k by omega]
      rw [q]; exact hk.pass j (by omega))
    have h2 := h.right (r.drop (k + 1)) (pass_right h b (r.take k) x hst (by omega))
    have e1 : r ++ [x] = r.take k ++ (b :: r.drop (k + 1) ++ [x]) := by
      conv => lhs; rw [e]
      rw [List.append_assoc]
    rw [e1]
    refine h.trans h1 ?_
    simpa using h2

def wrd (t : List (List Int)) : List Int := t.reverse.flatten
theorem wrd_cons (r : List Int) (t : List (List Int)) : wrd (r :: t) = wrd t ++ r := by simp [wrd]
theorem word_ins {R : List Int → List Int → Prop} (h : Plac R) : ∀ (t : List (List Int)) (x : Int), T t → R (wrd t ++ [x]) (wrd (ins false x t)) := by
  intro t
  induction t with
  | nil => intro x _; exact h.refl _
  | cons r t ih =>
    intro x hT
    rw [wrd_cons, ins_put, wrd_cons, List.append_assoc]
    refine h.trans (h.left (wrd t) (row_word h hT.2.1 x)) ?_
    rw [← List.append_assoc]
    refine h.right _ ?_
    unfold bump
    by_cases c : spot false x r = r.length
    · rw [if_pos c, insW_nil, List.append_nil]; exact h.refl _
    · rw [if_neg c]; exact ih _ hT.2.2.2
theorem word_P {R : List Int → List Int → Prop} (h : Plac R) : ∀ (w : List Int) (t : List (List Int)), T t → R (wrd t ++ w) (wrd (insW t w)) := by
  intro w
  induction w with
  | nil => intro t _; rw [List.append_nil]; exact h.refl _
  | cons x w ih =>
    intro t hT
    have h1 := h.right w (word_ins h t x hT)
    have h2 := ih _ (ins_T (x := x) hT).1
    exact h.trans (by simpa using h1) h2
theorem word_of {R : List Int → List Int → Prop} (h : Plac R) (w : List Int) : R w (wrd (insW [] w)) := by
  have := word_P h w [] trivial
  simpa [wrd] using this

end Go.Proofs.Ytpbmcaoomcippad
