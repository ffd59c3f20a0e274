/-
  ROBINSON, SCHENSTED, KNUTH: insertion into a tableau and its undoing: plain facts.
-/
import Derived.Test.YtpbkidgdpejenaeICol
namespace Go.Proofs.Ytpbkidgdpejenae

def lastOf (r : List Int) : Int := r.getD (r.length - 1) 0
/-- The last place whose letter is less than x. -/
def back (x : Int) : List Int → Nat
  | [] => 0
  | _ :: l => if l.any (fun z => decide (z < x)) = true then back x l + 1 else 0
structure IsBack (x : Int) (r : List Int) (k : Nat) : Prop where
  lt : k < r.length
  less : r.getD k 0 < x
  after : ∀ m, k < m → m < r.length → x ≤ r.getD m 0
theorem back_is {x : Int} : ∀ {r : List Int}, (∃ m, m < r.length ∧ r.getD m 0 < x) → IsBack x r (back x r) := by
  intro r
  induction r with
  | nil => rintro ⟨m, h, _⟩; simp at h
  | cons z l ih =>
    rintro ⟨m, hm, hz⟩
    simp only [back]
    by_cases h : l.any (fun z => decide (z < x)) = true
    · rw [if_pos h]
      obtain ⟨y, hy, hyx⟩ := List.any_eq_true.1 h
      obtain ⟨k, hk, rfl⟩ := List.mem_iff_getElem.1 hy
      have := ih ⟨k, hk, by simpa [List.getD, List.getElem?_eq_getElem hk] using hyx⟩
      refine ⟨by simpa using this.lt, by simpa using this.less, fun q hq hl => ?_⟩
      match q, hq, hl with
      | q + 1, hq, hl => simpa using this.after q (by omega) (by simpa using hl)
    · rw [if_neg h]
      have hno : ∀ q, q < l.length → x ≤ l.getD q 0 := fun q hq => by
        refine Int.not_lt.1 (fun hlt => h (List.any_eq_true.2 ⟨l.getD q 0, getD_mem hq, by simpa using hlt⟩))
      match m, hm, hz with
      | 0, _, hz => exact ⟨by simp, by simpa using hz, fun q hq hl => by
          match q, hq, hl with
          | q + 1, _, hl => simpa using hno q (by simpa using hl)⟩
      | m + 1, hm, hz =>
        have := hno m (by simpa using hm)
        have hz : l.getD m 0 < x := by simpa using hz
        omega
theorem IsBack.uniq {x : Int} {r : List Int} {k m : Nat} (h : IsBack x r k) (h' : IsBack x r m) : k = m := by
  rcases Nat.lt_trichotomy k m with c | c | c
  · have := h.after m c h'.lt; have := h'.less; omega
  · exact c
  · have := h'.after k c h.lt; have := h.less; omega

/-- The last letter of row i is taken out, and the row with it if no other is left. -/
def tk (ls : List (List Int)) (i : Nat) : List (List Int) := if (row ls i).length ≤ 1 then ls.take i else ls.set i (row ls i).dropLast
/-- The letter goes up again through the rows ahead of i. -/
def unUp : Nat → Int → List (List Int) → Int × List (List Int)
  | 0, x, ls => (x, ls)
  | i + 1, x, ls => unUp i (box ls i (back x (row ls i))) (ls.set i ((row ls i).set (back x (row ls i)) x))
def un (i : Nat) (ls : List (List Int)) : Int × List (List Int) := unUp i (lastOf (row ls i)) (tk ls i)

theorem unUp_cons : ∀ (i : Nat) (x : Int) (r : List Int) (t : List (List Int)), unUp (i + 1) x (r :: t) = (r.getD (back (unUp i x t).1 r) 0, r.set (back (unUp i x t).1 r) (unUp i x t).1 :: (unUp i x t).2) := by
  intro i
  induction i with
  | zero => intro x r t; simp [unUp, row, box]
  | succ i ih =>
    intro x r t
    rw [unUp]
    have e1 : row (r :: t) (i + 1) = row t i := rfl
    have e2 : ∀ k, box (r :: t) (i + 1) k = box t i k := fun k => rfl
    rw [e1, e2, List.set_cons_succ, ih]; rfl
theorem tk_cons (r : List Int) (t : List (List Int)) (i : Nat) : tk (r :: t) (i + 1) = r :: tk t i := by
  unfold tk
  have e1 : row (r :: t) (i + 1) = row t i := rfl
  rw [e1]
  split <;> simp
theorem un_cons (r : List Int) (t : List (List Int)) (i : Nat) : un (i + 1) (r :: t) = (r.getD (back (un i t).1 r) 0, r.set (back (un i t).1 r) (un i t).1 :: (un i t).2) := by
  unfold un
  have e1 : row (r :: t) (i + 1) = row t i := rfl
  rw [tk_cons, e1, unUp_cons]

def Srt (r : List Int) : Prop := ∀ j, j + 1 < r.length → r.getD j 0 ≤ r.getD (j + 1) 0
def Dn (u r : List Int) : Prop := r.length ≤ u.length ∧ ∀ j, j < r.length → u.getD j 0 < r.getD j 0
/-- A tableau, row by row. -/
def T : List (List Int) → Prop
  | [] => True
  | r :: t => 0 < r.length ∧ Srt r ∧ Dn r (t.headD []) ∧ T t

theorem Srt.le {r : List Int} (h : Srt r) {i j : Nat} (hij : i ≤ j) (hj : j < r.length) : r.getD i 0 ≤ r.getD j 0 := by
  induction j with
  | zero => obtain rfl : i = 0 := by omega
            exact Int.le_refl _
  | succ j ih =>
    by_cases e : i = j + 1
    · subst e; exact Int.le_refl _
    · have := ih (by omega) (by omega)
      have := h j hj
      omega
theorem getD_set (r : List Int) (k : Nat) (x : Int) (j : Nat) : (r.set k x).getD j 0 = if j = k ∧ k < r.length then x else r.getD j 0 := by
  simp only [List.getD, List.getElem?_set]
  by_cases h : k = j
  · subst h
    by_cases hl : k < r.length
    · simp [hl]
    · simp [hl]
  · rw [if_neg h, if_neg (fun e => h e.1.symm)]
theorem getD_app (r : List Int) (x : Int) (j : Nat) : (r ++ [x]).getD j 0 = if j < r.length then r.getD j 0 else if j = r.length then x else 0 := by
  simp only [List.getD, List.getElem?_append]
  by_cases h : j < r.length
  · rw [if_pos h, if_pos h]
  · rw [if_neg h, if_neg h]
    by_cases e : j = r.length
    · subst e; simp
    · rw [if_neg e, List.getElem?_eq_none (by simp; omega)]; rfl
theorem getD_drop (r : List Int) (j : Nat) : r.dropLast.getD j 0 = if j + 1 < r.length then r.getD j 0 else 0 := by
  simp only [List.getD, List.getElem?_dropLast]
  by_cases h : j + 1 < r.length
  · rw [if_pos (by omega), if_pos h]
  · rw [if_neg (by omega), if_neg h]; rfl
theorem drop_last {r : List Int} (h : 0 < r.length) : r.dropLast ++ [lastOf r] = r := by
  refine ext_getD (by simp; omega) (fun j hj => ?_)
  rw [getD_app]
  simp at hj
  by_cases e : j < r.dropLast.length
  · rw [if_pos e, getD_drop, if_pos (by simp at e; omega)]
  · rw [if_neg e, if_pos (by simp at e ⊢; omega)]
    simp at e
    rw [lastOf, show r.length - 1 = j by omega]
theorem srt_app {r : List Int} {x : Int} (h : Srt r) (hx : ∀ j, j < r.length → r.getD j 0 ≤ x) : Srt (r ++ [x]) := fun j hj => by
  simp at hj
  rw [getD_app, getD_app, if_pos (by omega)]
  by_cases e : j + 1 < r.length
  · rw [if_pos e]; exact h j e
  · rw [if_neg e, if_pos (by omega)]; exact hx j (by omega)
theorem srt_set {r : List Int} {x : Int} {k : Nat} (h : Srt r) (h1 : ∀ j, j < k → j < r.length → r.getD j 0 ≤ x) (h2 : ∀ j, k < j → j < r.length → x ≤ r.getD j 0) : Srt (r.set k x) := fun j hj => by
  rw [List.length_set] at hj
  rw [getD_set, getD_set]
  by_cases e : j = k ∧ k < r.length
  · rw [if_pos e, if_neg (by omega)]; exact h2 _ (by omega) hj
  · rw [if_neg e]
    by_cases e2 : j + 1 = k ∧ k < r.length
    · rw [if_pos e2]; exact h1 _ (by omega) (by omega)
    · rw [if_neg e2]; exact h j hj
theorem dn_nil (r : List Int) : Dn r [] := ⟨by simp, fun j h => by simp at h⟩

theorem passes_le {x z : Int} : passes false x z = true ↔ z ≤ x := by simp [passes]
theorem passes_no {x z : Int} : passes false x z = false ↔ x < z := by simp [passes]
theorem spot_all {x : Int} {r : List Int} (h : ∀ j, j < r.length → r.getD j 0 ≤ x) : spot false x r = r.length := spot_is (Nat.le_refl _) (fun j hj => passes_le.2 (h j hj)) (Or.inl rfl)

/-- The first row by then. -/
def put (k : Nat) (x : Int) (r : List Int) : List Int := if k = r.length then r ++ [x] else r.set k x
theorem ins_head (x : Int) (ls : List (List Int)) : (ins false x ls).headD [] = put (spot false x (ls.headD [])) x (ls.headD []) := by
  cases ls with
  | nil => simp [ins, put, spot]
  | cons r t =>
    show (ins false x (r :: t)).headD [] = put (spot false x r) x r
    unfold put
    simp only [ins]
    by_cases e : spot false x r = r.length
    · rw [if_pos e, if_pos e]; rfl
    · rw [if_neg e, if_neg e]; rfl
theorem put_len (k : Nat) (x : Int) (r : List Int) : (put k x r).length = if k = r.length then r.length + 1 else r.length := by unfold put; split <;> simp
theorem put_getD {k : Nat} {x : Int} {r : List Int} (hk : k ≤ r.length) (j : Nat) : (put k x r).getD j 0 = if j = k then x else if j < r.length then r.getD j 0 else 0 := by
  unfold put
  by_cases h : k = r.length
  · rw [if_pos h, getD_app]
    by_cases e : j < r.length
    · rw [if_pos e, if_neg (by omega), if_pos e]
    · rw [if_neg e, ← h]
      by_cases e2 : j = k
      · rw [if_pos e2, if_pos e2]
      · rw [if_neg e2, if_neg e2, if_neg (by omega)]
  · rw [if_neg h, getD_set]
    by_cases e : j = k
    · rw [if_pos ⟨e, by omega⟩, if_pos e]
    · rw [if_neg (fun q => e q.1), if_neg e]
      by_cases e2 : j < r.length
      · rw [if_pos e2]
      · rw [if_neg e2]; simp [List.getD, List.getElem?_eq_none (Nat.le_of_not_lt e2)]

theorem set_same {r : List Int} {k : Nat} {x : Int} (hx : x = r.getD k 0) : r.set k x = r := by
  refine ext_getD (by simp) (fun j _ => ?_)
  rw [getD_set]
  by_cases e : j = k ∧ k < r.length
  · rw [if_pos e, e.1, hx]
  · rw [if_neg e]

theorem ins_T : ∀ {ls : List (List Int)} {x : Int}, T ls → T (ins false x ls) ∧ un (insAt false x ls) (ins false x ls) = (x, ls) := by
  intro ls
  induction ls with
  | nil =>
    intro x _
    refine ⟨⟨by simp, fun j hj => absurd hj (by simp), dn_nil _, trivial⟩, ?_⟩
    simp [ins, insAt, un, unUp, tk, row, lastOf]
  | cons r t ih =>
    intro x hT
    obtain ⟨h1, h2, h3, h4⟩ := hT
    have hsl := spot_le false x r
    have hpass : ∀ j, j < spot false x r → r.getD j 0 ≤ x := fun j hj => passes_le.1 (spot_pass false x r j hj)
    simp only [ins, insAt]
    by_cases e : spot false x r = r.length
    · rw [if_pos e, if_pos e]
      rw [e] at hpass
      refine ⟨⟨by simp, srt_app h2 hpass, ⟨by have := h3.1; rw [List.length_append]; omega, fun j hj => ?_⟩, h4⟩, ?_⟩
      · have := h3.1
        rw [getD_app, if_pos (by omega)]; exact h3.2 j hj
      · have e1 : row ((r ++ [x]) :: t) 0 = r ++ [x] := rfl
        unfold un tk
        rw [e1, if_neg (by rw [List.length_append, List.length_singleton]; omega)]
        simp only [unUp, lastOf]
        rw [getD_app]
        simp
    · rw [if_neg e, if_neg e]
      have hlt : spot false x r < r.length := by omega
      obtain ⟨k, hk⟩ : ∃ k, k = spot false x r := ⟨_, rfl⟩
      rw [← hk] at hpass hlt e ⊢
      obtain ⟨y, hy⟩ : ∃ y, y = r.getD k 0 := ⟨_, rfl⟩
      have hxy : x < y := by rw [hy, hk]; exact passes_no.1 (spot_stop false x r (by omega))
      rw [← hy]
      obtain ⟨ihT, ihU⟩ := @ih y h4
      refine ⟨⟨by simpa using h1, srt_set h2 (fun j hj _ => hpass j hj) (fun j hj hl => ?_), ?_, ihT⟩, ?_⟩
      · have := h2.le (i := k) (j := j) (by omega) hl; omega
      · rw [ins_head]
        obtain ⟨r1, hr1⟩ : ∃ r1, r1 = t.headD [] := ⟨_, rfl⟩
        rw [← hr1] at h3 ⊢
        have hml := spot_le false y r1
        have hmk : spot false y r1 ≤ k := Nat.le_of_not_lt (fun hgt => by
          have a1 := passes_le.1 (spot_pass false y r1 k hgt)
          have a2 := h3.2 k (by omega)
          omega)
        obtain ⟨m, hm⟩ : ∃ m, m = spot false y r1 := ⟨_, rfl⟩
        rw [← hm] at hml hmk ⊢
        refine ⟨?_, fun j hj => ?_⟩
        · rw [put_len, List.length_set]; have := h3.1; split <;> omega
        · rw [put_getD hml, getD_set]
          rw [put_len] at hj
          by_cases e2 : j = m
          · rw [if_pos e2]
            by_cases e3 : j = k ∧ k < r.length
            · rw [if_pos e3]; exact hxy
            · rw [if_neg e3]
              have := hpass j (by omega); omega
          · have hj1 : j < r1.length := by split at hj <;> omega
            rw [if_neg e2, if_pos hj1]
            have := h3.2 j hj1
            by_cases e3 : j = k ∧ k < r.length
            · rw [if_pos e3, ]
              rw [e3.1, ← hy] at this
              rw [e3.1]; omega
            · rw [if_neg e3]; exact this
      · rw [un_cons, ihU]
        have hb : IsBack y (r.set k x) k := ⟨by simpa using hlt, by rw [getD_set, if_pos ⟨rfl, hlt⟩]; exact hxy, fun m hm hl => by
          rw [List.length_set] at hl
          rw [getD_set, if_neg (by omega), hy]; exact h2.le (by omega) hl⟩
        have hbk : back y (r.set k x) = k := (back_is ⟨k, hb.lt, hb.less⟩).uniq hb
        simp only [hbk]
        rw [getD_set, if_pos ⟨rfl, hlt⟩, List.set_set, set_same hy]

/-- What the first row is by then, and which letter of it went up. -/
structure Undo (r0 : List Int) (y : Int) (c : Nat) (h' : List Int) : Prop where
  lt : c < r0.length
  is : y = r0.getD c 0
  len : h'.length ≤ r0.length
  same : ∀ m, m < h'.length → m ≠ c → h'.getD m 0 = r0.getD m 0
  more : ∀ m, m < h'.length → c ≤ m → y < h'.getD m 0

theorem un_T : ∀ {ls : List (List Int)} {i : Nat}, T ls → i < ls.length → (row ls (i + 1)).length < (row ls i).length →
    T (un i ls).2 ∧ ins false (un i ls).1 (un i ls).2 = ls ∧ insAt false (un i ls).1 (un i ls).2 = i ∧ ∃ c, Undo (ls.headD []) (un i ls).1 c ((un i ls).2.headD []) := by
  intro ls
  induction ls with
  | nil => intro i _ h; simp at h
  | cons r t ih =>
    intro i hT hi hc
    obtain ⟨h1, h2, h3, h4⟩ := hT
    cases i with
    | zero =>
      have e0 : row (r :: t) 0 = r := rfl
      have e1 : row (r :: t) (0 + 1) = t.headD [] := by cases t <;> rfl
      rw [e0, e1] at hc
      have hlast : ∀ j, j < r.length → r.getD j 0 ≤ lastOf r := fun j hj => h2.le (by omega) (by omega)
      by_cases hl : r.length ≤ 1
      · have ht : t = [] := by
          cases t with
          | nil => rfl
          | cons r1 t1 => have := h4.1; simp at hc; omega
        subst ht
        have eu : un 0 [r] = (lastOf r, []) := by unfold un tk; rw [show row [r] 0 = r from rfl, if_pos hl]; rfl
        rw [eu]
        refine ⟨trivial, ?_, rfl, 0, ⟨by simpa using h1, by simp [lastOf]; rw [show r.length - 1 = 0 by omega], by simp, fun m h => by simp at h, fun m h => by simp at h⟩⟩
        have := drop_last h1
        have e5 : r.dropLast = [] := List.eq_nil_of_length_eq_zero (by simp; omega)
        rw [e5] at this
        simp only [ins]
        simpa using this
      · have eu : un 0 (r :: t) = (lastOf r, r.dropLast :: t) := by unfold un tk; rw [e0, if_neg hl]; rfl
        rw [eu]
        have hsp : spot false (lastOf r) r.dropLast = r.dropLast.length := spot_all (fun j hj => by
          simp at hj
          rw [getD_drop, if_pos (by omega)]; exact hlast j (by omega))
        refine ⟨⟨by rw [List.length_dropLast]; omega, fun j hj => ?_, ⟨by rw [List.length_dropLast]; omega, fun j hj => ?_⟩, h4⟩, ?_, ?_, r.length - 1, ⟨by simp; omega, rfl, by simp, fun m hm _ => ?_, fun m hm hcm => ?_⟩⟩
        · simp at hj
          rw [getD_drop, getD_drop, if_pos (by omega), if_pos (by omega)]; exact h2 j (by omega)
        · rw [getD_drop, if_pos (by omega)]; exact h3.2 j hj
        · simp only [ins]; rw [if_pos hsp, drop_last h1]
        · simp only [insAt]; rw [if_pos hsp]
        · simp at hm
          simp only [List.headD_cons]
          rw [getD_drop, if_pos (by omega)]
        · simp at hm; omega
    | succ i =>
      have e0 : row (r :: t) (i + 1) = row t i := rfl
      have e1 : row (r :: t) (i + 1 + 1) = row t (i + 1) := rfl
      rw [e0, e1] at hc
      obtain ⟨t1, t2, t3, c, hu⟩ := ih h4 (by simpa using hi) hc
      rw [un_cons]
      obtain ⟨y, hy⟩ : ∃ y, y = (un i t).1 := ⟨_, rfl⟩
      obtain ⟨t', ht'⟩ : ∃ t', t' = (un i t).2 := ⟨_, rfl⟩
      rw [← hy, ← ht'] at t2 t3 hu ⊢
      rw [← ht'] at t1
      have hcr : c < r.length := by have := hu.lt; have := h3.1; omega
      have hrc : r.getD c 0 < y := by rw [hu.is]; exact h3.2 c hu.lt
      have hb := back_is (x := y) (r := r) ⟨c, hcr, hrc⟩
      obtain ⟨k, hk⟩ : ∃ k, k = back y r := ⟨_, rfl⟩
      rw [← hk] at hb ⊢
      have hck : c ≤ k := Nat.le_of_not_lt (fun h => by have := hb.after c h hcr; omega)
      have hless := hb.less
      have hkl := hb.lt
      have hsp : spot false (r.getD k 0) (r.set k y) = k := by
        refine spot_is (by simp; omega) (fun j hj => passes_le.2 ?_) (Or.inr (passes_no.2 ?_))
        · rw [getD_set, if_neg (by omega)]; exact h2.le (by omega) hkl
        · rw [getD_set, if_pos ⟨rfl, hkl⟩]; exact hless
      refine ⟨⟨by simpa using h1, srt_set h2 (fun j hj _ => ?_) (fun j hj hl => hb.after j hj hl), ⟨?_, fun j hj => ?_⟩, t1⟩, ?_, ?_, k, ⟨by simpa using hkl, rfl, by simp, fun m hm hmk => ?_, fun m hm hkm => ?_⟩⟩
      · have := h2.le (i := j) (j := k) (by omega) hkl; omega
      · rw [List.length_set]; have := hu.len; have := h3.1; omega
      · rw [getD_set]
        have hjl : j < (t.headD []).length := by have := hu.len; omega
        by_cases e : j = k ∧ k < r.length
        · rw [if_pos e]; exact hu.more j hj (by omega)
        · rw [if_neg e]
          by_cases e2 : j = c
          · subst e2; have := hu.more j hj (Nat.le_refl _); omega
          · rw [hu.same j hj e2]; exact h3.2 j hjl
      · simp only [ins]
        rw [hsp, if_neg (by simp; omega), getD_set, if_pos ⟨rfl, hkl⟩, t2, List.set_set, set_same rfl]
      · simp only [insAt]
        rw [hsp, if_neg (by simp; omega), getD_set, if_pos ⟨rfl, hkl⟩, t3]
      · simp only [List.headD_cons]; rw [getD_set, if_neg (fun h => hmk h.1)]
      · simp at hm
        simp only [List.headD_cons]
        rw [getD_set]
        by_cases e : m = k ∧ k < r.length
        · rw [if_pos e]; exact hless
        · rw [if_neg e]; have := hb.after m (by omega) hm; omega

/-- Where the next box comes. -/
theorem at_le : ∀ {ls : List (List Int)} {x y : Int}, T ls → x ≤ y → insAt false y (ins false x ls) ≤ insAt false x ls := by
  intro ls
  induction ls with
  | nil => intro x y _ h; simp [ins, insAt, spot, passes, h]
  | cons r t ih =>
    intro x y hT hxy
    obtain ⟨h1, h2, h3, h4⟩ := hT
    have hsl := spot_le false x r
    have hpass : ∀ j, j < spot false x r → r.getD j 0 ≤ x := fun j hj => passes_le.1 (spot_pass false x r j hj)
    obtain ⟨k, hk⟩ : ∃ k, k = spot false x r := ⟨_, rfl⟩
    simp only [ins, insAt, ← hk]
    rw [← hk] at hpass hsl
    by_cases e : k = r.length
    · rw [if_pos e, if_pos e]
      simp only [insAt]
      rw [if_pos]
      · omega
      · refine spot_all (fun j hj => ?_)
        simp at hj
        rw [getD_app]
        by_cases e2 : j < r.length
        · rw [if_pos e2]; have := hpass j (by omega); omega
        · rw [if_neg e2, if_pos (by omega)]; exact hxy
    · rw [if_neg e, if_neg e]
      have hlt : k < r.length := by omega
      simp only [insAt]
      by_cases e2 : spot false y (r.set k x) = (r.set k x).length
      · rw [if_pos e2]; omega
      · rw [if_neg e2]
        have hsl2 := spot_le false y (r.set k x)
        have hst := passes_no.1 (spot_stop false y (r.set k x) (by omega))
        obtain ⟨m, hm⟩ : ∃ m, m = spot false y (r.set k x) := ⟨_, rfl⟩
        rw [← hm] at hst e2 hsl2 ⊢
        rw [List.length_set] at e2 hsl2
        have hmk : k < m := Nat.lt_of_not_le (fun hle => by
          rw [getD_set] at hst
          by_cases e3 : m = k ∧ k < r.length
          · rw [if_pos e3] at hst; omega
          · rw [if_neg e3] at hst; have := hpass m (by omega); omega)
        have e4 : (r.set k x).getD m 0 = r.getD m 0 := by rw [getD_set, if_neg (by omega)]
        rw [e4]
        have := @ih (r.getD k 0) (r.getD m 0) h4 (h2.le (by omega) (by omega))
        omega
theorem at_lt : ∀ {ls : List (List Int)} {x y : Int}, T ls → y < x → insAt false x ls < insAt false y (ins false x ls) := by
  intro ls
  induction ls with
  | nil => intro x y _ h; simp [ins, insAt, spot, passes]; rw [if_neg (by omega)]; simp
  | cons r t ih =>
    intro x y hT hxy
    obtain ⟨h1, h2, h3, h4⟩ := hT
    have hsl := spot_le false x r
    have hpass : ∀ j, j < spot false x r → r.getD j 0 ≤ x := fun j hj => passes_le.1 (spot_pass false x r j hj)
    obtain ⟨k, hk⟩ : ∃ k, k = spot false x r := ⟨_, rfl⟩
    have hst : k < r.length → x < r.getD k 0 := fun h => by rw [hk]; exact passes_no.1 (spot_stop false x r (by omega))
    simp only [ins, insAt, ← hk]
    rw [← hk] at hpass hsl
    by_cases e : k = r.length
    · rw [if_pos e, if_pos e]
      simp only [insAt]
      rw [if_neg]
      · omega
      · intro h
        have := passes_le.1 (spot_pass false y (r ++ [x]) r.length (by rw [h]; simp))
        rw [getD_app, if_neg (by omega), if_pos rfl] at this
        omega
    · rw [if_neg e, if_neg e]
      have hlt : k < r.length := by omega
      simp only [insAt]
      have hsl2 := spot_le false y (r.set k x)
      have hp2 := spot_pass false y (r.set k x)
      obtain ⟨m, hm⟩ : ∃ m, m = spot false y (r.set k x) := ⟨_, rfl⟩
      rw [← hm] at hsl2 hp2 ⊢
      rw [List.length_set] at hsl2 ⊢
      have hmk : m ≤ k := Nat.le_of_not_lt (fun h => by
        have := passes_le.1 (hp2 k h)
        rw [getD_set, if_pos ⟨rfl, hlt⟩] at this; omega)
      rw [if_neg (by omega)]
      have hk2 := hst hlt
      have : (r.set k x).getD m 0 < r.getD k 0 := by
        rw [getD_set]
        by_cases e3 : m = k ∧ k < r.length
        · rw [if_pos e3]; exact hk2
        · rw [if_neg e3]; have := hpass m (by omega); omega
      have := @ih (r.getD k 0) ((r.set k x).getD m 0) h4 this
      omega

end Go.Proofs.Ytpbkidgdpejenae
