/-
  Families of paths, as they are looked for; the first one, and how many.
-/
namespace Go.Proofs.YtapchcamjeafmaaDoor

/-- The place of a point among the marks. -/
def ixP8 (p : Nat × Nat) : Nat := p.1 * 8 + p.2
def mkP (cl : Nat → Bool) (p : Nat × Nat) (b : Bool) : Nat → Bool := fun k => if k = ixP8 p then b else cl k
def ptD (l : List (Nat × Nat)) (i : Nat) : Nat × Nat := l.getD i (0, 0)
def txA (tx : List (List UInt8)) (i : Nat) (b : UInt8) : List (List UInt8) := tx.set i (tx.getD i [] ++ [b])
/-- Looking on from a point that is entered; fuel: enough. -/
def goF {Φ : Type} (S E : List (Nat × Nat)) (fnd : Φ → List (List UInt8) → Bool × Φ) : Nat → Nat → Nat × Nat → (Nat → Bool) → List (List UInt8) → Nat → Φ → Bool × Nat × Φ
  | 0, _, _, _, _, st, φ => (true, st, φ)
  | f + 1, i, p, cl, tx, st, φ =>
    if cl (ixP8 p) = true then (true, st, φ)
    else if 1000000 < st + 1 then (false, st + 1, φ)
    else if p = ptD E i then
      if i + 1 = S.length then ((fnd φ tx).1, st + 1, (fnd φ tx).2)
      else goF S E fnd f (i + 1) (ptD S (i + 1)) (mkP cl p true) tx (st + 1) φ
    else
      let r := if p.1 < (ptD E i).1 then goF S E fnd f i (p.1 + 1, p.2) (mkP cl p true) (txA tx i 82) (st + 1) φ else (true, st + 1, φ)
      if r.1 = false then r
      else if (ptD E i).2 ≤ p.2 then r
      else goF S E fnd f i (p.1, p.2 + 1) (mkP cl p true) (txA tx i 85) r.2.1 r.2.2
/-- How much fuel is enough. -/
def dsP (p e : Nat × Nat) : Nat := (e.1 - p.1) + (e.2 - p.2)
def fuS (S E : List (Nat × Nat)) (i : Nat) : Nat := ((List.range (S.length - i)).map fun j => dsP (ptD S (i + j)) (ptD E (i + j)) + 1).sum
def fuN (S E : List (Nat × Nat)) (i : Nat) (p : Nat × Nat) : Nat := dsP p (ptD E i) + 1 + fuS S E (i + 1)
theorem fuS_step (S E : List (Nat × Nat)) (i : Nat) (h : i < S.length) : fuS S E i = dsP (ptD S i) (ptD E i) + 1 + fuS S E (i + 1) := by
  unfold fuS
  obtain ⟨m, hm⟩ : ∃ m, S.length - i = m + 1 := ⟨S.length - i - 1, by omega⟩
  rw [hm, show S.length - (i + 1) = m by omega, List.range_succ_eq_map, List.map_cons, List.sum_cons, List.map_map, Nat.add_zero]
  congr 2
  apply List.map_congr_left
  intro j _
  simp only [Function.comp, Nat.succ_eq_add_one]
  rw [show i + (j + 1) = i + 1 + j by omega]

def fndO (_ : Option (List (List UInt8))) (tx : List (List UInt8)) : Bool × Option (List (List UInt8)) := (false, some tx)
def fndN (n : Nat) (_ : List (List UInt8)) : Bool × Nat := (true, n + 1)
/-- Counting never goes back; it stops only for steps. -/
theorem cntF (S E : List (Nat × Nat)) : ∀ (f i : Nat) (p : Nat × Nat) (cl : Nat → Bool) (tx : List (List UInt8)) (st n : Nat), n ≤ (goF S E fndN f i p cl tx st n).2.2 ∧ st ≤ (goF S E fndN f i p cl tx st n).2.1
  | 0, _, _, _, _, st, n => ⟨Nat.le_refl _, Nat.le_refl _⟩
  | f + 1, i, p, cl, tx, st, n => by
    rw [goF]
    split
    · exact ⟨Nat.le_refl _, Nat.le_refl _⟩
    split
    · exact ⟨Nat.le_refl _, Nat.le_succ _⟩
    split
    · split
      · exact ⟨Nat.le_succ _, Nat.le_succ _⟩
      · have := cntF S E f (i + 1) (ptD S (i + 1)) (mkP cl p true) tx (st + 1) n
        exact ⟨this.1, by omega⟩
    · dsimp only
      obtain ⟨b, hb⟩ : ∃ b, b = (if p.1 < (ptD E i).1 then goF S E fndN f i (p.1 + 1, p.2) (mkP cl p true) (txA tx i 82) (st + 1) n else (true, st + 1, n)) := ⟨_, rfl⟩
      rw [← hb]
      have h1 : n ≤ b.2.2 ∧ st + 1 ≤ b.2.1 := by
        rw [hb]
        by_cases h5 : p.1 < (ptD E i).1
        · rw [if_pos h5]; exact cntF S E f i (p.1 + 1, p.2) (mkP cl p true) (txA tx i 82) (st + 1) n
        · rw [if_neg h5]; exact ⟨Nat.le_refl _, Nat.le_refl _⟩
      by_cases h6 : b.1 = false
      · rw [if_pos h6]; exact ⟨h1.1, by omega⟩
      rw [if_neg h6]
      by_cases h7 : (ptD E i).2 ≤ p.2
      · rw [if_pos h7]; exact ⟨h1.1, by omega⟩
      rw [if_neg h7]
      have h2 := cntF S E f i (p.1, p.2 + 1) (mkP cl p true) (txA tx i 85) b.2.1 b.2.2
      exact ⟨Nat.le_trans h1.1 h2.1, by omega⟩
/-- The two lookings, side by side. -/
def SimF (a : Bool × Nat × Option (List (List UInt8))) (b : Bool × Nat × Nat) (n : Nat) : Prop :=
  (a.2.2 = none → b = (a.1, a.2.1, n) ∧ (a.1 = false → 1000000 < a.2.1)) ∧ (a.2.2 ≠ none → a.1 = false ∧ n < b.2.2)
theorem simF (S E : List (Nat × Nat)) : ∀ (f i : Nat) (p : Nat × Nat) (cl : Nat → Bool) (tx : List (List UInt8)) (st n : Nat), SimF (goF S E fndO f i p cl tx st none) (goF S E fndN f i p cl tx st n) n
  | 0, _, _, _, _, st, n => ⟨fun _ => ⟨rfl, fun h => by cases h⟩, fun h => absurd rfl h⟩
  | f + 1, i, p, cl, tx, st, n => by
    rw [goF, goF]
    by_cases h1 : cl (ixP8 p) = true
    · rw [if_pos h1, if_pos h1]; exact ⟨fun _ => ⟨rfl, fun h => by cases h⟩, fun h => absurd rfl h⟩
    rw [if_neg h1, if_neg h1]
    by_cases h2 : 1000000 < st + 1
    · rw [if_pos h2, if_pos h2]; exact ⟨fun _ => ⟨rfl, fun _ => h2⟩, fun h => absurd rfl h⟩
    rw [if_neg h2, if_neg h2]
    by_cases h3 : p = ptD E i
    · rw [if_pos h3, if_pos h3]
      by_cases h4 : i + 1 = S.length
      · rw [if_pos h4, if_pos h4]; exact ⟨fun h => (by cases h), fun _ => ⟨rfl, Nat.lt_succ_self _⟩⟩
      · rw [if_neg h4, if_neg h4]; exact simF S E f (i + 1) (ptD S (i + 1)) (mkP cl p true) tx (st + 1) n
    rw [if_neg h3, if_neg h3]
    dsimp only
    obtain ⟨a, ha⟩ : ∃ a, a = (if p.1 < (ptD E i).1 then goF S E fndO f i (p.1 + 1, p.2) (mkP cl p true) (txA tx i 82) (st + 1) none else (true, st + 1, none)) := ⟨_, rfl⟩
    obtain ⟨b, hb⟩ : ∃ b, b = (if p.1 < (ptD E i).1 then goF S E fndN f i (p.1 + 1, p.2) (mkP cl p true) (txA tx i 82) (st + 1) n else (true, st + 1, n)) := ⟨_, rfl⟩
    rw [← ha, ← hb]
    have hab : SimF a b n := by
      rw [ha, hb]
      by_cases h5 : p.1 < (ptD E i).1
      · rw [if_pos h5, if_pos h5]; exact simF S E f i (p.1 + 1, p.2) (mkP cl p true) (txA tx i 82) (st + 1) n
      · rw [if_neg h5, if_neg h5]; exact ⟨fun _ => ⟨rfl, fun h => by cases h⟩, fun h => absurd rfl h⟩
    by_cases hn : a.2.2 = none
    · obtain ⟨hb1, hb2⟩ := hab.1 hn
      have e1 : b.1 = a.1 := by rw [hb1]
      have e2 : b.2.1 = a.2.1 := by rw [hb1]
      have e3 : b.2.2 = n := by rw [hb1]
      rw [e1]
      by_cases h6 : a.1 = false
      · rw [if_pos h6, if_pos h6]; exact hab
      rw [if_neg h6, if_neg h6]
      by_cases h7 : (ptD E i).2 ≤ p.2
      · rw [if_pos h7, if_pos h7]; exact hab
      rw [if_neg h7, if_neg h7, e2, e3, hn]
      exact simF S E f i (p.1, p.2 + 1) (mkP cl p true) (txA tx i 85) a.2.1 n
    · obtain ⟨h6, h7⟩ := hab.2 hn
      rw [if_pos h6]
      refine ⟨fun h => absurd h hn, fun _ => ⟨h6, ?_⟩⟩
      split
      · exact h7
      split
      · exact h7
      · exact Nat.lt_of_lt_of_le h7 (cntF S E f i (p.1, p.2 + 1) (mkP cl p true) (txA tx i 85) b.2.1 b.2.2).1

/-- A step. -/
def stpP (p : Nat × Nat) (b : UInt8) : Nat × Nat := if b = 82 then (p.1 + 1, p.2) else (p.1, p.2 + 1)
/-- Of a text, read from a point on: the points gone through ahead of its last one are new ones; they are pushed. -/
def prtP : List (Nat × Nat) → Nat × Nat → List UInt8 → Option (List (Nat × Nat) × (Nat × Nat))
  | gn, p, [] => some (gn, p)
  | gn, p, b :: s => if p ∈ gn ∨ ¬ (b = 82 ∨ b = 85) then none else prtP (gn ++ [p]) (stpP p b) s
theorem prtP_snoc : ∀ (s : List UInt8) (gn : List (Nat × Nat)) (p : Nat × Nat) (g2 : List (Nat × Nat)) (q : Nat × Nat) (b : UInt8), prtP gn p s = some (g2, q) → q ∉ g2 → (b = 82 ∨ b = 85) → prtP gn p (s ++ [b]) = some (g2 ++ [q], stpP q b)
  | [], gn, p, g2, q, b, h, hq, hb => by
    rw [prtP] at h
    simp only [Option.some.injEq, Prod.mk.injEq] at h
    obtain ⟨rfl, rfl⟩ := h
    rw [List.nil_append, prtP, if_neg (by rintro (h | h); exact hq h; exact h hb), prtP]
  | c :: s, gn, p, g2, q, b, h, hq, hb => by
    rw [prtP] at h
    rw [List.cons_append, prtP]
    split at h
    · cases h
    · rename_i h1
      rw [if_neg h1]
      exact prtP_snoc s _ _ _ _ _ h hq hb
/-- The first paths of a family, each through new points, each to its end. -/
def famP (S E : List (Nat × Nat)) (tx : List (List UInt8)) (gn : List (Nat × Nat)) : Nat → Option (List (Nat × Nat))
  | 0 => some gn
  | i + 1 => match famP S E tx gn i with
    | none => none
    | some g1 => match prtP g1 (ptD S i) (tx.getD i []) with
      | none => none
      | some (g2, q) => if q = ptD E i ∧ q ∉ g2 then some (g2 ++ [q]) else none
theorem famP_congr (S E : List (Nat × Nat)) (tx ty : List (List UInt8)) (gn : List (Nat × Nat)) : ∀ i, (∀ j, j < i → tx.getD j [] = ty.getD j []) → famP S E tx gn i = famP S E ty gn i
  | 0, _ => rfl
  | i + 1, h => by
    rw [famP, famP, famP_congr S E tx ty gn i (fun j hj => h j (by omega)), h i (by omega)]
/-- What was found is a family. -/
theorem goF_fam (S E : List (Nat × Nat)) (gn0 : List (Nat × Nat)) (hE : S.length = E.length) : ∀ (f i : Nat) (p : Nat × Nat) (cl : Nat → Bool) (tx : List (List UInt8)) (st : Nat) (g1 gn : List (Nat × Nat)) (ty : List (List UInt8)),
    i < S.length → tx.length = S.length → (∀ j, i < j → tx.getD j [] = []) → famP S E tx gn0 i = some g1 → prtP g1 (ptD S i) (tx.getD i []) = some (gn, p) → (∀ q : Nat × Nat, q ∈ gn → cl (ixP8 q) = true) →
    (goF S E fndO f i p cl tx st none).2.2 = some ty → ∃ g2, famP S E ty gn0 S.length = some g2 ∧ ty.length = S.length
  | 0, _, _, _, _, _, _, _, _, _, _, _, _, _, _, h => by cases h
  | f + 1, i, p, cl, tx, st, g1, gn, ty, hi, hl, hz, hf, hp, hc, h => by
    rw [goF] at h
    by_cases h1 : cl (ixP8 p) = true
    · rw [if_pos h1] at h; cases h
    have hpn : p ∉ gn := fun q => h1 (hc p q)
    have hc2 : ∀ q : Nat × Nat, q ∈ gn ++ [p] → mkP cl p true (ixP8 q) = true := fun q hq => by
      unfold mkP
      by_cases e : ixP8 q = ixP8 p
      · rw [if_pos e]
      · rw [if_neg e]
        rcases List.mem_append.1 hq with h5 | h5
        · exact hc q h5
        · rw [List.mem_singleton.1 h5] at e; exact absurd rfl e
    rw [if_neg h1] at h
    by_cases h2 : 1000000 < st + 1
    · rw [if_pos h2] at h; cases h
    rw [if_neg h2] at h
    by_cases h3 : p = ptD E i
    · rw [if_pos h3] at h
      have hf2 : famP S E tx gn0 (i + 1) = some (gn ++ [p]) := by
        rw [famP, hf]
        show (match prtP g1 (ptD S i) (tx.getD i []) with | none => none | some (g2, q) => if q = ptD E i ∧ q ∉ g2 then some (g2 ++ [q]) else none) = _
        rw [hp]
        show (if p = ptD E i ∧ p ∉ gn then some (gn ++ [p]) else none) = _
        rw [if_pos ⟨h3, hpn⟩]
      by_cases h4 : i + 1 = S.length
      · rw [if_pos h4] at h
        simp only [fndO, Option.some.injEq] at h
        subst h
        exact ⟨_, by rw [← h4]; exact hf2, hl⟩
      · rw [if_neg h4] at h
        exact goF_fam S E gn0 hE f (i + 1) (ptD S (i + 1)) (mkP cl p true) tx (st + 1) (gn ++ [p]) (gn ++ [p]) ty (by omega) hl (fun j hj => hz j (by omega)) hf2 (by rw [hz (i + 1) (by omega)]; rfl) hc2 h
    · rw [if_neg h3] at h
      have hset : ∀ b : UInt8, (b = 82 ∨ b = 85) → (txA tx i b).length = S.length ∧ (∀ j, i < j → (txA tx i b).getD j [] = []) ∧ famP S E (txA tx i b) gn0 i = some g1 ∧ prtP g1 (ptD S i) ((txA tx i b).getD i []) = some (gn ++ [p], stpP p b) := fun b hb => by
        have e0 : ∀ j, j ≠ i → (txA tx i b).getD j [] = tx.getD j [] := fun j hj => by
          unfold txA
          simp [List.getD, Ne.symm hj]
        have e1 : (txA tx i b).getD i [] = tx.getD i [] ++ [b] := by
          unfold txA
          simp [List.getD, hl, hi]
        refine ⟨by unfold txA; rw [List.length_set]; exact hl, fun j hj => by rw [e0 j (by omega)]; exact hz j hj, ?_, ?_⟩
        · rw [famP_congr S E _ tx gn0 i (fun j hj => e0 j (by omega))]; exact hf
        · rw [e1]; exact prtP_snoc _ _ _ _ _ _ hp hpn hb
      dsimp only at h
      have key : ∀ (b : UInt8) (q : Nat × Nat) (s2 : Nat), (b = 82 ∨ b = 85) → q = stpP p b → (goF S E fndO f i q (mkP cl p true) (txA tx i b) s2 none).2.2 = some ty → ∃ g2, famP S E ty gn0 S.length = some g2 ∧ ty.length = S.length := fun b q s2 hb hq hh => by
        obtain ⟨k1, k2, k3, k4⟩ := hset b hb
        rw [hq] at hh
        exact goF_fam S E gn0 hE f i (stpP p b) (mkP cl p true) (txA tx i b) s2 g1 (gn ++ [p]) ty hi k1 k2 k3 k4 hc2 hh
      obtain ⟨a, ha⟩ : ∃ a, a = (if p.1 < (ptD E i).1 then goF S E fndO f i (p.1 + 1, p.2) (mkP cl p true) (txA tx i 82) (st + 1) none else (true, st + 1, none)) := ⟨_, rfl⟩
      rw [← ha] at h
      have hA : a.2.2 = some ty → ∃ g2, famP S E ty gn0 S.length = some g2 ∧ ty.length = S.length := fun h5 => by
        rw [ha] at h5
        by_cases h6 : p.1 < (ptD E i).1
        · rw [if_pos h6] at h5
          exact key 82 (p.1 + 1, p.2) (st + 1) (Or.inl rfl) rfl h5
        · rw [if_neg h6] at h5; cases h5
      by_cases h6 : a.1 = false
      · rw [if_pos h6] at h; exact hA h
      rw [if_neg h6] at h
      by_cases h7 : (ptD E i).2 ≤ p.2
      · rw [if_pos h7] at h; exact hA h
      rw [if_neg h7] at h
      cases hn : a.2.2 with
      | none =>
        rw [hn] at h
        exact key 85 (p.1, p.2 + 1) a.2.1 (Or.inr rfl) rfl h
      | some ty2 =>
        have hs := simF S E f i (p.1 + 1, p.2) (mkP cl p true) (txA tx i 82) (st + 1) 0
        exfalso
        apply h6
        by_cases h8 : p.1 < (ptD E i).1
        · rw [if_pos h8] at ha
          rw [← ha] at hs
          exact (hs.2 (by rw [hn]; simp)).1
        · rw [if_neg h8] at ha
          rw [ha] at hn; cases hn

/-- From a point that was entered. -/
def lvF {Φ : Type} (S E : List (Nat × Nat)) (fnd : Φ → List (List UInt8) → Bool × Φ) (f i : Nat) (p : Nat × Nat) (cl : Nat → Bool) (tx : List (List UInt8)) (st : Nat) (φ : Φ) : Bool × Nat × Φ :=
  if p = ptD E i then
    if i + 1 = S.length then ((fnd φ tx).1, st, (fnd φ tx).2)
    else goF S E fnd f (i + 1) (ptD S (i + 1)) cl tx st φ
  else
    let r := if p.1 < (ptD E i).1 then goF S E fnd f i (p.1 + 1, p.2) cl (txA tx i 82) st φ else (true, st, φ)
    if r.1 = false then r
    else if (ptD E i).2 ≤ p.2 then r
    else goF S E fnd f i (p.1, p.2 + 1) cl (txA tx i 85) r.2.1 r.2.2
theorem goF_succ {Φ : Type} (S E : List (Nat × Nat)) (fnd : Φ → List (List UInt8) → Bool × Φ) (f i : Nat) (p : Nat × Nat) (cl : Nat → Bool) (tx : List (List UInt8)) (st : Nat) (φ : Φ) :
    goF S E fnd (f + 1) i p cl tx st φ = if cl (ixP8 p) = true then (true, st, φ) else if 1000000 < st + 1 then (false, st + 1, φ) else lvF S E fnd f i p (mkP cl p true) tx (st + 1) φ := by
  rw [goF]; rfl
theorem goF_st {Φ : Type} (S E : List (Nat × Nat)) (fnd : Φ → List (List UInt8) → Bool × Φ) : ∀ (f i : Nat) (p : Nat × Nat) (cl : Nat → Bool) (tx : List (List UInt8)) (st : Nat) (φ : Φ), st ≤ 1000000 → (goF S E fnd f i p cl tx st φ).2.1 ≤ 1000001 ∧ ((goF S E fnd f i p cl tx st φ).1 = true → (goF S E fnd f i p cl tx st φ).2.1 ≤ 1000000)
  | 0, _, _, _, _, st, φ, h => ⟨by rw [goF]; exact Nat.le_succ_of_le h, fun _ => by rw [goF]; exact h⟩
  | f + 1, i, p, cl, tx, st, φ, h => by
    rw [goF_succ]
    by_cases h1 : cl (ixP8 p) = true
    · rw [if_pos h1]; exact ⟨Nat.le_succ_of_le h, fun _ => h⟩
    rw [if_neg h1]
    by_cases h2 : 1000000 < st + 1
    · rw [if_pos h2]; exact ⟨by show st + 1 ≤ 1000001; omega, fun q => by cases q⟩
    rw [if_neg h2]
    unfold lvF
    by_cases h3 : p = ptD E i
    · rw [if_pos h3]
      by_cases h4 : i + 1 = S.length
      · rw [if_pos h4]; exact ⟨by show st + 1 ≤ 1000001; omega, fun _ => by show st + 1 ≤ 1000000; omega⟩
      · rw [if_neg h4]; exact goF_st S E fnd f (i + 1) _ _ _ _ _ (by omega)
    rw [if_neg h3]
    dsimp only
    obtain ⟨a, ha⟩ : ∃ a, a = (if p.1 < (ptD E i).1 then goF S E fnd f i (p.1 + 1, p.2) (mkP cl p true) (txA tx i 82) (st + 1) φ else (true, st + 1, φ)) := ⟨_, rfl⟩
    rw [← ha]
    have hA : a.2.1 ≤ 1000001 ∧ (a.1 = true → a.2.1 ≤ 1000000) := by
      rw [ha]
      by_cases h5 : p.1 < (ptD E i).1
      · rw [if_pos h5]; exact goF_st S E fnd f i _ _ _ _ _ (by omega)
      · rw [if_neg h5]; exact ⟨by show st + 1 ≤ 1000001; omega, fun _ => by show st + 1 ≤ 1000000; omega⟩
    by_cases h6 : a.1 = false
    · rw [if_pos h6]; exact hA
    rw [if_neg h6]
    by_cases h7 : (ptD E i).2 ≤ p.2
    · rw [if_pos h7]; exact hA
    rw [if_neg h7]
    exact goF_st S E fnd f i _ _ _ _ _ (hA.2 (by simpa using h6))

/-- No more are counted than steps were made. -/
theorem cnt_st (S E : List (Nat × Nat)) : ∀ (f i : Nat) (p : Nat × Nat) (cl : Nat → Bool) (tx : List (List UInt8)) (st n : Nat), (goF S E fndN f i p cl tx st n).2.2 + st ≤ (goF S E fndN f i p cl tx st n).2.1 + n
  | 0, _, _, _, _, st, n => by rw [goF]; show n + st ≤ st + n; omega
  | f + 1, i, p, cl, tx, st, n => by
    rw [goF_succ]
    by_cases h1 : cl (ixP8 p) = true
    · rw [if_pos h1]; show n + st ≤ st + n; omega
    rw [if_neg h1]
    by_cases h2 : 1000000 < st + 1
    · rw [if_pos h2]; show n + st ≤ st + 1 + n; omega
    rw [if_neg h2]
    unfold lvF
    by_cases h3 : p = ptD E i
    · rw [if_pos h3]
      by_cases h4 : i + 1 = S.length
      · rw [if_pos h4]; show n + 1 + st ≤ st + 1 + n; omega
      · rw [if_neg h4]
        have := cnt_st S E f (i + 1) (ptD S (i + 1)) (mkP cl p true) tx (st + 1) n; omega
    rw [if_neg h3]
    dsimp only
    obtain ⟨a, ha⟩ : ∃ a, a = (if p.1 < (ptD E i).1 then goF S E fndN f i (p.1 + 1, p.2) (mkP cl p true) (txA tx i 82) (st + 1) n else (true, st + 1, n)) := ⟨_, rfl⟩
    rw [← ha]
    have hA : a.2.2 + (st + 1) ≤ a.2.1 + n := by
      rw [ha]
      by_cases h5 : p.1 < (ptD E i).1
      · rw [if_pos h5]; exact cnt_st S E f i _ _ _ _ _
      · rw [if_neg h5]; show n + (st + 1) ≤ st + 1 + n; omega
    by_cases h6 : a.1 = false
    · rw [if_pos h6]; omega
    rw [if_neg h6]
    by_cases h7 : (ptD E i).2 ≤ p.2
    · rw [if_pos h7]; omega
    rw [if_neg h7]
    have := cnt_st S E f i (p.1, p.2 + 1) (mkP cl p true) (txA tx i 85) a.2.1 a.2.2; omega

end Go.Proofs.YtapchcamjeafmaaDoor
