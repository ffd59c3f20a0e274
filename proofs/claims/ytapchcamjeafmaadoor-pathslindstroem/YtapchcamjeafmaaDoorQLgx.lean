/-
  Families as they are looked for are the families that keep apart; numbers of paths by their last step.
-/
import Derived.Test.YtapchcamjeafmaaDoorQLgw
namespace Go.Proofs.YtapchcamjeafmaaDoor

/-- Marks, and the points of a list besides. -/
def mkT (cl : Nat → Bool) (T : List (Nat × Nat)) : Nat → Bool := fun k => cl k || T.any fun x => ixP8 x == k
theorem mkT_nil (cl : Nat → Bool) : mkT cl [] = cl := by funext k; simp [mkT]
theorem mkT_app (cl : Nat → Bool) (T q : List (Nat × Nat)) : mkT (mkT cl T) q = mkT cl (q ++ T) := by
  funext k
  simp only [mkT, List.any_append]
  cases cl k <;> cases (T.any fun x => ixP8 x == k) <;> simp
theorem mkP_mkT (cl : Nat → Bool) (p : Nat × Nat) : mkP cl p true = mkT cl [p] := by
  funext k
  unfold mkP mkT
  by_cases h : k = ixP8 p
  · subst h; simp
  · have : ¬ ixP8 p = k := fun x => h x.symm
    simp [h, this]
theorem ix_inj {p q : Nat × Nat} (hp : p.2 < 8) (hq : q.2 < 8) (h : ixP8 p = ixP8 q) : p = q := by
  unfold ixP8 at h
  have h1 : p.1 = q.1 := by omega
  have h2 : p.2 = q.2 := by omega
  exact Prod.ext h1 h2
theorem plG_filter (cl : Nat → Bool) (T : List (Nat × Nat)) (hT : ∀ x ∈ T, x.2 < 8) : ∀ (f : Nat) (p e : Nat × Nat), e.2 < 8 → plG (mkT cl T) f p e = (plG cl f p e).filter (dsj · T)
  | 0, _, _, _ => rfl
  | f + 1, p, e, he => by
    by_cases hf : e.1 < p.1 ∨ e.2 < p.2
    · rw [plG_far _ _ _ _ hf, plG_far _ _ _ _ hf]; rfl
    · by_cases hc : cl (ixP8 p) = true
      · have h1 : mkT cl T (ixP8 p) = true := by unfold mkT; rw [hc]; rfl
        rw [plG, if_pos (Or.inl h1), plG, if_pos (Or.inl hc)]; rfl
      · by_cases hm : p ∈ T
        · have h1 : mkT cl T (ixP8 p) = true := by
            unfold mkT
            rw [Bool.or_eq_true]; right
            rw [List.any_eq_true]; exact ⟨p, hm, by simp⟩
          rw [plG, if_pos (Or.inl h1)]
          symm
          rw [List.filter_eq_nil_iff]
          intro q hq
          have := (plG_in cl _ _ _ _ hq).2
          unfold dsj
          rw [Bool.not_eq_true, List.all_eq_false]
          exact ⟨p, this, by simp [hm]⟩
        · have h1 : ¬ mkT cl T (ixP8 p) = true := by
            unfold mkT
            rw [Bool.or_eq_true]
            rintro (h | h)
            · exact hc h
            · rw [List.any_eq_true] at h
              obtain ⟨x, hx, hxe⟩ := h
              have : x = p := ix_inj (hT x hx) (by omega) (by simpa using hxe)
              exact hm (this ▸ hx)
          conv => lhs; rw [plG]
          conv => rhs; rw [plG]
          rw [if_neg (c := mkT cl T (ixP8 p) = true ∨ e.1 < p.1 ∨ e.2 < p.2) (fun h => h.elim h1 hf), if_neg (c := cl (ixP8 p) = true ∨ e.1 < p.1 ∨ e.2 < p.2) (fun h => h.elim hc hf)]
          by_cases h2 : p = e
          · rw [if_pos h2, if_pos h2]
            simp [dsj, hm]
          · rw [if_neg h2, if_neg h2, plG_filter cl T hT f _ _ he, plG_filter cl T hT f _ _ he, List.filter_map, ← List.filter_append]
            congr 1
            apply List.filter_congr
            intro q _
            simp [dsj, hm]
theorem pth_filter {cl : Nat → Bool} {T : List (Nat × Nat)} (hT : ∀ x ∈ T, x.2 < 8) {p e : Nat × Nat} (he : e.2 < 8) : pth (mkT cl T) p e = (pth cl p e).filter (dsj · T) := plG_filter cl T hT _ _ _ he

/-- Families, path by path, each behind the marks of those ahead. -/
def hC : (Nat → Bool) → List ((Nat × Nat) × (Nat × Nat)) → Nat
  | _, [] => 1
  | cl, s :: r => ((pth cl s.1 s.2).map fun q => hC (mkT cl q) r).sum
theorem sum_filter {α : Type} (L : List α) (p : α → Bool) (f : α → Nat) : ((L.filter p).map f).sum = (L.map fun x => if p x = true then f x else 0).sum := by
  induction L with
  | nil => rfl
  | cons a L ih =>
    rw [List.filter_cons, List.map_cons, List.sum_cons]
    split
    · rw [List.map_cons, List.sum_cons, ih]
    · rw [ih]; omega
theorem hC_apR (cl : Nat → Bool) : ∀ (r : List ((Nat × Nat) × (Nat × Nat))) (T : List (Nat × Nat)), (∀ s ∈ r, s.2.2 < 8) → (∀ x ∈ T, x.2 < 8) → hC (mkT cl T) r = apR T (r.map fun s => pth cl s.1 s.2)
  | [], _, _, _ => rfl
  | s :: r, T, hr, hT => by
    rw [hC, List.map_cons, apR, pth_filter hT (hr s (by simp)), sum_filter]
    congr 1
    apply List.map_congr_left
    intro q hq
    split
    · rw [mkT_app]
      refine hC_apR cl r _ (fun s' h' => hr s' (List.mem_cons_of_mem _ h')) (fun x hx => ?_)
      rcases List.mem_append.1 hx with h | h
      · have := (pth_in hq).1 x h
        have := hr s (by simp); omega
      · exact hT x h
    · rfl
theorem zip_drop (S E : List (Nat × Nat)) (hl : S.length = E.length) (i : Nat) (hi : i < S.length) : (S.zip E).drop i = (ptD S i, ptD E i) :: (S.zip E).drop (i + 1) := by
  rw [List.drop_eq_getElem_cons (by rw [List.length_zip]; omega), List.getElem_zip]
  unfold ptD
  simp [List.getD, hi, show i < E.length by omega]
theorem sum_map_cons (L : List (List (Nat × Nat))) (p : Nat × Nat) (f : List (Nat × Nat) → Nat) : ((L.map (p :: ·)).map f).sum = (L.map fun q => f (p :: q)).sum := by
  rw [List.map_map]; rfl
theorem goF_cnt (S E : List (Nat × Nat)) (hl : S.length = E.length) (hS : ∀ i, (ptD S i).1 < 8 ∧ (ptD S i).2 < 8) (hE : ∀ i, (ptD E i).1 < 8 ∧ (ptD E i).2 < 8) : ∀ (f i : Nat) (p : Nat × Nat) (cl : Nat → Bool) (tx : List (List UInt8)) (st n : Nat), i < S.length → p.1 < 8 → p.2 < 8 → fuN S E i p ≤ f →
    (goF S E fndN f i p cl tx st n).1 = true → (goF S E fndN f i p cl tx st n).2.2 = n + ((pth cl p (ptD E i)).map fun q => hC (mkT cl q) ((S.zip E).drop (i + 1))).sum
  | 0, i, p, cl, tx, st, n, _, _, _, hf, _ => by unfold fuN at hf; omega
  | f + 1, i, p, cl, tx, st, n, hi, hp1, hp2, hf, hr => by
    rw [goF] at hr ⊢
    by_cases hc : cl (ixP8 p) = true
    · rw [if_pos hc]; rw [pth_shut hc]; simp
    · rw [if_neg hc] at hr ⊢
      by_cases hs : 1000000 < st + 1
      · rw [if_pos hs] at hr; cases hr
      · rw [if_neg hs] at hr ⊢
        have hc' : cl (ixP8 p) = false := by simpa using hc
        by_cases he : p = ptD E i
        · rw [if_pos he] at hr ⊢
          have hpe : pth cl p (ptD E i) = [[p]] := by
            rw [← he, pth_step _ hc', pth_far (Or.inl (by simp only; omega)), pth_far (Or.inr (by simp only; omega))]
            unfold dnP; rw [if_pos rfl]; rfl
          rw [hpe]
          by_cases hlast : i + 1 = S.length
          · rw [if_pos hlast] at hr ⊢
            have hz : (S.zip E).drop (i + 1) = [] := by rw [List.drop_eq_nil_iff, List.length_zip]; omega
            rw [hz]; simp [fndN, hC]
          · rw [if_neg hlast] at hr ⊢
            have hi' : i + 1 < S.length := by omega
            rw [goF_cnt S E hl hS hE f (i + 1) _ _ _ _ _ hi' (hS _).1 (hS _).2 (by
              unfold fuN at hf ⊢
              rw [fuS_step S E (i + 1) hi'] at hf; omega) hr]
            rw [zip_drop S E hl (i + 1) hi', mkP_mkT]
            simp [hC]
        · rw [if_neg he] at hr ⊢
          have hdn : dnP p (ptD E i) = [] := by unfold dnP; rw [if_neg (fun x => he x.symm)]
          rw [pth_step _ hc', hdn, List.nil_append, sum_map_cons, List.map_append, List.sum_append]
          have hmk : ∀ q, mkT cl (p :: q) = mkT (mkT cl [p]) q := fun q => by
            rw [mkT_app]
            funext k
            simp only [mkT, List.any_append, List.any_cons, List.any_nil]
            cases cl k <;> cases (q.any fun x => ixP8 x == k) <;> cases (ixP8 p == k) <;> rfl
          have hE' := hE i
          have hR : pth (mkT cl [p]) (p.1 + 1, p.2) (ptD E i) = pth cl (p.1 + 1, p.2) (ptD E i) := by
            rw [pth_filter (by simp; exact hp2) hE'.2, List.filter_eq_self]
            intro q hq
            have h1 := (pth_in hq).1
            unfold dsj
            rw [List.all_eq_true]
            intro x hx
            have := h1 x hx
            simp only at this
            have hne : x ≠ p := by rintro rfl; omega
            simp [hne]
          have hU : pth (mkT cl [p]) (p.1, p.2 + 1) (ptD E i) = pth cl (p.1, p.2 + 1) (ptD E i) := by
            rw [pth_filter (by simp; exact hp2) hE'.2, List.filter_eq_self]
            intro q hq
            have h1 := (pth_in hq).1
            unfold dsj
            rw [List.all_eq_true]
            intro x hx
            have := h1 x hx
            simp only at this
            have hne : x ≠ p := by rintro rfl; omega
            simp [hne]
          have hmk2 : ∀ L : List (List (Nat × Nat)), (L.map fun q => hC (mkT cl (p :: q)) ((S.zip E).drop (i + 1))) = L.map fun q => hC (mkT (mkT cl [p]) q) ((S.zip E).drop (i + 1)) := fun L => by
            apply List.map_congr_left
            intro q _
            rw [hmk]
          rw [hmk2, hmk2, ← hR, ← hU]
          rw [mkP_mkT] at hr ⊢
          -- the way to the right
          obtain ⟨r, hrd⟩ : ∃ r, r = (if p.1 < (ptD E i).1 then goF S E fndN f i (p.1 + 1, p.2) (mkT cl [p]) (txA tx i 82) (st + 1) n else (true, st + 1, n)) := ⟨_, rfl⟩
          rw [← hrd] at hr ⊢
          have hr1 : r.1 = true → r.2.2 = n + ((pth (mkT cl [p]) (p.1 + 1, p.2) (ptD E i)).map fun q => hC (mkT (mkT cl [p]) q) ((S.zip E).drop (i + 1))).sum := fun h => by
            by_cases hx : p.1 < (ptD E i).1
            · rw [if_pos hx] at hrd
              rw [hrd] at h ⊢
              exact goF_cnt S E hl hS hE f i _ _ _ _ _ hi (by simp only; omega) hp2 (by unfold fuN dsP at hf ⊢; simp only; omega) h
            · rw [if_neg hx] at hrd
              rw [hrd, pth_far (Or.inl (by simp only; omega))]; simp
          by_cases hb : r.1 = false
          · rw [if_pos hb] at hr; rw [hb] at hr; cases hr
          · rw [if_neg hb] at hr ⊢
            have h1 := hr1 (by simpa using hb)
            by_cases hy : (ptD E i).2 ≤ p.2
            · rw [if_pos hy, h1, pth_far (p := (p.1, p.2 + 1)) (Or.inr (by simp only; omega))]; simp
            · rw [if_neg hy] at hr ⊢
              rw [goF_cnt S E hl hS hE f i (p.1, p.2 + 1) _ _ _ _ hi hp1 (by simp only; omega) (by unfold fuN dsP at hf ⊢; simp only; omega) hr, h1]; omega
/-- Where it was stopped, too many steps were made. -/
theorem goF_no (S E : List (Nat × Nat)) : ∀ (f i : Nat) (p : Nat × Nat) (cl : Nat → Bool) (tx : List (List UInt8)) (st n : Nat), (goF S E fndN f i p cl tx st n).1 = false → 1000000 < (goF S E fndN f i p cl tx st n).2.1
  | 0, _, _, _, _, _, _, h => by cases h
  | f + 1, i, p, cl, tx, st, n, hr => by
    rw [goF] at hr ⊢
    by_cases hc : cl (ixP8 p) = true
    · rw [if_pos hc] at hr; cases hr
    · rw [if_neg hc] at hr ⊢
      by_cases hs : 1000000 < st + 1
      · rw [if_pos hs]; exact hs
      · rw [if_neg hs] at hr ⊢
        by_cases he : p = ptD E i
        · rw [if_pos he] at hr ⊢
          by_cases hlast : i + 1 = S.length
          · rw [if_pos hlast] at hr; cases hr
          · rw [if_neg hlast] at hr ⊢
            exact goF_no S E f _ _ _ _ _ _ hr
        · rw [if_neg he] at hr ⊢
          obtain ⟨r, hrd⟩ : ∃ r, r = (if p.1 < (ptD E i).1 then goF S E fndN f i (p.1 + 1, p.2) (mkP cl p true) (txA tx i 82) (st + 1) n else (true, st + 1, n)) := ⟨_, rfl⟩
          simp only [← hrd] at hr ⊢
          by_cases hb : r.1 = false
          · rw [if_pos hb]
            by_cases hx : p.1 < (ptD E i).1
            · rw [if_pos hx] at hrd
              rw [hrd] at hb ⊢
              exact goF_no S E f _ _ _ _ _ _ hb
            · rw [if_neg hx] at hrd; rw [hrd] at hb; cases hb
          · rw [if_neg hb] at hr ⊢
            by_cases hy : (ptD E i).2 ≤ p.2
            · rw [if_pos hy] at hr; exact absurd hr hb
            · rw [if_neg hy] at hr ⊢
              exact goF_no S E f _ _ _ _ _ _ hr

/-- Numbers of paths, by the last step. -/
def nP (cl : Nat → Bool) (a p : Nat × Nat) : Nat := (pth cl a p).length
theorem nP_shut {cl : Nat → Bool} {p : Nat × Nat} (h : cl (ixP8 p) = true) : ∀ (d : Nat) (a : Nat × Nat), dsP a p ≤ d → nP cl a p = 0 := by
  intro d
  induction d with
  | zero =>
    intro a hd
    by_cases hf : p.1 < a.1 ∨ p.2 < a.2
    · unfold nP; rw [pth_far hf]; rfl
    · have : a = p := Prod.ext (by unfold dsP at hd; omega) (by unfold dsP at hd; omega)
      subst this
      unfold nP; rw [pth_shut h]; rfl
  | succ d ih =>
    intro a hd
    cases hc : cl (ixP8 a) with
    | true => unfold nP; rw [pth_shut hc]; rfl
    | false =>
      have hne : p ≠ a := by rintro rfl; rw [h] at hc; cases hc
      have h1 : nP cl (a.1 + 1, a.2) p = 0 := by
        by_cases hx : a.1 < p.1
        · exact ih _ (by unfold dsP at hd ⊢; simp only; omega)
        · unfold nP; rw [pth_far (Or.inl (by simp only; omega))]; rfl
      have h2 : nP cl (a.1, a.2 + 1) p = 0 := by
        by_cases hx : a.2 < p.2
        · exact ih _ (by unfold dsP at hd ⊢; simp only; omega)
        · unfold nP; rw [pth_far (Or.inr (by simp only; omega))]; rfl
      unfold nP at h1 h2 ⊢
      rw [pth_step _ hc, List.length_map, List.length_append, List.length_append, h1, h2]
      unfold dnP
      rw [if_neg hne]; rfl
theorem nP_first {cl : Nat → Bool} {a : Nat × Nat} (p : Nat × Nat) (h : cl (ixP8 a) = false) : nP cl a p = (if p = a then 1 else 0) + nP cl (a.1 + 1, a.2) p + nP cl (a.1, a.2 + 1) p := by
  unfold nP
  rw [pth_step _ h, List.length_map, List.length_append, List.length_append]
  unfold dnP
  split <;> rfl
theorem nP_far {cl : Nat → Bool} {a p : Nat × Nat} (h : p.1 < a.1 ∨ p.2 < a.2) : nP cl a p = 0 := by unfold nP; rw [pth_far h]; rfl
theorem nP_closed {cl : Nat → Bool} {a : Nat × Nat} (p : Nat × Nat) (h : cl (ixP8 a) = true) : nP cl a p = 0 := by unfold nP; rw [pth_shut h]; rfl
def lfP (cl : Nat → Bool) (a p : Nat × Nat) : Nat := if 0 < p.1 then nP cl a (p.1 - 1, p.2) else 0
def dwP (cl : Nat → Bool) (a p : Nat × Nat) : Nat := if 0 < p.2 then nP cl a (p.1, p.2 - 1) else 0
theorem nP_last {cl : Nat → Bool} {p : Nat × Nat} (h : cl (ixP8 p) = false) : ∀ (d : Nat) (a : Nat × Nat), dsP a p ≤ d → nP cl a p = (if a = p then 1 else 0) + lfP cl a p + dwP cl a p := by
  intro d
  induction d with
  | zero =>
    intro a hd
    by_cases hf : p.1 < a.1 ∨ p.2 < a.2
    · rw [nP_far hf, if_neg (by rintro rfl; omega)]
      unfold lfP dwP
      rw [nP_far (by simp only; omega), nP_far (by simp only; omega)]
      simp
    · have : a = p := Prod.ext (by unfold dsP at hd; omega) (by unfold dsP at hd; omega)
      subst this
      rw [nP_first _ h, if_pos rfl, nP_far (Or.inl (by simp only; omega)), nP_far (Or.inr (by simp only; omega))]
      unfold lfP dwP
      by_cases h1 : 0 < a.1
      · rw [if_pos h1, nP_far (Or.inl (by simp only; omega))]
        by_cases h2 : 0 < a.2
        · rw [if_pos h2, nP_far (Or.inr (by simp only; omega))]
        · rw [if_neg h2]
      · rw [if_neg h1]
        by_cases h2 : 0 < a.2
        · rw [if_pos h2, nP_far (Or.inr (by simp only; omega))]
        · rw [if_neg h2]
  | succ d ih =>
    intro a hd
    by_cases hf : p.1 < a.1 ∨ p.2 < a.2
    · rw [nP_far hf, if_neg (by rintro rfl; omega)]
      unfold lfP dwP
      rw [nP_far (by simp only; omega), nP_far (by simp only; omega)]
      simp
    · cases hc : cl (ixP8 a) with
      | true =>
        have hne : a ≠ p := by rintro rfl; rw [h] at hc; cases hc
        unfold lfP dwP
        rw [nP_closed _ hc, nP_closed _ hc, nP_closed _ hc, if_neg hne]; simp
      | false =>
        have eR : nP cl (a.1 + 1, a.2) p = (if (a.1 + 1, a.2) = p then 1 else 0) + lfP cl (a.1 + 1, a.2) p + dwP cl (a.1 + 1, a.2) p := by
          by_cases hx : a.1 < p.1
          · exact ih _ (by unfold dsP at hd ⊢; simp only; omega)
          · rw [nP_far (Or.inl (by simp only; omega)), if_neg (by rintro rfl; simp at hx)]
            unfold lfP dwP
            rw [nP_far (Or.inl (by simp only; omega)), nP_far (Or.inl (by simp only; omega))]; simp
        have eU : nP cl (a.1, a.2 + 1) p = (if (a.1, a.2 + 1) = p then 1 else 0) + lfP cl (a.1, a.2 + 1) p + dwP cl (a.1, a.2 + 1) p := by
          by_cases hx : a.2 < p.2
          · exact ih _ (by unfold dsP at hd ⊢; simp only; omega)
          · rw [nP_far (Or.inr (by simp only; omega)), if_neg (by rintro rfl; simp at hx)]
            unfold lfP dwP
            rw [nP_far (Or.inr (by simp only; omega)), nP_far (Or.inr (by simp only; omega))]; simp
        have eL : lfP cl a p = (if (a.1 + 1, a.2) = p then 1 else 0) + lfP cl (a.1 + 1, a.2) p + lfP cl (a.1, a.2 + 1) p := by
          unfold lfP
          by_cases h1 : 0 < p.1
          · rw [if_pos h1, if_pos h1, if_pos h1, nP_first _ hc]
            congr 2
            by_cases h2 : (a.1 + 1, a.2) = p
            · rw [if_pos h2, if_pos]
              rw [← h2]; rfl
            · rw [if_neg h2, if_neg]
              intro h3
              apply h2
              rw [← h3]
              exact Prod.ext (by simp only; omega) rfl
          · rw [if_neg h1, if_neg h1, if_neg h1, if_neg (by rintro rfl; simp at h1)]
        have eD : dwP cl a p = (if (a.1, a.2 + 1) = p then 1 else 0) + dwP cl (a.1 + 1, a.2) p + dwP cl (a.1, a.2 + 1) p := by
          unfold dwP
          by_cases h1 : 0 < p.2
          · rw [if_pos h1, if_pos h1, if_pos h1, nP_first _ hc]
            congr 2
            by_cases h2 : (a.1, a.2 + 1) = p
            · rw [if_pos h2, if_pos]
              rw [← h2]; rfl
            · rw [if_neg h2, if_neg]
              intro h3
              apply h2
              rw [← h3]
              exact Prod.ext rfl (by simp only; omega)
          · rw [if_neg h1, if_neg h1, if_neg h1, if_neg (by rintro rfl; simp at h1)]
        rw [nP_first _ hc, eR, eU, eL, eD]
        have : (if p = a then 1 else 0) = (if a = p then 1 else 0 : Nat) := by
          by_cases h3 : a = p
          · rw [if_pos h3, if_pos h3.symm]
          · rw [if_neg h3, if_neg (fun x => h3 x.symm)]
        rw [this]; omega
theorem plG_bd (cl : Nat → Bool) : ∀ (f : Nat) (p e : Nat × Nat), (plG cl (f + 1) p e).length ≤ 2 ^ f
  | 0, p, e => by
    rw [plG]; split
    · simp
    · split
      · simp
      · simp [plG]
  | f + 1, p, e => by
    rw [plG]; split
    · simp
    · split
      · simp; exact Nat.one_le_two_pow
      · rw [List.length_map, List.length_append, Nat.pow_succ]
        have h1 := plG_bd cl f (p.1 + 1, p.2) e
        have h2 := plG_bd cl f (p.1, p.2 + 1) e
        omega
theorem nP_bd {cl : Nat → Bool} {a p : Nat × Nat} (h1 : p.1 < 8) (h2 : p.2 < 8) : nP cl a p ≤ 16384 := by
  have h := plG_bd cl (dsP a p) a p
  have : dsP a p ≤ 14 := by unfold dsP; omega
  exact Nat.le_trans h (Nat.le_trans (Nat.pow_le_pow_right (by omega) this) (by decide))
end Go.Proofs.YtapchcamjeafmaaDoor
