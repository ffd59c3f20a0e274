/-
  Words of neighbours and codes: plain facts on lists of numbers.
-/
import Derived.Test.YtnjbkiegeielhabGWrd
import Derived.Test.YtnjbkiegeielhabBMath
import Derived.Test.YtnjbkiegeielhabPMea
namespace Go.Proofs.Ytnjbkiegeielhab

theorem split_at {zs : List Int} {k : Nat} (h : k + 1 < zs.length) : zs = zs.take k ++ zs.getD k 0 :: zs.getD (k + 1) 0 :: zs.drop (k + 2) := by
  rw [← drop_cons zs (k + 1) h, ← drop_cons zs k (by omega), List.take_append_drop]
theorem swap_split (p s : List Int) (x y : Int) : swapAt p.length (p ++ x :: y :: s) = p ++ y :: x :: s := by
  have e1 : (p ++ x :: y :: s).getD p.length 0 = x := by simp [List.getD]
  have e2 : (p ++ x :: y :: s).getD (p.length + 1) 0 = y := by
    rw [List.getD_eq_getElem?_getD, List.getElem?_append_right (by omega)]; simp
  unfold swapAt
  rw [e1, e2]
  rw [List.set_append_right _ _ (Nat.le_refl _)]
  simp only [Nat.sub_self, List.set_cons_zero]
  rw [List.set_append_right _ _ (by omega)]
  simp
theorem swapAt_eq {zs : List Int} {k : Nat} (h : k + 1 < zs.length) : swapAt k zs = zs.take k ++ zs.getD (k + 1) 0 :: zs.getD k 0 :: zs.drop (k + 2) := by
  have hl : (zs.take k).length = k := by simp; omega
  have e1 := split_at h
  have := swap_split (zs.take k) (zs.drop (k + 2)) (zs.getD k 0) (zs.getD (k + 1) 0)
  rw [hl, ← e1] at this
  exact this
theorem swapAt_swapAt {zs : List Int} {k : Nat} (h : k + 1 < zs.length) : swapAt k (swapAt k zs) = zs := by
  have hl : (zs.take k).length = k := by simp; omega
  have := swap_split (zs.take k) (zs.drop (k + 2)) (zs.getD (k + 1) 0) (zs.getD k 0)
  rw [hl, ← swapAt_eq h] at this
  rw [this]; exact (split_at h).symm
theorem wrongs_swapAt {zs : List Int} {k : Nat} (h : k + 1 < zs.length) (hd : zs.getD (k + 1) 0 < zs.getD k 0) : wrongs (swapAt k zs) + 1 = wrongs zs := by
  have e2 : wrongs zs = wrongs (zs.take k ++ zs.getD k 0 :: zs.getD (k + 1) 0 :: zs.drop (k + 2)) := by rw [← split_at h]
  rw [swapAt_eq h, e2]
  generalize zs.take k = p
  generalize zs.drop (k + 2) = s
  generalize zs.getD k 0 = x at *
  generalize zs.getD (k + 1) 0 = y at *
  have e1 : p ++ y :: x :: s = p ++ ([y] ++ ([x] ++ s)) := by simp
  have e2 : p ++ x :: y :: s = p ++ ([x] ++ ([y] ++ s)) := by simp
  have c3 : cross [y] [x] = 0 := by rw [cross_one]; simp [above, List.countP_cons]; omega
  have c4 : cross [x] [y] = 1 := by rw [cross_one]; simp [above, List.countP_cons]; omega
  have c5 : ∀ z : Int, wrongs [z] = 0 := fun _ => rfl
  rw [e1, e2]
  simp only [wrongs_app, cross_app, c3, c4, c5]
  omega

theorem swapAt_mem {zs : List Int} {k : Nat} (h : k + 1 < zs.length) (z : Int) : z ∈ swapAt k zs ↔ z ∈ zs := by
  rw [swapAt_eq h]
  conv => rhs; rw [split_at h]
  simp only [List.mem_append, List.mem_cons]
  constructor
  · rintro (h | h | h | h)
    · exact Or.inl h
    · exact Or.inr (Or.inr (Or.inl h))
    · exact Or.inr (Or.inl h)
    · exact Or.inr (Or.inr (Or.inr h))
  · rintro (h | h | h | h)
    · exact Or.inl h
    · exact Or.inr (Or.inr (Or.inl h))
    · exact Or.inr (Or.inl h)
    · exact Or.inr (Or.inr (Or.inr h))
theorem swapAt_perm {zs : List Int} (hp : IsPerm zs) {k : Nat} (h : k + 1 < zs.length) : IsPerm (swapAt k zs) := by
  refine ⟨by rw [swapAt_len]; exact hp.len, fun z hz => hp.low z ((swapAt_mem h z).1 hz), fun z hz => by rw [swapAt_len]; exact hp.high z ((swapAt_mem h z).1 hz), ?_⟩
  have hn := hp.once
  rw [split_at h] at hn
  rw [swapAt_eq h]
  rw [List.nodup_append] at hn ⊢
  obtain ⟨n1, n2, n3⟩ := hn
  rw [List.nodup_cons, List.nodup_cons] at n2 ⊢
  obtain ⟨m1, m2, m3⟩ := n2
  refine ⟨n1, ⟨?_, ?_, m3⟩, ?_⟩
  · intro hm
    rcases List.mem_cons.1 hm with e | e
    · exact m1 (by rw [e]; simp)
    · exact m2 e
  · intro hm; exact m1 (List.mem_cons_of_mem _ hm)
  · intro a ha b hb e
    refine n3 a ha b ?_ e
    simp only [List.mem_cons] at hb ⊢
    rcases hb with h | h | h
    · exact Or.inr (Or.inl h)
    · exact Or.inl h
    · exact Or.inr (Or.inr h)

/-- The word's neighbours change places, the last one first. -/
def play (ws : List Int) (r : List Int) : List Int := ws.foldr (fun i q => swapAt (i.toNat - 1) q) r
theorem play_snoc (ws : List Int) (i : Int) (r : List Int) : play (ws ++ [i]) r = play ws (swapAt (i.toNat - 1) r) := by simp [play]
theorem play_drop (ws : List Int) (r : List Int) (k : Nat) (h : k < ws.length) : play (ws.drop k) r = swapAt ((ws.getD k 0).toNat - 1) (play (ws.drop (k + 1)) r) := by
  rw [drop_cons ws k h]; rfl
theorem play_length (ws : List Int) (r : List Int) : (play ws r).length = r.length := by
  induction ws with
  | nil => rfl
  | cons i ws ih => show (swapAt _ (play ws r)).length = _; rw [swapAt_len, ih]

/-- A permutation without a descent is in order. -/
theorem sorted_order {zs : List Int} (hp : IsPerm zs) (h : ∀ i, 1 ≤ i → i < zs.length → zs.getD (i - 1) 0 ≤ zs.getD i 0) : zs = orderL zs.length := by
  have hstep : ∀ i, i + 1 < zs.length → zs.getD i 0 + 1 ≤ zs.getD (i + 1) 0 := by
    intro i hi
    have h1 := h (i + 1) (by omega) hi
    rw [show i + 1 - 1 = i by omega] at h1
    rcases Int.lt_or_eq_of_le h1 with h2 | h2
    · omega
    · have := hp.inj (i := i) (j := i + 1) (by omega) hi h2; omega
  have hlow : ∀ i, i < zs.length → (i : Int) + 1 ≤ zs.getD i 0 := by
    intro i
    induction i with
    | zero => intro hi; have := hp.bounds hi; omega
    | succ i ih => intro hi; have := ih (by omega); have := hstep i hi; omega
  have hup : ∀ d i, i + d + 1 = zs.length → zs.getD i 0 + d ≤ zs.length := by
    intro d
    induction d with
    | zero => intro i hi; have := hp.bounds (j := i) (by omega); omega
    | succ d ih => intro i hi; have := ih (i + 1) (by omega); have := hstep i (by omega); omega
  apply ext_getD
  · unfold orderL; rw [tab_length]
  · intro j hj
    have h1 := hlow j hj
    have h2 := hup (zs.length - j - 1) j (by omega)
    unfold orderL
    rw [tab_getD _ _ _ hj]; omega

/-- What Word answers. -/
def WrdR (zs ws : List Int) : Prop := play ws (orderL zs.length) = zs ∧ ws.length = wrongs zs ∧ ∀ i ∈ ws, 1 ≤ i ∧ i < zs.length

/-- The permutation of a code, out of the numbers that are left. -/
def fromC : List Int → List Int → Option (List Int)
  | _, [] => some []
  | left, c :: cs => if 0 ≤ c ∧ c < left.length then (fromC (left.take c.toNat ++ left.drop (c.toNat + 1)) cs).map (fun r => left.getD c.toNat 0 :: r) else none

theorem rising_split {left : List Int} (h : left.Pairwise (· < ·)) {c : Nat} (hc : c < left.length) :
    left = left.take c ++ left.getD c 0 :: left.drop (c + 1) ∧ (∀ z ∈ left.take c, z < left.getD c 0) ∧ (∀ z ∈ left.drop (c + 1), left.getD c 0 < z) ∧ (left.take c ++ left.drop (c + 1)).Pairwise (· < ·) := by
  have e : left = left.take c ++ left.getD c 0 :: left.drop (c + 1) := by rw [← drop_cons left c hc, List.take_append_drop]
  have h' := h
  rw [e] at h'
  rw [List.pairwise_append, List.pairwise_cons] at h'
  obtain ⟨p1, ⟨p2, p3⟩, p4⟩ := h'
  refine ⟨e, fun z hz => p4 z hz _ (by simp), p2, ?_⟩
  rw [List.pairwise_append]
  exact ⟨p1, p3, fun a ha b hb => p4 a ha b (List.mem_cons_of_mem _ hb)⟩

/-- The code of a list. -/
def codeN : List Int → List Int
  | [] => []
  | y :: ys => ((ys.countP (fun z => decide (z < y)) : Nat) : Int) :: codeN ys

theorem codeN_codeL (zs : List Int) : codeN zs = codeL zs := by
  have key : ∀ zs : List Int, (codeN zs).length = zs.length ∧ ∀ j, j < zs.length → (codeN zs).getD j 0 = (less zs j : Nat) := by
    intro zs
    induction zs with
    | nil => exact ⟨rfl, fun j hj => by simp at hj⟩
    | cons y ys ih =>
      refine ⟨by simp [codeN, ih.1], fun j hj => ?_⟩
      cases j with
      | zero => simp [codeN, less]
      | succ j => show (codeN ys).getD j 0 = _; rw [ih.2 j (by simpa using hj)]; rfl
  apply ext_getD
  · rw [(key zs).1, codeL_length]
  · intro j hj
    rw [(key zs).1] at hj
    rw [(key zs).2 j hj]
    unfold codeL; rw [tab_getD _ _ _ hj]

/-- What comes out has the code, and is made of what was left. -/
theorem fromC_ok : ∀ (cs left p : List Int), left.Pairwise (· < ·) → cs.length = left.length → fromC left cs = some p → p.Perm left ∧ codeN p = cs := by
  intro cs
  induction cs with
  | nil =>
    intro left p _ hl h
    have : left = [] := List.eq_nil_of_length_eq_zero (by simpa using hl.symm)
    subst this
    simp only [fromC, Option.some.injEq] at h
    subst h
    exact ⟨List.Perm.refl _, rfl⟩
  | cons c cs ih =>
    intro left p hs hl h
    rw [fromC] at h
    split at h
    · rename_i hc
      have hcn : c.toNat < left.length := by omega
      obtain ⟨e, h1, h2, h3⟩ := rising_split hs hcn
      cases hr : fromC (left.take c.toNat ++ left.drop (c.toNat + 1)) cs with
      | none => rw [hr] at h; simp at h
      | some r =>
        rw [hr] at h
        simp only [Option.map_some, Option.some.injEq] at h
        subst h
        obtain ⟨i1, i2⟩ := ih _ r h3 (by simp at hl ⊢; omega) hr
        refine ⟨?_, ?_⟩
        · rw [e]
          have e2 : (left.take c.toNat ++ left.getD c.toNat 0 :: left.drop (c.toNat + 1)).Perm (left.getD c.toNat 0 :: (left.take c.toNat ++ left.drop (c.toNat + 1))) := List.perm_middle
          refine List.Perm.trans ?_ e2.symm
          have e3 : (left.take c.toNat ++ left.getD c.toNat 0 :: left.drop (c.toNat + 1)).getD c.toNat 0 = left.getD c.toNat 0 := by rw [← e]
          rw [e3]
          exact List.Perm.cons _ i1
        · show ((r.countP (fun z => decide (z < left.getD c.toNat 0)) : Nat) : Int) :: codeN r = c :: cs
          rw [i2, i1.countP_eq, List.countP_append]
          have a1 : (left.take c.toNat).countP (fun z => decide (z < left.getD c.toNat 0)) = c.toNat := by
            rw [List.countP_eq_length.2 (fun z hz => by have := h1 z hz; simpa using this)]; simp; omega
          have a2 : (left.drop (c.toNat + 1)).countP (fun z => decide (z < left.getD c.toNat 0)) = 0 := by
            rw [List.countP_eq_zero]; intro z hz; have := h2 z hz; rw [decide_eq_true_eq]; omega
          rw [a1, a2]
          congr 1; omega
    · cases h

/-- There and back. -/
theorem fromC_code : ∀ (p left : List Int), left.Pairwise (· < ·) → p.Perm left → fromC left (codeN p) = some p := by
  intro p
  induction p with
  | nil => intro left _ _; rfl
  | cons y ys ih =>
    intro left hs hp
    have hy : y ∈ left := hp.subset (by simp)
    obtain ⟨j, hj, hje⟩ := List.mem_iff_getElem.1 hy
    have hjd : left.getD j 0 = y := by rw [List.getD_eq_getElem?_getD, List.getElem?_eq_getElem hj, hje]; rfl
    obtain ⟨e, h1, h2, h3⟩ := rising_split hs hj
    rw [hjd] at e h1 h2
    have hperm : ys.Perm (left.take j ++ left.drop (j + 1)) := by
      have e2 : left.Perm (y :: (left.take j ++ left.drop (j + 1))) := by
        have := List.perm_middle (a := y) (l₁ := left.take j) (l₂ := left.drop (j + 1))
        rw [← e] at this; exact this
      exact (hp.trans e2).cons_inv
    have hc : ys.countP (fun z => decide (z < y)) = j := by
      rw [hperm.countP_eq, List.countP_append]
      have a1 : (left.take j).countP (fun z => decide (z < y)) = j := by
        rw [List.countP_eq_length.2 (fun z hz => by have := h1 z hz; simpa using this)]; simp; omega
      have a2 : (left.drop (j + 1)).countP (fun z => decide (z < y)) = 0 := by
        rw [List.countP_eq_zero]; intro z hz; have := h2 z hz; simp; omega
      rw [a1, a2]; rfl
    rw [codeN, hc, fromC, if_pos ⟨by omega, by omega⟩, Int.toNat_natCast, ih _ h3 hperm, hjd]; rfl

theorem order_rising (n : Nat) : (orderL n).Pairwise (· < ·) := by
  unfold orderL tab
  rw [List.pairwise_map]
  have := List.pairwise_lt_range (n := n)
  exact this.imp (fun h => by omega)

theorem perm_order {zs : List Int} (hp : IsPerm zs) : zs.Perm (orderL zs.length) := by
  rw [List.perm_iff_count]
  intro a
  have c1 : ∀ l : List Int, l.count a = l.countP (fun z => decide (z = a)) := fun l => by
    unfold List.count; apply List.countP_congr; intro z _; simp
  rw [c1, c1]
  have hn : (orderL zs.length).Nodup := by
    have := order_rising zs.length
    exact this.imp (fun h => by omega)
  have hm : a ∈ zs ↔ a ∈ orderL zs.length := by
    constructor
    · intro h
      have h1 := hp.low a h; have h2 := hp.high a h
      unfold orderL tab
      exact List.mem_map.2 ⟨(a - 1).toNat, List.mem_range.2 (by omega), by omega⟩
    · intro h
      obtain ⟨j, hj, rfl⟩ := tab_mem h
      exact hp.all (by omega) (by omega)
  have h1 := nodup_count hp.once a
  have h2 := nodup_count hn a
  by_cases h : a ∈ zs
  · have p1 : 0 < zs.countP (fun z => decide (z = a)) := List.countP_pos_iff.2 ⟨a, h, by simp⟩
    have p2 : 0 < (orderL zs.length).countP (fun z => decide (z = a)) := List.countP_pos_iff.2 ⟨a, hm.1 h, by simp⟩
    omega
  · have p1 : zs.countP (fun z => decide (z = a)) = 0 := by rw [List.countP_eq_zero]; intro z hz; simp; intro e; subst e; exact h hz
    have p2 : (orderL zs.length).countP (fun z => decide (z = a)) = 0 := by rw [List.countP_eq_zero]; intro z hz; simp; intro e; subst e; exact h (hm.2 hz)
    omega
theorem order_perm {zs : List Int} {n : Nat} (h40 : n ≤ 40) (h : zs.Perm (orderL n)) : zs.length = n ∧ IsPerm zs := by
  have hl : zs.length = n := by rw [h.length_eq]; exact tab_length _ _
  have hm : ∀ z ∈ zs, 1 ≤ z ∧ z ≤ n := fun z hz => by
    obtain ⟨j, hj, rfl⟩ := tab_mem (h.subset hz)
    omega
  refine ⟨hl, by omega, fun z hz => (hm z hz).1, fun z hz => by rw [hl]; exact (hm z hz).2, ?_⟩
  have hn : (orderL n).Nodup := (order_rising n).imp (fun h => by omega)
  exact h.nodup_iff.2 hn

end Go.Proofs.Ytnjbkiegeielhab
