/-
  Permutations as a group: plain facts on lists of numbers.
-/
import Derived.Test.YtnjbkiegeielhabGFrc
import Derived.Test.YtnjbkiegeielhabGPro
namespace Go.Proofs.Ytnjbkiegeielhab

theorem perm_tab {n : Nat} {f : Nat → Int} (h40 : n ≤ 40) (hb : ∀ i, i < n → 1 ≤ f i ∧ f i ≤ n) (hi : ∀ i j, i < n → j < n → f i = f j → i = j) : IsPerm (tab n f) := by
  refine ⟨by rw [tab_length]; exact h40, ?_, ?_, ?_⟩
  · intro z hz; obtain ⟨j, hj, rfl⟩ := tab_mem hz; exact (hb j hj).1
  · intro z hz; obtain ⟨j, hj, rfl⟩ := tab_mem hz; rw [tab_length]; exact (hb j hj).2
  · rw [List.Nodup, List.pairwise_iff_getElem]
    intro i j hi' hj' hij e
    rw [tab_length] at hi' hj'
    have := hi i j hi' hj' (by simpa [tab] using e)
    omega

theorem timesL_length (xs ys : List Int) : (timesL xs ys).length = ys.length := tab_length _ _
theorem timesL_getD {xs ys : List Int} {i : Nat} (h : i < ys.length) : (timesL xs ys).getD i 0 = xs.getD ((ys.getD i 0).toNat - 1) 0 := by
  unfold timesL; rw [tab_getD _ _ _ h]; rfl
theorem timesL_perm {xs ys : List Int} (hx : IsPerm xs) (hy : IsPerm ys) (hl : xs.length = ys.length) : IsPerm (timesL xs ys) := by
  unfold timesL
  refine perm_tab hy.len ?_ ?_
  · intro i hi
    have b := hy.bounds hi
    have := hx.bounds (j := (ys.getD i 0).toNat - 1) (by omega)
    unfold timesF; omega
  · intro i j hi hj e
    have b1 := hy.bounds hi
    have b2 := hy.bounds hj
    have := hx.inj (i := (ys.getD i 0).toNat - 1) (j := (ys.getD j 0).toNat - 1) (by omega) (by omega) e
    exact hy.inj hi hj (by omega)
theorem times_assoc {p q r : List Int} (hr : IsPerm r) (hqr : q.length = r.length) : timesL (timesL p q) r = timesL p (timesL q r) := by
  apply ext_getD
  · rw [timesL_length, timesL_length, timesL_length]
  · intro i hi
    rw [timesL_length] at hi
    have b := hr.bounds hi
    rw [timesL_getD hi, timesL_getD (by omega), timesL_getD (by rw [timesL_length]; exact hi), timesL_getD hi]

theorem Inv.uniq {a x y : List Int} (ha : IsPerm a) (hx : Inv a x) (hy : Inv a y) : x = y := by
  apply ext_getD (by rw [hx.1, hy.1])
  intro t ht
  rw [hx.1] at ht
  obtain ⟨j, hj, hje⟩ := ha.place ht
  have h1 := hx.2 j hj
  have h2 := hy.2 j hj
  rw [hje, show ((t : Int) + 1).toNat - 1 = t by omega] at h1 h2
  rw [h1, h2]
theorem inv_times {p q : List Int} (hp : IsPerm p) (hq : IsPerm q) (hl : p.length = q.length) : invL (timesL p q) = timesL (invL q) (invL p) := by
  have hpq := timesL_perm hp hq hl
  refine Inv.uniq hpq (invL_inv hpq) ⟨by rw [timesL_length, invL_length, timesL_length, hl], ?_⟩
  intro j hj
  rw [timesL_length] at hj
  have b := hq.bounds hj
  have b2 := hp.bounds (j := (q.getD j 0).toNat - 1) (by omega)
  rw [timesL_getD hj]
  rw [timesL_getD (by rw [invL_length]; omega), (invL_inv hp).2 _ (by omega)]
  rw [show ((((q.getD j 0).toNat - 1 : Nat) : Int) + 1).toNat - 1 = (q.getD j 0).toNat - 1 by omega]
  exact (invL_inv hq).2 j hj

/-- Pairs that stand the wrong way round, as a sum over places. -/
theorem wrongs_S (l : List Int) : ∀ n, n ≤ l.length → wrongs (l.take n) = S n (fun j => S j (fun i => ind (l.getD j 0 < l.getD i 0))) := by
  intro n
  induction n with
  | zero => intro _; simp [wrongs, S]
  | succ n ih =>
    intro h
    rw [take_snoc l n (by omega), wrongs_snoc, ih (by omega), S]
    congr 1
    unfold above
    rw [count_S l _ n (by omega)]
    exact S_congr (fun i _ => ind_iff (by simp only [decide_eq_true_eq]))
theorem S_ind_lt (n j : Nat) (h : j ≤ n) (f : Nat → Prop) [DecidablePred f] : S j (fun i => ind (f i)) = S n (fun i => ind (i < j ∧ f i)) := by
  rw [S_cut (n := n) (k := j) h (fun i h1 _ => ind_neg (by omega))]
  exact S_congr (fun i hi => ind_iff ⟨fun h => ⟨hi, h⟩, fun h => h.2⟩)
theorem wrongs_SS (l : List Int) : wrongs l = S l.length (fun j => S l.length (fun i => ind (i < j ∧ l.getD j 0 < l.getD i 0))) := by
  have := wrongs_S l l.length (Nat.le_refl _)
  rw [List.take_length] at this
  rw [this]
  exact S_congr (fun j hj => S_ind_lt l.length j (by omega) (fun i => l.getD j 0 < l.getD i 0))

theorem S_single {n k : Nat} (hk : k < n) (F : Nat → Nat) : S n (fun t => if k = t then F t else 0) = F k := by
  induction n with
  | zero => omega
  | succ n ih =>
    rw [S]
    by_cases e : k = n
    · subst e
      rw [if_pos rfl, S_congr (g := fun _ => 0) (fun t ht => if_neg (by omega)), S_zero]; omega
    · rw [if_neg e, ih (by omega)]; rfl
/-- A sum over the places is one over the numbers. -/
theorem S_reindex {p : List Int} (hp : IsPerm p) (F : Nat → Nat) : S p.length (fun a => F ((p.getD a 0).toNat - 1)) = S p.length F := by
  have e1 : S p.length (fun a => F ((p.getD a 0).toNat - 1)) = S p.length (fun a => S p.length (fun t => if (p.getD a 0).toNat - 1 = t then F t else 0)) :=
    S_congr (fun a ha => by have b := hp.bounds ha; rw [S_single (k := (p.getD a 0).toNat - 1) (by omega) F])
  rw [e1, S_swap]
  apply S_congr
  intro t ht
  obtain ⟨j, hj, hje⟩ := hp.place ht
  have e2 : ∀ a, a < p.length → (if (p.getD a 0).toNat - 1 = t then F t else 0) = if j = a then F t else 0 := by
    intro a ha
    have b := hp.bounds ha
    by_cases h : j = a
    · subst h; rw [if_pos rfl, if_pos (by omega)]
    · rw [if_neg h, if_neg (fun h2 => h (hp.inj hj ha (by omega)))]
  rw [S_congr e2, S_single hj (fun _ => F t)]

theorem wrongs_inv {p : List Int} (hp : IsPerm p) : wrongs (invL p) = wrongs p := by
  have hI := invL_inv hp
  rw [wrongs_SS, wrongs_SS p, invL_length]
  -- places of the inverse, by the numbers of p
  rw [← S_reindex hp (fun t => S p.length (fun s => ind (s < t ∧ (invL p).getD t 0 < (invL p).getD s 0)))]
  have e1 : ∀ a, a < p.length → S p.length (fun s => ind (s < (p.getD a 0).toNat - 1 ∧ (invL p).getD ((p.getD a 0).toNat - 1) 0 < (invL p).getD s 0)) = S p.length (fun b => ind (a < b ∧ p.getD b 0 < p.getD a 0)) := by
    intro a ha
    rw [← S_reindex hp (fun s => ind (s < (p.getD a 0).toNat - 1 ∧ (invL p).getD ((p.getD a 0).toNat - 1) 0 < (invL p).getD s 0))]
    apply S_congr
    intro b hb
    have h1 := hI.2 a ha
    have h2 := hI.2 b hb
    have b1 := hp.bounds ha
    have b2 := hp.bounds hb
    rw [h1, h2]
    exact ind_iff ⟨fun h => ⟨by omega, by omega⟩, fun h => ⟨by omega, by omega⟩⟩
  rw [S_congr e1, S_swap]

theorem sum_code (zs : List Int) : sum (codeL zs) = (wrongs zs : Nat) := by
  rw [← codeN_codeL]
  induction zs with
  | nil => rfl
  | cons y zs ih =>
    show ((zs.countP (fun z => decide (z < y)) : Nat) : Int) + sum (codeN zs) = _
    rw [ih]; rfl

end Go.Proofs.Ytnjbkiegeielhab
