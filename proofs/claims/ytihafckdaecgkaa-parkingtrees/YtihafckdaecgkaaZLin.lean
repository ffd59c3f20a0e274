/-
  The line of vertices of a list of cars; trees there and back (plain).
-/
import Derived.Test.YtihafckdaecgkaaZPrv
namespace Go.Proofs.Ytihafckdaecgkaa

/-- The cars among the first i that like place p. -/
def addc (D : Nat → Int) (p : Int) (i : Nat) : List Int := ((List.range i).filter (fun t => decide (D t = p))).map fun (t : Nat) => (t : Int) + 1
/-- The line behind k places. -/
def lin (D : Nat → Int) (n : Nat) : Nat → List Int
  | 0 => [0]
  | k + 1 => lin D n k ++ addc D ((k : Int) + 1) n
/-- The edges made behind k places. -/
def trl (D : Nat → Int) (n : Nat) : Nat → List (Int × Int)
  | 0 => []
  | k + 1 => trl D n k ++ (addc D ((k : Int) + 1) n).map fun v => nrm ((lin D n k).getD k 0, v)
theorem addc_zero (D : Nat → Int) (p : Int) : addc D p 0 = [] := rfl
theorem addc_succ (D : Nat → Int) (p : Int) (i : Nat) : addc D p (i + 1) = addc D p i ++ if D i = p then [(i : Int) + 1] else [] := by
  unfold addc
  rw [List.range_succ, List.filter_append, List.map_append]
  congr 1
  by_cases h : D i = p <;> simp [h]
theorem mem_addc {D : Nat → Int} {p : Int} {i : Nat} {v : Int} : v ∈ addc D p i ↔ ∃ t, t < i ∧ D t = p ∧ v = (t : Int) + 1 := by
  unfold addc
  simp only [List.mem_map, List.mem_filter, List.mem_range, decide_eq_true_eq]
  constructor
  · rintro ⟨t, ⟨h1, h2⟩, rfl⟩; exact ⟨t, h1, h2, rfl⟩
  · rintro ⟨t, h1, h2, rfl⟩; exact ⟨t, ⟨h1, h2⟩, rfl⟩
theorem addc_nodup (D : Nat → Int) (p : Int) (i : Nat) : (addc D p i).Nodup := by
  unfold addc
  rw [List.Nodup, List.pairwise_map]
  exact List.Pairwise.imp (fun h => by omega) ((List.nodup_range).filter _)
theorem addc_congr {D F : Nat → Int} {p q : Int} {i : Nat} (h : ∀ t, t < i → (D t = p ↔ F t = q)) : addc D p i = addc F q i := by
  unfold addc
  congr 1
  refine List.filter_congr (fun t ht => ?_)
  have := h t (List.mem_range.1 ht)
  by_cases c : D t = p
  · rw [decide_eq_true c, decide_eq_true (this.1 c)]
  · rw [decide_eq_false c, decide_eq_false (fun e => c (this.2 e))]
theorem mem_lin {D : Nat → Int} {n : Nat} {v : Int} : ∀ {k : Nat}, v ∈ lin D n k ↔ v = 0 ∨ ∃ t, t < n ∧ 1 ≤ D t ∧ D t ≤ (k : Int) ∧ v = (t : Int) + 1
  | 0 => by
    rw [lin, List.mem_singleton]
    constructor
    · intro h; exact Or.inl h
    · rintro (h | ⟨t, _, h1, h2, _⟩)
      · exact h
      · omega
  | k + 1 => by
    rw [lin, List.mem_append, mem_lin, mem_addc]
    constructor
    · rintro ((h | ⟨t, h1, h2, h3, h4⟩) | ⟨t, h1, h2, h3⟩)
      · exact Or.inl h
      · exact Or.inr ⟨t, h1, h2, by omega, h4⟩
      · exact Or.inr ⟨t, h1, by omega, by omega, h3⟩
    · rintro (h | ⟨t, h1, h2, h3, h4⟩)
      · exact Or.inl (Or.inl h)
      · by_cases c : D t ≤ (k : Int)
        · exact Or.inl (Or.inr ⟨t, h1, h2, c, h4⟩)
        · exact Or.inr ⟨t, h1, by omega, h4⟩
theorem lin_congr {D F : Nat → Int} {n : Nat} : ∀ {k : Nat}, (∀ t, t < n → ∀ j : Nat, j < k → (D t = (j : Int) + 1 ↔ F t = (j : Int) + 1)) → lin D n k = lin F n k
  | 0, _ => rfl
  | k + 1, h => by
    rw [lin, lin, lin_congr (fun t ht j hj => h t ht j (by omega)), addc_congr (fun t ht => h t ht k (by omega))]
theorem lin_nodup (D : Nat → Int) (n : Nat) : ∀ k, (lin D n k).Nodup
  | 0 => by simp [lin]
  | k + 1 => by
    rw [lin, List.nodup_append]
    refine ⟨lin_nodup D n k, addc_nodup _ _ _, fun a ha b hb e => ?_⟩
    subst e
    obtain ⟨t, h1, h2, h3⟩ := mem_addc.1 hb
    rcases mem_lin.1 ha with h | ⟨s, g1, g2, g3, g4⟩
    · omega
    · obtain rfl : s = t := by omega
      omega
theorem lin_pre (D : Nat → Int) (n : Nat) {j k : Nat} (h : j ≤ k) : ∃ A, lin D n k = lin D n j ++ A := by
  induction k with
  | zero => obtain rfl : j = 0 := by omega
            exact ⟨[], by simp⟩
  | succ k ih =>
    by_cases c : j = k + 1
    · subst c; exact ⟨[], by simp⟩
    · obtain ⟨A, hA⟩ := ih (by omega)
      exact ⟨A ++ addc D ((k : Int) + 1) n, by rw [lin, hA, List.append_assoc]⟩
theorem lin_get (D : Nat → Int) (n : Nat) {j k q : Nat} (h : j ≤ k) (hq : q < (lin D n j).length) : (lin D n k).getD q 0 = (lin D n j).getD q 0 := by
  obtain ⟨A, hA⟩ := lin_pre D n h
  rw [hA, List.getD_eq_getElem?_getD, List.getElem?_append_left hq, List.getD_eq_getElem?_getD]
/-- The line is long enough. -/
def Long (D : Nat → Int) (n : Nat) : Prop := ∀ k, k ≤ n → k < (lin D n k).length

/-- A tree without an edge twice. -/
def Trn (V : List Int) (T : List (Int × Int)) : Prop := Tr V T ∧ T.Nodup
theorem Trn.add {V : List Int} {T : List (Int × Int)} {o v : Int} (h : Trn V T) (ho : o ∈ V) (hv : v ∉ V) : Trn (V ++ [v]) (T ++ [nrm (o, v)]) := by
  have hj : Jn (nrm (o, v)) v o := by have := jn_nrm o v; unfold Jn at *; omega
  have h1 := h.1.add hv ho hj
  refine ⟨(h1.perm (M := T ++ [nrm (o, v)]) (List.perm_append_singleton _ _).symm).permV (List.perm_append_singleton _ _).symm, ?_⟩
  rw [List.nodup_append]
  refine ⟨h.2, by simp, fun a ha b hb e => ?_⟩
  subst e
  rw [List.mem_singleton] at hb
  subst hb
  have := h.1.2.2.1 _ ha
  rcases hj.ends with c | c
  · exact hv (c ▸ this.1)
  · exact hv (c ▸ this.2)
theorem Trn.adds {o : Int} : ∀ {A V : List Int} {T : List (Int × Int)}, Trn V T → o ∈ V → A.Nodup → (∀ v ∈ A, v ∉ V) → Trn (V ++ A) (T ++ A.map fun v => nrm (o, v))
  | [], V, T, h, _, _, _ => by simpa using h
  | v :: A, V, T, h, ho, hA, hn => by
    have hA' := List.nodup_cons.1 hA
    have := Trn.adds (o := o) (A := A) (V := V ++ [v]) (T := T ++ [nrm (o, v)]) (h.add ho (hn v (by simp))) (List.mem_append_left _ ho) hA'.2 (fun u hu c => by
      rcases List.mem_append.1 c with c | c
      · exact hn u (List.mem_cons_of_mem _ hu) c
      · rw [List.mem_singleton.1 c] at hu; exact hA'.1 hu)
    rw [List.append_assoc, List.append_assoc] at this
    exact this
theorem getD_memZ {l : List Int} {k : Nat} (h : k < l.length) : l.getD k 0 ∈ l := by simp [List.getD, h]
theorem trl_tree {D : Nat → Int} {n : Nat} (hL : Long D n) : ∀ {k : Nat}, k ≤ n → Trn (lin D n k) (trl D n k)
  | 0, _ => ⟨⟨by simp [lin], rfl, by simp [trl], fun f _ a ha b hb => by rw [lin, List.mem_singleton] at ha hb; rw [ha, hb]⟩, by simp [trl]⟩
  | k + 1, hk => by
    rw [lin, trl]
    refine (trl_tree hL (by omega)).adds (getD_memZ (hL k (by omega))) (addc_nodup _ _ _) (fun v hv c => ?_)
    obtain ⟨t, h1, h2, h3⟩ := mem_addc.1 hv
    rcases mem_lin.1 c with h | ⟨s, g1, g2, g3, g4⟩
    · omega
    · obtain rfl : s = t := by omega
      omega
theorem mem_trl {D : Nat → Int} {n : Nat} (hL : Long D n) {e : Int × Int} : ∀ {k : Nat}, k ≤ n → (e ∈ trl D n k ↔ ∃ t j : Nat, t < n ∧ j < k ∧ D t = (j : Int) + 1 ∧ e = nrm ((lin D n n).getD j 0, (t : Int) + 1))
  | 0, _ => by simp [trl]
  | k + 1, hk => by
    rw [trl, List.mem_append, mem_trl hL (by omega), List.mem_map]
    constructor
    · rintro (⟨t, j, h1, h2, h3, h4⟩ | ⟨v, hv, rfl⟩)
      · exact ⟨t, j, h1, by omega, h3, h4⟩
      · obtain ⟨t, h1, h2, rfl⟩ := mem_addc.1 hv
        exact ⟨t, k, h1, by omega, h2, by rw [lin_get D n (show k ≤ n by omega) (hL k (by omega))]⟩
    · rintro ⟨t, j, h1, h2, h3, h4⟩
      by_cases c : j < k
      · exact Or.inl ⟨t, j, h1, c, h3, h4⟩
      · obtain rfl : j = k := by omega
        exact Or.inr ⟨(t : Int) + 1, mem_addc.2 ⟨t, h1, h3, rfl⟩, by rw [h4, lin_get D n (show j ≤ n by omega) (hL j (by omega))]⟩
theorem nodup_len : ∀ {V S : List Int}, V.Nodup → (∀ v ∈ V, v ∈ S) → V.length ≤ S.length
  | [], _, _, _ => Nat.zero_le _
  | v :: V, S, hV, h => by
    have hV' := List.nodup_cons.1 hV
    have hv := h v (by simp)
    have := nodup_len (S := S.erase v) hV'.2 (fun u hu => (List.mem_erase_of_ne (fun (e : u = v) => hV'.1 (e ▸ hu))).2 (h u (List.mem_cons_of_mem _ hu)))
    have := List.length_pos_of_mem hv
    rw [List.length_erase_of_mem hv] at *
    simp only [List.length_cons]; omega
theorem nodup_perm : ∀ {T M : List (Int × Int)}, T.Nodup → (∀ v ∈ T, v ∈ M) → T.length = M.length → T.Perm M
  | [], M, _, _, hl => by rw [List.eq_nil_of_length_eq_zero hl.symm]
  | v :: T, M, hT, h, hl => by
    have hT' := List.nodup_cons.1 hT
    have hv := h v (by simp)
    have := nodup_perm (M := M.erase v) hT'.2 (fun u hu => (List.mem_erase_of_ne (fun (e : u = v) => hT'.1 (e ▸ hu))).2 (h u (List.mem_cons_of_mem _ hu))) (by rw [List.length_erase_of_mem hv]; simp at hl; omega)
    exact (this.cons v).trans (List.perm_cons_erase hv).symm
theorem lin_all {D : Nat → Int} {n : Nat} (hL : Long D n) : ∀ t, t < n → 1 ≤ D t ∧ D t ≤ (n : Int) := by
  intro t ht
  refine Classical.byContradiction (fun c => ?_)
  have h1 : (lin D n n).length ≤ ((rgV 0 (n + 1)).erase ((t : Int) + 1)).length := nodup_len (lin_nodup D n n) (fun v hv => by
    refine ((rgV_nodup 0 (n + 1)).mem_erase_iff).2 ?_
    rcases mem_lin.1 hv with h | ⟨s, g1, g2, g3, g4⟩
    · exact ⟨by omega, mem_rgV.2 (by omega)⟩
    · refine ⟨fun e => ?_, mem_rgV.2 (by omega)⟩
      obtain rfl : s = t := by omega
      exact c ⟨g2, g3⟩)
  rw [List.length_erase_of_mem (mem_rgV.2 (by omega)), rgV_length] at h1
  have := hL n (Nat.le_refl _)
  omega
theorem lin_V {D : Nat → Int} {n : Nat} (hL : Long D n) : (lin D n n).Perm (rgV 0 (n + 1)) := by
  have h1 : ∀ {A B : List Int}, A.Nodup → B.Nodup → (∀ v, v ∈ A ↔ v ∈ B) → A.Perm B := fun hA hB h => (List.perm_ext_iff_of_nodup hA hB).2 h
  refine h1 (lin_nodup D n n) (rgV_nodup _ _) (fun v => ?_)
  rw [mem_lin, mem_rgV]
  constructor
  · rintro (h | ⟨s, g1, g2, g3, g4⟩) <;> omega
  · intro h
    by_cases c : v = 0
    · exact Or.inl c
    · have := lin_all hL (v - 1).toNat (by omega)
      exact Or.inr ⟨(v - 1).toNat, by omega, this.1, this.2, by omega⟩
theorem trl_len {D : Nat → Int} {n : Nat} (hL : Long D n) : (trl D n n).length = n := by
  have h1 := (trl_tree hL (Nat.le_refl n)).1.2.1
  have h2 := (lin_V hL).length_eq
  rw [rgV_length] at h2
  omega
end Go.Proofs.Ytihafckdaecgkaa
