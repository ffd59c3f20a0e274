/-
  Unrooted, car by car; there and back (plain).
-/
import Derived.Test.YtihafckdaecgkaaZLin
namespace Go.Proofs.Ytihafckdaecgkaa

/-- J tells the edges, either way. -/
def JE (J : Int → Int → Bool) (L : List (Int × Int)) : Prop := ∀ a b, J a b = true ↔ (a, b) ∈ L ∨ (b, a) ∈ L
structure UI (n : Nat) (J : Int → Int → Bool) (D : Nat → Int) (line : List Int) (k i : Nat) : Prop where
  rng : ∀ t, t < n → D t = 0 ∨ (1 ≤ D t ∧ D t ≤ (k : Int)) ∨ (D t = (k : Int) + 1 ∧ t < i)
  ln : line = lin D n k ++ addc D ((k : Int) + 1) i
  jn : ∀ t, t < n → ∀ j : Nat, D t = (j : Int) + 1 → J (line.getD j 0) ((t : Int) + 1) = true
  all : ∀ j, j < k → ∀ t, t < n → J (line.getD j 0) ((t : Int) + 1) = true → D t ≠ 0 ∧ D t ≤ (j : Int) + 1
  now : ∀ t, t < i → J (line.getD k 0) ((t : Int) + 1) = true → D t ≠ 0 ∧ D t ≤ (k : Int) + 1
  long : ∀ j, j ≤ k → j < (lin D n j).length
theorem UI.start (n : Nat) (J : Int → Int → Bool) : UI n J (fun _ => 0) [0] 0 0 :=
  ⟨fun _ _ => Or.inl rfl, by simp [lin, addc_zero], fun t _ j h => by omega, fun j h => by omega, fun t h => by omega, fun j h => by
    obtain rfl : j = 0 := by omega
    simp [lin]⟩
theorem UI.skip {n : Nat} {J : Int → Int → Bool} {D : Nat → Int} {line : List Int} {k i : Nat} (h : UI n J D line k i) (hi : i < n) (hs : J (line.getD k 0) ((i : Int) + 1) = true → D i ≠ 0) : UI n J D line k (i + 1) := by
  have hr := h.rng i hi
  refine ⟨fun t ht => ?_, ?_, h.jn, h.all, fun t ht hj => ?_, h.long⟩
  · rcases h.rng t ht with c | c | c
    · exact Or.inl c
    · exact Or.inr (Or.inl c)
    · exact Or.inr (Or.inr ⟨c.1, by omega⟩)
  · rw [h.ln, addc_succ, if_neg (by omega), List.append_nil]
  · by_cases c : t = i
    · subst c
      refine ⟨hs hj, by omega⟩
    · exact h.now t (by omega) hj
theorem UI.set {n : Nat} {J : Int → Int → Bool} {D : Nat → Int} {line : List Int} {k i : Nat} (h : UI n J D line k i) (hi : i < n) (hj : J (line.getD k 0) ((i : Int) + 1) = true) (h0 : D i = 0) : UI n J (fun t => if t = i then (k : Int) + 1 else D t) (line ++ [(i : Int) + 1]) k (i + 1) := by
  have hlin : ∀ j, j ≤ k → lin (fun t => if t = i then (k : Int) + 1 else D t) n j = lin D n j := fun j hjk => lin_congr (fun t _ q hq => by
    by_cases c : t = i
    · subst c
      rw [if_pos rfl, h0]; omega
    · rw [if_neg c])
  have hlen : ∀ j, j ≤ k → j < line.length := fun j hjk => by
    rw [h.ln, List.length_append]
    have := h.long k (Nat.le_refl _)
    omega
  have hget : ∀ j, j ≤ k → (line ++ [(i : Int) + 1]).getD j 0 = line.getD j 0 := fun j hjk => by
    rw [List.getD_eq_getElem?_getD, List.getElem?_append_left (hlen j hjk), List.getD_eq_getElem?_getD]
  refine ⟨fun t ht => ?_, ?_, fun t ht j hd => ?_, fun j hjk t ht hJ => ?_, fun t ht hJ => ?_, fun j hjk => by rw [hlin j hjk]; exact h.long j hjk⟩
  · by_cases c : t = i
    · subst c; rw [if_pos rfl]; exact Or.inr (Or.inr ⟨rfl, by omega⟩)
    · rw [if_neg c]
      rcases h.rng t ht with g | g | g
      · exact Or.inl g
      · exact Or.inr (Or.inl g)
      · exact Or.inr (Or.inr ⟨g.1, by omega⟩)
  · rw [hlin k (Nat.le_refl _), addc_succ, if_pos (if_pos rfl), ← List.append_assoc, h.ln]
    congr 2
    exact addc_congr (fun t ht => by rw [if_neg (by omega)])
  · by_cases c : t = i
    · subst c
      rw [if_pos rfl] at hd
      obtain rfl : j = k := by omega
      rw [hget j (Nat.le_refl _)]; exact hj
    · rw [if_neg c] at hd
      have := h.rng t ht
      rw [hget j (by omega)]
      exact h.jn t ht j hd
  · rw [hget j (by omega)] at hJ
    have := h.all j hjk t ht hJ
    by_cases c : t = i
    · subst c; exact absurd h0 this.1
    · rw [if_neg c]; exact this
  · rw [hget k (Nat.le_refl _)] at hJ
    by_cases c : t = i
    · subst c; rw [if_pos rfl]; omega
    · rw [if_neg c]; exact h.now t (by omega) hJ
theorem UI.next {n : Nat} {J : Int → Int → Bool} {D : Nat → Int} {line : List Int} {k : Nat} {L : List (Int × Int)} (h : UI n J D line k n) (hk : k < n) (hL : Tr (rgV 0 (n + 1)) L) (hJ : JE J L) : UI n J D line (k + 1) 0 := by
  have hline : line = lin D n (k + 1) := h.ln
  refine ⟨fun t ht => ?_, by rw [hline, addc_zero, List.append_nil], h.jn, fun j hj t ht hq => ?_, fun t ht => by omega, fun j hj => ?_⟩
  · rcases h.rng t ht with c | c | c
    · exact Or.inl c
    · exact Or.inr (Or.inl (by omega))
    · exact Or.inr (Or.inl (by omega))
  · by_cases c : j = k
    · subst c; exact h.now t ht hq
    · exact h.all j (by omega) t ht hq
  · by_cases c : j ≤ k
    · exact h.long j c
    obtain rfl : j = k + 1 := by omega
    refine Classical.byContradiction (fun hn => ?_)
    rw [← hline] at hn
    have clo : ∀ a ∈ line, ∀ b, J a b = true → b ∈ rgV 0 (n + 1) → b ∈ line := fun a ha b hab hb => by
      obtain ⟨j, hjl, rfl⟩ := mem_getD ha
      have hb' := mem_rgV.1 hb
      rw [hline, mem_lin]
      by_cases c0 : b = 0
      · exact Or.inl c0
      · obtain ⟨t, rfl⟩ : ∃ t : Nat, b = (t : Int) + 1 := ⟨(b - 1).toNat, by omega⟩
        have ht : t < n := by omega
        have hq : D t ≠ 0 ∧ D t ≤ (k : Int) + 1 := by
          by_cases c : j = k
          · subst c; exact h.now t ht hab
          · have := h.all j (by omega) t ht hab
            omega
        have := h.rng t ht
        exact Or.inr ⟨t, ht, by omega, by omega, rfl⟩
    have h0 : (0 : Int) ∈ line := by rw [hline]; exact mem_lin.2 (Or.inl rfl)
    have hc := hL.2.2.2 (fun u => if u ∈ line then 1 else 0) (fun e he => by
      have hm := hL.2.2.1 e he
      by_cases c : e.1 ∈ line
      · have := clo e.1 c e.2 ((hJ _ _).2 (Or.inl he)) hm.2
        simp [c, this]
      · have : e.2 ∉ line := fun c2 => c (clo e.2 c2 e.1 ((hJ _ _).2 (Or.inr he)) hm.1)
        simp [c, this])
    have hall : ∀ v ∈ rgV 0 (n + 1), v ∈ line := fun v hv => by
      have := hc v hv 0 (mem_rgV.2 (by omega))
      simp only [h0, if_true] at this
      refine Classical.byContradiction (fun c => ?_)
      rw [if_neg c] at this; omega
    have := nodup_len (rgV_nodup 0 (n + 1)) hall
    rw [rgV_length] at this
    omega
theorem jn_mem {L : List (Int × Int)} {a b : Int} (h : (a, b) ∈ L ∨ (b, a) ∈ L) : nrm (a, b) ∈ L.map nrm := by
  rcases h with h | h
  · exact List.mem_map.2 ⟨_, h, rfl⟩
  · refine List.mem_map.2 ⟨_, h, ?_⟩
    unfold nrm; simp only [Prod.mk.injEq]; omega
/-- Rooted of what Unrooted tells. -/
theorem un_back {n : Nat} {J : Int → Int → Bool} {D : Nat → Int} {line : List Int} {L : List (Int × Int)} (h : UI n J D line n 0) (hJ : JE J L) (hn : n = L.length) : Long D n ∧ (trl D n n).Perm (L.map nrm) := by
  have hL : Long D n := h.long
  have hline : line = lin D n n := by rw [h.ln, addc_zero, List.append_nil]
  refine ⟨hL, nodup_perm (trl_tree hL (Nat.le_refl n)).2 (fun e he => ?_) (by rw [trl_len hL, List.length_map]; exact hn)⟩
  obtain ⟨t, j, h1, h2, h3, rfl⟩ := (mem_trl hL (Nat.le_refl n)).1 he
  have := h.jn t h1 j h3
  rw [hline] at this
  exact jn_mem ((hJ _ _).1 this)
theorem nrm_cases (a b : Int) : nrm (a, b) = (a, b) ∨ nrm (a, b) = (b, a) := by
  unfold nrm; simp only [Prod.mk.injEq]; omega
theorem getD_inj {l : List Int} (hl : l.Nodup) {i j : Nat} (hi : i < l.length) (hj : j < l.length) (h : l.getD i 0 = l.getD j 0) : i = j := by
  have e : l[i] = l[j] := by simpa [List.getD, hi, hj] using h
  rcases Nat.lt_trichotomy i j with c | c | c
  · exact absurd e ((List.pairwise_iff_getElem.1 hl) i j hi hj c)
  · exact c
  · exact absurd e.symm ((List.pairwise_iff_getElem.1 hl) j i hj hi c)
/-- Unrooted of what Rooted makes. -/
theorem un_root {n : Nat} {J : Int → Int → Bool} {D Z : Nat → Int} {line : List Int} {X : List (Int × Int)} (hZ : Long Z n) (hX : X.Perm (trl Z n n)) (hJ : JE J X) (h : UI n J D line n 0) : ∀ t, t < n → D t = Z t := by
  have hL : Long D n := h.long
  have hline : line = lin D n n := by rw [h.ln, addc_zero, List.append_nil]
  have key : ∀ k, k ≤ n → ∀ t, t < n → ∀ j : Nat, j < k → (D t = (j : Int) + 1 ↔ Z t = (j : Int) + 1) := by
    intro k
    induction k with
    | zero => intro _ t _ j hj; omega
    | succ k ih =>
      intro hk t ht j hj
      have ih := ih (by omega)
      by_cases c : j < k
      · exact ih t ht j c
      obtain rfl : j = k := by omega
      have hlk : lin D n j = lin Z n j := lin_congr ih
      have hv : (lin D n n).getD j 0 = (lin Z n n).getD j 0 := by
        rw [lin_get D n (show j ≤ n by omega) (hL j (by omega)), lin_get Z n (show j ≤ n by omega) (hZ j (by omega)), hlk]
      constructor
      · intro hd
        have h1 := h.jn t ht j hd
        rw [hline, hv] at h1
        have hpos : (lin Z n n).length = n + 1 := by rw [(lin_V hZ).length_eq, rgV_length]
        have h2 : ∃ e ∈ trl Z n n, e = ((lin Z n n).getD j 0, (t : Int) + 1) ∨ e = ((t : Int) + 1, (lin Z n n).getD j 0) := by
          rcases (hJ _ _).1 h1 with g | g
          · exact ⟨_, hX.mem_iff.1 g, Or.inl rfl⟩
          · exact ⟨_, hX.mem_iff.1 g, Or.inr rfl⟩
        obtain ⟨e, he, hc⟩ := h2
        obtain ⟨s, q, g1, g2, g3, g4⟩ := (mem_trl hZ (Nat.le_refl n)).1 he
        have hun : ((lin Z n n).getD q 0 = (lin Z n n).getD j 0 ∧ (s : Int) + 1 = (t : Int) + 1) ∨ ((lin Z n n).getD q 0 = (t : Int) + 1 ∧ (s : Int) + 1 = (lin Z n n).getD j 0) := by
          rcases nrm_cases ((lin Z n n).getD q 0) ((s : Int) + 1) with f | f <;> rw [f] at g4 <;> rcases hc with hc | hc <;> rw [hc] at g4 <;> simp only [Prod.mk.injEq] at g4 <;> omega
        rcases hun with ⟨u1, u2⟩ | ⟨u1, u2⟩
        · have := getD_inj (lin_nodup Z n n) (by omega) (by omega) u1
          subst this
          obtain rfl : s = t := by omega
          exact g3
        · exfalso
          have hqj : q < j := by
            refine Classical.byContradiction (fun c2 => ?_)
            have m1 : (s : Int) + 1 ∈ lin Z n q := by
              rw [u2, lin_get Z n (show q ≤ n by omega) (show j < (lin Z n q).length by have := hZ q (by omega); omega)]
              exact getD_memZ (by have := hZ q (by omega); omega)
            rcases mem_lin.1 m1 with f | ⟨r, r1, r2, r3, r4⟩
            · omega
            · obtain rfl : r = s := by omega
              omega
          have m2 : (t : Int) + 1 ∈ lin Z n j := by
            rw [← u1, lin_get Z n (show j ≤ n by omega) (show q < (lin Z n j).length by have := hZ j (by omega); omega)]
            exact getD_memZ (by have := hZ j (by omega); omega)
          rcases mem_lin.1 m2 with f | ⟨r, r1, r2, r3, r4⟩
          · omega
          · obtain rfl : r = t := by omega
            have := (ih r ht (Z r - 1).toNat (by omega)).2 (by omega)
            omega
      · intro hz
        have he : nrm ((lin Z n n).getD j 0, (t : Int) + 1) ∈ trl Z n n := (mem_trl hZ (Nat.le_refl n)).2 ⟨t, j, ht, by omega, hz, rfl⟩
        have h1 : J (line.getD j 0) ((t : Int) + 1) = true := by
          rw [hline, hv]
          refine (hJ _ _).2 ?_
          have := hX.mem_iff.2 he
          rcases nrm_cases ((lin Z n n).getD j 0) ((t : Int) + 1) with f | f <;> rw [f] at this
          · exact Or.inl this
          · exact Or.inr this
        have h2 := h.all j (by omega) t ht h1
        have h3 := lin_all hL t ht
        by_cases c3 : D t = (j : Int) + 1
        · exact c3
        · have := (ih t ht (D t - 1).toNat (by omega)).1 (by omega)
          omega
  intro t ht
  have h3 := lin_all hL t ht
  have := (key n (Nat.le_refl n) t ht (D t - 1).toNat (by omega)).1 (by omega)
  omega
end Go.Proofs.Ytihafckdaecgkaa
