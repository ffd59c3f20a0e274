/-
  A quotient of products, lowered factor by factor.
-/
namespace Go.Proofs.YtlghldfolfmoeaaDoor

def pL : List Nat → Nat
  | [] => 1
  | a :: l => a * pL l
theorem pL_app (l m : List Nat) : pL (l ++ m) = pL l * pL m := by
  induction l with
  | nil => simp [pL]
  | cons a l ih => rw [List.cons_append, pL, pL, ih, Nat.mul_assoc]
theorem pL_pos {l : List Nat} (h : ∀ a ∈ l, 0 < a) : 0 < pL l := by
  induction l with
  | nil => exact Nat.one_pos
  | cons a l ih => exact Nat.mul_pos (h a (by simp)) (ih fun b hb => h b (by simp [hb]))
/-- What d has in common with the numbers, one behind the other, is taken out of both. -/
def lwd : Nat → List Nat → List Nat × Nat
  | d, [] => ([], d)
  | d, f :: l => (f / Nat.gcd f d :: (lwd (d / Nat.gcd f d) l).1, (lwd (d / Nat.gcd f d) l).2)
theorem lwd_dvd : ∀ (l : List Nat) (d : Nat), (lwd d l).2 ∣ d
  | [], d => Nat.dvd_refl _
  | f :: l, d => by rw [lwd]; exact Nat.dvd_trans (lwd_dvd l _) (Nat.div_dvd_of_dvd (Nat.gcd_dvd_right f d))
theorem lwd_pos : ∀ (l : List Nat) (d : Nat), 0 < d → 0 < (lwd d l).2 := fun l _ h => Nat.pos_of_dvd_of_pos (lwd_dvd l _) h
theorem lwd_len : ∀ (l : List Nat) (d : Nat), (lwd d l).1.length = l.length
  | [], _ => rfl
  | f :: l, d => by rw [lwd, List.length_cons, List.length_cons, lwd_len l]
theorem lwd_prod : ∀ (l : List Nat) (d : Nat), 0 < d → pL (lwd d l).1 * d = pL l * (lwd d l).2
  | [], d, _ => by simp [pL, lwd]
  | f :: l, d, h => by
    have hg : 0 < Nat.gcd f d := Nat.gcd_pos_of_pos_right _ h
    have h1 := Nat.div_mul_cancel (Nat.gcd_dvd_left f d)
    have h2 := Nat.div_mul_cancel (Nat.gcd_dvd_right f d)
    have ih := lwd_prod l (d / Nat.gcd f d) (Nat.div_pos (Nat.le_of_dvd h (Nat.gcd_dvd_right f d)) hg)
    rw [lwd]
    show (f / Nat.gcd f d) * pL (lwd (d / Nat.gcd f d) l).1 * d = f * pL l * (lwd (d / Nat.gcd f d) l).2
    generalize hG : Nat.gcd f d = g at *
    calc f / g * pL (lwd (d / g) l).1 * d = f / g * pL (lwd (d / g) l).1 * (d / g * g) := by rw [h2]
      _ = (f / g * g) * (pL (lwd (d / g) l).1 * (d / g)) := by ac_rfl
      _ = f * pL l * (lwd (d / g) l).2 := by rw [h1, ih]; ac_rfl
theorem lwd_cop : ∀ (l : List Nat) (d : Nat), 0 < d → ∀ f ∈ (lwd d l).1, Nat.Coprime f (lwd d l).2
  | [], _, _, f, hf => by cases hf
  | a :: l, d, h, f, hf => by
    have hg : 0 < Nat.gcd a d := Nat.gcd_pos_of_pos_right _ h
    rw [lwd] at hf ⊢
    rcases List.mem_cons.1 hf with rfl | hf
    · exact Nat.Coprime.coprime_dvd_right (lwd_dvd l _) (Nat.coprime_div_gcd_div_gcd hg)
    · exact lwd_cop l _ (Nat.div_pos (Nat.le_of_dvd h (Nat.gcd_dvd_right a d)) hg) f hf
theorem cop_one : ∀ (l : List Nat) (d : Nat), (∀ f ∈ l, Nat.Coprime f d) → d ∣ pL l → d = 1
  | [], d, _, h => Nat.dvd_one.1 h
  | f :: l, d, h1, h2 => by
    refine cop_one l d (fun g hg => h1 g (by simp [hg])) ?_
    exact Nat.Coprime.dvd_of_dvd_mul_left (h1 f (by simp)).symm h2
/-- Where nothing is left over, it goes whole. -/
theorem lwd_exact {l : List Nat} {d R : Nat} (h : 0 < d) (hR : d * R ∣ pL l) : pL (lwd d l).1 * d = pL l ∧ R ∣ pL (lwd d l).1 := by
  have h1 := lwd_prod l d h
  have h2 := lwd_dvd l d
  obtain ⟨r, hr⟩ := h2
  have hp := lwd_pos l d h
  have h3 : pL (lwd d l).1 * r = pL l := by
    refine Nat.eq_of_mul_eq_mul_right hp ?_
    rw [← h1, Nat.mul_assoc, Nat.mul_comm r, ← hr]
  have hr0 : 0 < r := Nat.pos_of_ne_zero fun e => by rw [e, Nat.mul_zero] at hr; omega
  have h4 : (lwd d l).2 * R ∣ pL (lwd d l).1 := by
    rw [← h3] at hR
    refine Nat.dvd_of_mul_dvd_mul_right hr0 ?_
    rw [show (lwd d l).2 * R * r = (lwd d l).2 * r * R by ac_rfl, ← hr]
    exact hR
  have e := cop_one _ _ (lwd_cop l d h) (Nat.dvd_trans ⟨R, rfl⟩ h4)
  rw [e, Nat.mul_one] at h1
  refine ⟨h1, ?_⟩
  rw [e, Nat.one_mul] at h4
  exact h4
def lows : List Nat → List Nat → List Nat
  | [], l => l
  | d :: ds, l => lows ds (lwd d l).1
theorem lows_prod : ∀ (ds l : List Nat), (∀ d ∈ ds, 0 < d) → pL ds ∣ pL l → pL (lows ds l) * pL ds = pL l
  | [], l, _, _ => by simp [lows, pL]
  | d :: ds, l, h, hd => by
    obtain ⟨h1, h2⟩ := lwd_exact (h d (by simp)) hd
    have ih := lows_prod ds (lwd d l).1 (fun e he => h e (by simp [he])) h2
    rw [lows, pL, ← h1, ← ih]
    ac_rfl
theorem lwd_le : ∀ (l : List Nat) (d b : Nat), (∀ f ∈ l, f ≤ b) → ∀ f ∈ (lwd d l).1, f ≤ b
  | [], _, _, _, f, hf => by cases hf
  | a :: l, d, b, h, f, hf => by
    rw [lwd] at hf
    rcases List.mem_cons.1 hf with rfl | hf
    · exact Nat.le_trans (Nat.div_le_self _ _) (h a (by simp))
    · exact lwd_le l _ b (fun g hg => h g (by simp [hg])) f hf
theorem lows_le : ∀ (ds l : List Nat) (b : Nat), (∀ f ∈ l, f ≤ b) → ∀ f ∈ lows ds l, f ≤ b
  | [], _, _, h => h
  | d :: ds, l, b, h => lows_le ds _ b (lwd_le l d b h)
theorem lows_len : ∀ (ds l : List Nat), (lows ds l).length = l.length
  | [], _ => rfl
  | d :: ds, l => by rw [lows, lows_len ds, lwd_len]
/-- The first k done. -/
theorem lwd_app : ∀ (l m : List Nat) (d : Nat), lwd d (l ++ m) = ((lwd d l).1 ++ (lwd (lwd d l).2 m).1, (lwd (lwd d l).2 m).2)
  | [], _, _ => rfl
  | f :: l, m, d => by rw [List.cons_append, lwd, lwd_app l m]; rfl
theorem lows_app : ∀ (ds es l : List Nat), lows (ds ++ es) l = lows es (lows ds l)
  | [], _, _ => rfl
  | _ :: ds, es, _ => lows_app ds es _

end Go.Proofs.YtlghldfolfmoeaaDoor
