/-
  Plain mathematics: the order of the cycles makes no difference.
  Plain mathematics: the character as an alternating sum; the cycles in any order.
-/
import Derived.Test.YtheebpjkjclgbaaHChr
namespace Go.Proofs.Ytheebpjkjclgbaa

/-- The sum over all lists with one number less by k. -/
def sumB (k : Nat) (G : List Int → Int) : List Int → Int
  | [] => 0
  | x :: xs => G ((x - k) :: xs) + sumB k (fun l => G (x :: l)) xs
def Anti (G : List Int → Int) : Prop := ∀ A x y B, G (A ++ x :: y :: B) = - G (A ++ y :: x :: B)
theorem Anti.cons {G : List Int → Int} (h : Anti G) (a : Int) : Anti fun l => G (a :: l) := fun A x y B => h (a :: A) x y B
theorem Anti.pre {G : List Int → Int} (h : Anti G) (A : List Int) : Anti fun l => G (A ++ l) := fun C x y B => by
  have := h (A ++ C) x y B
  simpa [List.append_assoc] using this
theorem sumB_congr {k : Nat} : ∀ (xs : List Int) {G H : List Int → Int}, (∀ l, G l = H l) → sumB k G xs = sumB k H xs
  | [], _, _, _ => rfl
  | x :: xs, G, H, h => by rw [sumB, sumB, h, sumB_congr xs fun l => h (x :: l)]
theorem sumB_neg {k : Nat} : ∀ (xs : List Int) (G : List Int → Int), sumB k (fun l => - G l) xs = - sumB k G xs
  | [], _ => rfl
  | x :: xs, G => by rw [sumB, sumB, sumB_neg xs fun l => G (x :: l)]; omega
theorem sumB_add {k : Nat} : ∀ (xs : List Int) (G H : List Int → Int), sumB k (fun l => G l + H l) xs = sumB k G xs + sumB k H xs
  | [], _, _ => rfl
  | x :: xs, G, H => by rw [sumB, sumB, sumB, sumB_add xs (fun l => G (x :: l)) fun l => H (x :: l)]; omega
theorem sumB_anti {k : Nat} : ∀ (A : List Int) (x y : Int) (B : List Int) {G : List Int → Int}, Anti G → sumB k G (A ++ x :: y :: B) = - sumB k G (A ++ y :: x :: B)
  | [], x, y, B, G, h => by
    rw [List.nil_append, List.nil_append, sumB, sumB, sumB, sumB]
    have h1 := h [] (x - k) y B
    have h2 := h [] x (y - k) B
    have h3 : sumB k (fun l => G (x :: y :: l)) B = - sumB k (fun l => G (y :: x :: l)) B := by
      rw [← sumB_neg]; exact sumB_congr B fun l => h [] x y l
    rw [List.nil_append, List.nil_append] at h1 h2
    rw [h1, h2, h3]; omega
  | a :: A, x, y, B, G, h => by
    rw [List.cons_append, List.cons_append, sumB, sumB, sumB_anti A x y B (h.cons a)]
    have h1 := h ((a - k) :: A) x y B
    rw [List.cons_append, List.cons_append] at h1
    rw [h1]; omega
theorem sumB_comm (k l : Nat) : ∀ (xs : List Int) (G : List Int → Int), sumB k (sumB l G) xs = sumB l (sumB k G) xs
  | [], _ => rfl
  | x :: xs, G => by
    have e : ∀ (k l : Nat), sumB k (sumB l G) (x :: xs) = G ((x - k - l) :: xs) + sumB l (fun r => G ((x - k) :: r)) xs + (sumB k (fun r => G ((x - l) :: r)) xs + sumB k (sumB l fun r => G (x :: r)) xs) := fun k l => by
      rw [sumB, sumB, ← sumB_add]; rfl
    rw [e k l, e l k, sumB_comm k l xs fun r => G (x :: r), show x - (k : Int) - (l : Int) = x - l - k by omega]
    omega
/-- As a sum over places. -/
theorem sumB_at (k : Nat) : ∀ (xs : List Int) (G : List Int → Int), sumB k G xs = sZ (fun i => G (xs.set i (xs.getD i 0 - k))) xs.length
  | [], _ => rfl
  | x :: xs, G => by
    rw [sumB, sumB_at k xs fun l => G (x :: l), List.length_cons, sZ_shift]
    rfl
def sgI (z : Int) : Int := if 0 < z then 1 else if z < 0 then -1 else 0
theorem sgI_neg (z : Int) : sgI (-z) = - sgI z := by
  unfold sgI
  by_cases h : 0 < z
  · rw [if_pos h, if_neg (by omega), if_pos (by omega)]
  · rw [if_neg h]
    by_cases h2 : z < 0
    · rw [if_pos h2, if_pos (by omega)]; rfl
    · rw [if_neg h2, if_neg (by omega), if_neg (by omega)]; rfl
def prI (x : Int) : List Int → Int
  | [] => 1
  | y :: l => sgI (x - y) * prI x l
def sgL : List Int → Int
  | [] => 1
  | x :: l => prI x l * sgL l
theorem prI_swap (a x y : Int) (B : List Int) : ∀ A, prI a (A ++ x :: y :: B) = prI a (A ++ y :: x :: B)
  | [] => by simp only [List.nil_append, prI]; rw [← Int.mul_assoc, ← Int.mul_assoc, Int.mul_comm (sgI (a - x))]
  | b :: A => by simp only [List.cons_append, prI]; rw [prI_swap a x y B A]
theorem sgL_anti : Anti sgL := fun A x y B => by
  induction A with
  | nil =>
    simp only [List.nil_append, sgL, prI]
    have h : sgI (x - y) = - sgI (y - x) := by rw [← sgI_neg]; congr 1; omega
    rw [h]
    simp only [Int.neg_mul, Int.mul_assoc]
    congr 2
    rw [← Int.mul_assoc, ← Int.mul_assoc, Int.mul_comm (prI x B)]
  | cons a A ih => simp only [List.cons_append, sgL]; rw [prI_swap, ih, Int.mul_neg]
def nnB (l : List Int) : Bool := l.all fun x => decide (0 ≤ x)
/-- The alternating sum. -/
def chF : List Nat → List Int → Int
  | [], l => if nnB l = true then sgL l else 0
  | k :: cs, l => sumB k (chF cs) l
theorem chF_anti : ∀ cs, Anti (chF cs)
  | [] => fun A x y B => by
    have h : nnB (A ++ x :: y :: B) = nnB (A ++ y :: x :: B) := by
      unfold nnB
      simp only [List.all_append, List.all_cons]
      cases A.all (fun x => decide (0 ≤ x)) <;> cases decide (0 ≤ x) <;> cases decide (0 ≤ y) <;> rfl
    show (if nnB (A ++ x :: y :: B) = true then sgL (A ++ x :: y :: B) else 0) = - (if nnB (A ++ y :: x :: B) = true then sgL (A ++ y :: x :: B) else 0)
    rw [h, sgL_anti]
    split <;> simp
  | k :: cs => fun A x y B => sumB_anti A x y B (chF_anti cs)
theorem chF_perm {cs ds : List Nat} (h : cs.Perm ds) : ∀ l, chF cs l = chF ds l := by
  induction h with
  | nil => intro _; rfl
  | cons k _ ih => intro l; exact sumB_congr l ih
  | swap k j cs => intro l; exact sumB_comm j k l (chF cs)
  | trans _ _ h1 h2 => intro l; rw [h1, h2]
theorem chF_low : ∀ (cs : List Nat) (l : List Int), (∃ x ∈ l, x < 0) → chF cs l = 0
  | [], l, ⟨x, hx, h⟩ => by
    rw [chF, if_neg]
    unfold nnB
    rw [List.all_eq_true]
    intro q
    have := of_decide_eq_true (q x hx)
    omega
  | k :: cs, l, ⟨x, hx, h⟩ => by
    rw [chF, sumB_at]
    refine sZ_zero fun i hi => chF_low cs _ ?_
    obtain ⟨r, hr, rfl⟩ := List.mem_iff_getElem.1 hx
    by_cases e : i = r
    · subst e
      refine ⟨l.getD i 0 - k, List.mem_set hi _, ?_⟩
      rw [List.getD, List.getElem?_eq_getElem hi, Option.getD_some]; omega
    · refine ⟨l[r], ?_, h⟩
      rw [List.mem_iff_getElem]
      exact ⟨r, by simpa using hr, by rw [List.getElem_set_ne e]⟩
/-- A number put in its place among numbers that fall. -/
theorem straight {G : List Int → Int} (x : Int) : ∀ (ys : List Int), Anti G → ys.Pairwise (· > ·) → G (x :: ys) = if x ∈ ys then 0 else sg (ys.takeWhile (fun y => decide (x < y))).length * G (ys.takeWhile (fun y => decide (x < y)) ++ x :: ys.dropWhile (fun y => decide (x < y)))
  | [], _, _ => by simp [sg]
  | y :: ys, h, hp => by
    have hp1 := List.pairwise_cons.1 hp
    by_cases h1 : x < y
    · have e1 : G (x :: y :: ys) = - G (y :: x :: ys) := h [] x y ys
      rw [List.takeWhile_cons_of_pos (by simpa using h1), List.dropWhile_cons_of_pos (by simpa using h1), e1, straight x ys (h.cons y) hp1.2]
      by_cases h2 : x ∈ ys
      · rw [if_pos h2, if_pos (by simp [h2])]; rfl
      · rw [if_neg h2, if_neg (by simp [h2]; omega), List.length_cons, sg, List.cons_append]
        rw [Int.neg_mul]
    · rw [List.takeWhile_cons_of_neg (by simpa using h1), List.dropWhile_cons_of_neg (by simpa using h1)]
      by_cases h2 : x = y
      · subst h2
        have e1 : G (x :: x :: ys) = - G (x :: x :: ys) := h [] x x ys
        rw [if_pos (by simp)]; omega
      · have h3 : x ∉ y :: ys := fun q => by
          rcases List.mem_cons.1 q with q | q
          · exact h2 q
          · have := hp1.1 x q; omega
        rw [if_neg h3]; simp [sg]

end Go.Proofs.Ytheebpjkjclgbaa

namespace Go.Proofs.Ytheebpjkjclgbaa

/-- The rows, each longer by how many rows lie below. -/
def btL (P : Nat → Nat) (m : Nat) : List Int := (List.range m).map fun i => ((P i + (m - 1 - i) : Nat) : Int)
theorem btL_len (P : Nat → Nat) (m : Nat) : (btL P m).length = m := by simp [btL]
theorem btL_at {P : Nat → Nat} {m i : Nat} (h : i < m) : (btL P m).getD i 0 = ((P i + (m - 1 - i) : Nat) : Int) := by simp [btL, List.getD, h]
theorem btL_get {P : Nat → Nat} {m i : Nat} (h : i < (btL P m).length) : (btL P m)[i] = ((P i + (m - 1 - i) : Nat) : Int) := by simp [btL]
theorem btL_down {P : Nat → Nat} {m : Nat} (h : ∀ i, P (i + 1) ≤ P i) : (btL P m).Pairwise (· > ·) := by
  rw [List.pairwise_iff_getElem]
  intro i j hi hj hij
  rw [btL_get, btL_get]
  rw [btL_len] at hj
  have hm : ∀ d, P (i + d) ≤ P i := fun d => by
    induction d with
    | zero => exact Nat.le_refl _
    | succ d ih => exact Nat.le_trans (h (i + d)) ih
  have := hm (j - i)
  rw [show i + (j - i) = j by omega] at this
  omega
theorem sgL_down : ∀ (l : List Int), l.Pairwise (· > ·) → sgL l = 1
  | [], _ => rfl
  | x :: l, h => by
    have h1 := List.pairwise_cons.1 h
    have key : ∀ (l : List Int), (∀ y ∈ l, x > y) → prI x l = 1 := by
      intro l
      induction l with
      | nil => intro _; rfl
      | cons y l ih =>
        intro hl
        rw [prI, ih fun z hz => hl z (by simp [hz])]
        unfold sgI
        rw [if_pos (by have := hl y (by simp); omega)]; rfl
    rw [sgL, key l h1.1, sgL_down l h1.2]; rfl
theorem drop_tw {l : List Int} {x : Int} {n : Nat} (h1 : ∀ i, i < n → ∃ h : i < l.length, x < l[i]) (h2 : ∀ h : n < l.length, ¬ x < l[n]) : l.takeWhile (fun y => decide (x < y)) = l.take n ∧ l.dropWhile (fun y => decide (x < y)) = l.drop n := by
  induction n generalizing l with
  | zero =>
    cases l with
    | nil => simp
    | cons y l =>
      have := h2 (by simp)
      simp only [List.getElem_cons_zero] at this
      rw [List.takeWhile_cons_of_neg (by simpa using this), List.dropWhile_cons_of_neg (by simpa using this)]
      simp
  | succ n ih =>
    cases l with
    | nil => obtain ⟨h, _⟩ := h1 0 (by omega); simp at h
    | cons y l =>
      obtain ⟨_, h0⟩ := h1 0 (by omega)
      simp only [List.getElem_cons_zero] at h0
      rw [List.takeWhile_cons_of_pos (by simpa using h0), List.dropWhile_cons_of_pos (by simpa using h0)]
      have := ih (l := l) (fun i hi => by
        obtain ⟨q1, q2⟩ := h1 (i + 1) (by omega)
        exact ⟨by simpa using q1, by simpa using q2⟩) (fun h => by
        have := h2 (by simpa using h)
        simpa using this)
      rw [this.1, this.2]
      simp

/-- One row less by k: what is left, in its place, or nothing. -/
theorem chF_row {zs : List Int} (h : IsPt zs) {m : Nat} (hm : zs.length ≤ m) (cs : List Nat) {k i : Nat} (hk : 1 ≤ k) (hi : i < m) :
    chF cs ((btL (pF zs) m).set i ((btL (pF zs) m).getD i 0 - k)) = sZ (fun j => if hkN zs i j = k then sg (htF zs j - 1 - i) * chF cs (btL (rmF (pF zs) i j) m) else 0) (pF zs i) := by
  have hdn := btL_down (m := m) (pF_anti h)
  have hsplit : (btL (pF zs) m).set i ((btL (pF zs) m).getD i 0 - k) = (btL (pF zs) m).take i ++ ((btL (pF zs) m).getD i 0 - k) :: (btL (pF zs) m).drop (i + 1) := by
    rw [List.set_eq_take_append_cons_drop, if_pos (by rw [btL_len]; exact hi)]
  have hb := btL_at (P := pF zs) hi
  generalize hx : (btL (pF zs) m).getD i 0 - (k : Int) = x at *
  have hys : ((btL (pF zs) m).drop (i + 1)).Pairwise (· > ·) := List.Pairwise.sublist (List.drop_sublist _ _) hdn
  have hyl : ((btL (pF zs) m).drop (i + 1)).length = m - (i + 1) := by rw [List.length_drop, btL_len]
  have hyg : ∀ r (hr : r < ((btL (pF zs) m).drop (i + 1)).length), ((btL (pF zs) m).drop (i + 1))[r] = ((pF zs (i + 1 + r) + (m - 1 - (i + 1 + r)) : Nat) : Int) := fun r hr => by
    rw [List.getElem_drop, btL_get]
  have hst := straight (G := fun l => chF cs ((btL (pF zs) m).take i ++ l)) x ((btL (pF zs) m).drop (i + 1)) ((chF_anti cs).pre _) hys
  rw [hsplit]
  rw [hst]
  have hmn : ∀ a d, pF zs (a + d) ≤ pF zs a := pF_mono h
  by_cases hex : ∃ j, j < pF zs i ∧ hkN zs i j = k
  · obtain ⟨j, hj, hjk⟩ := hex
    have h1 := (htF_iff h i j).2 hj
    have h2 := htF_le h j
    rw [sZ_one (k := j) _ hj (fun j' q1 q2 => if_neg (fun e => by
      rcases Nat.lt_or_gt_of_ne q2 with q | q
      · have := hk_fall h q hj; omega
      · have := hk_fall h q q1; omega)), if_pos hjk]
    obtain ⟨g, hg⟩ : ∃ g, htF zs j - 1 - i = g := ⟨_, rfl⟩
    have hxv : x = ((j + (m - 1 - (i + g)) : Nat) : Int) := by rw [← hx, hb, ← hjk]; unfold hkN; omega
    have hup : ∀ r, i < r → r ≤ i + g → j < pF zs r := fun r q1 q2 => (htF_iff h r j).1 (by omega)
    have hlo : ∀ r, i + g < r → pF zs r ≤ j := fun r q => by
      rcases Nat.lt_or_ge j (pF zs r) with z | z
      · have := (htF_iff h r j).2 z; omega
      · exact z
    obtain ⟨t1, t2⟩ := drop_tw (l := (btL (pF zs) m).drop (i + 1)) (x := x) (n := g) (fun r hr => by
      refine ⟨by rw [hyl]; omega, ?_⟩
      rw [hyg r (by rw [hyl]; omega), hxv]
      have := hup (i + 1 + r) (by omega) (by omega)
      omega) (fun q => by
      rw [hyg g q, hxv]
      have := hlo (i + 1 + g) (by omega)
      omega)
    have hnot : x ∉ (btL (pF zs) m).drop (i + 1) := fun q => by
      obtain ⟨r, hr, e⟩ := List.mem_iff_getElem.1 q
      rw [hyg r hr, hxv] at e
      rw [hyl] at hr
      by_cases q2 : i + 1 + r ≤ i + g
      · have := hup (i + 1 + r) (by omega) q2; omega
      · have := hlo (i + 1 + r) (by omega); omega
    rw [if_neg hnot, t1, t2, List.length_take, hyl, hg, show min g (m - (i + 1)) = g by omega]
    congr 2
    refine List.ext_getElem (by simp only [List.length_append, List.length_take, List.length_cons, List.length_drop, btL_len]; omega) fun r r1 r2 => ?_
    rw [btL_len] at r2
    rw [btL_get (P := rmF (pF zs) i j)]
    have h3 := pF_anti h r
    unfold rmF
    by_cases c1 : r < i
    · rw [List.getElem_append_left (by rw [List.length_take, btL_len]; omega), List.getElem_take, btL_get, if_pos c1]
    · rw [List.getElem_append_right (by rw [List.length_take, btL_len]; omega), if_neg c1]
      simp only [List.length_take, btL_len, show min i m = i by omega]
      by_cases c2 : r < i + g
      · rw [List.getElem_append_left (by rw [List.length_take, List.length_drop, btL_len]; omega), List.getElem_take, List.getElem_drop, btL_get]
        have := hup (r + 1) (by omega) (by omega)
        rw [if_pos this, show i + 1 + (r - i) = r + 1 by omega]
        omega
      · have c3 : ¬ j < pF zs (r + 1) := by have := hlo (r + 1) (by omega); omega
        rw [List.getElem_append_right (by rw [List.length_take, List.length_drop, btL_len]; omega), if_neg c3]
        simp only [List.length_take, List.length_drop, btL_len, show min g (m - (i + 1)) = g by omega]
        by_cases c4 : r = i + g
        · subst c4
          have c5 : j < pF zs (i + g) := by
            by_cases e : g = 0
            · rw [e]; exact hj
            · exact hup (i + g) (by omega) (Nat.le_refl _)
          simp only [show i + g - i - g = 0 by omega, List.getElem_cons_zero]
          rw [hxv, show min (pF zs (i + g)) j = j by omega]
        · obtain ⟨q, hq⟩ : ∃ q, r - i - g = q + 1 := ⟨r - i - g - 1, by omega⟩
          have c6 := hlo r (by omega)
          simp only [hq, List.getElem_cons_succ, List.getElem_drop, btL_get]
          rw [show i + 1 + (g + q) = r by omega, show min (pF zs r) j = pF zs r by omega]
  · rw [sZ_zero (fun j hj => if_neg (fun e => hex ⟨j, hj, e⟩))]
    by_cases hin : x ∈ (btL (pF zs) m).drop (i + 1)
    · rw [if_pos hin]
    · rw [if_neg hin]
      by_cases hneg : x < 0
      · rw [chF_low cs _ ⟨x, by simp, hneg⟩, Int.mul_zero]
      · exfalso
        -- how many rows below are longer
        have hgex : ∃ g, i + g < m ∧ (∀ r, i < r → r ≤ i + g → x < ((pF zs r + (m - 1 - r) : Nat) : Int)) ∧ (i + g + 1 < m → ((pF zs (i + g + 1) + (m - 1 - (i + g + 1)) : Nat) : Int) < x) := by
          have key : ∀ d, d ≤ m - 1 - i → (∀ r, i < r → r ≤ i + d → x < ((pF zs r + (m - 1 - r) : Nat) : Int)) ∨ ∃ g, g < d ∧ i + g < m ∧ (∀ r, i < r → r ≤ i + g → x < ((pF zs r + (m - 1 - r) : Nat) : Int)) ∧ (i + g + 1 < m → ((pF zs (i + g + 1) + (m - 1 - (i + g + 1)) : Nat) : Int) < x) := fun d => by
            induction d with
            | zero => intro _; left; intro r q1 q2; omega
            | succ d ih =>
              intro hd
              rcases ih (by omega) with q | ⟨g, q0, q⟩
              · by_cases e : x < ((pF zs (i + d + 1) + (m - 1 - (i + d + 1)) : Nat) : Int)
                · left; intro r r1 r2
                  by_cases e2 : r = i + d + 1
                  · subst e2; exact e
                  · exact q r r1 (by omega)
                · right
                  refine ⟨d, by omega, by omega, q, fun q5 => ?_⟩
                  have hne : x ≠ ((pF zs (i + d + 1) + (m - 1 - (i + d + 1)) : Nat) : Int) := fun e3 => hin (by
                    rw [List.mem_iff_getElem]
                    refine ⟨d, by rw [hyl]; omega, ?_⟩
                    rw [hyg d (by rw [hyl]; omega), e3, show i + 1 + d = i + d + 1 by omega])
                  omega
              · right; exact ⟨g, by omega, q⟩
          rcases key (m - 1 - i) (Nat.le_refl _) with q | ⟨g, _, q⟩
          · exact ⟨m - 1 - i, by omega, q, fun z => by omega⟩
          · exact ⟨g, q⟩
        obtain ⟨g, g1, g2, g3⟩ := hgex
        have hxv : x = (pF zs i : Int) + ((m - 1 - i : Nat) : Int) - k := by rw [← hx, hb]; omega
        obtain ⟨j, hj⟩ : ∃ j : Nat, (j : Int) = (pF zs i : Int) + g - k := by
          refine ⟨((pF zs i : Int) + g - k).toNat, Int.toNat_of_nonneg ?_⟩
          by_cases e : i + g + 1 < m
          · have := g3 e; omega
          · omega
        have hjlo : pF zs (i + g + 1) ≤ j := by
          by_cases e : i + g + 1 < m
          · have := g3 e; omega
          · rw [pF_out (by omega)]; exact Nat.zero_le _
        have hjhi : j < pF zs (i + g) := by
          by_cases e : g = 0
          · subst e; rw [Nat.add_zero]; omega
          · have := g2 (i + g) (by omega) (Nat.le_refl _); omega
        have hji : j < pF zs i := by have := hmn i g; omega
        have hht : htF zs j = i + g + 1 := by
          have q1 := (htF_iff h (i + g) j).2 hjhi
          have q2 : ¬ i + g + 1 < htF zs j := fun z => by have := (htF_iff h (i + g + 1) j).1 z; omega
          omega
        exact hex ⟨j, hji, by unfold hkN; rw [hht]; omega⟩
/-- The character is the alternating sum. -/
theorem chi_chF {m : Nat} : ∀ (cs : List Nat) (zs : List Int), IsPt zs → zs.length ≤ m → (∀ k ∈ cs, 1 ≤ k) → chi cs zs = chF cs (btL (pF zs) m)
  | [], zs, h, _, _ => by
    rw [chi, chF, if_pos, sgL_down _ (btL_down (pF_anti h))]
    unfold nnB
    rw [List.all_eq_true]
    intro x hx
    unfold btL at hx
    obtain ⟨i, _, rfl⟩ := List.mem_map.1 hx
    exact decide_eq_true (Int.natCast_nonneg _)
  | k :: cs, zs, h, hm, hk => by
    rw [chi_step, chF, sumB_at, btL_len]
    obtain ⟨d, rfl⟩ : ∃ d, m = zs.length + d := ⟨m - zs.length, by omega⟩
    rw [← sZ_padX (f := fun i => sZ (fun j => if hkN zs i j = k then sg (htF zs j - 1 - i) * chi cs (stP zs i j) else 0) (pF zs i)) d (fun i hi => by rw [pF_out hi]; rfl)]
    refine sZ_congr _ fun i hi => ?_
    rw [chF_row h hm cs (hk k (by simp)) hi]
    refine sZ_congr _ fun j hj => ?_
    by_cases hil : i < zs.length
    · by_cases hc : hkN zs i j = k
      · have hlen : (stP zs i j).length ≤ zs.length := by rw [stP_len]; exact lfN_le zs i j
        rw [if_pos hc, if_pos hc, chi_chF (m := zs.length + d) cs (stP zs i j) (stP_pt h hil) (by omega) (fun q hq => hk q (by simp [hq])), show pF (stP zs i j) = rmF (pF zs) i j from funext (pF_stP h hil)]
      · rw [if_neg hc, if_neg hc]
    · rw [pF_out (by omega)] at hj; omega
/-- The cycles in any order. -/
theorem chi_perm {zs : List Int} (h : IsPt zs) {cs ds : List Nat} (hp : cs.Perm ds) (hk : ∀ k ∈ cs, 1 ≤ k) : chi cs zs = chi ds zs := by
  rw [chi_chF (m := zs.length) cs zs h (Nat.le_refl _) hk, chi_chF (m := zs.length) ds zs h (Nat.le_refl _) (fun k q => hk k (hp.mem_iff.2 q)), chF_perm hp]

end Go.Proofs.Ytheebpjkjclgbaa
