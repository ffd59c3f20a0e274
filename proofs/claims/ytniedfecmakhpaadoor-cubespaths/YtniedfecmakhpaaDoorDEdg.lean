/-
  The edges of a pile's levels, and back: plain mathematics.
-/
import Derived.Test.YtniedfecmakhpaaDoorDMth
namespace Go.Proofs.YtniedfecmakhpaaDoor

/-- where the walk stands after d rows (from the last one back) -/
def gn (bx : Nat → Nat) (r : Nat) : Nat → Nat
  | 0 => 0
  | d + 1 => bx (r - 1 - d)
/-- its text after d rows -/
def et (bx : Nat → Nat) (r : Nat) : Nat → List UInt8
  | 0 => []
  | d + 1 => (et bx r d ++ List.replicate (bx (r - 1 - d) - gn bx r d) 82) ++ [85]
def edg (bx : Nat → Nat) (r c : Nat) : List UInt8 := et bx r r ++ List.replicate (c - gn bx r r) 82

/-- boxes of the rows, from the last one back -/
def bxs : Nat → List UInt8 → List Nat
  | _, [] => []
  | g, b :: s => if b = 82 then bxs (g + 1) s else g :: bxs g s
theorem bxs_append : ∀ (s t : List UInt8) (g : Nat), bxs g (s ++ t) = bxs g s ++ bxs (g + s.count 82) t
  | [], t, g => by simp [bxs]
  | b :: s, t, g => by
    simp only [List.cons_append, bxs]
    by_cases h : b = 82
    · subst h
      simp only [if_true, List.count_cons_self]
      rw [bxs_append s t (g + 1), show g + 1 + s.count 82 = g + (s.count 82 + 1) by omega]
    · rw [if_neg h, if_neg h, bxs_append s t g, List.count_cons_of_ne h]; rfl
theorem bxs_right : ∀ (n g : Nat), bxs g (List.replicate n 82) = []
  | 0, _ => rfl
  | n + 1, g => by rw [List.replicate_succ]; simp only [bxs, if_true]; exact bxs_right n (g + 1)
theorem bxs_len : ∀ (s : List UInt8) (g : Nat), (bxs g s).length + s.count 82 = s.length
  | [], _ => rfl
  | b :: s, g => by
    simp only [bxs]
    by_cases h : b = 82
    · subst h; simp only [if_true, List.count_cons_self, List.length_cons]; have := bxs_len s (g + 1); omega
    · rw [if_neg h, List.count_cons_of_ne h]; simp only [List.length_cons]; have := bxs_len s g; omega
theorem bxs_le : ∀ (s : List UInt8) (g : Nat), ∀ x ∈ bxs g s, x ≤ g + s.count 82
  | [], _, x, h => by simp [bxs] at h
  | b :: s, g, x, h => by
    simp only [bxs] at h
    by_cases hb : b = 82
    · subst hb; simp only [if_true] at h; have := bxs_le s (g + 1) x h; rw [List.count_cons_self]; omega
    · rw [if_neg hb] at h
      rw [List.count_cons_of_ne hb]
      rcases List.mem_cons.1 h with rfl | h
      · omega
      · exact bxs_le s g x h

def isE (r c : Nat) (s : List UInt8) : Prop := s.length = r + c ∧ s.count 85 = r ∧ s.count 82 = c
instance (r c : Nat) (s : List UInt8) : Decidable (isE r c s) := inferInstanceAs (Decidable (_ ∧ _ ∧ _))
/-- how many boxes in row i -/
def bo (s : List UInt8) (i : Nat) : Nat := (bxs 0 s).reverse.getD i 0
theorem isE.len {r c : Nat} {s : List UInt8} (h : isE r c s) : (bxs 0 s).length = r := by have := bxs_len s 0; have := h.1; have := h.2.2; omega
theorem bo_le {r c : Nat} {s : List UInt8} (h : isE r c s) (i : Nat) : bo s i ≤ c := by
  unfold bo
  by_cases hi : i < (bxs 0 s).reverse.length
  · have hm : (bxs 0 s).reverse.getD i 0 ∈ bxs 0 s := by
      rw [← List.mem_reverse]; simp [List.getD, List.getElem?_eq_getElem hi]
    have := bxs_le s 0 _ hm
    rw [h.2.2] at this
    omega
  · simp [List.getD, List.getElem?_eq_none (Nat.le_of_not_lt hi)]

def add1 (bx : Nat → Nat) (Q : Nat → Nat → Nat) (i j : Nat) : Nat := if j < bx i then Q i j + 1 else Q i j
/-- a box that lies on nothing -/
def bad1 (r k : Nat) (bx : Nat → Nat) (Q : Nat → Nat → Nat) : Prop := ∃ i, i < r ∧ ∃ j, j < bx i ∧ Q i j < k
/-- FromPaths, text by text -/
noncomputable def frm (r c : Nat) : Nat → (Nat → Nat → Nat) → List (List UInt8) → Int × (Nat → Nat → Nat)
  | _, Q, [] => (0, Q)
  | k, Q, s :: l => open Classical in if ¬ isE r c s then (1, Q) else if bad1 r k (bo s) Q then (3, Q) else frm r c (k + 1) (add1 (bo s) Q) l

section walk
variable {bx : Nat → Nat} {r c : Nat} (hd : ∀ i, i + 1 < r → bx (i + 1) ≤ bx i) (hc : ∀ i, i < r → bx i ≤ c)
include hd in
theorem gn_le : ∀ d, d < r → gn bx r d ≤ bx (r - 1 - d)
  | 0, _ => Nat.zero_le _
  | d + 1, h => by
    have := hd (r - 1 - (d + 1)) (by omega)
    rw [show r - 1 - (d + 1) + 1 = r - 1 - d by omega] at this
    exact this
include hd in
theorem et_right : ∀ d, d ≤ r → (et bx r d).count 82 = gn bx r d
  | 0, _ => rfl
  | d + 1, h => by
    have h1 := gn_le hd d h
    have h2 := et_right d (by omega)
    rw [show gn bx r (d + 1) = bx (r - 1 - d) from rfl]
    simp only [et, List.count_append, List.count_replicate_self, h2]
    rw [show List.count 82 [(85 : UInt8)] = 0 by decide]
    omega
theorem et_up : ∀ d, (et bx r d).count 85 = d
  | 0 => rfl
  | d + 1 => by
    have h2 := et_up d
    simp only [et, List.count_append, h2]
    rw [show List.count 85 [(85 : UInt8)] = 1 by decide, List.count_replicate]
    simp
theorem et_len : ∀ d, (et bx r d).length = (et bx r d).count 82 + d
  | 0 => rfl
  | d + 1 => by
    have h2 := et_len d
    simp only [et, List.length_append, List.count_append, List.count_replicate_self, List.length_replicate, List.length_singleton]
    rw [show List.count 82 [(85 : UInt8)] = 0 by decide]
    omega
include hd in
theorem et_bxs : ∀ d, d ≤ r → bxs 0 (et bx r d) = (List.range d).map fun t => bx (r - 1 - t)
  | 0, _ => rfl
  | d + 1, h => by
    have h1 := gn_le hd d h
    simp only [et]
    rw [bxs_append, bxs_append, bxs_right, et_bxs d (by omega), List.range_succ, List.map_append, List.append_nil, List.count_append, List.count_replicate_self, et_right hd d (by omega)]
    simp only [bxs, List.map_cons, List.map_nil]
    rw [if_neg (by decide), show 0 + (gn bx r d + (bx (r - 1 - d) - gn bx r d)) = bx (r - 1 - d) by omega]
include hc in
theorem gn_c (d : Nat) (h : d ≤ r) : gn bx r d ≤ c := by
  cases d with
  | zero => exact Nat.zero_le _
  | succ d => exact hc _ (by omega)
include hd hc in
theorem edg_isE : isE r c (edg bx r c) := by
  have h1 := et_right hd r (Nat.le_refl _)
  have h2 := gn_c hc r (Nat.le_refl _)
  have h3 := et_len (bx := bx) (r := r) r
  have h4 := et_up (bx := bx) (r := r) r
  refine ⟨?_, ?_, ?_⟩
  · simp only [edg, List.length_append, List.length_replicate]; omega
  · simp only [edg, List.count_append, h4]; rw [List.count_replicate]; simp
  · simp only [edg, List.count_append, List.count_replicate_self]; omega
include hd in
theorem edg_bo {i : Nat} (hi : i < r) : bo (edg bx r c) i = bx i := by
  unfold bo edg
  rw [bxs_append, bxs_right, List.append_nil, et_bxs hd r (Nat.le_refl _)]
  have hl : i < ((List.range r).map fun t => bx (r - 1 - t)).reverse.length := by simp; exact hi
  rw [List.getD, List.getElem?_eq_getElem hl]
  simp only [Option.getD_some, List.getElem_reverse, List.getElem_map, List.getElem_range, List.length_map, List.length_range]
  congr 1
  omega
end walk

/-- boxes of level k (from 0 on) in row i -/
def lvl (c : Nat) (P : Nat → Nat → Nat) (k i : Nat) : Nat := cn c fun j => k + 1 ≤ P i j
theorem lvl_down {r c h : Nat} {P : Nat → Nat → Nat} (p : Pil r c h P) (k i : Nat) (hi : i + 1 < r) : lvl c P k (i + 1) ≤ lvl c P k i :=
  cn_mono (fun j hj h => by have := p.col i hi j hj; omega)
theorem lt_lvl {r c h : Nat} {P : Nat → Nat → Nat} (p : Pil r c h P) (k : Nat) {i : Nat} (hi : i < r) (j : Nat) : j < lvl c P k i ↔ j < c ∧ k + 1 ≤ P i j :=
  lt_cn (f := fun j => k + 1 ≤ P i j) (fun j hj hz => by have := p.row i hi j hj; omega) j

/-- Paths -/
def pths (r c h : Nat) (P : Nat → Nat → Nat) : List (List UInt8) := (List.range h).map fun k => edg (lvl c P k) r c

theorem frm_congr {r c : Nat} : ∀ (l : List (List UInt8)) (k : Nat) {Q Q' : Nat → Nat → Nat}, (∀ i, i < r → ∀ j, j < c → Q i j = Q' i j) → (frm r c k Q l).1 = (frm r c k Q' l).1 ∧ ∀ i, i < r → ∀ j, j < c → (frm r c k Q l).2 i j = (frm r c k Q' l).2 i j
  | [], _, _, _, h => ⟨rfl, h⟩
  | s :: l, k, Q, Q', h => by
    unfold frm
    by_cases hs : isE r c s
    · rw [if_neg (not_not_intro hs), if_neg (not_not_intro hs)]
      have hb : bad1 r k (bo s) Q ↔ bad1 r k (bo s) Q' :=
        ⟨fun ⟨i, hi, j, hj, hq⟩ => ⟨i, hi, j, hj, by rw [← h i hi j (Nat.lt_of_lt_of_le hj (bo_le hs i))]; exact hq⟩,
         fun ⟨i, hi, j, hj, hq⟩ => ⟨i, hi, j, hj, by rw [h i hi j (Nat.lt_of_lt_of_le hj (bo_le hs i))]; exact hq⟩⟩
      by_cases hq : bad1 r k (bo s) Q
      · rw [if_pos hq, if_pos (hb.1 hq)]; exact ⟨rfl, h⟩
      · rw [if_neg hq, if_neg (fun x => hq (hb.2 x))]
        exact frm_congr l (k + 1) (fun i hi j hj => by unfold add1; rw [h i hi j hj])
    · rw [if_pos hs, if_pos hs]; exact ⟨rfl, h⟩

theorem frm_level {r c h : Nat} {P : Nat → Nat → Nat} (p : Pil r c h P) : ∀ (d k : Nat) (Q : Nat → Nat → Nat), k + d = h → (∀ i, i < r → ∀ j, j < c → Q i j = min (P i j) k) →
    (frm r c k Q ((List.range' k d).map fun k => edg (lvl c P k) r c)).1 = 0 ∧ ∀ i, i < r → ∀ j, j < c → (frm r c k Q ((List.range' k d).map fun k => edg (lvl c P k) r c)).2 i j = P i j
  | 0, k, Q, hk, hQ => ⟨rfl, fun i hi j hj => by have := p.le i hi j hj; show Q i j = _; rw [hQ i hi j hj]; omega⟩
  | d + 1, k, Q, hk, hQ => by
    have hE : isE r c (edg (lvl c P k) r c) := edg_isE (lvl_down p k) (fun i _ => cn_le _ _)
    rw [List.range'_succ, List.map_cons]
    unfold frm
    rw [if_neg (not_not_intro hE), if_neg (by
      rintro ⟨i, hi, j, hj, hq⟩
      rw [edg_bo (lvl_down p k) hi, lt_lvl p k hi] at hj
      rw [hQ i hi j hj.1] at hq
      omega)]
    refine frm_level p d (k + 1) _ (by omega) (fun i hi j hj => ?_)
    unfold add1
    rw [edg_bo (lvl_down p k) hi, hQ i hi j hj]
    by_cases hl : j < lvl c P k i
    · rw [if_pos hl]; have := (lt_lvl p k hi j).1 hl; omega
    · rw [if_neg hl]
      have : ¬ (k + 1 ≤ P i j) := fun x => hl ((lt_lvl p k hi j).2 ⟨hj, x⟩)
      omega

theorem frm_pths {r c h : Nat} {P : Nat → Nat → Nat} (p : Pil r c h P) : (frm r c 0 (fun _ _ => 0) (pths r c h P)).1 = 0 ∧ tb r c (frm r c 0 (fun _ _ => 0) (pths r c h P)).2 = tb r c P := by
  have := frm_level p h 0 (fun _ _ => 0) (by omega) (fun i _ j _ => by omega)
  rw [← List.range_eq_range'] at this
  exact ⟨this.1, tb_congr this.2⟩

end Go.Proofs.YtniedfecmakhpaaDoor
