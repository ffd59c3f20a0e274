/-
  Partitions as functions; their hooks, turned over.
-/
import Derived.Test.YtmbpcapjldbkbaaDoorICnj
import Derived.Test.YtmbpcapjldbkbaaDoorHTsr
import Derived.Test.YtmbpcapjldbkbaaDoorHLow
namespace Go.Proofs.YtmbpcapjldbkbaaDoor
open Go.RowKit

theorem ptRoom_sum : ∀ (zs : List Int) (r : Int), 0 ≤ ptRoom r zs → sum zs + ptRoom r zs = r
  | [], r, _ => by simp [ptRoom, sum]
  | z :: l, r, h => by
    rw [ptRoom] at h ⊢
    split at h
    · omega
    · rename_i q
      rw [if_neg q, sum]
      have := ptRoom_sum l (r - z) h
      omega
theorem pt_of {zs : List Int} (h : ptC zs = 0) : IsPt zs := by
  unfold ptC at h
  split at h
  · rename_i h1
    split at h
    · omega
    · rename_i h2
      have hg := ptGoB_iff.1 h1
      have h1' : ∀ z ∈ zs, 1 ≤ z := fun z hz => by
        obtain ⟨j, hj, rfl⟩ := List.mem_iff_getElem.1 hz
        have := (hg j hj).1
        simpa [List.getD, hj] using this
      have hs := ptRoom_sum zs 40 (by omega)
      have key : ∀ l : List Int, (∀ z ∈ l, 1 ≤ z) → (l.length : Int) ≤ sum l ∧ ∀ z ∈ l, z ≤ sum l := by
        intro l
        induction l with
        | nil => intro _; exact ⟨by simp [sum], fun z hz => by cases hz⟩
        | cons a l ih =>
          intro hl
          have h3 := ih fun z hz => hl z (by simp [hz])
          have h4 := hl a (by simp)
          refine ⟨by simp only [List.length_cons, sum]; omega, fun z hz => ?_⟩
          rw [sum]
          rcases List.mem_cons.1 hz with rfl | q
          · omega
          · have := h3.2 z q; omega
      have hk := key zs h1'
      exact ⟨hg, by omega, fun z hz => ⟨h1' z hz, by have := hk.2 z hz; omega⟩, by omega⟩
  · omega
theorem of_pt {zs : List Int} (h : IsPt zs) : ptC zs = 0 := by
  unfold ptC
  rw [if_pos (ptGoB_pos h.goes), if_neg (by have := h.fits; omega)]
/-- Part i. -/
def pF (zs : List Int) (i : Nat) : Nat := (zs.getD i 0).toNat
theorem pF_out {zs : List Int} {i : Nat} (h : zs.length ≤ i) : pF zs i = 0 := by
  unfold pF; rw [List.getD, List.getElem?_eq_none h]; rfl
theorem pF_cast {zs : List Int} (h : IsPt zs) (i : Nat) : zs.getD i 0 = (pF zs i : Int) := by
  unfold pF
  by_cases hi : i < zs.length
  · have := (h.goes i hi).1; omega
  · rw [List.getD, List.getElem?_eq_none (by omega)]; rfl
theorem pF_pos {zs : List Int} (h : IsPt zs) {i : Nat} (hi : i < zs.length) : 0 < pF zs i := by
  have := (h.goes i hi).1; unfold pF; omega
theorem pF_anti {zs : List Int} (h : IsPt zs) (i : Nat) : pF zs (i + 1) ≤ pF zs i := by
  by_cases hi : i + 1 < zs.length
  · have := (h.goes (i + 1) hi).2 (by omega)
    rw [Nat.add_sub_cancel] at this
    unfold pF; omega
  · rw [pF_out (by omega)]; exact Nat.zero_le _
theorem pF_le {zs : List Int} (h : IsPt zs) (i : Nat) : pF zs i ≤ 40 := by
  by_cases hi : i < zs.length
  · have := (h.range (zs.getD i 0) (by simp [List.getD, hi])).2; unfold pF; omega
  · rw [pF_out (by omega)]; omega
theorem pF_mono {zs : List Int} (h : IsPt zs) (i d : Nat) : pF zs (i + d) ≤ pF zs i := by
  induction d with
  | zero => exact Nat.le_refl _
  | succ d ih => exact Nat.le_trans (pF_anti h (i + d)) ih
/-- How many parts reach column j. -/
def htF (zs : List Int) (j : Nat) : Nat := (ptCol zs j).toNat
theorem countP_iff (j : Nat) : ∀ (zs : List Int), (∀ i, pF zs (i + 1) ≤ pF zs i) → ∀ r, r < zs.countP (fun z => decide ((j : Int) < z)) ↔ j < pF zs r
  | [], _, r => by simp [pF]
  | z :: l, h, r => by
    have hl : ∀ i, pF l (i + 1) ≤ pF l i := fun i => h (i + 1)
    have e0 : pF (z :: l) 0 = z.toNat := rfl
    have es : ∀ i, pF (z :: l) (i + 1) = pF l i := fun i => rfl
    have hm : ∀ i, pF (z :: l) i ≤ z.toNat := fun i => by
      induction i with
      | zero => exact Nat.le_refl _
      | succ i ih => exact Nat.le_trans (h i) ih
    rw [List.countP_cons]
    by_cases q : (j : Int) < z
    · rw [if_pos (by simpa using q)]
      cases r with
      | zero => rw [e0]; omega
      | succ r => rw [es, ← countP_iff j l hl r]; omega
    · rw [if_neg (by simpa using q)]
      have h0 : l.countP (fun z => decide ((j : Int) < z)) = 0 := by
        rcases Nat.eq_zero_or_pos (l.countP (fun z => decide ((j : Int) < z))) with e | e
        · exact e
        · have := (countP_iff j l hl 0).1 e
          have := hm 1
          rw [es] at this; omega
      rw [h0]
      have := hm r
      omega
theorem htF_iff {zs : List Int} (h : IsPt zs) (r j : Nat) : r < htF zs j ↔ j < pF zs r := by
  rw [← countP_iff j zs (pF_anti h) r]
  unfold htF ptCol; omega
theorem htF_cast {zs : List Int} (j : Nat) : ptCol zs j = (htF zs j : Int) := by
  unfold htF; have := ptCol_nonneg zs j; omega
theorem htF_le {zs : List Int} (h : IsPt zs) (j : Nat) : htF zs j ≤ zs.length := by
  rcases Nat.lt_or_ge zs.length (htF zs j) with q | q
  · have := (htF_iff h zs.length j).1 q
    rw [pF_out (Nat.le_refl _)] at this; omega
  · exact q
theorem cq_iff {q : Nat → Nat} {j K : Nat} (h : ∀ s, j < q s ↔ s < K) : ∀ t, cq q j t = min K t
  | 0 => by simp [cq]
  | t + 1 => by
    rw [cq, cq_iff h t]
    by_cases e : t < K
    · rw [if_pos ((h t).2 e)]; omega
    · rw [if_neg (fun z => e ((h t).1 z))]; omega
/-- The hook of a box. -/
def hkN (zs : List Int) (i j : Nat) : Nat := (pF zs i - 1 - j) + (htF zs j - 1 - i) + 1
theorem hk_is {zs : List Int} (h : IsPt zs) {M i j : Nat} (hM : zs.length ≤ M) (hj : j < pF zs i) : hk (pF zs) M i j = (hkN zs i j : Int) := by
  have h1 := (htF_iff h i j).2 hj
  have h2 := htF_le h j
  unfold hk hkN
  rw [cq_iff (K := htF zs j - 1 - i) (fun s => by rw [← htF_iff h]; omega)]
  have : min (htF zs j - 1 - i) (M - 1 - i) = htF zs j - 1 - i := by omega
  rw [this]; omega
/-- The rows of hooks. -/
def hkR (zs : List Int) : List (List Nat) := (List.range zs.length).map fun i => (List.range (pF zs i)).map (hkN zs i)
theorem pL_range (f : Nat → Nat) : ∀ n, ((pL ((List.range n).map f) : Nat) : Int) = pZ (fun i => (f i : Int)) n
  | 0 => rfl
  | n + 1 => by rw [List.range_succ, List.map_append, pL_app, pZ, Int.natCast_mul, pL_range f n]; simp [pL]
theorem pL_flat : ∀ ls : List (List Nat), pL ls.flatten = pL (ls.map pL)
  | [] => rfl
  | l :: ls => by rw [List.flatten_cons, pL_app, List.map_cons, pL, pL_flat ls]
theorem pZ_one {f : Nat → Int} : ∀ n, (∀ i, i < n → f i = 1) → pZ f n = 1
  | 0, _ => rfl
  | n + 1, h => by rw [pZ, pZ_one n fun i hi => h i (by omega), h n (by omega)]; rfl
/-- A product over a shape, row by row. -/
theorem shape_prod (f : Nat → Nat → Nat) (P : Nat → Nat) {m M : Nat} (hM : m ≤ M) (h0 : ∀ i, m ≤ i → P i = 0) : ((pL ((List.range m).map fun i => (List.range (P i)).map (f i)).flatten : Nat) : Int) = pZ (fun i => pZ (fun j => (f i j : Int)) (P i)) M := by
  rw [pL_flat, List.map_map, show (pL ∘ fun i => (List.range (P i)).map (f i)) = fun i => pL ((List.range (P i)).map (f i)) from rfl, pL_range]
  obtain ⟨d, rfl⟩ : ∃ d, M = m + d := ⟨M - m, by omega⟩
  rw [pZ_add, pZ_one d (fun i _ => by rw [h0 _ (by omega)]; rfl), Int.mul_one]
  exact pZ_congr m fun i _ => pL_range _ _
theorem hkR_prod {zs : List Int} (h : IsPt zs) {M : Nat} (hM : zs.length ≤ M) : ((pL (hkR zs).flatten : Nat) : Int) = pZ (fun i => pZ (hk (pF zs) M i) (pF zs i)) M := by
  unfold hkR
  rw [shape_prod (hkN zs) (pF zs) hM (fun i hi => pF_out hi)]
  exact pZ_congr M fun i _ => pZ_congr _ fun j hj => (hk_is h hM hj).symm
theorem hkR_pos (zs : List Int) : ∀ z ∈ (hkR zs).flatten, 0 < z := fun z hz => by
  obtain ⟨l, hl, hz⟩ := List.mem_flatten.1 hz
  unfold hkR at hl
  obtain ⟨i, _, rfl⟩ := List.mem_map.1 hl
  obtain ⟨j, _, rfl⟩ := List.mem_map.1 hz
  unfold hkN; omega
theorem hkR_le {zs : List Int} (h : IsPt zs) : ∀ z ∈ (hkR zs).flatten, 0 < z ∧ z ≤ 1000 := fun z hz => by
  refine ⟨hkR_pos zs z hz, ?_⟩
  obtain ⟨l, hl, hz⟩ := List.mem_flatten.1 hz
  unfold hkR at hl
  obtain ⟨i, _, rfl⟩ := List.mem_map.1 hl
  obtain ⟨j, _, rfl⟩ := List.mem_map.1 hz
  have h1 := pF_le h i
  have h2 := htF_le h j
  have h3 := h.len
  unfold hkN; omega
/-- How many boxes. -/
def szN (zs : List Int) : Nat := (hkR zs).flatten.length
theorem len_rows (f : Nat → Nat → Nat) (P : Nat → Nat) : ∀ m, (((List.range m).map fun i => (List.range (P i)).map (f i)).flatten.length : Int) = sZ (fun i => (P i : Int)) m
  | 0 => rfl
  | m + 1 => by
    rw [List.range_succ, List.map_append, List.flatten_append, List.length_append, sZ, ← len_rows f P m]
    simp
theorem szN_sum {zs : List Int} {M : Nat} (hM : zs.length ≤ M) : sZ (fun i => (pF zs i : Int)) M = (szN zs : Int) := by
  unfold szN hkR
  rw [len_rows (hkN zs) (pF zs)]
  obtain ⟨d, rfl⟩ : ∃ d, M = zs.length + d := ⟨M - zs.length, by omega⟩
  clear hM
  induction d with
  | zero => rfl
  | succ d ih => rw [← Nat.add_assoc, sZ, ih, pF_out (by omega)]; simp
/-- 1 .. n. -/
def upTo (n : Nat) : List Nat := (List.range n).map (· + 1)
theorem upTo_prod (n : Nat) : ((pL (upTo n) : Nat) : Int) = fct n := by
  unfold upTo fct
  rw [pL_range]
  exact pZ_congr n fun i _ => by omega
/-- The hooks' product divides. -/
theorem std_dvd {zs : List Int} (h : IsPt zs) : pL (hkR zs).flatten ∣ pL (upTo (szN zs)) := by
  have e := hook_fsd (P := pF zs) zs.length (szN zs) (pF_anti h) (szN_sum (Nat.le_refl _))
  rw [← hkR_prod h (Nat.le_refl _), ← upTo_prod] at e
  exact Int.natCast_dvd_natCast.1 ⟨_, e.symm⟩
/-- The factors of the places. -/
def ctR (zs : List Int) (M : Nat) : List (List Nat) := (List.range zs.length).map fun i => (List.range (pF zs i)).map fun j => M + j - i
/-- All tableaux, as package fill lists them. -/
def tabsOf (zs : List Int) (M : Nat) : List (List (List Nat)) := tsr (fun i j => M + 1 + i - htF zs j) (pF zs) zs.length (bxR (pF zs) 0 zs.length) (fun _ _ => 0)
theorem fil_prod {zs : List Int} (h : IsPt zs) {M : Nat} (hM : zs.length ≤ M) : pL (hkR zs).flatten * (tabsOf zs M).length = pL (ctR zs M).flatten := by
  have e := tsr_len (c := pF zs) (ht := htF zs) hM (fun r hr => pF_out hr) (pF_anti h) (htF_iff h)
  rw [← hkR_prod h hM] at e
  have e2 : ((pL (ctR zs M).flatten : Nat) : Int) = ctn (pF zs) M := by
    unfold ctR ctn
    rw [shape_prod (fun i j => M + j - i) (pF zs) hM (fun i hi => pF_out hi)]
    refine pZ_congr M fun i hi => pZ_congr _ fun j _ => ?_
    omega
  rw [← e2] at e
  exact Int.natCast_inj.1 (by rw [Int.natCast_mul]; exact e)
theorem ctR_le {zs : List Int} (h : IsPt zs) {M : Nat} (hM : zs.length ≤ M) (hM2 : M ≤ 99) : ∀ z ∈ (ctR zs M).flatten, 0 < z ∧ z ≤ 1000 := fun z hz => by
  obtain ⟨l, hl, hz⟩ := List.mem_flatten.1 hz
  unfold ctR at hl
  obtain ⟨i, hi, rfl⟩ := List.mem_map.1 hl
  obtain ⟨j, hj, rfl⟩ := List.mem_map.1 hz
  have := List.mem_range.1 hi
  have := List.mem_range.1 hj
  have := pF_le h i
  omega
theorem tabs_pos {zs : List Int} (h : IsPt zs) {M : Nat} (hM : zs.length ≤ M) (hM2 : M ≤ 99) : (tabsOf zs M).length ≠ 0 := fun e => by
  have h1 := fil_prod h hM
  rw [e, Nat.mul_zero] at h1
  have := pL_pos fun a ha => (ctR_le h hM hM2 a ha).1
  omega
theorem tabs_none {zs : List Int} (h : IsPt zs) {M : Nat} (hM : M < zs.length) : tabsOf zs M = [] :=
  tsr_none hM (fun _ hr => pF_pos h hr) (htF_iff h)

theorem tab_atX {n : Nat} {f : Nat → Int} {j : Nat} (h : j < n) : (tab n f).getD j 0 = f j := by simp [tab, List.getD, h]
/-- Turned over. -/
theorem conj_pF {zs : List Int} (h : IsPt zs) (j : Nat) : pF (ptConj zs) j = htF zs j := by
  unfold pF ptConj
  have hl : (tab (zs.getD 0 0).toNat (ptCol zs)).length = pF zs 0 := by simp [tab, pF]
  by_cases hj : j < pF zs 0
  · rw [show (tab (zs.getD 0 0).toNat (ptCol zs)).getD j 0 = ptCol zs j from tab_atX (n := (zs.getD 0 0).toNat) hj]; rfl
  · rw [List.getD, List.getElem?_eq_none (by rw [hl]; omega)]
    have : ¬ 0 < htF zs j := fun q => hj ((htF_iff h 0 j).1 q)
    show (0 : Int).toNat = _
    simp; omega
theorem conj_len (zs : List Int) : (ptConj zs).length = pF zs 0 := by simp [ptConj, tab, pF]
theorem pZ_swap (f : Nat → Nat → Int) (m : Nat) : ∀ n, pZ (fun i => pZ (f i) m) n = pZ (fun j => pZ (fun i => f i j) n) m
  | 0 => by simp only [pZ]; rw [pZ_one m fun _ _ => rfl]
  | n + 1 => by rw [pZ, pZ_swap f m n, ← pZ_mul]; rfl
theorem pZ_pad (f : Nat → Int) {a A : Nat} (h : a ≤ A) : pZ f a = pZ (fun j => if j < a then f j else 1) A := by
  obtain ⟨d, rfl⟩ : ∃ d, A = a + d := ⟨A - a, by omega⟩
  rw [pZ_add, pZ_one d (fun i _ => if_neg (by omega)), Int.mul_one]
  exact pZ_congr a fun i hi => (if_pos hi).symm
theorem sZ_pad (f : Nat → Int) {a A : Nat} (h : a ≤ A) : sZ f a = sZ (fun j => if j < a then f j else 0) A := by
  obtain ⟨d, rfl⟩ : ∃ d, A = a + d := ⟨A - a, by omega⟩
  clear h
  induction d with
  | zero => exact sZ_congr a fun i hi => (if_pos hi).symm
  | succ d ih => rw [← Nat.add_assoc, sZ, ← ih, if_neg (by omega)]; omega
theorem sZ_ones : ∀ n : Nat, sZ (fun _ => 1) n = (n : Int)
  | 0 => rfl
  | n + 1 => by rw [sZ, sZ_ones n]; omega
theorem conj_sum {zs : List Int} (h : IsPt zs) : sZ (fun j => (htF zs j : Int)) (pF zs 0) = sZ (fun i => (pF zs i : Int)) zs.length := by
  have e1 : ∀ i, i < zs.length → (pF zs i : Int) = sZ (fun j => if j < pF zs i then 1 else 0) (pF zs 0) := fun i _ => by
    rw [← sZ_ones (pF zs i), sZ_pad _ (by have := pF_mono h 0 i; rwa [Nat.zero_add] at this)]
  have e2 : ∀ j, j < pF zs 0 → (htF zs j : Int) = sZ (fun i => if i < htF zs j then 1 else 0) zs.length := fun j _ => by
    rw [← sZ_ones (htF zs j), sZ_pad _ (htF_le h j)]
  rw [sZ_congr _ e1, sZ_congr _ e2, sZ_swap]
  refine sZ_congr _ fun i _ => sZ_congr _ fun j _ => ?_
  by_cases q : j < pF zs i
  · rw [if_pos q, if_pos ((htF_iff h i j).2 q)]
  · rw [if_neg q, if_neg (fun z => q ((htF_iff h i j).1 z))]
theorem sum_sZ : ∀ (zs : List Int), (∀ z ∈ zs, 0 ≤ z) → sum zs = sZ (fun i => (pF zs i : Int)) zs.length
  | [], _ => rfl
  | z :: l, h => by
    rw [sum, List.length_cons, sZ_shift, sum_sZ l fun y hy => h y (by simp [hy])]
    have : pF (z :: l) 0 = z.toNat := rfl
    have := h z (by simp)
    have e : ((pF (z :: l) 0 : Nat) : Int) = z := by omega
    rw [e]; rfl
theorem ptRoom_of : ∀ (zs : List Int) (r : Int), (∀ z ∈ zs, 0 ≤ z) → sum zs ≤ r → 0 ≤ ptRoom r zs
  | [], r, _, h => by simp [ptRoom, sum] at h ⊢; omega
  | z :: l, r, h0, h => by
    rw [sum] at h
    have hl : 0 ≤ sum l := by
      have : ∀ l : List Int, (∀ z ∈ l, 0 ≤ z) → 0 ≤ sum l := by
        intro l
        induction l with
        | nil => intro _; simp [sum]
        | cons a l ih => intro hh; rw [sum]; have := ih fun z hz => hh z (by simp [hz]); have := hh a (by simp); omega
      exact this l fun y hy => h0 y (by simp [hy])
    rw [ptRoom, if_neg (by omega)]
    exact ptRoom_of l (r - z) (fun y hy => h0 y (by simp [hy])) (by omega)
theorem conj_pt {zs : List Int} (h : IsPt zs) : IsPt (ptConj zs) := by
  have hat : ∀ j, j < (ptConj zs).length → (ptConj zs).getD j 0 = (htF zs j : Int) := fun j hj => by
    rw [conj_len] at hj
    unfold ptConj
    rw [show (tab (zs.getD 0 0).toNat (ptCol zs)).getD j 0 = ptCol zs j from tab_atX hj, htF_cast]
  have hpos : ∀ j, j < pF zs 0 → 0 < htF zs j := fun j hj => (htF_iff h 0 j).2 hj
  have hanti : ∀ j, htF zs (j + 1) ≤ htF zs j := fun j => by
    rcases Nat.lt_or_ge (htF zs j) (htF zs (j + 1)) with q | q
    · have h1 := (htF_iff h (htF zs j) (j + 1)).1 q
      have h2 := (htF_iff h (htF zs j) j).2 (by omega)
      omega
    · exact q
  have hmem : ∀ z ∈ ptConj zs, 1 ≤ z ∧ z ≤ 40 := fun z hz => by
    obtain ⟨j, hj, rfl⟩ := List.mem_iff_getElem.1 hz
    have e := hat j hj
    rw [List.getD, List.getElem?_eq_getElem hj] at e
    have h1 := hpos j (by rw [← conj_len]; exact hj)
    have h2 := htF_le h j
    have h3 := h.len
    simp only [Option.getD_some] at e
    omega
  refine ⟨fun j hj => ⟨?_, fun h0 => ?_⟩, ?_, hmem, by rw [conj_len]; exact pF_le h 0⟩
  · rw [hat j hj]; have := hpos j (by rw [← conj_len]; exact hj); omega
  · rw [hat j hj, hat (j - 1) (by omega)]
    have := hanti (j - 1)
    rw [show j - 1 + 1 = j by omega] at this
    omega
  · refine ptRoom_of _ _ (fun z hz => by have := hmem z hz; omega) ?_
    rw [sum_sZ _ (fun z hz => by have := hmem z hz; omega), conj_len, sZ_congr _ (fun j _ => by rw [conj_pF h]), conj_sum h, ← sum_sZ zs (fun z hz => by have := h.range z hz; omega)]
    have := ptRoom_sum zs 40 h.fits
    have := h.fits
    omega
theorem conj_htF {zs : List Int} (h : IsPt zs) (i : Nat) : htF (ptConj zs) i = pF zs i := by
  have key : ∀ j, j < htF (ptConj zs) i ↔ j < pF zs i := fun j => by rw [htF_iff (conj_pt h), conj_pF h, htF_iff h]
  rcases Nat.lt_trichotomy (htF (ptConj zs) i) (pF zs i) with q | q | q
  · have := (key _).2 q; omega
  · exact q
  · have := (key _).1 q; omega
theorem conj_hook {zs : List Int} (h : IsPt zs) : pL (hkR (ptConj zs)).flatten = pL (hkR zs).flatten ∧ szN (ptConj zs) = szN zs := by
  refine ⟨?_, ?_⟩
  · have e1 : ((pL (hkR zs).flatten : Nat) : Int) = pZ (fun i => pZ (fun j => if j < pF zs i then (hkN zs i j : Int) else 1) (pF zs 0)) zs.length := by
      unfold hkR
      rw [shape_prod (hkN zs) (pF zs) (Nat.le_refl _) (fun i hi => pF_out hi)]
      exact pZ_congr _ fun i _ => pZ_pad _ (by have := pF_mono h 0 i; rwa [Nat.zero_add] at this)
    have e2 : ((pL (hkR (ptConj zs)).flatten : Nat) : Int) = pZ (fun j => pZ (fun i => if i < htF zs j then (hkN zs i j : Int) else 1) zs.length) (pF zs 0) := by
      unfold hkR
      rw [shape_prod (hkN (ptConj zs)) (pF (ptConj zs)) (Nat.le_refl _) (fun i hi => pF_out hi), conj_len]
      refine pZ_congr _ fun j _ => ?_
      rw [conj_pF h, pZ_pad _ (htF_le h j)]
      refine pZ_congr _ fun i _ => ?_
      by_cases q : i < htF zs j
      · rw [if_pos q, if_pos q]
        unfold hkN
        rw [conj_pF h, conj_htF h]; omega
      · rw [if_neg q, if_neg q]
    rw [pZ_swap] at e1
    refine Int.natCast_inj.1 ?_
    rw [e1, e2]
    refine pZ_congr _ fun j _ => pZ_congr _ fun i _ => ?_
    by_cases q : i < htF zs j
    · rw [if_pos q, if_pos ((htF_iff h i j).1 q)]
    · rw [if_neg q, if_neg (fun z => q ((htF_iff h i j).2 z))]
  · have a := szN_sum (zs := ptConj zs) (Nat.le_refl _)
    have b := szN_sum (zs := zs) (Nat.le_refl _)
    rw [conj_len, sZ_congr _ (fun j _ => by rw [conj_pF h]), conj_sum h, b] at a
    exact (Int.natCast_inj.1 a).symm

end Go.Proofs.YtmbpcapjldbkbaaDoor
