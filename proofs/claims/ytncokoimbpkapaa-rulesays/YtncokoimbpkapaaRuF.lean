/-
  Both lists of right fillings: as many, and in order the same.
-/
import Derived.Test.YtncokoimbpkapaaRwG
import Derived.Test.YtncokoimbpkapaaRuD
namespace Go.Proofs.Ytncokoimbpkapaa
open Go.RowKit

theorem flat_le {α β : Type} (f : α → List β) (M : Nat) : ∀ l : List α, (∀ t ∈ l, (f t).length ≤ M) → (l.flatMap f).length ≤ l.length * M := by
  intro l
  induction l with
  | nil => intro _; simp
  | cons a l ih =>
    intro h
    have h1 := h a (by simp)
    have h2 := ih (fun t ht => h t (by simp [ht]))
    rw [List.flatMap_cons, List.length_append, List.length_cons, Nat.add_mul, Nat.one_mul]
    omega
/-- One strip more: so many ways at most. -/
theorem strip_len {a b c : Nat → Nat} {m x k : Nat} {t : List (List Nat)} (h : PF a b c m x t) (hs : sumN (len2 t) m + k ≤ 16) : (gwn (len2 t) c m k).length ≤ 6 ^ k := by
  unfold gwn
  rw [List.length_map]
  rcases Nat.eq_zero_or_pos m with h0 | h0
  · subst h0
    rw [grN]
    have := Nat.one_le_pow k 6 (by omega)
    split <;> simp <;> omega
  · refine gr_len h0 (fun r _ => h.dec r) ?_
    rw [sumU_eq, show m - 1 + 1 = m by omega]
    simpa using hs
theorem ref_len {al : List Nat} {b c : Nat → Nat} {m : Nat} (hm : ∀ r, m ≤ r → c r = 0) (ha : ∀ r, al.getD (r + 1) 0 ≤ al.getD r 0) (hpos : ∀ r, r < al.length → 0 < al.getD r 0) (hac : ∀ r, al.getD r 0 ≤ c r) :
    ∀ x, sumN (fun r => al.getD r 0) m + sumN (fun y => b (y + 1)) x ≤ 16 → (refL al b c m x).length ≤ 6 ^ sumN (fun y => b (y + 1)) x := by
  intro x
  induction x with
  | zero => intro _; simp [refL, sumN]
  | succ x ih =>
    intro h
    rw [sumN_succ] at h ⊢
    rw [refL, Nat.pow_add]
    refine Nat.le_trans (flat_le _ (6 ^ b (x + 1)) _ (fun t ht => ?_)) (Nat.mul_le_mul_right _ (ih (by omega)))
    refine Nat.le_trans (List.length_filter_le _ _) ?_
    rw [List.length_map]
    have hp := (mem_refL hm ha hpos hac x t).1 ht
    exact strip_len hp (by have := hp.total; omega)
theorem Tri.out {al bl cl : List Nat} (_ : Tri al bl cl) : ∀ r, cl.length ≤ r → (fun r => cl.getD r 0) r = 0 := fun _ h => getD_out h
/-- The two searches find the same. -/
theorem rgt_perm {al bl cl : List Nat} (T : Tri al bl cl) : (rgt al bl cl).Perm (refL al (bOf bl) (fun r => cl.getD r 0) cl.length bl.length) := by
  refine (List.perm_ext_iff_of_nodup (srch_nodup _ _ _ _ _ _ _ (ord_bxs _ _ _) (fun p hp => ?_)) (nodup_refL T.out T.ad T.ap T.ac _)).2 (fun t => ?_)
  · obtain ⟨r, j⟩ := p
    have := mem_bxs.1 hp
    exact ⟨this.1, this.2.2⟩
  · rw [mem_refL T.out T.ad T.ap T.ac]
    exact srch_PF T t
theorem flat_inj : ∀ {s t : List (List Int)}, s.map List.length = t.map List.length → s.flatten = t.flatten → s = t := by
  intro s
  induction s with
  | nil => intro t h _; cases t with
    | nil => rfl
    | cons a t => simp at h
  | cons a s ih =>
    intro t h e
    cases t with
    | nil => simp at h
    | cons b t =>
      simp only [List.map_cons, List.cons.injEq] at h
      simp only [List.flatten_cons] at e
      obtain ⟨e1, e2⟩ := List.append_inj e h.1
      rw [e1, ih h.2 e2]
/-- What is in order, of one shape, and made of the same tables is the same. -/
theorem sorted_same {ts ts' : List (List (List Int))} (hp : ts.Perm ts') (h1 : Sorted ts) (h2 : Sorted ts') (hs : ∀ s ∈ ts, ∀ t ∈ ts, s.map List.length = t.map List.length) : ts = ts' :=
  List.Perm.eq_of_pairwise (le := fun (a b : List (List Int)) => ¬ cmpL b.flatten a.flatten < 0) (fun a b ha hb (q1 : ¬ cmpL b.flatten a.flatten < 0) (q2 : ¬ cmpL a.flatten b.flatten < 0) => flat_inj (hs a ha b (hp.mem_iff.2 hb)) (cmpL_eq q2 q1)) h1 h2 hp
theorem castT_shape (t : List (List Nat)) : (castT t).map List.length = t.map List.length := by
  unfold castT
  rw [List.map_map]
  exact List.map_congr_left fun l _ => castL_len l
/-- Both lists, in order, are one. -/
theorem both_same {al bl cl : List Nat} (T : Tri al bl cl) {ts ts' : List (List (List Int))} (hp : ts.Perm ((rgt al bl cl).map castT)) (hp' : ts'.Perm ((refL al (bOf bl) (fun r => cl.getD r 0) cl.length bl.length).map castT)) (h1 : Sorted ts) (h2 : Sorted ts') : ts = ts' := by
  refine sorted_same (hp.trans (((rgt_perm T).map castT).trans hp'.symm)) h1 h2 (fun s hs t ht => ?_)
  have key : ∀ s ∈ ts, s.map List.length = (List.range cl.length).map (fun r => cl.getD r 0) := fun s hs => by
    obtain ⟨t, ht, rfl⟩ := List.mem_map.1 (hp.mem_iff.1 hs)
    rw [castT_shape]
    obtain ⟨g, rfl, _, _⟩ := (mem_srch _ _ _ _ _ _ _ _ (ord_bxs _ _ _)).1 ht
    simp [tabN, Function.comp_def]
  rw [key s hs, key t ht]

end Go.Proofs.Ytncokoimbpkapaa
