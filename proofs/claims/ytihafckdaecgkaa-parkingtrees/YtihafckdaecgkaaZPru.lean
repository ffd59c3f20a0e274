/-
  Trees by their edges: what hangs together, marks, leaves; PRUEFER'S code there and back (plain).
  PRUEFER'S code: the process that takes leaves off, and the one that puts them on, by the same ends (plain).
-/
import Derived.Test.YtihafckdaecgkaaBOwn
namespace Go.Proofs.Ytihafckdaecgkaa

/-- The ends of each edge are one for f. -/
def Cst (L : List (Int × Int)) (f : Int → Int) : Prop := ∀ e ∈ L, f e.1 = f e.2
/-- Marks, behind an edge. -/
def mrg (m : Int → Int) (e : Int × Int) : Int → Int := fun v => if m v = m e.1 then m e.2 else m v
/-- Whether each edge joins what did not hang together. -/
def tre (m : Int → Int) : List (Int × Int) → Bool
  | [] => true
  | e :: l => decide (m e.1 ≠ m e.2) && tre (mrg m e) l
/-- L is a tree of the vertices V. -/
def Tr (V : List Int) (L : List (Int × Int)) : Prop := V.Nodup ∧ L.length + 1 = V.length ∧ (∀ e ∈ L, e.1 ∈ V ∧ e.2 ∈ V) ∧ ∀ f, Cst L f → ∀ a ∈ V, ∀ b ∈ V, f a = f b

def Mk (V : List Int) (m : Int → Int) : Prop := ∀ v ∈ V, m v ∈ V ∧ m (m v) = m v
def rts (V : List Int) (m : Int → Int) : Nat := (V.filter fun v => decide (m v = v)).length

theorem mrg_self {m : Int → Int} {e : Int × Int} (h : m e.1 = m e.2) : mrg m e = m := by
  funext v; unfold mrg; split
  · next h1 => rw [h1, h]
  · rfl
theorem cnt_less {V : List Int} {q : Int → Bool} {x : Int} (hV : V.Nodup) (hx : x ∈ V) (hq : q x = true) : (V.filter fun v => q v && decide (v ≠ x)).length + 1 = (V.filter q).length := by
  have h1 : (V.filter fun v => q v && decide (v ≠ x)) = (V.filter q).erase x := by
    rw [List.Nodup.erase_eq_filter (l := V.filter q) (hV.filter q), List.filter_filter]
    refine List.filter_congr (fun v _ => ?_)
    rw [Bool.and_comm]; congr 1
    by_cases h : v = x <;> simp [h]
  have h2 : x ∈ V.filter q := List.mem_filter.2 ⟨hx, hq⟩
  have := List.length_pos_of_mem h2
  rw [h1, List.length_erase_of_mem h2]; omega
theorem Mk.mrg {V : List Int} {m : Int → Int} {e : Int × Int} (h : Mk V m) (he : e.1 ∈ V ∧ e.2 ∈ V) : Mk V (mrg m e) := by
  by_cases hs : m e.1 = m e.2
  · rw [mrg_self hs]; exact h
  intro v hv
  unfold Go.Proofs.Ytihafckdaecgkaa.mrg
  by_cases h1 : m v = m e.1
  · simp only [if_pos h1]
    refine ⟨(h _ he.2).1, ?_⟩
    rw [(h _ he.2).2, if_neg (fun c => hs c.symm)]
  · simp only [if_neg h1]
    refine ⟨(h _ hv).1, ?_⟩
    rw [(h _ hv).2, if_neg h1]
theorem rts_mrg {V : List Int} {m : Int → Int} {e : Int × Int} (hV : V.Nodup) (h : Mk V m) (he : e.1 ∈ V ∧ e.2 ∈ V) (hs : m e.1 ≠ m e.2) : rts V (mrg m e) + 1 = rts V m := by
  have h1 : rts V (Go.Proofs.Ytihafckdaecgkaa.mrg m e) = (V.filter fun v => decide (m v = v) && decide (v ≠ m e.1)).length := by
    unfold rts
    congr 1
    refine List.filter_congr (fun v hv => ?_)
    unfold Go.Proofs.Ytihafckdaecgkaa.mrg
    by_cases h1 : m v = m e.1
    · rw [if_pos h1]
      have h2 : ¬ m e.2 = v := fun c => hs (by rw [← h1, ← c, (h _ he.2).2])
      have h3 : ¬ (m v = v ∧ v ≠ m e.1) := fun c => c.2 (c.1.symm.trans h1)
      rw [decide_eq_false h2, ← Bool.decide_and, decide_eq_false h3]
    · rw [if_neg h1]
      by_cases h2 : m v = v
      · have h3 : v ≠ m e.1 := fun c => h1 (h2.trans c)
        simp [h2, h3]
      · simp [h2]
  rw [h1]
  exact cnt_less hV (h _ he.1).1 (by simp [(h _ he.1).2])
theorem tre_rts {V : List Int} (hV : V.Nodup) : ∀ (L : List (Int × Int)) (m : Int → Int), Mk V m → (∀ e ∈ L, e.1 ∈ V ∧ e.2 ∈ V) → Mk V (L.foldl mrg m) ∧ rts V m ≤ rts V (L.foldl mrg m) + L.length ∧ (tre m L = true ↔ rts V (L.foldl mrg m) + L.length = rts V m)
  | [], m, hm, _ => by simp [tre, hm]
  | e :: L, m, hm, hL => by
    have he := hL e (List.mem_cons_self ..)
    obtain ⟨i1, i2, i3⟩ := tre_rts hV L (mrg m e) (hm.mrg he) (fun x hx => hL x (List.mem_cons_of_mem _ hx))
    simp only [List.foldl_cons, List.length_cons, tre]
    refine ⟨i1, ?_⟩
    by_cases hs : m e.1 = m e.2
    · rw [mrg_self hs] at i1 i2 i3 ⊢
      refine ⟨by omega, ?_⟩
      simp [hs]; omega
    · have := rts_mrg hV hm he hs
      refine ⟨by omega, ?_⟩
      rw [decide_eq_true hs, Bool.true_and, i3]; omega
theorem fold_same : ∀ (L : List (Int × Int)) (m : Int → Int) (x y : Int), m x = m y → L.foldl mrg m x = L.foldl mrg m y
  | [], _, _, _, h => h
  | e :: L, m, x, y, h => fold_same L (mrg m e) x y (by unfold mrg; rw [h])
theorem fold_cst : ∀ (L : List (Int × Int)) (m : Int → Int), Cst L (L.foldl mrg m)
  | [], _, e, he => by simp at he
  | e :: L, m, x, hx => by
    rcases List.mem_cons.1 hx with rfl | hx
    · exact fold_same L (mrg m x) _ _ (by unfold mrg; rw [if_pos rfl]; split <;> rfl)
    · exact fold_cst L (mrg m e) x hx
theorem fold_back {f : Int → Int} : ∀ (L : List (Int × Int)) (m : Int → Int), Cst L f → (∀ v, f (m v) = f v) → ∀ v, f (L.foldl mrg m v) = f v
  | [], _, _, h, v => h v
  | e :: L, m, hc, h, v => by
    refine fold_back L (mrg m e) (fun x hx => hc x (List.mem_cons_of_mem _ hx)) (fun u => ?_) v
    unfold mrg; split
    · next h1 => rw [h, ← hc e (List.mem_cons_self ..), ← h e.1, ← h1, h]
    · exact h u
theorem len_one {l : List Int} (hl : l.Nodup) (h : ∀ a ∈ l, ∀ b ∈ l, a = b) : l.length ≤ 1 := by
  match l, hl, h with
  | [], _, _ => simp
  | [_], _, _ => simp
  | a :: b :: l, hl, h =>
    have := h a (by simp) b (by simp)
    subst this
    simp at hl
theorem rts_id (V : List Int) : rts V id = V.length := by unfold rts; rw [List.filter_eq_self.2 (by simp)]
theorem tre_iff {V : List Int} {L : List (Int × Int)} (hV : V.Nodup) (hn : L.length + 1 = V.length) (hL : ∀ e ∈ L, e.1 ∈ V ∧ e.2 ∈ V) : tre id L = true ↔ Tr V L := by
  obtain ⟨h1, h2, h3⟩ := tre_rts hV L id (fun v hv => ⟨hv, rfl⟩) hL
  rw [rts_id] at h2 h3
  rw [h3]
  constructor
  · intro h
    refine ⟨hV, hn, hL, fun f hf a ha b hb => ?_⟩
    rw [← fold_back L id hf (fun _ => rfl) a, ← fold_back L id hf (fun _ => rfl) b]
    have hr : rts V (L.foldl mrg id) = 1 := by omega
    unfold rts at hr
    obtain ⟨r, hr⟩ := List.length_eq_one_iff.1 hr
    have ga : L.foldl mrg id a ∈ V.filter fun v => decide (L.foldl mrg id v = v) := List.mem_filter.2 ⟨(h1 a ha).1, by simp [(h1 a ha).2]⟩
    have gb : L.foldl mrg id b ∈ V.filter fun v => decide (L.foldl mrg id v = v) := List.mem_filter.2 ⟨(h1 b hb).1, by simp [(h1 b hb).2]⟩
    rw [hr] at ga gb
    rw [List.mem_singleton.1 ga, List.mem_singleton.1 gb]
  · intro h
    have hr : rts V (L.foldl mrg id) ≤ 1 := by
      refine len_one (hV.filter _) (fun a ha b hb => ?_)
      obtain ⟨a1, a2⟩ := List.mem_filter.1 ha
      obtain ⟨b1, b2⟩ := List.mem_filter.1 hb
      have := h.2.2.2 _ (fold_cst L id) a a1 b b1
      simp at a2 b2
      rw [← a2, ← b2, this]
    omega

/-- How many ends at v. -/
def dg (L : List (Int × Int)) (v : Int) : Nat := (L.map fun e => (if e.1 = v then 1 else 0) + (if e.2 = v then 1 else 0)).sum
theorem dg_cons (e : Int × Int) (L : List (Int × Int)) (v : Int) : dg (e :: L) v = (if e.1 = v then 1 else 0) + (if e.2 = v then 1 else 0) + dg L v := by simp [dg]
theorem dg_append (L M : List (Int × Int)) (v : Int) : dg (L ++ M) v = dg L v + dg M v := by simp [dg]
theorem dg_perm {L M : List (Int × Int)} (h : L.Perm M) (v : Int) : dg L v = dg M v := (h.map _).sum_nat
theorem dg_zero {L : List (Int × Int)} {v : Int} (h : dg L v = 0) : ∀ e ∈ L, e.1 ≠ v ∧ e.2 ≠ v := by
  induction L with
  | nil => simp
  | cons x L ih =>
    rw [dg_cons] at h
    intro e he
    rcases List.mem_cons.1 he with rfl | he
    · refine ⟨fun c => ?_, fun c => ?_⟩ <;> (rw [if_pos c] at h; omega)
    · exact ih (by omega) e he
theorem zero_sum (V : List Int) : (V.map fun _ => (0 : Nat)).sum = 0 := by
  induction V with
  | nil => rfl
  | cons y V ih => simpa using ih
theorem ind_sum {V : List Int} (hV : V.Nodup) {x : Int} (hx : x ∈ V) : (V.map fun v => if x = v then 1 else 0).sum = 1 := by
  induction V with
  | nil => simp at hx
  | cons y V ih =>
    have hy := List.nodup_cons.1 hV
    simp only [List.map_cons, List.sum_cons]
    by_cases h : x = y
    · subst h
      have : (V.map fun v => if x = v then 1 else 0).sum = 0 := by
        have : (V.map fun v => if x = v then (1 : Nat) else 0) = V.map fun _ => 0 := List.map_congr_left (fun v hv => if_neg (fun (c : x = v) => hy.1 (c ▸ hv)))
        rw [this]; exact zero_sum V
      rw [this]; simp
    · rw [if_neg h, Nat.zero_add]
      exact ih hy.2 (by simpa [h] using hx)
theorem sum_add (V : List Int) (f g : Int → Nat) : (V.map fun v => f v + g v).sum = (V.map f).sum + (V.map g).sum := by
  induction V with
  | nil => rfl
  | cons y V ih => simp only [List.map_cons, List.sum_cons, ih]; omega
theorem dg_sum {V : List Int} (hV : V.Nodup) : ∀ (L : List (Int × Int)), (∀ e ∈ L, e.1 ∈ V ∧ e.2 ∈ V) → (V.map (dg L)).sum = 2 * L.length
  | [], _ => by
    have : V.map (dg []) = V.map fun _ => 0 := rfl
    rw [this]; exact zero_sum V
  | e :: L, hL => by
    have h0 := dg_sum hV L (fun x hx => hL x (List.mem_cons_of_mem _ hx))
    have : V.map (dg (e :: L)) = V.map fun v => ((if e.1 = v then 1 else 0) + (if e.2 = v then 1 else 0)) + dg L v := List.map_congr_left (fun v _ => dg_cons e L v)
    rw [this, sum_add, sum_add, ind_sum hV (hL e (by simp)).1, ind_sum hV (hL e (by simp)).2, List.length_cons]
    omega
theorem sum_ge (V : List Int) (f : Int → Nat) (k : Nat) (h : ∀ v ∈ V, k ≤ f v) : k * V.length ≤ (V.map f).sum := by
  induction V with
  | nil => simp
  | cons y V ih =>
    have := ih (fun v hv => h v (List.mem_cons_of_mem _ hv))
    have := h y (by simp)
    simp only [List.map_cons, List.sum_cons, List.length_cons, Nat.mul_succ]; omega
theorem Tr.pos {V : List Int} {L : List (Int × Int)} (h : Tr V L) (h2 : 2 ≤ V.length) {v : Int} (hv : v ∈ V) : 1 ≤ dg L v := by
  refine Nat.pos_of_ne_zero (fun h0 => ?_)
  have hz := dg_zero h0
  have : ∃ b ∈ V, b ≠ v := by
    refine Classical.byContradiction (fun hc => ?_)
    have : V.length ≤ 1 := len_one h.1 (fun a ha b hb => by
      have h1 : a = v := Classical.byContradiction (fun c => hc ⟨a, ha, c⟩)
      have h2 : b = v := Classical.byContradiction (fun c => hc ⟨b, hb, c⟩)
      rw [h1, h2])
    omega
  obtain ⟨b, hb, hne⟩ := this
  have := h.2.2.2 (fun u => if u = v then 1 else 0) (fun e he => by simp [(hz e he).1, (hz e he).2]) v hv b hb
  simp [hne] at this
theorem Tr.leaf {V : List Int} {L : List (Int × Int)} (h : Tr V L) (h2 : 2 ≤ V.length) : ∃ v ∈ V, dg L v = 1 := by
  refine Classical.byContradiction (fun hc => ?_)
  have h3 := sum_ge V (dg L) 2 (fun v hv => by
    have := h.pos h2 hv
    have : dg L v ≠ 1 := fun c => hc ⟨v, hv, c⟩
    omega)
  rw [dg_sum h.1 L h.2.2.1] at h3
  have := h.2.1
  omega
theorem Tr.perm {V : List Int} {L M : List (Int × Int)} (h : Tr V L) (hp : L.Perm M) : Tr V M :=
  ⟨h.1, by rw [← hp.length_eq]; exact h.2.1, fun e he => h.2.2.1 e (hp.mem_iff.2 he), fun f hf => h.2.2.2 f (fun e he => hf e (hp.mem_iff.1 he))⟩
theorem Tr.permV {V W : List Int} {L : List (Int × Int)} (h : Tr V L) (hp : V.Perm W) : Tr W L :=
  ⟨hp.nodup_iff.1 h.1, by rw [← hp.length_eq]; exact h.2.1, fun e he => ⟨hp.mem_iff.1 (h.2.2.1 e he).1, hp.mem_iff.1 (h.2.2.1 e he).2⟩, fun f hf a ha b hb => h.2.2.2 f hf a (hp.mem_iff.2 ha) b (hp.mem_iff.2 hb)⟩
/-- An edge of x and o. -/
def Jn (e : Int × Int) (x o : Int) : Prop := e.1 = x ∧ e.2 = o ∨ e.2 = x ∧ e.1 = o
theorem Jn.dg {e : Int × Int} {x o : Int} (h : Jn e x o) (hne : x ≠ o) (L : List (Int × Int)) (v : Int) : dg (e :: L) v = (if x = v then 1 else 0) + (if o = v then 1 else 0) + dg L v := by
  rw [dg_cons]
  rcases h with ⟨rfl, rfl⟩ | ⟨rfl, rfl⟩
  · rfl
  · omega
theorem Tr.cut {V : List Int} {L : List (Int × Int)} {e : Int × Int} {x o : Int} (h : Tr V (e :: L)) (hx : dg (e :: L) x = 1) (hj : Jn e x o) : Tr (V.erase x) L ∧ x ≠ o ∧ x ∈ V ∧ o ∈ V ∧ dg L x = 0 := by
  have he := h.2.2.1 e (by simp)
  have hm : x ∈ V ∧ o ∈ V := by rcases hj with ⟨rfl, rfl⟩ | ⟨rfl, rfl⟩ <;> simp [he]
  have hne : x ≠ o := by
    intro c; subst c
    rw [dg_cons] at hx
    rcases hj with ⟨h1, h2⟩ | ⟨h1, h2⟩ <;> (rw [if_pos h1, if_pos h2] at hx; omega)
  have hz : dg L x = 0 := by
    rw [hj.dg hne, if_pos rfl] at hx; omega
  have hz' := dg_zero hz
  refine ⟨⟨h.1.erase x, ?_, fun y hy => ?_, fun f hf a ha b hb => ?_⟩, hne, hm.1, hm.2, hz⟩
  · have := h.2.1
    have := List.length_pos_of_mem hm.1
    rw [List.length_erase_of_mem hm.1]; simp at *; omega
  · have := h.2.2.1 y (List.mem_cons_of_mem _ hy)
    exact ⟨(List.mem_erase_of_ne (hz' y hy).1).2 this.1, (List.mem_erase_of_ne (hz' y hy).2).2 this.2⟩
  · have ga := (h.1.mem_erase_iff).1 ha
    have gb := (h.1.mem_erase_iff).1 hb
    have := h.2.2.2 (fun u => if u = x then f o else f u) (fun y hy => ?_) a ga.2 b gb.2
    · simpa [ga.1, gb.1] using this
    · rcases List.mem_cons.1 hy with rfl | hy
      · rcases hj with ⟨rfl, rfl⟩ | ⟨rfl, rfl⟩
        · simp
        · simp
      · simp only [if_neg (hz' y hy).1, if_neg (hz' y hy).2]; exact hf y hy
theorem Tr.add {V : List Int} {L : List (Int × Int)} {e : Int × Int} {x o : Int} (h : Tr V L) (hx : x ∉ V) (ho : o ∈ V) (hj : Jn e x o) : Tr (x :: V) (e :: L) := by
  refine ⟨List.nodup_cons.2 ⟨hx, h.1⟩, by simp [h.2.1], fun y hy => ?_, fun f hf => ?_⟩
  · rcases List.mem_cons.1 hy with rfl | hy
    · rcases hj with ⟨rfl, rfl⟩ | ⟨rfl, rfl⟩ <;> simp [ho]
    · exact ⟨List.mem_cons_of_mem _ (h.2.2.1 y hy).1, List.mem_cons_of_mem _ (h.2.2.1 y hy).2⟩
  · have hc := h.2.2.2 f (fun y hy => hf y (List.mem_cons_of_mem _ hy))
    have hxo : f x = f o := by
      have := hf e (by simp)
      rcases hj with ⟨rfl, rfl⟩ | ⟨rfl, rfl⟩
      · exact this
      · exact this.symm
    have key : ∀ a ∈ x :: V, f a = f o := by
      intro a ha
      rcases List.mem_cons.1 ha with rfl | ha
      · exact hxo
      · exact hc a ha o ho
    exact fun a ha b hb => (key a ha).trans (key b hb).symm
end Go.Proofs.Ytihafckdaecgkaa

namespace Go.Proofs.Ytihafckdaecgkaa

def nrm (e : Int × Int) : Int × Int := (min e.1 e.2, max e.1 e.2)
theorem nrm_jn {e : Int × Int} {x o : Int} (h : Jn e x o) : nrm e = nrm (x, o) := by
  unfold nrm
  rcases h with ⟨rfl, rfl⟩ | ⟨rfl, rfl⟩
  · rfl
  · simp only [Prod.mk.injEq]; omega
theorem jn_nrm (x o : Int) : Jn (nrm (x, o)) x o := by
  unfold Jn nrm; simp only; omega
theorem Jn.uniq {e : Int × Int} {x o p : Int} (h : Jn e x o) (k : Jn e x p) : o = p := by
  unfold Jn at h k; omega
theorem Jn.ends {e : Int × Int} {x o : Int} (h : Jn e x o) : e.1 = x ∨ e.2 = x := by unfold Jn at h; omega

/-- The first place of a 1. -/
def Lf (es : List Int) (x : Nat) : Prop := x < es.length ∧ es.getD x 0 = 1 ∧ ∀ j, j < x → es.getD j 0 ≠ 1
theorem Lf.uniq {es : List Int} {x y : Nat} (h : Lf es x) (k : Lf es y) : x = y := by
  rcases Nat.lt_trichotomy x y with c | c | c
  · exact absurd h.2.1 (k.2.2 x c)
  · exact c
  · exact absurd k.2.1 (h.2.2 y c)
theorem Lf.ex {es : List Int} : ∀ {v : Nat}, v < es.length → es.getD v 0 = 1 → ∃ x, x ≤ v ∧ Lf es x := by
  intro v
  induction v using Nat.strongRecOn with
  | _ v ih =>
    intro h1 h2
    by_cases h : ∃ j, j < v ∧ es.getD j 0 = 1
    · obtain ⟨j, hj, e⟩ := h
      obtain ⟨x, hx, hl⟩ := ih j hj (by omega) e
      exact ⟨x, by omega, hl⟩
    · exact ⟨v, Nat.le_refl _, h1, h2, fun j hj c => h ⟨j, hj, c⟩⟩
/-- An end less at x, and one at o. -/
def dn (es : List Int) (x o : Nat) : List Int := (es.set x (es.getD x 0 - 1)).set o ((es.set x (es.getD x 0 - 1)).getD o 0 - 1)
theorem dn_length (es : List Int) (x o : Nat) : (dn es x o).length = es.length := by simp [dn]
theorem getD_set' (es : List Int) (x v : Nat) (z : Int) (hv : v < es.length) : (es.set x z).getD v 0 = if x = v then z else es.getD v 0 := by
  rw [List.getD_eq_getElem?_getD, List.getElem?_set, List.getD_eq_getElem?_getD]
  by_cases h : x = v
  · subst h; simp [hv]
  · simp [h]
theorem dn_get (es : List Int) {x o : Nat} (hne : x ≠ o) (v : Nat) (hv : v < es.length) : (dn es x o).getD v 0 = es.getD v 0 - (if x = v then 1 else 0) - (if o = v then 1 else 0) := by
  unfold dn
  rw [getD_set' _ _ _ _ (by simpa using hv)]
  by_cases h : o = v
  · subst h
    rw [if_pos rfl, if_pos rfl, getD_set' _ _ _ _ hv, if_neg hne, if_neg hne]; omega
  · rw [if_neg h, if_neg h, getD_set' _ _ _ _ hv]
    by_cases h2 : x = v
    · subst h2; simp
    · simp [h2]

def Ed (es : List Int) (L : List (Int × Int)) : Prop := ∀ v : Nat, v < es.length → es.getD v 0 = (dg L v : Int)
def VB (V : List Int) (es : List Int) : Prop := ∀ v ∈ V, 0 ≤ v ∧ v < es.length
def CdR : List Int → List Int → List (Int × Int) → Prop
  | _, [], L => L.length = 1
  | es, o :: c, L => ∃ (x : Nat) (e : Int × Int) (L1 L2 : List (Int × Int)), Lf es x ∧ L = L1 ++ e :: L2 ∧ Jn e x o ∧ CdR (dn es x o.toNat) c (L1 ++ L2)
def TrR : List Int → List Int → List (Int × Int) → Prop
  | es, [], M => ∃ a b : Nat, Lf es a ∧ a < b ∧ b < es.length ∧ es.getD b 0 = 1 ∧ M = [((a : Int), (b : Int))]
  | es, o :: c, M => ∃ (x : Nat) (M' : List (Int × Int)), Lf es x ∧ M = nrm ((x : Int), o) :: M' ∧ TrR (dn es x o.toNat) c M'
theorem CdR.len : ∀ {c es L}, CdR es c L → L.length = c.length + 1
  | [], _, _, h => h
  | o :: c, es, L, h => by
    obtain ⟨x, e, L1, L2, _, rfl, _, h⟩ := h
    have := CdR.len h
    simp at this ⊢; omega
theorem TrR.len : ∀ {c es M}, TrR es c M → M.length = c.length + 1
  | [], _, _, h => by obtain ⟨a, b, _, _, _, _, rfl⟩ := h; rfl
  | o :: c, es, L, h => by
    obtain ⟨x, M', _, rfl, h⟩ := h
    have := TrR.len h
    simp at this ⊢; omega

theorem Tr.lf {V es : List Int} {L : List (Int × Int)} (h : Tr V L) (hE : Ed es L) (hV : VB V es) (h1 : 1 ≤ L.length) : ∃ x, Lf es x := by
  obtain ⟨v, hv, hd⟩ := h.leaf (by have := h.2.1; omega)
  have hb := hV v hv
  obtain ⟨x, _, hx⟩ := Lf.ex (es := es) (v := v.toNat) (by omega) (by rw [hE _ (by omega), show ((v.toNat : Nat) : Int) = v by omega, hd]; rfl)
  exact ⟨x, hx⟩
theorem Tr.edge {V es : List Int} {L : List (Int × Int)} {x : Nat} (_h : Tr V L) (hE : Ed es L) (hx : Lf es x) : dg L x = 1 ∧ ∃ e L1 L2 o, L = L1 ++ e :: L2 ∧ Jn e x o ∧ ∀ y ∈ L1, y.1 ≠ (x : Int) ∧ y.2 ≠ (x : Int) := by
  have h1 : dg L x = 1 := by have := hE x hx.1; rw [hx.2.1] at this; omega
  refine ⟨h1, ?_⟩
  have : ∀ L : List (Int × Int), dg L x ≠ 0 → ∃ e L1 L2 o, L = L1 ++ e :: L2 ∧ Jn e x o ∧ ∀ y ∈ L1, y.1 ≠ (x : Int) ∧ y.2 ≠ (x : Int) := by
    intro L
    induction L with
    | nil => intro h; exact absurd rfl h
    | cons y L ih =>
      intro hd
      by_cases hy : y.1 = x ∨ y.2 = x
      · rcases hy with hy | hy
        · exact ⟨y, [], L, y.2, rfl, Or.inl ⟨hy, rfl⟩, by simp⟩
        · exact ⟨y, [], L, y.1, rfl, Or.inr ⟨hy, rfl⟩, by simp⟩
      · have g1 : y.1 ≠ x := fun c => hy (Or.inl c)
        have g2 : y.2 ≠ x := fun c => hy (Or.inr c)
        obtain ⟨e, L1, L2, o, hL, hj, hn⟩ := ih (by rw [dg_cons, if_neg g1, if_neg g2] at hd; omega)
        refine ⟨e, y :: L1, L2, o, by rw [hL]; rfl, hj, fun z hz => ?_⟩
        rcases List.mem_cons.1 hz with rfl | hz
        · exact ⟨g1, g2⟩
        · exact hn z hz
  exact this L (by omega)
theorem Tr.next {V es : List Int} {L1 L2 : List (Int × Int)} {e : Int × Int} {x : Nat} {o : Int} (h : Tr V (L1 ++ e :: L2)) (hE : Ed es (L1 ++ e :: L2)) (hV : VB V es) (hx : Lf es x) (hj : Jn e x o) :
    Tr (V.erase x) (L1 ++ L2) ∧ Ed (dn es x o.toNat) (L1 ++ L2) ∧ VB (V.erase x) (dn es x o.toNat) ∧ (x : Int) ≠ o ∧ (x : Int) ∈ V ∧ o ∈ V ∧ dg (L1 ++ L2) x = 0 := by
  have hd := (h.edge hE hx).1
  have hp : (L1 ++ e :: L2).Perm (e :: (L1 ++ L2)) := List.perm_middle
  rw [dg_perm hp] at hd
  obtain ⟨h1, h2, h3, h4, h5⟩ := (h.perm hp).cut hd hj
  have hb := hV o h4
  refine ⟨h1, fun v hv => ?_, fun v hv => ?_, h2, h3, h4, h5⟩
  · rw [dn_length] at hv
    have hne : x ≠ o.toNat := by omega
    rw [dn_get es hne v hv, hE v hv, dg_perm hp, hj.dg h2]
    have a1 : (if (x : Int) = (v : Int) then 1 else 0 : Nat) = if x = v then 1 else 0 := by simp only [Int.natCast_inj]
    have a2 : (if o = (v : Int) then 1 else 0 : Nat) = if o.toNat = v then 1 else 0 := by
      by_cases c : o.toNat = v
      · rw [if_pos c, if_pos (by omega)]
      · rw [if_neg c, if_neg (by omega)]
    rw [a1, a2]
    split <;> split <;> omega
  · rw [dn_length]; exact hV v (List.mem_of_mem_erase hv)
theorem two_of {V : List Int} (h : V.length = 2) : ∃ a b, V = [a, b] := by
  match V, h with
  | [a, b], _ => exact ⟨a, b, rfl⟩
theorem cd_count : ∀ {c V es : List Int} {L : List (Int × Int)}, Tr V L → Ed es L → VB V es → CdR es c L → (∀ v ∈ V, dg L v = 1 + c.count v) ∧ ∀ v, v ∉ V → c.count v = 0
  | [], V, es, L, h, hE, hV, hc => by
    have h1 : L.length = 1 := hc
    have h2 : V.length = 2 := by have := h.2.1; omega
    have hs := dg_sum h.1 L h.2.2.1
    refine ⟨fun v hv => ?_, by simp⟩
    obtain ⟨a, b, rfl⟩ := two_of h2
    have ga := h.pos (by simp) (v := a) (by simp)
    have gb := h.pos (by simp) (v := b) (by simp)
    simp at hs hv
    rcases hv with rfl | rfl <;> simp <;> omega
  | o :: c, V, es, L, h, hE, hV, hc => by
    obtain ⟨x, e, L1, L2, hx, rfl, hj, hc⟩ := hc
    obtain ⟨n1, n2, n3, n4, n5, n6, n7⟩ := h.next hE hV hx hj
    obtain ⟨i1, i2⟩ := cd_count n1 n2 n3 hc
    have hnx : (x : Int) ∉ V.erase (x : Int) := fun c => (h.1.mem_erase_iff.1 c).1 rfl
    refine ⟨fun v hv => ?_, fun v hv => ?_⟩
    · rw [dg_perm List.perm_middle, hj.dg n4, List.count_cons]
      by_cases c1 : (x : Int) = v
      · subst c1
        rw [n7, i2 _ hnx, if_pos rfl, if_neg (fun c => n4 c.symm)]
        simp; exact fun c => n4 c.symm
      · rw [i1 v (h.1.mem_erase_iff.2 ⟨fun c => c1 c.symm, hv⟩), if_neg c1]
        by_cases c2 : o = v <;> simp [c2]; omega
    · rw [List.count_cons, i2 v (fun c => hv (List.mem_of_mem_erase c))]
      have : ¬ o = v := fun c => hv (c ▸ n6)
      simp [this]
theorem cd_tr : ∀ {c V es : List Int} {L M : List (Int × Int)}, Tr V L → Ed es L → VB V es → CdR es c L → TrR es c M → M.Perm (L.map nrm)
  | [], V, es, L, M, h, hE, hV, hc, ht => by
    have h1 : L.length = 1 := hc
    obtain ⟨e, rfl⟩ := List.length_eq_one_iff.1 h1
    obtain ⟨a, b, ha, hab, hbl, hb, rfl⟩ := ht
    have ea := hE a ha.1
    have eb := hE b hbl
    rw [ha.2.1] at ea
    rw [hb] at eb
    rw [dg_cons] at ea eb
    have g1 : e.1 = a ∨ e.2 = a := by
      refine Classical.byContradiction (fun hn => ?_)
      rw [if_neg (fun c => hn (Or.inl c)), if_neg (fun c => hn (Or.inr c))] at ea
      simp [dg] at ea
    have g2 : e.1 = b ∨ e.2 = b := by
      refine Classical.byContradiction (fun hn => ?_)
      rw [if_neg (fun c => hn (Or.inl c)), if_neg (fun c => hn (Or.inr c))] at eb
      simp [dg] at eb
    have : nrm e = ((a : Int), (b : Int)) := by unfold nrm; simp only [Prod.mk.injEq]; omega
    simp [this]
  | o :: c, V, es, L, M, h, hE, hV, hc, ht => by
    obtain ⟨x, e, L1, L2, hx, rfl, hj, hc⟩ := hc
    obtain ⟨y, M', hy, rfl, ht⟩ := ht
    obtain rfl := hx.uniq hy
    obtain ⟨n1, n2, n3, _⟩ := h.next hE hV hx hj
    have := cd_tr n1 n2 n3 hc ht
    rw [← nrm_jn hj]
    have hp : ((L1 ++ e :: L2).map nrm).Perm ((e :: (L1 ++ L2)).map nrm) := List.perm_middle.map nrm
    exact (this.cons (nrm e)).trans hp.symm
/-- A code's vertices and ends. -/
def St (V es c : List Int) : Prop := V.Nodup ∧ V.length = c.length + 2 ∧ VB V es ∧ (∀ v ∈ V, es.getD v.toNat 0 = 1 + (c.count v : Int)) ∧ (∀ v : Nat, v < es.length → (v : Int) ∉ V → es.getD v 0 = 0) ∧ ∀ z ∈ c, z ∈ V
theorem count_sum {V : List Int} (hV : V.Nodup) : ∀ c : List Int, (∀ z ∈ c, z ∈ V) → (V.map fun v => c.count v).sum = c.length
  | [], _ => by simp only [List.count_nil]; exact zero_sum V
  | z :: c, h => by
    have i := count_sum hV c (fun y hy => h y (List.mem_cons_of_mem _ hy))
    have : (V.map fun v => (z :: c).count v) = V.map fun v => c.count v + (if z = v then 1 else 0) := List.map_congr_left (fun v _ => by rw [List.count_cons]; simp)
    rw [this, sum_add, i, ind_sum hV (h z (by simp))]; rfl
theorem St.leaf {V es c : List Int} (h : St V es c) : ∃ x, Lf es x := by
  obtain ⟨h1, h2, h3, h4, h5, h6⟩ := h
  have : ∃ v ∈ V, c.count v = 0 := by
    refine Classical.byContradiction (fun hn => ?_)
    have := sum_ge V (fun v => c.count v) 1 (fun v hv => Nat.pos_of_ne_zero (fun z => hn ⟨v, hv, z⟩))
    rw [count_sum h1 c h6] at this; omega
  obtain ⟨v, hv, hz⟩ := this
  have hb := h3 v hv
  obtain ⟨x, _, hx⟩ := Lf.ex (es := es) (v := v.toNat) (by omega) (by rw [h4 v hv, hz]; rfl)
  exact ⟨x, hx⟩
theorem St.mem {V es c : List Int} (h : St V es c) {x : Nat} (hl : x < es.length) (hx : es.getD x 0 = 1) : (x : Int) ∈ V ∧ c.count (x : Int) = 0 := by
  have h1 : (x : Int) ∈ V := Classical.byContradiction (fun hn => by have := h.2.2.2.2.1 x hl hn; omega)
  have := h.2.2.2.1 _ h1
  rw [Int.toNat_natCast, hx] at this
  exact ⟨h1, by omega⟩
theorem St.next {V es c : List Int} {o : Int} {x : Nat} (h : St V es (o :: c)) (hx : Lf es x) : St (V.erase x) (dn es x o.toNat) c ∧ (x : Int) ∈ V ∧ o ∈ V ∧ (x : Int) ≠ o := by
  obtain ⟨m1, m2⟩ := h.mem hx.1 hx.2.1
  obtain ⟨h1, h2, h3, h4, h5, h6⟩ := h
  have ho : o ∈ V := h6 o (by simp)
  have hne : (x : Int) ≠ o := by
    intro c; subst c; simp at m2
  have hbo := h3 o ho
  have hne' : x ≠ o.toNat := by omega
  have hm : c.count (x : Int) = 0 := by rw [List.count_cons] at m2; omega
  refine ⟨⟨h1.erase _, ?_, fun v hv => ?_, fun v hv => ?_, fun v hv hn => ?_, fun z hz => ?_⟩, m1, ho, hne⟩
  · rw [List.length_erase_of_mem m1]; simp at h2; omega
  · rw [dn_length]; exact h3 v (List.mem_of_mem_erase hv)
  · have hv' := h1.mem_erase_iff.1 hv
    have hb := h3 v hv'.2
    rw [dn_get es hne' _ (by omega), h4 v hv'.2, List.count_cons, if_neg (show ¬ x = v.toNat from fun c => hv'.1 (by omega))]
    by_cases c1 : o = v
    · rw [if_pos (show o.toNat = v.toNat by rw [c1])]; simp [c1]; omega
    · rw [if_neg (show ¬ o.toNat = v.toNat by omega)]; simp [c1]
  · rw [dn_length] at hv
    rw [dn_get es hne' v hv]
    by_cases c1 : x = v
    · subst c1
      rw [hx.2.1, if_pos rfl, if_neg (show ¬ o.toNat = x from fun c => hne' c.symm)]; rfl
    · have c2 : (v : Int) ∉ V := fun c => hn (h1.mem_erase_iff.2 ⟨fun e => c1 (by omega), c⟩)
      rw [h5 v hv c2, if_neg c1, if_neg (show ¬ o.toNat = v from fun c => c2 (by rw [show (v : Int) = o by omega]; exact ho))]; rfl
  · refine h1.mem_erase_iff.2 ⟨fun e => ?_, h6 z (List.mem_cons_of_mem _ hz)⟩
    subst e
    exact absurd hz (List.count_eq_zero.1 hm)
theorem tr_tree : ∀ {c V es : List Int} {M : List (Int × Int)}, St V es c → TrR es c M → Tr V M ∧ Ed es M
  | [], V, es, M, h, ht => by
    obtain ⟨a, b, ha, hab, hbl, hb, rfl⟩ := ht
    obtain ⟨ma, _⟩ := h.mem ha.1 ha.2.1
    obtain ⟨mb, _⟩ := h.mem hbl hb
    obtain ⟨h1, h2, h3, h4, h5, h6⟩ := h
    have t0 : Tr [(b : Int)] [] := ⟨by simp, rfl, by simp, fun f _ p hp q hq => by rw [List.mem_singleton.1 hp, List.mem_singleton.1 hq]⟩
    have t1 : Tr [(a : Int), (b : Int)] [((a : Int), (b : Int))] := t0.add (by simp; omega) (by simp) (Or.inl ⟨rfl, rfl⟩)
    obtain ⟨p, q, rfl⟩ := two_of h2
    have hp : [(a : Int), (b : Int)].Perm [p, q] := by
      simp at ma mb
      rcases ma with ma | ma <;> rcases mb with mb | mb
      · omega
      · rw [ma, mb]
      · rw [ma, mb]; exact List.Perm.swap _ _ _
      · omega
    refine ⟨t1.permV hp, fun v hv => ?_⟩
    rw [dg_cons]
    by_cases hm : (v : Int) ∈ [p, q]
    · have e1 := h4 _ hm
      rw [Int.toNat_natCast] at e1
      rw [e1]
      have := hp.mem_iff.2 hm
      simp only [List.mem_cons, List.not_mem_nil, or_false] at this
      simp only [List.count_nil, dg, List.map_nil, List.sum_nil]
      rcases this with c | c
      · rw [if_pos c.symm, if_neg (by omega)]; rfl
      · rw [if_neg (by omega), if_pos c.symm]; rfl
    · rw [h5 v hv hm]
      have : (v : Int) ∉ [(a : Int), (b : Int)] := fun c => hm (hp.mem_iff.1 c)
      simp only [List.mem_cons, List.not_mem_nil, or_false, not_or] at this
      rw [if_neg (fun c => this.1 c.symm), if_neg (fun c => this.2 c.symm)]; rfl
  | o :: c, V, es, M, h, ht => by
    obtain ⟨x, M', hx, rfl, ht⟩ := ht
    obtain ⟨n1, n2, n3, n4⟩ := h.next hx
    obtain ⟨i1, i2⟩ := tr_tree n1 ht
    have hnx : (x : Int) ∉ V.erase (x : Int) := fun c => (h.1.mem_erase_iff.1 c).1 rfl
    have hbo := h.2.2.1 o n3
    have hne' : x ≠ o.toNat := by omega
    refine ⟨(i1.add hnx (h.1.mem_erase_iff.2 ⟨fun e => n4 e.symm, n3⟩) (jn_nrm _ _)).permV (List.perm_cons_erase n2).symm, fun v hv => ?_⟩
    have e := i2 v (by rw [dn_length]; exact hv)
    rw [dn_get es hne' v hv] at e
    rw [(jn_nrm (x : Int) o).dg n4]
    have a1 : (if (x : Int) = (v : Int) then 1 else 0 : Nat) = if x = v then 1 else 0 := by simp only [Int.natCast_inj]
    have a2 : (if o = (v : Int) then 1 else 0 : Nat) = if o.toNat = v then 1 else 0 := by
      by_cases c : o.toNat = v
      · rw [if_pos c, if_pos (by omega)]
      · rw [if_neg c, if_neg (by omega)]
    rw [a1, a2]
    revert e
    split <;> split <;> intro e <;> omega
theorem cd_uniq : ∀ {c d V es : List Int} {L M : List (Int × Int)}, St V es c → TrR es c M → L.Perm M → CdR es d L → d = c
  | [], d, V, es, L, M, h, ht, hp, hc => by
    have h1 := ht.len
    have h2 := hc.len
    have := hp.length_eq
    exact List.eq_nil_of_length_eq_zero (by simp at h1; omega)
  | o :: c, [], V, es, L, M, h, ht, hp, hc => by
    have h1 := ht.len
    have h2 := hc.len
    have := hp.length_eq
    simp at h1 h2; omega
  | o :: c, p :: d, V, es, L, M, h, ht, hp, hc => by
    obtain ⟨t1, t2⟩ := tr_tree h ht
    have tL := t1.perm hp.symm
    have eL : Ed es L := fun v hv => by rw [t2 v hv, dg_perm hp]
    obtain ⟨y, e, L1, L2, hy, rfl, hj, hc⟩ := hc
    obtain ⟨x, M', hx, rfl, ht⟩ := ht
    obtain rfl := hx.uniq hy
    obtain ⟨n1, n2, n3, n4⟩ := h.next hx
    obtain ⟨_, _, _, k4, _, _, k7⟩ := tL.next eL h.2.2.1 hx hj
    have hp' : (e :: (L1 ++ L2)).Perm (nrm ((x : Int), o) :: M') := List.perm_middle.symm.trans hp
    have hmem : nrm ((x : Int), o) ∈ e :: (L1 ++ L2) := hp'.mem_iff.2 (by simp)
    have he : nrm ((x : Int), o) = e := by
      rcases List.mem_cons.1 hmem with c1 | c1
      · exact c1
      · have := dg_zero k7 _ c1
        rcases (jn_nrm (x : Int) o).ends with c2 | c2
        · exact absurd c2 this.1
        · exact absurd c2 this.2
    have hop : o = p := by
      have := jn_nrm (x : Int) o
      rw [he] at this
      exact this.uniq hj
    subst hop
    rw [he] at hp'
    rw [cd_uniq n1 ht hp'.cons_inv hc]
end Go.Proofs.Ytihafckdaecgkaa
