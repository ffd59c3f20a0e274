/-
  Trees by their edges: what hangs together, marks, leaves; PRUEFER'S code there and back (plain).
-/
import Derived.Test.YtihafckdaecgkaaBOwn
namespace Go.Proofs.Ytihafckdaecgkaa

/-- The ends of each edge are one for f. -/
def Cst (L : List (Int × Int)) (f : Int → Int) : Prop := ∀ e ∈ L, f e.1 = f e.2
/-- Marks, behind an edge. -/
def mrg (m : Int → Int) (e : Int × Int) : Int → Int := fun v => if m v = m e.1 then m e.2 else m v
/-- Whether each edge joins what did not hang together. -/
def tre (m : Int → Int) : List (Int × Int) → Bool
  | [] => true
  | e :: l => decide (m e.1 ≠ m e.2) && tre (mrg m e) l
/-- L is a tree of the vertices V. -/
def Tr (V : List Int) (L : List (Int × Int)) : Prop := V.Nodup ∧ L.length + 1 = V.length ∧ (∀ e ∈ L, e.1 ∈ V ∧ e.2 ∈ V) ∧ ∀ f, Cst L f → ∀ a ∈ V, ∀ b ∈ V, f a = f b

def Mk (V : List Int) (m : Int → Int) : Prop := ∀ v ∈ V, m v ∈ V ∧ m (m v) = m v
def rts (V : List Int) (m : Int → Int) : Nat := (V.filter fun v => decide (m v = v)).length

theorem mrg_self {m : Int → Int} {e : Int × Int} (h : m e.1 = m e.2) : mrg m e = m := by
  funext v; unfold mrg; split
  · next h1 => rw [h1, h]
  · rfl
theorem cnt_less {V : List Int} {q : Int → Bool} {x : Int} (hV : V.Nodup) (hx : x ∈ V) (hq : q x = true) : (V.filter fun v => q v && decide (v ≠ x)).length + 1 = (V.filter q).length := by
  have h1 : (V.filter fun v => q v && decide (v ≠ x)) = (V.filter q).erase x := by
    rw [List.Nodup.erase_eq_filter (l := V.filter q) (hV.filter q), List.filter_filter]
    refine List.filter_congr (fun v _ => ?_)
    rw [Bool.and_comm]; congr 1
    by_cases h : v = x <;> simp [h]
  have h2 : x ∈ V.filter q := List.mem_filter.2 ⟨hx, hq⟩
  have := List.length_pos_of_mem h2
  rw [h1, List.length_erase_of_mem h2]; omega
theorem Mk.mrg {V : List Int} {m : Int → Int} {e : Int × Int} (h : Mk V m) (he : e.1 ∈ V ∧ e.2 ∈ V) : Mk V (mrg m e) := by
  by_cases hs : m e.1 = m e.2
  · rw [mrg_self hs]; exact h
  intro v hv
  unfold Go.Proofs.Ytihafckdaecgkaa.mrg
  by_cases h1 : m v = m e.1
  · simp only [if_pos h1]
    refine ⟨(h _ he.2).1, ?_⟩
    rw [(h _ he.2).2, if_neg (fun c => hs c.symm)]
  · simp only [if_neg h1]
    refine ⟨(h _ hv).1, ?_⟩
    rw [(h _ hv).2, if_neg h1]
theorem rts_mrg {V : List Int} {m : Int → Int} {e : Int × Int} (hV : V.Nodup) (h : Mk V m) (he : e.1 ∈ V ∧ e.2 ∈ V) (hs : m e.1 ≠ m e.2) : rts V (mrg m e) + 1 = rts V m := by
  have h1 : rts V (Go.Proofs.Ytihafckdaecgkaa.mrg m e) = (V.filter fun v => decide (m v = v) && decide (v ≠ m e.1)).length := by
    unfold rts
    congr 1
    refine List.filter_congr (fun v hv => ?_)
    unfold Go.Proofs.Ytihafckdaecgkaa.mrg
    by_cases h1 : m v = m e.1
    · rw [if_pos h1]
      have h2 : ¬ m e.2 = v := fun c => hs (by rw [← h1, ← c, (h _ he.2).2])
      have h3 : ¬ (m v = v ∧ v ≠ m e.1) := fun c => c.2 (c.1.symm.trans h1)
      rw [decide_eq_false h2, ← Bool.decide_and, decide_eq_false h3]
    · rw [if_neg h1]
      by_cases h2 : m v = v
      · have h3 : v ≠ m e.1 := fun c => h1 (h2.trans c)
        simp [h2, h3]
      · simp [h2]
  rw [h1]
  exact cnt_less hV (h _ he.1).1 (by simp [(h _ he.1).2])
theorem tre_rts {V : List Int} (hV : V.Nodup) : ∀ (L : List (Int × Int)) (m : Int → Int), Mk V m → (∀ e ∈ L, e.1 ∈ V ∧ e.2 ∈ V) → Mk V (L.foldl mrg m) ∧ rts V m ≤ rts V (L.foldl mrg m) + L.length ∧ (tre m L = true ↔ rts V (L.foldl mrg m) + L.length = rts V m)
  | [], m, hm, _ => by simp [tre, hm]
  | e :: L, m, hm, hL => by
    have he := hL e (List.mem_cons_self ..)
    obtain ⟨i1, i2, i3⟩ := tre_rts hV L (mrg m e) (hm.mrg he) (fun x hx => hL x (List.mem_cons_of_mem _ hx))
    simp only [List.foldl_cons, List.length_cons, tre]
    refine ⟨i1, ?_⟩
    by_cases hs : m e.1 = m e.2
    · rw [mrg_self hs] at i1 i2 i3 ⊢
      refine ⟨by omega, ?_⟩
      simp [hs]; omega
    · have := rts_mrg hV hm he hs
      refine ⟨by omega, ?_⟩
      rw [decide_eq_true hs, Bool.true_and, i3]; omega
theorem fold_same : ∀ (L : List (Int × Int)) (m : Int → Int) (x y : Int), m x = m y → L.foldl mrg m x = L.foldl mrg m y
  | [], _, _, _, h => h
  | e :: L, m, x, y, h => fold_same L (mrg m e) x y (by unfold mrg; rw [h])
theorem fold_cst : ∀ (L : List (Int × Int)) (m : Int → Int), Cst L (L.foldl mrg m)
  | [], _, e, he => by simp at he
  | e :: L, m, x, hx => by
    rcases List.mem_cons.1 hx with rfl | hx
    · exact fold_same L (mrg m x) _ _ (by unfold mrg; rw [if_pos rfl]; split <;> rfl)
    · exact fold_cst L (mrg m e) x hx
theorem fold_back {f : Int → Int} : ∀ (L : List (Int × Int)) (m : Int → Int), Cst L f → (∀ v, f (m v) = f v) → ∀ v, f (L.foldl mrg m v) = f v
  | [], _, _, h, v => h v
  | e :: L, m, hc, h, v => by
    refine fold_back L (mrg m e) (fun x hx => hc x (List.mem_cons_of_mem _ hx)) (fun u => ?_) v
    unfold mrg; split
    · next h1 => rw [h, ← hc e (List.mem_cons_self ..), ← h e.1, ← h1, h]
    · exact h u
theorem len_one {l : List Int} (hl : l.Nodup) (h : ∀ a ∈ l, ∀ b ∈ l, a = b) : l.length ≤ 1 := by
  match l, hl, h with
  | [], _, _ => simp
  | [_], _, _ => simp
  | a :: b :: l, hl, h =>
    have := h a (by simp) b (by simp)
    subst this
    simp at hl
theorem rts_id (V : List Int) : rts V id = V.length := by unfold rts; rw [List.filter_eq_self.2 (by simp)]
theorem tre_iff {V : List Int} {L : List (Int × Int)} (hV : V.Nodup) (hn : L.length + 1 = V.length) (hL : ∀ e ∈ L, e.1 ∈ V ∧ e.2 ∈ V) : tre id L = true ↔ Tr V L := by
  obtain ⟨h1, h2, h3⟩ := tre_rts hV L id (fun v hv => ⟨hv, rfl⟩) hL
  rw [rts_id] at h2 h3
  rw [h3]
  constructor
  · intro h
    refine ⟨hV, hn, hL, fun f hf a ha b hb => ?_⟩
    rw [← fold_back L id hf (fun _ => rfl) a, ← fold_back L id hf (fun _ => rfl) b]
    have hr : rts V (L.foldl mrg id) = 1 := by omega
    unfold rts at hr
    obtain ⟨r, hr⟩ := List.length_eq_one_iff.1 hr
    have ga : L.foldl mrg id a ∈ V.filter fun v => decide (L.foldl mrg id v = v) := List.mem_filter.2 ⟨(h1 a ha).1, by simp [(h1 a ha).2]⟩
    have gb : L.foldl mrg id b ∈ V.filter fun v => decide (L.foldl mrg id v = v) := List.mem_filter.2 ⟨(h1 b hb).1, by simp [(h1 b hb).2]⟩
    rw [hr] at ga gb
    rw [List.mem_singleton.1 ga, List.mem_singleton.1 gb]
  · intro h
    have hr : rts V (L.foldl mrg id) ≤ 1 := by
      refine len_one (hV.filter _) (fun a ha b hb => ?_)
      obtain ⟨a1, a2⟩ := List.mem_filter.1 ha
      obtain ⟨b1, b2⟩ := List.mem_filter.1 hb
      have := h.2.2.2 _ (fold_cst L id) a a1 b b1
      simp at a2 b2
      rw [← a2, ← b2, this]
    omega

/-- How many ends at v. -/
def dg (L : List (Int × Int)) (v : Int) : Nat := (L.map fun e => (if e.1 = v then 1 else 0) + (if e.2 = v then 1 else 0)).sum
theorem dg_cons (e : Int × Int) (L : List (Int × Int)) (v : Int) : dg (e :: L) v = (if e.1 = v then 1 else 0) + (if e.2 = v then 1 else 0) + dg L v := by simp [dg]
theorem dg_append (L M : List (Int × Int)) (v : Int) : dg (L ++ M) v = dg L v + dg M v := by simp [dg]
theorem dg_perm {L M : List (Int × Int)} (h : L.Perm M) (v : Int) : dg L v = dg M v := (h.map _).sum_nat
theorem dg_zero {L : List (Int × Int)} {v : Int} (h : dg L v = 0) : ∀ e ∈ L, e.1 ≠ v ∧ e.2 ≠ v := by
  induction L with
  | nil => simp
  | cons x L ih =>
    rw [dg_cons] at h
    intro e he
    rcases List.mem_cons.1 he with rfl | he
    · refine ⟨fun c => ?_, fun c => ?_⟩ <;> (rw [if_pos c] at h; omega)
    · exact ih (by omega) e he
theorem zero_sum (V : List Int) : (V.map fun _ => (0 : Nat)).sum = 0 := by
  induction V with
  | nil => rfl
  | cons y V ih => simpa using ih
theorem ind_sum {V : List Int} (hV : V.Nodup) {x : Int} (hx : x ∈ V) : (V.map fun v => if x = v then 1 else 0).sum = 1 := by
  induction V with
  | nil => simp at hx
  | cons y V ih =>
    have hy := List.nodup_cons.1 hV
    simp only [List.map_cons, List.sum_cons]
    by_cases h : x = y
    · subst h
      have : (V.map fun v => if x = v then 1 else 0).sum = 0 := by
        have : (V.map fun v => if x = v then (1 : Nat) else 0) = V.map fun _ => 0 := List.map_congr_left (fun v hv => if_neg (fun (c : x = v) => hy.1 (c ▸ hv)))
        rw [this]; exact zero_sum V
      rw [this]; simp
    · rw [if_neg h, Nat.zero_add]
      exact ih hy.2 (by simpa [h] using hx)
theorem sum_add (V : List Int) (f g : Int → Nat) : (V.map fun v => f v + g v).sum = (V.map f).sum + (V.map g).sum := by
  induction V with
  | nil => rfl
  | cons y V ih => simp only [List.map_cons, List.sum_cons, ih]; omega
theorem dg_sum {V : List Int} (hV : V.Nodup) : ∀ (L : List (Int × Int)), (∀ e ∈ L, e.1 ∈ V ∧ e.2 ∈ V) → (V.map (dg L)).sum = 2 * L.length
  | [], _ => by
    have : V.map (dg []) = V.map fun _ => 0 := rfl
    rw [this]; exact zero_sum V
  | e :: L, hL => by
    have h0 := dg_sum hV L (fun x hx => hL x (List.mem_cons_of_mem _ hx))
    have : V.map (dg (e :: L)) = V.map fun v => ((if e.1 = v then 1 else 0) + (if e.2 = v then 1 else 0)) + dg L v := List.map_congr_left (fun v _ => dg_cons e L v)
    rw [this, sum_add, sum_add, ind_sum hV (hL e (by simp)).1, ind_sum hV (hL e (by simp)).2, List.length_cons]
    omega
theorem sum_ge (V : List Int) (f : Int → Nat) (k : Nat) (h : ∀ v ∈ V, k ≤ f v) : k * V.length ≤ (V.map f).sum := by
  induction V with
  | nil => simp
  | cons y V ih =>
    have := ih (fun v hv => h v (List.mem_cons_of_mem _ hv))
    have := h y (by simp)
    simp only [List.map_cons, List.sum_cons, List.length_cons, Nat.mul_succ]; omega
theorem Tr.pos {V : List Int} {L : List (Int × Int)} (h : Tr V L) (h2 : 2 ≤ V.length) {v : Int} (hv : v ∈ V) : 1 ≤ dg L v := by
  refine Nat.pos_of_ne_zero (fun h0 => ?_)
  have hz := dg_zero h0
  have : ∃ b ∈ V, b ≠ v := by
    refine Classical.byContradiction (fun hc => ?_)
    have : V.length ≤ 1 := len_one h.1 (fun a ha b hb => by
      have h1 : a = v := Classical.byContradiction (fun c => hc ⟨a, ha, c⟩)
      have h2 : b = v := Classical.byContradiction (fun c => hc ⟨b, hb, c⟩)
      rw [h1, h2])
    omega
  obtain ⟨b, hb, hne⟩ := this
  have := h.2.2.2 (fun u => if u = v then 1 else 0) (fun e he => by simp [(hz e he).1, (hz e he).2]) v hv b hb
  simp [hne] at this
theorem Tr.leaf {V : List Int} {L : List (Int × Int)} (h : Tr V L) (h2 : 2 ≤ V.length) : ∃ v ∈ V, dg L v = 1 := by
  refine Classical.byContradiction (fun hc => ?_)
  have h3 := sum_ge V (dg L) 2 (fun v hv => by
    have := h.pos h2 hv
    have : dg L v ≠ 1 := fun c => hc ⟨v, hv, c⟩
    omega)
  rw [dg_sum h.1 L h.2.2.1] at h3
  have := h.2.1
  omega
theorem Tr.perm {V : List Int} {L M : List (Int × Int)} (h : Tr V L) (hp : L.Perm M) : Tr V M :=
  ⟨h.1, by rw [← hp.length_eq]; exact h.2.1, fun e he => h.2.2.1 e (hp.mem_iff.2 he), fun f hf => h.2.2.2 f (fun e he => hf e (hp.mem_iff.1 he))⟩
theorem Tr.permV {V W : List Int} {L : List (Int × Int)} (h : Tr V L) (hp : V.Perm W) : Tr W L :=
  ⟨hp.nodup_iff.1 h.1, by rw [← hp.length_eq]; exact h.2.1, fun e he => ⟨hp.mem_iff.1 (h.2.2.1 e he).1, hp.mem_iff.1 (h.2.2.1 e he).2⟩, fun f hf a ha b hb => h.2.2.2 f hf a (hp.mem_iff.2 ha) b (hp.mem_iff.2 hb)⟩
/-- An edge of x and o. -/
def Jn (e : Int × Int) (x o : Int) : Prop := e.1 = x ∧ e.2 = o ∨ e.2 = x ∧ e.1 = o
theorem Jn.dg {e : Int × Int} {x o : Int} (h : Jn e x o) (hne : x ≠ o) (L : List (Int × Int)) (v : Int) : dg (e :: L) v = (if x = v then 1 else 0) + (if o = v then 1 else 0) + dg L v := by
  rw [dg_cons]
  rcases h with ⟨rfl, rfl⟩ | ⟨rfl, rfl⟩
  · rfl
  · omega
theorem Tr.cut {V : List Int} {L : List (Int × Int)} {e : Int × Int} {x o : Int} (h : Tr V (e :: L)) (hx : dg (e :: L) x = 1) (hj : Jn e x o) : Tr (V.erase x) L ∧ x ≠ o ∧ x ∈ V ∧ o ∈ V ∧ dg L x = 0 := by
  have he := h.2.2.1 e (by simp)
  have hm : x ∈ V ∧ o ∈ V := by rcases hj with ⟨rfl, rfl⟩ | ⟨rfl, rfl⟩ <;> simp [he]
  have hne : x ≠ o := by
    intro c; subst c
    rw [dg_cons] at hx
    rcases hj with ⟨h1, h2⟩ | ⟨h1, h2⟩ <;> (rw [if_pos h1, if_pos h2] at hx; omega)
  have hz : dg L x = 0 := by
    rw [hj.dg hne, if_pos rfl] at hx; omega
  have hz' := dg_zero hz
  refine ⟨⟨h.1.erase x, ?_, fun y hy => ?_, fun f hf a ha b hb => ?_⟩, hne, hm.1, hm.2, hz⟩
  · have := h.2.1
    have := List.length_pos_of_mem hm.1
    rw [List.length_erase_of_mem hm.1]; simp at *; omega
  · have := h.2.2.1 y (List.mem_cons_of_mem _ hy)
    exact ⟨(List.mem_erase_of_ne (hz' y hy).1).2 this.1, (List.mem_erase_of_ne (hz' y hy).2).2 this.2⟩
  · have ga := (h.1.mem_erase_iff).1 ha
    have gb := (h.1.mem_erase_iff).1 hb
    have := h.2.2.2 (fun u => if u = x then f o else f u) (fun y hy => ?_) a ga.2 b gb.2
    · simpa [ga.1, gb.1] using this
    · rcases List.mem_cons.1 hy with rfl | hy
      · rcases hj with ⟨rfl, rfl⟩ | ⟨rfl, rfl⟩
        · simp
        · simp
      · simp only [if_neg (hz' y hy).1, if_neg (hz' y hy).2]; exact hf y hy
theorem Tr.add {V : List Int} {L : List (Int × Int)} {e : Int × Int} {x o : Int} (h : Tr V L) (hx : x ∉ V) (ho : o ∈ V) (hj : Jn e x o) : Tr (x :: V) (e :: L) := by
  refine ⟨List.nodup_cons.2 ⟨hx, h.1⟩, by simp [h.2.1], fun y hy => ?_, fun f hf => ?_⟩
  · rcases List.mem_cons.1 hy with rfl | hy
    · rcases hj with ⟨rfl, rfl⟩ | ⟨rfl, rfl⟩ <;> simp [ho]
    · exact ⟨List.mem_cons_of_mem _ (h.2.2.1 y hy).1, List.mem_cons_of_mem _ (h.2.2.1 y hy).2⟩
  · have hc := h.2.2.2 f (fun y hy => hf y (List.mem_cons_of_mem _ hy))
    have hxo : f x = f o := by
      have := hf e (by simp)
      rcases hj with ⟨rfl, rfl⟩ | ⟨rfl, rfl⟩
      · exact this
      · exact this.symm
    have key : ∀ a ∈ x :: V, f a = f o := by
      intro a ha
      rcases List.mem_cons.1 ha with rfl | ha
      · exact hxo
      · exact hc a ha o ho
    exact fun a ha b hb => (key a ha).trans (key b hb).symm
end Go.Proofs.Ytihafckdaecgkaa
