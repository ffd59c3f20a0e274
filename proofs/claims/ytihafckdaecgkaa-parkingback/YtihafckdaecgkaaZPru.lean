/-
  PRUEFER'S code: the process that takes leaves off, and the one that puts them on, by the same ends (plain).
-/
import Derived.Test.YtihafckdaecgkaaZGr
namespace Go.Proofs.Ytihafckdaecgkaa

def nrm (e : Int × Int) : Int × Int := (min e.1 e.2, max e.1 e.2)
theorem nrm_jn {e : Int × Int} {x o : Int} (h : Jn e x o) : nrm e = nrm (x, o) := by
  unfold nrm
  rcases h with ⟨rfl, rfl⟩ | ⟨rfl, rfl⟩
  · rfl
  · simp only [Prod.mk.injEq]; omega
theorem jn_nrm (x o : Int) : Jn (nrm (x, o)) x o := by
  unfold Jn nrm; simp only; omega
theorem Jn.uniq {e : Int × Int} {x o p : Int} (h : Jn e x o) (k : Jn e x p) : o = p := by
  unfold Jn at h k; omega
theorem Jn.ends {e : Int × Int} {x o : Int} (h : Jn e x o) : e.1 = x ∨ e.2 = x := by unfold Jn at h; omega

/-- The first place of a 1. -/
def Lf (es : List Int) (x : Nat) : Prop := x < es.length ∧ es.getD x 0 = 1 ∧ ∀ j, j < x → es.getD j 0 ≠ 1
theorem Lf.uniq {es : List Int} {x y : Nat} (h : Lf es x) (k : Lf es y) : x = y := by
  rcases Nat.lt_trichotomy x y with c | c | c
  · exact absurd h.2.1 (k.2.2 x c)
  · exact c
  · exact absurd k.2.1 (h.2.2 y c)
theorem Lf.ex {es : List Int} : ∀ {v : Nat}, v < es.length → es.getD v 0 = 1 → ∃ x, x ≤ v ∧ Lf es x := by
  intro v
  induction v using Nat.strongRecOn with
  | _ v ih =>
    intro h1 h2
    by_cases h : ∃ j, j < v ∧ es.getD j 0 = 1
    · obtain ⟨j, hj, e⟩ := h
      obtain ⟨x, hx, hl⟩ := ih j hj (by omega) e
      exact ⟨x, by omega, hl⟩
    · exact ⟨v, Nat.le_refl _, h1, h2, fun j hj c => h ⟨j, hj, c⟩⟩
/-- An end less at x, and one at o. -/
def dn (es : List Int) (x o : Nat) : List Int := (es.set x (es.getD x 0 - 1)).set o ((es.set x (es.getD x 0 - 1)).getD o 0 - 1)
theorem dn_length (es : List Int) (x o : Nat) : (dn es x o).length = es.length := by simp [dn]
theorem getD_set' (es : List Int) (x v : Nat) (z : Int) (hv : v < es.length) : (es.set x z).getD v 0 = if x = v then z else es.getD v 0 := by
  rw [List.getD_eq_getElem?_getD, List.getElem?_set, List.getD_eq_getElem?_getD]
  by_cases h : x = v
  · subst h; simp [hv]
  · simp [h]
theorem dn_get (es : List Int) {x o : Nat} (hne : x ≠ o) (v : Nat) (hv : v < es.length) : (dn es x o).getD v 0 = es.getD v 0 - (if x = v then 1 else 0) - (if o = v then 1 else 0) := by
  unfold dn
  rw [getD_set' _ _ _ _ (by simpa using hv)]
  by_cases h : o = v
  · subst h
    rw [if_pos rfl, if_pos rfl, getD_set' _ _ _ _ hv, if_neg hne, if_neg hne]; omega
  · rw [if_neg h, if_neg h, getD_set' _ _ _ _ hv]
    by_cases h2 : x = v
    · subst h2; simp
    · simp [h2]

def Ed (es : List Int) (L : List (Int × Int)) : Prop := ∀ v : Nat, v < es.length → es.getD v 0 = (dg L v : Int)
def VB (V : List Int) (es : List Int) : Prop := ∀ v ∈ V, 0 ≤ v ∧ v < es.length
def CdR : List Int → List Int → List (Int × Int) → Prop
  | _, [], L => L.length = 1
  | es, o :: c, L => ∃ (x : Nat) (e : Int × Int) (L1 L2 : List (Int × Int)), Lf es x ∧ L = L1 ++ e :: L2 ∧ Jn e x o ∧ CdR (dn es x o.toNat) c (L1 ++ L2)
def TrR : List Int → List Int → List (Int × Int) → Prop
  | es, [], M => ∃ a b : Nat, Lf es a ∧ a < b ∧ b < es.length ∧ es.getD b 0 = 1 ∧ M = [((a : Int), (b : Int))]
  | es, o :: c, M => ∃ (x : Nat) (M' : List (Int × Int)), Lf es x ∧ M = nrm ((x : Int), o) :: M' ∧ TrR (dn es x o.toNat) c M'
theorem CdR.len : ∀ {c es L}, CdR es c L → L.length = c.length + 1
  | [], _, _, h => h
  | o :: c, es, L, h => by
    obtain ⟨x, e, L1, L2, _, rfl, _, h⟩ := h
    have := CdR.len h
    simp at this ⊢; omega
theorem TrR.len : ∀ {c es M}, TrR es c M → M.length = c.length + 1
  | [], _, _, h => by obtain ⟨a, b, _, _, _, _, rfl⟩ := h; rfl
  | o :: c, es, L, h => by
    obtain ⟨x, M', _, rfl, h⟩ := h
    have := TrR.len h
    simp at this ⊢; omega

theorem Tr.lf {V es : List Int} {L : List (Int × Int)} (h : Tr V L) (hE : Ed es L) (hV : VB V es) (h1 : 1 ≤ L.length) : ∃ x, Lf es x := by
  obtain ⟨v, hv, hd⟩ := h.leaf (by have := h.2.1; omega)
  have hb := hV v hv
  obtain ⟨x, _, hx⟩ := Lf.ex (es := es) (v := v.toNat) (by omega) (by rw [hE _ (by omega), show ((v.toNat : Nat) : Int) = v by omega, hd]; rfl)
  exact ⟨x, hx⟩
theorem Tr.edge {V es : List Int} {L : List (Int × Int)} {x : Nat} (_h : Tr V L) (hE : Ed es L) (hx : Lf es x) : dg L x = 1 ∧ ∃ e L1 L2 o, L = L1 ++ e :: L2 ∧ Jn e x o ∧ ∀ y ∈ L1, y.1 ≠ (x : Int) ∧ y.2 ≠ (x : Int) := by
  have h1 : dg L x = 1 := by have := hE x hx.1; rw [hx.2.1] at this; omega
  refine ⟨h1, ?_⟩
  have : ∀ L : List (Int × Int), dg L x ≠ 0 → ∃ e L1 L2 o, L = L1 ++ e :: L2 ∧ Jn e x o ∧ ∀ y ∈ L1, y.1 ≠ (x : Int) ∧ y.2 ≠ (x : Int) := by
    intro L
    induction L with
    | nil => intro h; exact absurd rfl h
    | cons y L ih =>
      intro hd
      by_cases hy : y.1 = x ∨ y.2 = x
      · rcases hy with hy | hy
        · exact ⟨y, [], L, y.2, rfl, Or.inl ⟨hy, rfl⟩, by simp⟩
        · exact ⟨y, [], L, y.1, rfl, Or.inr ⟨hy, rfl⟩, by simp⟩
      · have g1 : y.1 ≠ x := fun c => hy (Or.inl c)
        have g2 : y.2 ≠ x := fun c => hy (Or.inr c)
        obtain ⟨e, L1, L2, o, hL, hj, hn⟩ := ih (by rw [dg_cons, if_neg g1, if_neg g2] at hd; omega)
        refine ⟨e, y :: L1, L2, o, by rw [hL]; rfl, hj, fun z hz => ?_⟩
        rcases List.mem_cons.1 hz with rfl | hz
        · exact ⟨g1, g2⟩
        · exact hn z hz
  exact this L (by omega)
theorem Tr.next {V es : List Int} {L1 L2 : List (Int × Int)} {e : Int × Int} {x : Nat} {o : Int} (h : Tr V (L1 ++ e :: L2)) (hE : Ed es (L1 ++ e :: L2)) (hV : VB V es) (hx : Lf es x) (hj : Jn e x o) :
    Tr (V.erase x) (L1 ++ L2) ∧ Ed (dn es x o.toNat) (L1 ++ L2) ∧ VB (V.erase x) (dn es x o.toNat) ∧ (x : Int) ≠ o ∧ (x : Int) ∈ V ∧ o ∈ V ∧ dg (L1 ++ L2) x = 0 := by
  have hd := (h.edge hE hx).1
  have hp : (L1 ++ e :: L2).Perm (e :: (L1 ++ L2)) := List.perm_middle
  rw [dg_perm hp] at hd
  obtain ⟨h1, h2, h3, h4, h5⟩ := (h.perm hp).cut hd hj
  have hb := hV o h4
  refine ⟨h1, fun v hv => ?_, fun v hv => ?_, h2, h3, h4, h5⟩
  · rw [dn_length] at hv
    have hne : x ≠ o.toNat := by omega
    rw [dn_get es hne v hv, hE v hv, dg_perm hp, hj.dg h2]
    have a1 : (if (x : Int) = (v : Int) then 1 else 0 : Nat) = if x = v then 1 else 0 := by simp only [Int.natCast_inj]
    have a2 : (if o = (v : Int) then 1 else 0 : Nat) = if o.toNat = v then 1 else 0 := by
      by_cases c : o.toNat = v
      · rw [if_pos c, if_pos (by omega)]
      · rw [if_neg c, if_neg (by omega)]
    rw [a1, a2]
    split <;> split <;> omega
  · rw [dn_length]; exact hV v (List.mem_of_mem_erase hv)
theorem two_of {V : List Int} (h : V.length = 2) : ∃ a b, V = [a, b] := by
  match V, h with
  | [a, b], _ => exact ⟨a, b, rfl⟩
theorem cd_count : ∀ {c V es : List Int} {L : List (Int × Int)}, Tr V L → Ed es L → VB V es → CdR es c L → (∀ v ∈ V, dg L v = 1 + c.count v) ∧ ∀ v, v ∉ V → c.count v = 0
  | [], V, es, L, h, hE, hV, hc => by
    have h1 : L.length = 1 := hc
    have h2 : V.length = 2 := by have := h.2.1; omega
    have hs := dg_sum h.1 L h.2.2.1
    refine ⟨fun v hv => ?_, by simp⟩
    obtain ⟨a, b, rfl⟩ := two_of h2
    have ga := h.pos (by simp) (v := a) (by simp)
    have gb := h.pos (by simp) (v := b) (by simp)
    simp at hs hv
    rcases hv with rfl | rfl <;> simp <;> omega
  | o :: c, V, es, L, h, hE, hV, hc => by
    obtain ⟨x, e, L1, L2, hx, rfl, hj, hc⟩ := hc
    obtain ⟨n1, n2, n3, n4, n5, n6, n7⟩ := h.next hE hV hx hj
    obtain ⟨i1, i2⟩ := cd_count n1 n2 n3 hc
    have hnx : (x : Int) ∉ V.erase (x : Int) := fun c => (h.1.mem_erase_iff.1 c).1 rfl
    refine ⟨fun v hv => ?_, fun v hv => ?_⟩
    · rw [dg_perm List.perm_middle, hj.dg n4, List.count_cons]
      by_cases c1 : (x : Int) = v
      · subst c1
        rw [n7, i2 _ hnx, if_pos rfl, if_neg (fun c => n4 c.symm)]
        simp; exact fun c => n4 c.symm
      · rw [i1 v (h.1.mem_erase_iff.2 ⟨fun c => c1 c.symm, hv⟩), if_neg c1]
        by_cases c2 : o = v <;> simp [c2]; omega
    · rw [List.count_cons, i2 v (fun c => hv (List.mem_of_mem_erase c))]
      have : ¬ o = v := fun c => hv (c ▸ n6)
      simp [this]
theorem cd_tr : ∀ {c V es : List Int} {L M : List (Int × Int)}, Tr V L → Ed es L → VB V es → CdR es c L → TrR es c M → M.Perm (L.map nrm)
  | [], V, es, L, M, h, hE, hV, hc, ht => by
    have h1 : L.length = 1 := hc
    obtain ⟨e, rfl⟩ := List.length_eq_one_iff.1 h1
    obtain ⟨a, b, ha, hab, hbl, hb, rfl⟩ := ht
    have ea := hE a ha.1
    have eb := hE b hbl
    rw [ha.2.1] at ea
    rw [hb] at eb
    rw [dg_cons] at ea eb
    have g1 : e.1 = a ∨ e.2 = a := by
      refine Classical.byContradiction (fun hn => ?_)
      rw [if_neg (fun c => hn (Or.inl c)), if_neg (fun c => hn (Or.inr c))] at ea
      simp [dg] at ea
    have g2 : e.1 = b ∨ e.2 = b := by
      refine Classical.byContradiction (fun hn => ?_)
      rw [if_neg (fun c => hn (Or.inl c)), if_neg (fun c => hn (Or.inr c))] at eb
      simp [dg] at eb
    have : nrm e = ((a : Int), (b : Int)) := by unfold nrm; simp only [Prod.mk.injEq]; omega
    simp [this]
  | o :: c, V, es, L, M, h, hE, hV, hc, ht => by
    obtain ⟨x, e, L1, L2, hx, rfl, hj, hc⟩ := hc
    obtain ⟨y, M', hy, rfl, ht⟩ := ht
    obtain rfl := hx.uniq hy
    obtain ⟨n1, n2, n3, _⟩ := h.next hE hV hx hj
    have := cd_tr n1 n2 n3 hc ht
    rw [← nrm_jn hj]
    have hp : ((L1 ++ e :: L2).map nrm).Perm ((e :: (L1 ++ L2)).map nrm) := List.perm_middle.map nrm
    exact (this.cons (nrm e)).trans hp.symm
/-- A code's vertices and ends. -/
def St (V es c : List Int) : Prop := V.Nodup ∧ V.length = c.length + 2 ∧ VB V es ∧ (∀ v ∈ V, es.getD v.toNat 0 = 1 + (c.count v : Int)) ∧ (∀ v : Nat, v < es.length → (v : Int) ∉ V → es.getD v 0 = 0) ∧ ∀ z ∈ c, z ∈ V
theorem count_sum {V : List Int} (hV : V.Nodup) : ∀ c : List Int, (∀ z ∈ c, z ∈ V) → (V.map fun v => c.count v).sum = c.length
  | [], _ => by simp only [List.count_nil]; exact zero_sum V
  | z :: c, h => by
    have i := count_sum hV c (fun y hy => h y (List.mem_cons_of_mem _ hy))
    have : (V.map fun v => (z :: c).count v) = V.map fun v => c.count v + (if z = v then 1 else 0) := List.map_congr_left (fun v _ => by rw [List.count_cons]; simp)
    rw [this, sum_add, i, ind_sum hV (h z (by simp))]; rfl
theorem St.leaf {V es c : List Int} (h : St V es c) : ∃ x, Lf es x := by
  obtain ⟨h1, h2, h3, h4, h5, h6⟩ := h
  have : ∃ v ∈ V, c.count v = 0 := by
    refine Classical.byContradiction (fun hn => ?_)
    have := sum_ge V (fun v => c.count v) 1 (fun v hv => Nat.pos_of_ne_zero (fun z => hn ⟨v, hv, z⟩))
    rw [count_sum h1 c h6] at this; omega
  obtain ⟨v, hv, hz⟩ := this
  have hb := h3 v hv
  obtain ⟨x, _, hx⟩ := Lf.ex (es := es) (v := v.toNat) (by omega) (by rw [h4 v hv, hz]; rfl)
  exact ⟨x, hx⟩
theorem St.mem {V es c : List Int} (h : St V es c) {x : Nat} (hl : x < es.length) (hx : es.getD x 0 = 1) : (x : Int) ∈ V ∧ c.count (x : Int) = 0 := by
  have h1 : (x : Int) ∈ V := Classical.byContradiction (fun hn => by have := h.2.2.2.2.1 x hl hn; omega)
  have := h.2.2.2.1 _ h1
  rw [Int.toNat_natCast, hx] at this
  exact ⟨h1, by omega⟩
theorem St.next {V es c : List Int} {o : Int} {x : Nat} (h : St V es (o :: c)) (hx : Lf es x) : St (V.erase x) (dn es x o.toNat) c ∧ (x : Int) ∈ V ∧ o ∈ V ∧ (x : Int) ≠ o := by
  obtain ⟨m1, m2⟩ := h.mem hx.1 hx.2.1
  obtain ⟨h1, h2, h3, h4, h5, h6⟩ := h
  have ho : o ∈ V := h6 o (by simp)
  have hne : (x : Int) ≠ o := by
    intro c; subst c; simp at m2
  have hbo := h3 o ho
  have hne' : x ≠ o.toNat := by omega
  have hm : c.count (x : Int) = 0 := by rw [List.count_cons] at m2; omega
  refine ⟨⟨h1.erase _, ?_, fun v hv => ?_, fun v hv => ?_, fun v hv hn => ?_, fun z hz => ?_⟩, m1, ho, hne⟩
  · rw [List.length_erase_of_mem m1]; simp at h2; omega
  · rw [dn_length]; exact h3 v (List.mem_of_mem_erase hv)
  · have hv' := h1.mem_erase_iff.1 hv
    have hb := h3 v hv'.2
    rw [dn_get es hne' _ (by omega), h4 v hv'.2, List.count_cons, if_neg (show ¬ x = v.toNat from fun c => hv'.1 (by omega))]
    by_cases c1 : o = v
    · rw [if_pos (show o.toNat = v.toNat by rw [c1])]; simp [c1]; omega
    · rw [if_neg (show ¬ o.toNat = v.toNat by omega)]; simp [c1]
  · rw [dn_length] at hv
    rw [dn_get es hne' v hv]
    by_cases c1 : x = v
    · subst c1
      rw [hx.2.1, if_pos rfl, if_neg (show ¬ o.toNat = x from fun c => hne' c.symm)]; rfl
    · have c2 : (v : Int) ∉ V := fun c => hn (h1.mem_erase_iff.2 ⟨fun e => c1 (by omega), c⟩)
      rw [h5 v hv c2, if_neg c1, if_neg (show ¬ o.toNat = v from fun c => c2 (by rw [show (v : Int) = o by omega]; exact ho))]; rfl
  · refine h1.mem_erase_iff.2 ⟨fun e => ?_, h6 z (List.mem_cons_of_mem _ hz)⟩
    subst e
    exact absurd hz (List.count_eq_zero.1 hm)
theorem tr_tree : ∀ {c V es : List Int} {M : List (Int × Int)}, St V es c → TrR es c M → Tr V M ∧ Ed es M
  | [], V, es, M, h, ht => by
    obtain ⟨a, b, ha, hab, hbl, hb, rfl⟩ := ht
    obtain ⟨ma, _⟩ := h.mem ha.1 ha.2.1
    obtain ⟨mb, _⟩ := h.mem hbl hb
    obtain ⟨h1, h2, h3, h4, h5, h6⟩ := h
    have t0 : Tr [(b : Int)] [] := ⟨by simp, rfl, by simp, fun f _ p hp q hq => by rw [List.mem_singleton.1 hp, List.mem_singleton.1 hq]⟩
    have t1 : Tr [(a : Int), (b : Int)] [((a : Int), (b : Int))] := t0.add (by simp; omega) (by simp) (Or.inl ⟨rfl, rfl⟩)
    obtain ⟨p, q, rfl⟩ := two_of h2
    have hp : [(a : Int), (b : Int)].Perm [p, q] := by
      simp at ma mb
      rcases ma with ma | ma <;> rcases mb with mb | mb
      · omega
      · rw [ma, mb]
      · rw [ma, mb]; exact List.Perm.swap _ _ _
      · omega
    refine ⟨t1.permV hp, fun v hv => ?_⟩
    rw [dg_cons]
    by_cases hm : (v : Int) ∈ [p, q]
    · have e1 := h4 _ hm
      rw [Int.toNat_natCast] at e1
      rw [e1]
      have := hp.mem_iff.2 hm
      simp only [List.mem_cons, List.not_mem_nil, or_false] at this
      simp only [List.count_nil, dg, List.map_nil, List.sum_nil]
      rcases this with c | c
      · rw [if_pos c.symm, if_neg (by omega)]; rfl
      · rw [if_neg (by omega), if_pos c.symm]; rfl
    · rw [h5 v hv hm]
      have : (v : Int) ∉ [(a : Int), (b : Int)] := fun c => hm (hp.mem_iff.1 c)
      simp only [List.mem_cons, List.not_mem_nil, or_false, not_or] at this
      rw [if_neg (fun c => this.1 c.symm), if_neg (fun c => this.2 c.symm)]; rfl
  | o :: c, V, es, M, h, ht => by
    obtain ⟨x, M', hx, rfl, ht⟩ := ht
    obtain ⟨n1, n2, n3, n4⟩ := h.next hx
    obtain ⟨i1, i2⟩ := tr_tree n1 ht
    have hnx : (x : Int) ∉ V.erase (x : Int) := fun c => (h.1.mem_erase_iff.1 c).1 rfl
    have hbo := h.2.2.1 o n3
    have hne' : x ≠ o.toNat := by omega
    refine ⟨(i1.add hnx (h.1.mem_erase_iff.2 ⟨fun e => n4 e.symm, n3⟩) (jn_nrm _ _)).permV (List.perm_cons_erase n2).symm, fun v hv => ?_⟩
    have e := i2 v (by rw [dn_length]; exact hv)
    rw [dn_get es hne' v hv] at e
    rw [(jn_nrm (x : Int) o).dg n4]
    have a1 : (if (x : Int) = (v : Int) then 1 else 0 : Nat) = if x = v then 1 else 0 := by simp only [Int.natCast_inj]
    have a2 : (if o = (v : Int) then 1 else 0 : Nat) = if o.toNat = v then 1 else 0 := by
      by_cases c : o.toNat = v
      · rw [if_pos c, if_pos (by omega)]
      · rw [if_neg c, if_neg (by omega)]
    rw [a1, a2]
    revert e
    split <;> split <;> intro e <;> omega
theorem cd_uniq : ∀ {c d V es : List Int} {L M : List (Int × Int)}, St V es c → TrR es c M → L.Perm M → CdR es d L → d = c
  | [], d, V, es, L, M, h, ht, hp, hc => by
    have h1 := ht.len
    have h2 := hc.len
    have := hp.length_eq
    exact List.eq_nil_of_length_eq_zero (by simp at h1; omega)
  | o :: c, [], V, es, L, M, h, ht, hp, hc => by
    have h1 := ht.len
    have h2 := hc.len
    have := hp.length_eq
    simp at h1 h2; omega
  | o :: c, p :: d, V, es, L, M, h, ht, hp, hc => by
    obtain ⟨t1, t2⟩ := tr_tree h ht
    have tL := t1.perm hp.symm
    have eL : Ed es L := fun v hv => by rw [t2 v hv, dg_perm hp]
    obtain ⟨y, e, L1, L2, hy, rfl, hj, hc⟩ := hc
    obtain ⟨x, M', hx, rfl, ht⟩ := ht
    obtain rfl := hx.uniq hy
    obtain ⟨n1, n2, n3, n4⟩ := h.next hx
    obtain ⟨_, _, _, k4, _, _, k7⟩ := tL.next eL h.2.2.1 hx hj
    have hp' : (e :: (L1 ++ L2)).Perm (nrm ((x : Int), o) :: M') := List.perm_middle.symm.trans hp
    have hmem : nrm ((x : Int), o) ∈ e :: (L1 ++ L2) := hp'.mem_iff.2 (by simp)
    have he : nrm ((x : Int), o) = e := by
      rcases List.mem_cons.1 hmem with c1 | c1
      · exact c1
      · have := dg_zero k7 _ c1
        rcases (jn_nrm (x : Int) o).ends with c2 | c2
        · exact absurd c2 this.1
        · exact absurd c2 this.2
    have hop : o = p := by
      have := jn_nrm (x : Int) o
      rw [he] at this
      exact this.uniq hj
    subst hop
    rw [he] at hp'
    rw [cd_uniq n1 ht hp'.cons_inv hc]
end Go.Proofs.Ytihafckdaecgkaa
