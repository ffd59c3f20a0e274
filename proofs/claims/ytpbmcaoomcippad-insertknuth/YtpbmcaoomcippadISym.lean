/-
  SCHUETZENBERGER'S: of the inverse P and Q change places; read from behind P is turned over: plain facts.
-/
import Derived.Test.YtpbmcaoomcippadISid
namespace Go.Proofs.Ytpbmcaoomcippad

theorem lng_cons (r : List Int) (t : List (List Int)) (j : Nat) (M : Int) : lng (r :: t) (j + 1) M = r :: lng t j M := by
  unfold lng
  by_cases h : j = t.length
  · rw [if_pos (by rw [List.length_cons, h]), if_pos h]; rfl
  · rw [if_neg (by rw [List.length_cons]; omega), if_neg h]; rfl
theorem lng_zero (r : List Int) (t : List (List Int)) (M : Int) : lng (r :: t) 0 M = (r ++ [M]) :: t := by
  unfold lng
  rw [if_neg (by simp)]; rfl
theorem ins_yes {x : Int} {r : List Int} {t : List (List Int)} (e : spot false x r = r.length) : ins false x (r :: t) = (r ++ [x]) :: t ∧ insAt false x (r :: t) = 0 := by
  simp only [ins, insAt]; rw [if_pos e, if_pos e]; exact ⟨rfl, rfl⟩
theorem ins_not {x : Int} {r : List Int} {t : List (List Int)} {k : Nat} (e : spot false x r = k) (h : k < r.length) : ins false x (r :: t) = r.set k x :: ins false (r.getD k 0) t ∧ insAt false x (r :: t) = insAt false (r.getD k 0) t + 1 := by
  simp only [ins, insAt, e]; rw [if_neg (by omega), if_neg (by omega)]; exact ⟨rfl, rfl⟩
/-- The greatest letter goes to the end of the first row. -/
theorem ins_great {M : Int} {t : List (List Int)} (h : ∀ z ∈ t.flatten, z < M) : ins false M t = lng t 0 M ∧ insAt false M t = 0 := by
  cases t with
  | nil => exact ⟨rfl, rfl⟩
  | cons r t =>
    have e : spot false M r = r.length := spot_all (fun j hj => Int.le_of_lt (h _ (by rw [List.flatten_cons]; exact List.mem_append_left _ (getD_mem hj))))
    rw [lng_zero]; exact ins_yes e

/-- The greatest letter is in the way only where the path ends at its own box. -/
theorem ins_max : ∀ (t : List (List Int)) (x M : Int) (j : Nat), x < M → (∀ z ∈ t.flatten, z < M) → j ≤ t.length →
    (j ≠ insAt false x t → ins false x (lng t j M) = lng (ins false x t) j M ∧ insAt false x (lng t j M) = insAt false x t) ∧
    (j = insAt false x t → ins false x (lng t j M) = lng (ins false x t) (j + 1) M ∧ insAt false x (lng t j M) = j + 1) := by
  intro t
  induction t with
  | nil =>
    intro x M j hx _ hj
    obtain rfl : j = 0 := by simpa using hj
    refine ⟨fun h => absurd rfl h, fun _ => ?_⟩
    have e : lng [] 0 M = [[M]] := rfl
    have e2 : spot false x [M] = 0 := spot_is (by simp) (fun j hj => by omega) (Or.inr (passes_no.2 (by simpa using hx)))
    rw [e]
    have := ins_not (t := []) e2 (by simp)
    rw [this.1, this.2]
    exact ⟨rfl, rfl⟩
  | cons r t ih =>
    intro x M j hx hM hj
    have hMr : ∀ i, i < r.length → r.getD i 0 < M := fun i hi => hM _ (by rw [List.flatten_cons]; exact List.mem_append_left _ (getD_mem hi))
    have hMt : ∀ z ∈ t.flatten, z < M := fun z hz => hM z (by rw [List.flatten_cons]; exact List.mem_append_right _ hz)
    have hk := spot_has x r
    obtain ⟨k, ek⟩ : ∃ k, spot false x r = k := ⟨_, rfl⟩
    rw [ek] at hk
    cases j with
    | zero =>
      rw [lng_zero]
      by_cases c : k = r.length
      · have i1 := ins_yes (t := t) (ek.trans c)
        have e2 : spot false x (r ++ [M]) = r.length := Spot.is ⟨by simp, fun m hm => by rw [getD_app, if_pos hm]; exact hk.pass m (by omega), fun _ => by rw [getD_app, if_neg (by omega), if_pos rfl]; exact hx⟩
        have i2 := ins_not (t := t) e2 (by simp)
        rw [getD_app, if_neg (by omega), if_pos rfl] at i2
        have i3 := ins_great hMt
        refine ⟨fun h => absurd i1.2.symm h, fun _ => ?_⟩
        rw [i2.1, i2.2, i3.1, i3.2, i1.1, lng_cons]
        refine ⟨?_, rfl⟩
        congr 1
        simp
      · have hkl : k < r.length := by have := hk.le; omega
        have i1 := ins_not (t := t) ek hkl
        have e2 : spot false x (r ++ [M]) = k := Spot.is ⟨by simp; omega, fun m hm => by rw [getD_app, if_pos (by omega)]; exact hk.pass m hm, fun _ => by rw [getD_app, if_pos hkl]; exact hk.stop hkl⟩
        have i2 := ins_not (t := t) e2 (by simp; omega)
        rw [getD_app, if_pos hkl] at i2
        refine ⟨fun _ => ?_, fun h => by rw [i1.2] at h; omega⟩
        rw [i2.1, i2.2, i1.1, i1.2, lng_zero]
        refine ⟨?_, rfl⟩
        congr 1
        rw [List.set_append_left _ _ hkl]
    | succ j =>
      rw [lng_cons]
      have hj' : j ≤ t.length := by simpa using hj
      by_cases c : k = r.length
      · have i1 := ins_yes (t := t) (ek.trans c)
        have i2 := ins_yes (t := lng t j M) (ek.trans c)
        refine ⟨fun _ => ?_, fun h => by rw [i1.2] at h; omega⟩
        rw [i2.1, i2.2, i1.1, i1.2, lng_cons]; exact ⟨rfl, rfl⟩
      · have hkl : k < r.length := by have := hk.le; omega
        have i1 := ins_not (t := t) ek hkl
        have i2 := ins_not (t := lng t j M) ek hkl
        obtain ⟨q1, q2⟩ := ih (r.getD k 0) M j (hMr k hkl) hMt hj'
        rw [i2.1, i2.2, i1.1, i1.2]
        refine ⟨fun h => ?_, fun h => ?_⟩
        · obtain ⟨a1, a2⟩ := q1 (by omega)
          rw [a1, a2, lng_cons]; exact ⟨rfl, rfl⟩
        · obtain ⟨a1, a2⟩ := q2 (by omega)
          rw [a1, a2, lng_cons]; exact ⟨rfl, rfl⟩

/-- Strictly rising by A. -/
def Asc (l : List (Int × Int)) : Prop := l.Pairwise (fun c d => c.1 < d.1)
theorem Asc.ordered {l : List (Int × Int)} (h : Asc l) : Ordered l := fun i hi => by
  left
  have := (List.pairwise_iff_getElem.1 h) i (i + 1) (by omega) hi (by omega)
  simpa [List.getD, List.getElem?_eq_getElem hi, List.getElem?_eq_getElem (show i < l.length by omega)] using this

/-- The pair with the greatest B is put in among the others. -/
theorem mk_star (u : List (Int × Int)) (c : Int × Int) : ∀ (n : Nat) (v : List (Int × Int)), v.length = n → Asc (u ++ c :: v) → (∀ d ∈ u ++ v, d.2 < c.2) →
    mk (u ++ c :: v) = (lng (mk (u ++ v)).1 (insAt false c.1 (mk (u ++ v)).2) c.2, ins false c.1 (mk (u ++ v)).2) := by
  intro n
  induction n with
  | zero =>
    intro v hv ha hb
    obtain rfl : v = [] := List.eq_nil_of_length_eq_zero hv
    rw [List.append_nil, mk_snoc]
    have hu : Asc u := (List.pairwise_append.1 ha).1
    have hP : ∀ z ∈ (mk u).1.flatten, z < c.2 := fun z hz => by
      obtain ⟨d, hd, rfl⟩ := List.mem_map.1 ((mk_letters u.length u rfl).1 z hz)
      exact hb d (by simpa using hd)
    have hQ : ∀ z ∈ (mk u).2.flatten, z < c.1 := fun z hz => by
      obtain ⟨d, hd, rfl⟩ := List.mem_map.1 ((mk_perm u.length u rfl hu.ordered).mem_iff.1 hz)
      exact (List.pairwise_append.1 ha).2.2 d hd c (by simp)
    show (ins false c.2 (mk u).1, lng (mk u).2 (insAt false c.2 (mk u).1) c.1) = _
    rw [(ins_great hP).1, (ins_great hP).2, (ins_great hQ).1, (ins_great hQ).2]
  | succ n ih =>
    intro v hv ha hb
    have hne : v ≠ [] := fun e => by rw [e] at hv; simp at hv
    obtain ⟨f, d, rfl⟩ : ∃ f d, v = f ++ [d] := ⟨v.dropLast, v.getLast hne, (List.dropLast_concat_getLast hne).symm⟩
    have e1 : u ++ c :: (f ++ [d]) = (u ++ c :: f) ++ [d] := by simp
    have e2 : u ++ (f ++ [d]) = (u ++ f) ++ [d] := by simp
    rw [e1] at ha
    obtain ⟨a1, _, a3⟩ := List.pairwise_append.1 ha
    have i1 := ih f (by simpa using hv) a1 (fun x hx => hb x (by rw [e2]; exact List.mem_append_left _ hx))
    rw [e1, e2, mk_snoc, mk_snoc, i1]
    have huf : Asc (u ++ f) := List.Pairwise.sublist (by simp) a1
    have hm := (mk_made _ (u ++ f) rfl huf.ordered).1
    obtain ⟨P, hP⟩ : ∃ P, P = (mk (u ++ f)).1 := ⟨_, rfl⟩
    obtain ⟨Q, hQ⟩ : ∃ Q, Q = (mk (u ++ f)).2 := ⟨_, rfl⟩
    have lP : ∀ z ∈ P.flatten, z < c.2 := fun z hz => by
      rw [hP] at hz
      obtain ⟨x, hx, rfl⟩ := List.mem_map.1 ((mk_letters _ (u ++ f) rfl).1 z hz)
      exact hb x (by rw [e2]; exact List.mem_append_left _ hx)
    have lQ : ∀ z ∈ Q.flatten, z < d.1 := fun z hz => by
      rw [hQ] at hz
      obtain ⟨x, hx, rfl⟩ := List.mem_map.1 ((mk_perm _ (u ++ f) rfl huf.ordered).mem_iff.1 hz)
      refine a3 x ?_ d (by simp)
      rcases List.mem_append.1 hx with q | q
      · exact List.mem_append_left _ q
      · exact List.mem_append_right _ (List.mem_cons_of_mem _ q)
    have hlen : P.length = Q.length := by rw [hP, hQ]; exact hm.len
    have hd2 : d.2 < c.2 := hb d (by simp)
    have hc1 : c.1 < d.1 := a3 c (by simp) d (by simp)
    obtain ⟨i, hi⟩ : ∃ i, i = insAt false c.1 Q := ⟨_, rfl⟩
    obtain ⟨j, hj⟩ : ∃ j, j = insAt false d.2 P := ⟨_, rfl⟩
    have hil : i ≤ P.length := by rw [hi, hlen]; exact insAt_le
    have hjl : j ≤ Q.length := by rw [hj, ← hlen]; exact insAt_le
    obtain ⟨p1, p2⟩ := ins_max P d.2 c.2 i hd2 lP hil
    obtain ⟨q1, q2⟩ := ins_max Q c.1 d.1 j hc1 lQ hjl
    unfold put1
    simp only
    rw [← hP, ← hQ, ← hi, ← hj]
    rw [← hj] at p1 p2
    rw [← hi] at q1 q2
    by_cases e : i = j
    · obtain ⟨x1, x2⟩ := p2 e
      obtain ⟨y1, y2⟩ := q2 e.symm
      rw [x1, x2, y1, y2, e]
    · obtain ⟨x1, x2⟩ := p1 e
      obtain ⟨y1, y2⟩ := q1 (fun h => e h.symm)
      rw [x1, x2, y1, y2]

/-- Of the pairs turned round P and Q change places. -/
theorem mk_swap : ∀ (n : Nat) (l l' : List (Int × Int)), l'.length = n → Asc l → Asc l' → l'.Perm (l.map (fun c => (c.2, c.1))) → mk l' = ((mk l).2, (mk l).1) := by
  intro n
  induction n with
  | zero =>
    intro l l' hn _ _ hp
    obtain rfl : l' = [] := List.eq_nil_of_length_eq_zero hn
    have : l = [] := List.eq_nil_of_length_eq_zero (by have := hp.length_eq; simp at this; omega)
    subst this; rfl
  | succ n ih =>
    intro l l' hn ha ha' hp
    have hne : l' ≠ [] := fun e => by rw [e] at hn; simp at hn
    obtain ⟨f, d, rfl⟩ : ∃ f d, l' = f ++ [d] := ⟨l'.dropLast, l'.getLast hne, (List.dropLast_concat_getLast hne).symm⟩
    obtain ⟨a1, _, a3⟩ := List.pairwise_append.1 ha'
    have hd : d ∈ l.map (fun c => (c.2, c.1)) := hp.mem_iff.1 (by simp)
    obtain ⟨c, hc, hcd⟩ := List.mem_map.1 hd
    obtain ⟨u, v, rfl⟩ := List.append_of_mem hc
    have hcd1 : c.1 = d.2 ∧ c.2 = d.1 := by rw [← hcd]; exact ⟨rfl, rfl⟩
    have hpf : f.Perm ((u ++ v).map (fun c => (c.2, c.1))) := by
      have h1 : (f ++ [d]).Perm (d :: (u ++ v).map (fun c => (c.2, c.1))) := by
        refine hp.trans ?_
        rw [List.map_append, List.map_cons, hcd, List.map_append]
        exact List.perm_middle
      have h2 : (f ++ [d]).Perm (d :: f) := List.perm_append_comm (l₁ := f) (l₂ := [d])
      exact List.Perm.cons_inv (h2.symm.trans h1)
    have huv : Asc (u ++ v) := List.Pairwise.sublist (by simp) ha
    have i1 := ih (u ++ v) f (by simpa using hn) huv a1 hpf
    have st := mk_star u c v.length v rfl ha (fun x hx => by
      have : (x.2, x.1) ∈ f := hpf.mem_iff.2 (List.mem_map.2 ⟨x, hx, rfl⟩)
      have := a3 _ this d (by simp)
      rw [hcd1.2]; exact this)
    rw [mk_snoc, i1, st]
    unfold put1
    simp only [hcd1.1, hcd1.2]

-- Read from behind.
theorem ins_flag : ∀ (t : List (List Int)) (x : Int), (x :: t.flatten).Nodup → ins true x t = ins false x t := by
  intro t
  induction t with
  | nil => intro x _; rfl
  | cons r t ih =>
    intro x h
    rw [List.flatten_cons] at h
    obtain ⟨h1, h2⟩ := List.nodup_cons.1 h
    have hr : ∀ j, j < r.length → r.getD j 0 ≠ x := fun j hj e => h1 (List.mem_append_left _ (by rw [← e]; exact getD_mem hj))
    have hk := spot_has x r
    obtain ⟨k, ek⟩ : ∃ k, spot false x r = k := ⟨_, rfl⟩
    rw [ek] at hk
    have ek2 : spot true x r = k := by
      refine spot_is hk.le (fun j hj => ?_) ?_
      · have h3 := hk.pass j hj
        have h4 := hr j (by have := hk.le; omega)
        simp only [passes, if_true, decide_eq_true_eq]; omega
      · rcases Nat.lt_or_ge k r.length with q | q
        · right
          have := hk.stop q
          simp only [passes, if_true, decide_eq_false_iff_not]; omega
        · left; have := hk.le; omega
    simp only [ins, ek, ek2]
    by_cases c : k = r.length
    · rw [if_pos c, if_pos c]
    · rw [if_neg c, if_neg c]
      have hkl : k < r.length := by have := hk.le; omega
      rw [ih]
      refine List.nodup_cons.2 ⟨fun hm => ?_, (List.nodup_append.1 h2).2.1⟩
      exact (List.nodup_append.1 h2).2.2 _ (getD_mem hkl) _ hm rfl
theorem insW_left (x : Int) : ∀ (w : List Int) (t : List (List Int)), T t → insW (insL x t) w = insL x (insW t w) := by
  intro w
  induction w with
  | nil => intro t _; rfl
  | cons y w ih =>
    intro t h
    rw [insW_cons, insW_cons, ← sides h y x, ih _ (ins_T h).1]
theorem insW_first (x : Int) (w : List Int) : insW [] (x :: w) = insL x (insW [] w) := by
  rw [← insW_left x w [] trivial]; rfl
theorem ins_perm {s : Bool} : ∀ (t : List (List Int)) (x : Int), (ins s x t).flatten.Perm (x :: t.flatten) := by
  intro t
  induction t with
  | nil => intro x; exact List.Perm.refl _
  | cons r t ih =>
    intro x
    simp only [ins]
    by_cases e : spot s x r = r.length
    · rw [if_pos e, List.flatten_cons, List.flatten_cons, List.append_assoc]
      exact List.perm_middle
    · rw [if_neg e, List.flatten_cons, List.flatten_cons]
      have hlt : spot s x r < r.length := by have := spot_le s x r; omega
      obtain ⟨k, hk⟩ : ∃ k, k = spot s x r := ⟨_, rfl⟩
      rw [← hk] at hlt ⊢
      have er : r = r.take k ++ r.getD k 0 :: r.drop (k + 1) := by
        conv => lhs; rw [← List.take_append_drop k r]
        rw [drop_cons r k hlt]
      rw [List.set_eq_take_append_cons_drop, if_pos hlt]
      refine (List.Perm.append_left _ (ih _)).trans ?_
      have p1 : (List.take k r ++ x :: List.drop (k + 1) r ++ r.getD k 0 :: t.flatten).Perm (x :: (List.take k r ++ List.drop (k + 1) r ++ r.getD k 0 :: t.flatten)) := by
        rw [List.append_assoc, List.append_assoc]; exact List.perm_middle
      refine p1.trans (List.Perm.cons _ ?_)
      have p2 : (r ++ t.flatten).Perm (r.getD k 0 :: (List.take k r ++ List.drop (k + 1) r ++ t.flatten)) := by
        conv => lhs; rw [er]
        rw [List.append_assoc, List.append_assoc]; exact List.perm_middle
      exact (List.perm_middle).trans p2.symm
theorem insW_perm : ∀ (w : List Int) (t : List (List Int)), (insW t w).flatten.Perm (w ++ t.flatten) := by
  intro w
  induction w with
  | nil => intro t; exact List.Perm.refl _
  | cons x w ih =>
    intro t
    rw [insW_cons]
    refine (ih _).trans ((List.Perm.append_left _ (ins_perm t x)).trans ?_)
    exact List.perm_middle
theorem cols_perm {t : List (List Int)} : ∀ z, z ∈ (cols t).flatten → z ∈ t.flatten := fun z hz => by
  obtain ⟨c, hc, hz2⟩ := List.mem_flatten.1 hz
  obtain ⟨j, _, rfl⟩ := List.mem_map.1 hc
  exact colOf_mem hz2
/-- The word from behind: P is turned over. -/
theorem insW_rev : ∀ (w : List Int), w.Nodup → insW [] w.reverse = cols (insW [] w) := by
  intro w
  induction w with
  | nil => intro _; rfl
  | cons x w ih =>
    intro h
    obtain ⟨h1, h2⟩ := List.nodup_cons.1 h
    rw [List.reverse_cons, insW_app, ih h2, insW_first]
    have hT : T (insW [] w) := insW_T w [] trivial
    rw [(insL_T hT x).2]
    show ins false x (cols (insW [] w)) = _
    rw [← ih h2]
    refine (ins_flag _ _ ?_).symm
    have hp := insW_perm w.reverse []
    rw [List.flatten_nil, List.append_nil] at hp
    refine List.nodup_cons.2 ⟨fun hm => h1 ?_, hp.nodup_iff.2 ((List.reverse_perm w).nodup_iff.2 h2)⟩
    exact List.mem_reverse.1 (hp.mem_iff.1 hm)

end Go.Proofs.Ytpbmcaoomcippad
