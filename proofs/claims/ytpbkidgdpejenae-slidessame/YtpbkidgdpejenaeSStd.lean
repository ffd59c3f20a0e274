/-
  Tableaux of which some letters are left out; SCHUETZENBERGER'S turning over keeps the shape: plain facts.
-/
import Derived.Test.YtpbkidgdpejenaeSMov
namespace Go.Proofs.Ytpbkidgdpejenae

theorem sword_zero : ∀ (t : List (List Int)), sword (fun _ => 0) t = wrd t := by
  intro t
  induction t with
  | nil => rfl
  | cons r t ih => rw [wrd_cons, ← ih]; rfl
theorem wrd_mem {t : List (List Int)} {z : Int} : z ∈ wrd t ↔ z ∈ t.flatten := by simp [wrd]
theorem wrd_perm (t : List (List Int)) : (wrd t).Perm t.flatten := (List.reverse_perm t).flatten
theorem wrd_app (u v : List (List Int)) : wrd (u ++ v) = wrd v ++ wrd u := by simp [wrd]
theorem wrd_map (f : Int → Int) (t : List (List Int)) : wrd (t.map (List.map f)) = (wrd t).map f := by
  unfold wrd
  rw [← List.map_reverse, List.map_flatten]

/-- A tableau has no holes. -/
theorem T_sk {t : List (List Int)} (h : T t) (h1 : ∀ z ∈ t.flatten, 1 ≤ z) (X : Nat → Nat → Prop) : Sk X (fun _ => 0) t := by
  have hin : ∀ {a b}, b < (row t a).length → a < t.length := fun {a b} hb => Nat.lt_of_not_le (fun c => by rw [row_out c] at hb; simp at hb)
  have hr := T_row.1 h
  refine ⟨h.shp, fun _ => Nat.le_refl _, fun _ => Nat.zero_le _, fun a b hb => by omega, fun a b _ hb _ => h1 _ (box_mem (hin hb) hb), fun a b c _ h2 h3 _ _ => ((hr a (hin h3)).2.1).le (by omega) h3, fun a c b h2 _ h3 _ _ => ?_⟩
  have key : ∀ d, a + d + 1 < t.length → b < (row t (a + d + 1)).length → box t a b < box t (a + d + 1) b := by
    intro d
    induction d with
    | zero => intro q1 q2; exact (hr a (by omega)).2.2.2 b q2
    | succ d ih =>
      intro q1 q2
      have q3 := h.shp.shorter' (a := a + d + 1) (b := a + (d + 1) + 1) (by omega)
      have q4 := ih (by omega) (by omega)
      have q5 := (hr (a + d + 1) (by omega)).2.2.2 b (by rw [show a + d + 1 + 1 = a + (d + 1) + 1 by omega]; exact q2)
      rw [show a + d + 1 + 1 = a + (d + 1) + 1 by omega] at q5
      unfold box at q4 ⊢
      omega
  have := key (c - a - 1) (by have := hin h3; omega) (by rw [show a + (c - a - 1) + 1 = c by omega]; exact h3)
  rw [show a + (c - a - 1) + 1 = c by omega] at this
  exact this
theorem sk_T {t : List (List Int)} (h : Sk non (fun _ => 0) t) : T t := by
  refine T_row.2 (fun i hi => ⟨h.shp.1 i hi, fun j hj => h.along i j (j + 1) (by omega) (by omega) hj (fun q => q) (fun q => q), h.shp.shorter' (by omega), fun j hj => h.down i (i + 1) j (by omega) (by omega) hj (fun q => q) (fun q => q)⟩)
theorem sk_pos {t : List (List Int)} {h : Nat → Nat} (k : Sk non h t) : ∀ z ∈ sword h t, 1 ≤ z := by
  have gen : ∀ (t : List (List Int)) (h : Nat → Nat), (∀ a b, h a ≤ b → b < (row t a).length → 1 ≤ box t a b) → ∀ z ∈ sword h t, 1 ≤ z := by
    intro t
    induction t with
    | nil => intro h _ z hz; simp [sword] at hz
    | cons r t ih =>
      intro h hp z hz
      simp only [sword, List.mem_append] at hz
      rcases hz with hz | hz
      · exact ih _ (fun a b h1 h2 => by have := hp (a + 1) b h1 (by simpa [row] using h2); simpa [box, row] using this) z hz
      · obtain ⟨m, hm, rfl⟩ := List.mem_iff_getElem.1 hz
        have := hp 0 (h 0 + m) (by omega) (by simp [row]; simp at hm; omega)
        simp at hm
        simpa [box, row, List.getD, List.getElem?_eq_getElem (show h 0 + m < r.length by omega)] using this
  exact gen t h (fun a b h1 h2 => k.pos a b h1 h2 (fun q => q))

/-- The letters up to k. -/
def rs (k : Int) : List (List Int) → List (List Int)
  | [] => []
  | r :: t => if spot false k r = 0 then [] else r.take (spot false k r) :: rs k t
theorem filter_spot {r : List Int} (h : Srt r) (k : Int) : r.filter (fun z => decide (z ≤ k)) = r.take (spot false k r) := by
  have hs := spot_has k r
  conv => lhs; rw [← List.take_append_drop (spot false k r) r]
  rw [List.filter_append, List.filter_eq_self.2 (fun z hz => ?_), List.filter_eq_nil_iff.2 (fun z hz => ?_), List.append_nil]
  · obtain ⟨m, hm, rfl⟩ := List.mem_iff_getElem.1 hz
    simp at hm
    have := h.le (i := spot false k r) (j := spot false k r + m) (by omega) (by omega)
    have h2 := hs.stop (by omega)
    simp [List.getD, List.getElem?_eq_getElem (show spot false k r + m < r.length by omega)] at this
    simp only [List.getElem_drop, decide_eq_true_eq]
    simp [List.getD] at h2
    omega
  · obtain ⟨m, hm, rfl⟩ := List.mem_iff_getElem.1 hz
    simp at hm
    have h2 := hs.pass m (by omega)
    simp [List.getD, List.getElem?_eq_getElem (show m < r.length by omega)] at h2
    simpa using h2
theorem rs_none {r : List Int} {t : List (List Int)} {k : Int} (h : T (r :: t)) (h0 : spot false k r = 0) : ∀ z ∈ (r :: t).flatten, k < z := by
  have gen : ∀ (t : List (List Int)) (r : List Int) (k : Int), T (r :: t) → k < r.getD 0 0 → ∀ z ∈ (r :: t).flatten, k < z := by
    intro t
    induction t with
    | nil =>
      intro r k h hk z hz
      simp at hz
      obtain ⟨m, hm, rfl⟩ := List.mem_iff_getElem.1 hz
      have := h.2.1.le (i := 0) (j := m) (by omega) hm
      simp [List.getD, List.getElem?_eq_getElem hm] at this hk
      omega
    | cons u t ih =>
      intro r k h hk z hz
      rw [List.flatten_cons, List.mem_append] at hz
      rcases hz with hz | hz
      · obtain ⟨m, hm, rfl⟩ := List.mem_iff_getElem.1 hz
        have := h.2.1.le (i := 0) (j := m) (by omega) hm
        simp [List.getD, List.getElem?_eq_getElem hm] at this hk
        omega
      · refine ih u k h.2.2.2 ?_ z hz
        have := h.2.2.1.2 0 h.2.2.2.1
        simp at this hk ⊢
        omega
  refine gen t r k h ?_
  have := (spot_has k r).stop (by rw [h0]; exact h.1)
  rw [h0] at this; exact this
theorem wrd_rs : ∀ (t : List (List Int)) (k : Int), T t → wrd (rs k t) = (wrd t).filter (fun z => decide (z ≤ k)) := by
  intro t
  induction t with
  | nil => intro k _; rfl
  | cons r t ih =>
    intro k h
    unfold rs
    by_cases c : spot false k r = 0
    · rw [if_pos c]
      have := rs_none h c
      rw [List.filter_eq_nil_iff.2 (fun z hz => by have := this z (wrd_mem.1 hz); simp; omega)]
      rfl
    · rw [if_neg c, wrd_cons, wrd_cons, List.filter_append, ih k h.2.2.2, filter_spot h.2.1]
theorem T_rs : ∀ (t : List (List Int)) (k : Int), T t → T (rs k t) := by
  intro t
  induction t with
  | nil => intro k _; trivial
  | cons r t ih =>
    intro k h
    unfold rs
    have hs := spot_has k r
    by_cases c : spot false k r = 0
    · rw [if_pos c]; trivial
    · rw [if_neg c]
      have hl : (r.take (spot false k r)).length = spot false k r := by rw [List.length_take]; have := hs.le; omega
      refine ⟨by omega, fun j hj => ?_, ?_, ih k h.2.2.2⟩
      · rw [hl] at hj
        rw [take_getD' _ _ _ (by omega), take_getD' _ _ _ hj]; exact h.2.1 j (by have := hs.le; omega)
      · cases t with
        | nil => exact dn_nil _
        | cons u t =>
          unfold rs
          by_cases c2 : spot false k u = 0
          · rw [if_pos c2]; exact dn_nil _
          · rw [if_neg c2]
            have hu := spot_has k u
            have hd := h.2.2.1
            simp only [List.headD_cons] at hd ⊢
            have hl2 : (u.take (spot false k u)).length = spot false k u := by rw [List.length_take]; have := hu.le; omega
            have hle : spot false k u ≤ spot false k r := Nat.le_of_not_lt (fun q => by
              have q1 := hu.pass (spot false k r) q
              have q2 := hs.stop (by have := hu.le; have := hd.1; omega)
              have q3 := hd.2 (spot false k r) (by have := hu.le; omega)
              omega)
            refine ⟨by omega, fun j hj => ?_⟩
            rw [hl2] at hj
            rw [take_getD' _ _ _ (by omega), take_getD' _ _ _ hj]
            exact hd.2 j (by have := hu.le; omega)
theorem rs_box : ∀ (t : List (List Int)) (k : Int), T t → ∀ a b, (b < (row (rs k t) a).length ↔ b < (row t a).length ∧ box t a b ≤ k) ∧ (b < (row (rs k t) a).length → box (rs k t) a b = box t a b) := by
  intro t
  induction t with
  | nil => intro k _ a b; simp [rs, row]
  | cons r t ih =>
    intro k h a b
    unfold rs
    have hs := spot_has k r
    by_cases c : spot false k r = 0
    · rw [if_pos c]
      have hn := rs_none h c
      refine ⟨⟨fun q => by simp [row] at q, fun q => ?_⟩, fun q => by simp [row] at q⟩
      have := hn _ (box_mem (Nat.lt_of_not_le (fun e => by rw [row_out e] at q; simp at q)) q.1)
      omega
    · rw [if_neg c]
      have hl : (r.take (spot false k r)).length = spot false k r := by rw [List.length_take]; have := hs.le; omega
      cases a with
      | zero =>
        show (b < (r.take (spot false k r)).length ↔ b < r.length ∧ r.getD b 0 ≤ k) ∧ (b < (r.take (spot false k r)).length → (r.take (spot false k r)).getD b 0 = r.getD b 0)
        rw [hl]
        refine ⟨⟨fun q => ⟨by have := hs.le; omega, hs.pass b q⟩, fun q => Nat.lt_of_not_le (fun e => ?_)⟩, fun q => take_getD' _ _ _ q⟩
        have q1 := hs.stop (by omega)
        have q2 := h.2.1.le e q.1
        omega
      | succ a =>
        exact ih k h.2.2.2 a b

/-- Turned over and read from behind the shape stays. -/
def sameShape (t u : List (List Int)) : Prop := ∀ a, (row t a).length = (row u a).length
theorem len_of_iff {m n : Nat} (h : ∀ b, b < m ↔ b < n) : m = n := by
  rcases Nat.lt_trichotomy m n with c | c | c
  · have := (h m).2 c; omega
  · exact c
  · have := (h n).1 c; omega
theorem cols_shape {t u : List (List Int)} (ht : Shp t) (hu : Shp u) (h : sameShape t u) : sameShape (cols t) (cols u) := fun c =>
  len_of_iff (fun a => by rw [cols_len ht c a, cols_len hu c a, h a])
theorem cols_shape2 {t u : List (List Int)} (ht : Shp t) (hu : Shp u) (h : sameShape t (cols u)) : sameShape (cols t) u := fun c =>
  len_of_iff (fun a => by
    rw [cols_len ht c a, h a, cols_len hu a c])
def swp (l : List (Int × Int)) : List (Int × Int) := l.map (fun c => (c.2, c.1))
/-- In order of the firsts. -/
theorem sorted_pairs (l : List (Int × Int)) (h : (l.map Prod.fst).Nodup) : ∃ m, m.Perm l ∧ Asc m := by
  refine ⟨l.mergeSort (fun a b => decide (a.1 ≤ b.1)), List.mergeSort_perm l _, ?_⟩
  have h1 := List.pairwise_mergeSort (le := fun (a b : Int × Int) => decide (a.1 ≤ b.1)) (fun a b c p q => by simp at p q ⊢; omega) (fun a b => by simp; omega) l
  have h2 : ((l.mergeSort (fun a b => decide (a.1 ≤ b.1))).map Prod.fst).Nodup := ((List.mergeSort_perm l _).map Prod.fst).nodup_iff.2 h
  unfold Asc
  have h3 : (l.mergeSort (fun a b => decide (a.1 ≤ b.1))).Pairwise (fun a b => a.1 ≠ b.1) := by
    unfold List.Nodup at h2; rw [List.pairwise_map] at h2; exact h2
  exact (h1.and h3).imp (fun p => by have := p.1; simp at this; have := p.2; omega)
theorem put1_fst : ∀ (l : List (Int × Int)) (s : List (List Int) × List (List Int)), (l.foldl put1 s).1 = insW s.1 (l.map Prod.snd) := by
  intro l
  induction l with
  | nil => intro s; rfl
  | cons c l ih => intro s; rw [List.foldl_cons, ih]; rfl
theorem mk_fst (l : List (Int × Int)) : (mk l).1 = insW [] (l.map Prod.snd) := put1_fst l _
def numP (w : List Int) : List (Int × Int) := (List.range w.length).map (fun i => (((i : Nat) : Int) + 1, w.getD i 0))
theorem numP_snd (w : List Int) : (numP w).map Prod.snd = w := by
  refine ext_getD (by simp [numP]) (fun j hj => ?_)
  simp [numP] at hj
  simp [numP, List.getD, hj]
theorem numP_asc (w : List Int) : Asc (numP w) := by
  unfold Asc numP
  rw [List.pairwise_map]
  exact List.pairwise_lt_range.imp (fun p => by simp; omega)
theorem comp_shape {w : List Int} (hn : w.Nodup) (c : Int) : sameShape (insW [] (w.map (fun z => c - z))) (cols (insW [] w)) := by
  obtain ⟨l, hl⟩ : ∃ l, l = numP w := ⟨_, rfl⟩
  have hlA : Asc l := hl ▸ numP_asc w
  have hl2 : l.map Prod.snd = w := hl ▸ numP_snd w
  obtain ⟨m, hm, hmA⟩ := sorted_pairs (swp l) (by unfold swp; rw [List.map_map]; simpa [Function.comp_def] using hl2 ▸ hn)
  have e1 := mk_swap m.length l m rfl hlA hmA hm
  -- the other one
  obtain ⟨lc, hlc⟩ : ∃ lc, lc = l.map (fun d => (d.1, c - d.2)) := ⟨_, rfl⟩
  have hlcA : Asc lc := by rw [hlc]; unfold Asc; rw [List.pairwise_map]; exact hlA
  have hlc2 : lc.map Prod.snd = w.map (fun z => c - z) := by rw [hlc, ← hl2, List.map_map, List.map_map]; rfl
  obtain ⟨mc, hmc⟩ : ∃ mc, mc = (m.map (fun d => (c - d.1, d.2))).reverse := ⟨_, rfl⟩
  have hmcA : Asc mc := by
    rw [hmc]; unfold Asc; rw [List.pairwise_reverse, List.pairwise_map]
    exact List.Pairwise.imp (fun p => by simp; omega) hmA
  have hmcp : mc.Perm (lc.map (fun d => (d.2, d.1))) := by
    rw [hmc, hlc]
    refine (List.reverse_perm _).trans ?_
    have := hm.map (fun d : Int × Int => (c - d.1, d.2))
    unfold swp at this
    rw [List.map_map] at this ⊢
    exact this
  have e2 := mk_swap mc.length lc mc rfl hlcA hmcA hmcp
  have hmn : (m.map Prod.snd).Nodup := by
    refine ((hm.map Prod.snd).nodup_iff).2 ?_
    unfold swp
    rw [List.map_map]
    have : (l.map Prod.fst).Nodup := by
      unfold List.Nodup; rw [List.pairwise_map]; exact List.Pairwise.imp (fun p => by omega) hlA
    simpa [Function.comp_def] using this
  have e3 : (mk mc).1 = cols (mk m).1 := by
    rw [mk_fst, mk_fst, hmc, List.map_reverse, List.map_map]
    have := insW_rev (m.map Prod.snd) hmn
    simpa [Function.comp_def] using this
  have M1 := (mk_made _ l rfl hlA.ordered).1
  have M2 := (mk_made _ lc rfl hlcA.ordered).1
  have f1 : insW [] (w.map (fun z => c - z)) = (mk lc).1 := by rw [mk_fst, hlc2]
  have f2 : insW [] w = (mk l).1 := by rw [mk_fst, hl2]
  rw [f1, f2]
  intro a
  rw [M2.lens a]
  have g1 : (mk lc).2 = cols (mk l).2 := by
    have := congrArg Prod.fst e2; simp only at this
    have := congrArg Prod.fst e1; simp only at this
    rw [← ‹(mk mc).1 = (mk lc).2›, e3, this]
  rw [g1]
  exact cols_shape M1.tq.shp M1.tp.shp (fun i => (M1.lens i).symm) a
theorem star_shape {w : List Int} (hn : w.Nodup) (c : Int) : sameShape (insW [] (star c w)) (insW [] w) := by
  have hn2 : (w.map (fun z => c - z)).Nodup := by
    unfold List.Nodup at hn ⊢; rw [List.pairwise_map]; exact hn.imp (fun p => by omega)
  unfold star
  rw [insW_rev _ hn2]
  exact cols_shape2 (insW_T _ [] trivial).shp (insW_T _ [] trivial).shp (comp_shape hn c)

end Go.Proofs.Ytpbkidgdpejenae
