/-
  The search: what its memory holds, and the contract of (*search).from, for each of the two closures.
-/
import Derived.Test.YtncokoimbpkapaaRvS
import Derived.Deep.RegionHeld3
import Derived.Laws.EntriesVeiled
namespace Go.Proofs.Ytncokoimbpkapaa
open Go.RowKit

abbrev ptr (g : Nat) : Value := .pointer (some ⟨g, 0, none⟩)
/-- What of the search stays. -/
structure StF (w : World) (s U cu W cw : Nat) (vb vr fv : Value) (bs : List (Nat × Nat)) (n : Nat) (b : Nat → Nat) : Prop where
  c0 : w.cell? ⟨s, 0, none⟩ = some vb
  c1 : w.cell? ⟨s, 1, none⟩ = some vr
  c2 : w.cell? ⟨s, 2, none⟩ = some (.slice (some ⟨W, 0, none⟩) (n + 1) cw)
  c3 : w.cell? ⟨s, 3, none⟩ = some (.slice (some ⟨U, 0, none⟩) (n + 1) cu)
  c4 : w.cell? ⟨s, 4, none⟩ = some fv
  vb0 : ∃ a cb, vb = .slice a bs.length cb
  bx : ∀ k, k < bs.length → ∃ B cb, vb = .slice (some ⟨B, 0, none⟩) bs.length cb ∧ w.cell? ⟨B, k * 2, none⟩ = some (.int .i64 ((bs.getD k (0, 0)).1 : Int)) ∧ w.cell? ⟨B, k * 2 + 1, none⟩ = some (.int .i64 ((bs.getD k (0, 0)).2 : Int))
  wa : ∀ j, j ≤ n → w.cell? ⟨W, j, none⟩ = some (.int .i64 (b j : Int))

/-- The search's memory, in blocks from lo on, under H. -/
structure SI (w : World) (lo H s U cu W cw : Nat) (vb vr fv : Value) (vs : List Value) (bs : List (Nat × Nat)) (n m : Nat) (b c : Nat → Nat) (g : Nat → Nat → Nat) (u : Nat → Nat) : Prop where
  st : ∀ w', (∀ k, lo ≤ k → k < H → k ≠ U → (∀ i, i < m → (rowv vs i).ownBlock ≠ some k) → w'.heap[k]? = w.heap[k]?) → StF w' s U cu W cw vb vr fv bs n b
  used : Owns w lo (.slice (some ⟨U, 0, none⟩) (n + 1) cu) (castL (uL n u))
  rows : TblV w lo vr vs (castT (tabN c m g))
  au : ∀ i, i < m → (rowv vs i).ownBlock ≠ some U
  av : vr.ownBlock ≠ some U
  hU : U < H
  hr : ∀ i, i < m → ∀ k, (rowv vs i).ownBlock = some k → k < H
  hv : ∀ k, vr.ownBlock = some k → k < H
  hH : H ≤ w.heap.size
  hg : ∀ i j, g i j ≤ n
  hu : ∀ x, x ≤ n → u x ≤ b x
theorem SI.stat {w : World} {lo H s U cu W cw : Nat} {vb vr fv : Value} {vs : List Value} {bs : List (Nat × Nat)} {n m : Nat} {b c : Nat → Nat} {g : Nat → Nat → Nat} {u : Nat → Nat} (h : SI w lo H s U cu W cw vb vr fv vs bs n m b c g u) : StF w s U cu W cw vb vr fv bs n b := h.st w (fun _ _ _ _ _ => rfl)
theorem SI.keep {w w' : World} {lo H s U cu W cw : Nat} {vb vr fv : Value} {vs : List Value} {bs : List (Nat × Nat)} {n m : Nat} {b c : Nat → Nat} {g : Nat → Nat → Nat} {u : Nat → Nat} (h : SI w lo H s U cu W cw vb vr fv vs bs n m b c g u) (hk : ∀ k, lo ≤ k → k < H → w'.heap[k]? = w.heap[k]?) (hs : H ≤ w'.heap.size) : SI w' lo H s U cu W cw vb vr fv vs bs n m b c g u := by
  have hl : (castT (tabN c m g)).length = m := by rw [castT_len, tabN_len]
  refine ⟨fun w2 h2 => h.st w2 (fun k a1 a2 a3 a4 => (h2 k a1 a2 a3 a4).trans (hk k a1 a2)), ownsRow_blocks h.used (fun k e => ?_), ⟨ownsRow_blocks h.rows.own (fun k e => hk k (h.rows.own.lt k e).1 (h.hv k e)), h.rows.len, fun i hi => ownsRow_blocks (h.rows.rows i hi) (fun k e => hk k ((h.rows.rows i hi).lt e).1 (h.hr i (by omega) k e)), h.rows.apart, h.rows.off⟩, h.au, h.av, h.hU, h.hr, h.hv, hs, h.hg, h.hu⟩
  have e1 : k = U := by simpa [Value.ownBlock, eq_comm] using e
  subst e1
  exact hk k (World.ownsRow.lt h.used k rfl).1 h.hU
theorem uL_set {n x : Nat} {u : Nat → Nat} (y : Nat) : (castL (uL n u)).set x (y : Int) = castL (uL n fun z => if z = x then y else u z) := by
  refine List.ext_getElem (by simp [castL, uL]) fun j h1 h2 => ?_
  simp only [castL, uL, List.getElem_set, List.getElem_map, List.getElem_range]
  by_cases e : x = j
  · subst e; simp
  · simp [e, Ne.symm e]
theorem tab_set {c : Nat → Nat} {m : Nat} {g : Nat → Nat → Nat} {i j : Nat} (x : Nat) (hi : i < m) : (castT (tabN c m g)).set i (((castT (tabN c m g)).getD i []).set j (x : Int)) = castT (tabN c m (upd2 g i j x)) := by
  rw [castT_at, tabN_row hi]
  refine List.ext_getElem (by simp [castT, tabN]) fun r h1 h2 => ?_
  simp only [castT, tabN, List.getElem_set, List.getElem_map, List.getElem_range]
  by_cases e : i = r
  · subst e
    rw [if_pos rfl]
    refine List.ext_getElem (by simp [castL]) fun k h3 h4 => ?_
    simp only [castL, List.getElem_set, List.getElem_map, List.getElem_range]
    by_cases e2 : j = k
    · subst e2; rw [if_pos rfl, upd2_same]
    · rw [if_neg e2, upd2_other g (fun h => e2 h.2.symm)]
  · rw [if_neg e]
    refine congrArg castL (List.map_congr_left fun k _ => ?_)
    rw [upd2_other g (fun h => e h.1.symm)]
/-- A letter into a box. -/
theorem SI.box {w : World} {lo H s U cu W cw : Nat} {vb vr fv : Value} {vs : List Value} {bs : List (Nat × Nat)} {n m : Nat} {b c : Nat → Nat} {g : Nat → Nat → Nat} {u : Nat → Nat} (h : SI w lo H s U cu W cw vb vr fv vs bs n m b c g u) {i j x q cq : Nat} (hi : i < m) (hx : x ≤ n) (hq : rowv vs i = .slice (some ⟨q, 0, none⟩) (c i) cq) :
    SI (w.setCell ⟨q, j, none⟩ (.int .i64 (x : Int))) lo H s U cu W cw vb vr fv vs bs n m b c (upd2 g i j x) u := by
  have hl : (castT (tabN c m g)).length = m := by rw [castT_len, tabN_len]
  have hqo : (rowv vs i).ownBlock = some q := by rw [hq]; rfl
  have hqU : U ≠ q := fun e => h.au i hi (by rw [hqo, e])
  refine ⟨fun w2 h2 => h.st w2 (fun k a1 a2 a3 a4 => (h2 k a1 a2 a3 a4).trans (heap_setCell_other _ _ _ _ (fun e => a4 i hi (by rw [hqo, e])))), ownsRow_blocks h.used (fun k e => ?_), ?_, h.au, h.av, h.hU, h.hr, h.hv, by simpa using h.hH, fun a d => ?_, h.hu⟩
  · have e1 : k = U := by simpa [Value.ownBlock, eq_comm] using e
    subst e1
    exact heap_setCell_other _ _ _ _ hqU
  · have := h.rows.storeBox (i := i) (by omega) hq (by rw [castT_at, tabN_row hi, castL_len]; simp) j (x : Int)
    rw [tab_set x hi] at this
    exact this
  · unfold upd2; split
    · exact hx
    · exact h.hg a d
/-- A letter is used. -/
theorem SI.use {w : World} {lo H s U cu W cw : Nat} {vb vr fv : Value} {vs : List Value} {bs : List (Nat × Nat)} {n m : Nat} {b c : Nat → Nat} {g : Nat → Nat → Nat} {u : Nat → Nat} (h : SI w lo H s U cu W cw vb vr fv vs bs n m b c g u) {x y : Nat} (hy : x ≤ n → y ≤ b x) :
    SI (w.setCell ⟨U, x, none⟩ (.int .i64 (y : Int))) lo H s U cu W cw vb vr fv vs bs n m b c g (fun z => if z = x then y else u z) := by
  have hl : (castT (tabN c m g)).length = m := by rw [castT_len, tabN_len]
  refine ⟨fun w2 h2 => h.st w2 (fun k a1 a2 a3 a4 => (h2 k a1 a2 a3 a4).trans (heap_setCell_other _ _ _ _ a3)), ?_, ⟨ownsRow_blocks h.rows.own (fun k e => heap_setCell_other _ _ _ _ (fun e2 => h.av (by have e3 : k = U := e2; rw [← e3]; exact e))), h.rows.len, fun i hi => ownsRow_blocks (h.rows.rows i hi) (fun k e => heap_setCell_other _ _ _ _ (fun e2 => h.au i (by omega) (by have e3 : k = U := e2; rw [← e3]; exact e))), h.rows.apart, h.rows.off⟩, h.au, h.av, h.hU, h.hr, h.hv, by simpa using h.hH, h.hg, fun z hz => ?_⟩
  · have := h.used.store (by rw [castL_len]; simp [uL]) x (y : Int)
    rw [uL_set] at this
    exact this
  · split
    · rename_i e; rw [e]; exact hy (by omega)
    · exact h.hu z hz
theorem SI.ucell {w : World} {lo H s U cu W cw : Nat} {vb vr fv : Value} {vs : List Value} {bs : List (Nat × Nat)} {n m : Nat} {b c : Nat → Nat} {g : Nat → Nat → Nat} {u : Nat → Nat} (h : SI w lo H s U cu W cw vb vr fv vs bs n m b c g u) : (∀ j, w.frozen? ⟨U, j, none⟩ = false) ∧ ∀ j, j ≤ n → w.cell? ⟨U, j, none⟩ = some (.int .i64 (u j : Int)) := by
  obtain ⟨h1, h2, h3⟩ := h.used.at (by rw [castL_len]; simp [uL])
  refine ⟨h2, fun j hj => ?_⟩
  rw [h3 j (by rw [castL_len]; simp [uL]; omega), castL_at, uL_at hj]
theorem SI.ufn {w : World} {lo H s U cu W cw : Nat} {vb vr fv : Value} {vs : List Value} {bs : List (Nat × Nat)} {n m : Nat} {b c : Nat → Nat} {g : Nat → Nat → Nat} {u u' : Nat → Nat} (h : SI w lo H s U cu W cw vb vr fv vs bs n m b c g u) (e : ∀ x, x ≤ n → u x = u' x) : SI w lo H s U cu W cw vb vr fv vs bs n m b c g u' := by
  have e1 : uL n u = uL n u' := List.map_congr_left fun x hx => e x (by have := List.mem_range.1 hx; omega)
  have h1 := h.used
  rw [e1] at h1
  exact ⟨h.st, h1, h.rows, h.au, h.av, h.hU, h.hr, h.hv, h.hH, h.hg, fun x hx => by rw [← e x hx]; exact h.hu x hx⟩

/-- What is found is taken down: D are blocks that it has nothing to do with. -/
structure Takes (F : (Nat → Prop) → List (List (List Nat)) → World → Prop) : Prop where
  step : ∀ D acc w w', F D acc w → (∀ k, k < w.heap.size → ¬ D k → w'.heap[k]? = w.heap[k]?) → w.heap.size ≤ w'.heap.size → F D acc w'
  more : ∀ D acc w o, F D acc w → F (fun k => D k ∨ k = w.heap.size) acc (w.alloc o)
  less : ∀ D D' acc w, (∀ k, D k → D' k) → F D' acc w → F D acc w
def Lp (n : Nat) (b c : Nat → Nat) (m : Nat) (bs : List (Nat × Nat)) (g : Nat → Nat → Nat) (u : Nat → Nat) (i j hi x : Nat) : List (List (List Nat)) := (List.range' x (hi + 1 - x)).flatMap fun x => if mayN b u x then srch n b c m bs (upd2 g i j x) (inc1 u x) else []
theorem Lp_step {n : Nat} {b c : Nat → Nat} {m : Nat} {bs : List (Nat × Nat)} {g : Nat → Nat → Nat} {u : Nat → Nat} {i j hi x : Nat} (h : x ≤ hi) : Lp n b c m bs g u i j hi x = (if mayN b u x then srch n b c m bs (upd2 g i j x) (inc1 u x) else []) ++ Lp n b c m bs g u i j hi (x + 1) := by
  unfold Lp
  rw [show hi + 1 - x = (hi + 1 - (x + 1)) + 1 by omega, List.range'_succ, List.flatMap_cons]
theorem Lp_end {n : Nat} {b c : Nat → Nat} {m : Nat} {bs : List (Nat × Nat)} {g : Nat → Nat → Nat} {u : Nat → Nat} {i j hi x : Nat} (h : hi < x) : Lp n b c m bs g u i j hi x = [] := by
  unfold Lp
  rw [show hi + 1 - x = 0 by omega]; rfl

/-- In the midst of the letters for box i, j. -/
structure LI (F : (Nat → Prop) → List (List (List Nat)) → World → Prop) (D : Nat → Prop) (w wr : World) (lo H s U cu W cw fb : Nat) (vb vr fv : Value) (vs : List Value) (bs : List (Nat × Nat)) (n m : Nat) (b c : Nat → Nat) (g g1 : Nat → Nat → Nat) (u : Nat → Nat) (i j : Nat) (bs' : List (Nat × Nat)) (acc : List (List (List Nat))) : Prop where
  si : SI wr lo H s U cu W cw vb vr fv vs bs n m b c g1 u
  ag : ∀ p q, (p, q) ∉ (i, j) :: bs' → g1 p q = g p q
  f : F (fun k => D k ∨ k = w.heap.size) acc wr
  bl : Below fb w wr
  at_ : wr.heap[w.heap.size]? = some (.cells #[.int .i64 (i : Int), .int .i64 (j : Int)] 52 (0, 0))
  kp : ∀ k, D k → ¬ (lo ≤ k ∧ k < H) → k < w.heap.size → wr.heap[k]? = w.heap[k]?
  lH : H ≤ w.heap.size
  dd : ∀ k, lo ≤ k → k < H → D k
  lof : fb ≤ lo
theorem LI.grow {F : (Nat → Prop) → List (List (List Nat)) → World → Prop} (TF : Takes F) {D : Nat → Prop} {w wr w' : World} {lo H s U cu W cw fb : Nat} {vb vr fv : Value} {vs : List Value} {bs : List (Nat × Nat)} {n m : Nat} {b c : Nat → Nat} {g g1 : Nat → Nat → Nat} {u : Nat → Nat} {i j : Nat} {bs' : List (Nat × Nat)} {acc : List (List (List Nat))} (h : LI F D w wr lo H s U cu W cw fb vb vr fv vs bs n m b c g g1 u i j bs' acc) (hb : Below wr.heap.size wr w') : LI F D w w' lo H s U cu W cw fb vb vr fv vs bs n m b c g g1 u i j bs' acc := by
  have hA := (Array.getElem?_eq_some_iff.1 h.at_).1
  have hH := h.si.hH
  have hf := h.lof
  have hl := h.lH
  refine ⟨h.si.keep (fun k _ a2 => hb.block k (by omega)) (by have := hb.size; omega), h.ag, TF.step _ _ _ _ h.f (fun k a1 _ => hb.block k a1) hb.size, h.bl.trans (hb.mono ?_), by rw [hb.block _ hA]; exact h.at_, fun k a1 a2 a3 => by rw [hb.block k (by omega)]; exact h.kp k a1 a2 a3, h.lH, h.dd, h.lof⟩
  have := (World.ownsRow.lt h.si.used U rfl).1
  have := h.si.hU
  omega
theorem LI.put {F : (Nat → Prop) → List (List (List Nat)) → World → Prop} (TF : Takes F) {D : Nat → Prop} {w wr : World} {lo H s U cu W cw fb : Nat} {vb vr fv : Value} {vs : List Value} {bs : List (Nat × Nat)} {n m : Nat} {b c : Nat → Nat} {g g1 g2 : Nat → Nat → Nat} {u u2 : Nat → Nat} {i j Q o : Nat} {v : Value} {bs' : List (Nat × Nat)} {acc : List (List (List Nat))} (h : LI F D w wr lo H s U cu W cw fb vb vr fv vs bs n m b c g g1 u i j bs' acc) (hQ : lo ≤ Q) (hQ2 : Q < H)
    (hs : SI (wr.setCell ⟨Q, o, none⟩ v) lo H s U cu W cw vb vr fv vs bs n m b c g2 u2) (hg : ∀ p q, (p, q) ∉ (i, j) :: bs' → g2 p q = g1 p q) : LI F D w (wr.setCell ⟨Q, o, none⟩ v) lo H s U cu W cw fb vb vr fv vs bs n m b c g g2 u2 i j bs' acc := by
  have hf := h.lof
  have hl := h.lH
  refine ⟨hs, fun p q hp => (hg p q hp).trans (h.ag p q hp), TF.step _ _ _ _ h.f (fun k _ a2 => heap_setCell_other _ _ _ _ (show k ≠ Q from fun e => a2 (Or.inl (h.dd k (by omega) (by omega))))) (by simp), h.bl.setCell (p := ⟨Q, o, none⟩) (by show fb ≤ Q; omega) _, ?_, fun k a1 a2 a3 => ?_, h.lH, h.dd, h.lof⟩
  · rw [heap_setCell_other _ _ _ _ (show w.heap.size ≠ Q by omega)]; exact h.at_
  · rw [heap_setCell_other _ _ _ _ (show k ≠ Q from fun e => a2 (by omega))]; exact h.kp k a1 a2 a3

set_option maxHeartbeats 16000000 in
set_option maxRecDepth 100000 in
theorem from_num {F : (Nat → Prop) → List (List (List Nat)) → World → Prop} (TF : Takes F) (LIM : Nat) (lo H s U cu W cw fb : Nat) (vb vr : Value) (vs : List Value) (bs : List (Nat × Nat)) (n m : Nat) (b c : Nat → Nat)
    (HF : ∀ D acc t w, F D acc w → (∀ k, lo ≤ k → k < H → D k) → TblV w lo vr vs (castT t) → (∀ r ∈ t, r.length ≤ 1000 ∧ ∀ z ∈ r, z ≤ 1000) → t.length ≤ 1000 → H ≤ w.heap.size → acc.length + 1 ≤ LIM → Calls Try.prog 27 #[vr, ptr fb] w fun e w' => e = .returned (.tuple #[]) ∧ F D (acc ++ [t]) w' ∧ (∀ k, D k → k < w.heap.size → w'.heap[k]? = w.heap[k]?) ∧ Below fb w w')
    (hbs : ∀ p ∈ bs, p.1 < m ∧ p.2 < c p.1) (hcd : ∀ i, c (i + 1) ≤ c i) (hn : n ≤ 1000) (hm : m ≤ 1000) (hc : ∀ i, c i ≤ 1000) (hb : ∀ x, b x ≤ 1000) (hL : bs.length ≤ 1000) (hfb : fb ≤ lo) (hlH : lo ≤ H) :
    ∀ (bs' : List (Nat × Nat)) (k : Nat) (g : Nat → Nat → Nat) (u : Nat → Nat) (acc : List (List (List Nat))) (D : Nat → Prop) (w : World), bs.drop k = bs' → k ≤ bs.length → OrdB bs' → SI w lo H s U cu W cw vb vr (.func (.func 27) #[] #[ptr fb]) vs bs n m b c g u → F D acc w → (∀ k, lo ≤ k → k < H → D k) → acc.length + (srch n b c m bs' g u).length ≤ LIM →
      Calls Try.prog 30 #[ptr s, .int .i64 (k : Int)] w fun e w' => e = .returned (.tuple #[]) ∧ ∃ g', (∀ i j, (i, j) ∉ bs' → g' i j = g i j) ∧ SI w' lo H s U cu W cw vb vr (.func (.func 27) #[] #[ptr fb]) vs bs n m b c g' u ∧ F D (acc ++ srch n b c m bs' g u) w' ∧ (∀ k, D k → ¬ (lo ≤ k ∧ k < H) → k < w.heap.size → w'.heap[k]? = w.heap[k]?) ∧ Below fb w w' := by
  intro bs'
  induction bs' with
  | nil =>
    intro k g u acc D w hdr hk _ hS hF hD hlen
    have hkl : k = bs.length := by
      have := congrArg List.length hdr
      rw [List.length_drop] at this; simp at this; omega
    have hst := hS.stat
    obtain ⟨c0, c1, c2, c3, c4, vb0, bx, wa⟩ := hst
    obtain ⟨a0, cb0, rfl⟩ := vb0
    have e0 : (k : Int) = (bs.length : Int) := by omega
    have HC : Hid (Calls Try.prog 27 #[vr, ptr fb] w.drew fun e w' => e = .returned (.tuple #[]) ∧ Hid (F D (acc ++ [tabN c m g]) w') ∧ Hid (∀ k, D k → k < w.heap.size → w'.heap[k]? = w.heap[k]?) ∧ Hid (Below fb w w')) := by
      refine (HF D acc (tabN c m g) w.drew (TF.step D acc w w.drew hF (fun _ _ _ => rfl) (Nat.le_refl _)) hD (hS.keep (w' := w.drew) (fun _ _ _ => rfl) hS.hH).rows (fun r hr => ?_) (by rw [tabN_len]; exact hm) hS.hH (by simp [srch] at hlen; omega)).mono ?_
      · unfold tabN at hr
        obtain ⟨i, _, rfl⟩ := List.mem_map.1 hr
        refine ⟨by simpa using hc i, fun z hz => ?_⟩
        obtain ⟨j, _, rfl⟩ := List.mem_map.1 hz
        have := hS.hg i j; omega
      · rintro e w' ⟨rfl, h1, h2, h3⟩
        exact ⟨rfl, h1, h2, (Below.refl _ _).drew.trans h3⟩
    have HS : Hid (SI w lo H s U cu W cw (.slice a0 bs.length cb0) vr (.func (.func 27) #[] #[ptr fb]) vs bs n m b c g u) := hS
    have HD : Hid (∀ k, lo ≤ k → k < H → D k) := hD
    clear hS hF hD hlen bx wa c2 c3 HF TF hbs hcd hdr
    go_enter Try.func30, Try.ntmps30
    go_wp2_with fail
    go_region_with (go_at_call 27; with_reducible (refine HC.out.mono ?_); rintro e W1 ⟨rfl, h1, h2, h3⟩)
    all_goals (
      go_wp2
      refine bodyPost_ret (results_none rfl _ _ _) rfl ?_
      exact ⟨rfl, g, fun _ _ _ => rfl, HS.out.keep (fun k a1 a2 => h2.out k (HD.out k a1 a2) (by have := HS.out.hH; omega)) (by have := h3.out.size; have := HS.out.hH; omega), h1.out, fun k a1 _ a3 => h2.out k a1 a3, h3.out⟩)
  | cons x bs' ih =>
    obtain ⟨i, j⟩ := x
    intro k g u acc D w hdr hk ho hS hF hD hlen
    have hkl : k < bs.length := by
      have := congrArg List.length hdr
      rw [List.length_drop] at this; simp at this; omega
    have hget : bs.getD k (0, 0) = (i, j) := by
      have := congrArg (fun l : List (Nat × Nat) => l.getD 0 (0, 0)) hdr
      simpa [List.getD, hkl] using this
    have hdr2 : bs.drop (k + 1) = bs' := by
      have := congrArg List.tail hdr
      simpa using this
    have hij := hbs (i, j) (by
      have : (i, j) ∈ bs.drop k := by rw [hdr]; simp
      exact List.mem_of_mem_drop this)
    have him : i < m := hij.1
    have hjc : j < c i := hij.2
    obtain ⟨o1, o2, o3, o4⟩ := ho
    have hst := hS.stat
    obtain ⟨B, cb, hvb, q0, q1⟩ := hst.bx k hkl
    rw [hget] at q0 q1
    have c0 := hst.c0
    rw [hvb] at c0
    have n0 : ¬ ((k : Int) = (bs.length : Int)) := by omega
    have n1 : ((k : Int) == (bs.length : Int)) = false := by simp; omega
    have n2 : (k : Int) < (bs.length : Int) := by omega
    have hsl : s < w.heap.size := World.block_lt_of_cell? w _ c0
    have hBl : B < w.heap.size := World.block_lt_of_cell? w _ q0
    have HS : Hid (SI w lo H s U cu W cw vb vr (.func (.func 27) #[] #[ptr fb]) vs bs n m b c g u) := hS
    have HFF : Hid (F D acc w) := hF
    have HD : Hid (∀ k, lo ≤ k → k < H → D k) := hD
    obtain ⟨hi, HHI⟩ : ∃ hi, Hid (hi = hiN n c g i j) := ⟨_, rfl⟩
    have hin : hi ≤ n := by rw [HHI.out]; unfold hiN; split; exact Nat.le_refl _; exact hS.hg _ _
    have HLP : Hid (srch n b c m ((i, j) :: bs') g u = Lp n b c m bs' g u i j hi (loN g i j)) := by show _ = _; rw [HHI.out]; rfl
    have hlo1 : 1 ≤ loN g i j := by unfold loN; split <;> omega
    have HL1 : Hid (LI F D w (w.alloc (.cells #[.int .i64 (i : Int), .int .i64 (j : Int)] 52)) lo H s U cu W cw fb vb vr (.func (.func 27) #[] #[ptr fb]) vs bs n m b c g g u i j bs' acc) := by
      have hHs := hS.hH
      have hB : Below w.heap.size w (w.alloc (.cells #[.int .i64 (i : Int), .int .i64 (j : Int)] 52)) := (Below.refl _ _).alloc (Nat.le_refl _) _
      exact ⟨hS.keep (fun k _ a2 => hB.block k (by omega)) (by have := hB.size; omega), fun _ _ _ => rfl, TF.more D acc w _ hF, hB.mono (by omega), heap_alloc_new _ _, fun k _ _ a3 => hB.block k a3, hHs, hD, hfb⟩
    have HTF : Hid (Takes F) := TF
    have HIHH : Hid (∀ (k : Nat) (g : Nat → Nat → Nat) (u : Nat → Nat) (acc : List (List (List Nat))) (D : Nat → Prop) (w : World), bs.drop k = bs' → k ≤ bs.length → OrdB bs' → SI w lo H s U cu W cw vb vr (.func (.func 27) #[] #[ptr fb]) vs bs n m b c g u → F D acc w → (∀ k, lo ≤ k → k < H → D k) → acc.length + (srch n b c m bs' g u).length ≤ LIM →
      Calls Try.prog 30 #[ptr s, .int .i64 (k : Int)] w fun e w' => e = .returned (.tuple #[]) ∧ ∃ g', (∀ i j, (i, j) ∉ bs' → g' i j = g i j) ∧ SI w' lo H s U cu W cw vb vr (.func (.func 27) #[] #[ptr fb]) vs bs n m b c g' u ∧ F D (acc ++ srch n b c m bs' g u) w' ∧ (∀ k, D k → ¬ (lo ≤ k ∧ k < H) → k < w.heap.size → w'.heap[k]? = w.heap[k]?) ∧ Below fb w w') := ih
    have HLE : Hid (∀ W, Below w.heap.size w W → Calls Try.prog 40 #[.pointer (some ⟨s, 0, none⟩), .agg #[.int .i64 (i : Int), .int .i64 (j : Int)]] W fun e w' => e = .returned (.int .i64 (loN g i j : Int)) ∧ Below W.heap.size W w') := fun W hW => by
      have hS2 := hS.keep (w' := W) (fun k _ a2 => hW.block k (by have := hS.hH; omega)) (by have := hW.size; have := hS.hH; omega)
      exact least_at s i j vr vs lo c m g W hS2.stat.c1 hS2.rows him hjc (fun h0 => by have := hcd (i - 1); rw [show i - 1 + 1 = i by omega] at this; exact this) hm (fun a d => by have := hS.hg a d; omega)
    have HO : Hid ((i, j) ∉ bs' ∧ (0 < i → (i - 1, j) ∉ bs') ∧ (i, j + 1) ∉ bs' ∧ OrdB bs') := ⟨o1, o2, o3, o4⟩
    obtain ⟨l0, HL0⟩ : ∃ l0, Hid (l0 = loN g i j) := ⟨_, rfl⟩
    rw [← HL0.out] at HLP HLE hlo1
    rw [HLP.out] at hlen ⊢
    have HLEN : Hid (acc.length + (Lp n b c m bs' g u i j hi l0).length ≤ LIM) := hlen
    have hA1 : Below w.heap.size w (w.alloc (.cells #[.int .i64 (i : Int), .int .i64 (j : Int)] 52)) := (Below.refl _ _).alloc (Nat.le_refl _) _
    have HA1 : Hid (Below w.heap.size w (w.alloc (.cells #[.int .i64 (i : Int), .int .i64 (j : Int)] 52))) := hA1
    clear ih hS hF hD TF HF hst hbs hA1 o1 o2 o3 o4 hlen HLP HS HFF HD
    go_enter Try.func30, Try.ntmps30
    go_wp2_with fail
    refine (HLE.out _ HA1.out).mono ?_
    rintro e w2 ⟨rfl, hb2⟩
    have HL2 : Hid (LI F D w w2 lo H s U cu W cw fb vb vr (.func (.func 27) #[] #[ptr fb]) vs bs n m b c g g u i j bs' acc) := HL1.out.grow HTF.out hb2
    obtain ⟨A, HAA⟩ : ∃ A, Hid (A = w.heap.size) := ⟨_, rfl⟩
    rw [← HAA.out]
    clear hb2 q0 q1 c0 n0 n1 n2 hvb hsl hBl HLE HL1 HA1
    go_wp2
    go_loopw [5] (fun pv wr => ∃ (x : Nat) (g1 : Nat → Nat → Nat) (ds : List (List (List Nat))), pv = .int .i64 (x : Int) ∧ 1 ≤ x ∧ Hid (LI F D w wr lo H s U cu W cw fb vb vr (.func (.func 27) #[] #[ptr fb]) vs bs n m b c g g1 u i j bs' (acc ++ ds)) ∧ Hid (Lp n b c m bs' g u i j hi l0 = ds ++ Lp n b c m bs' g u i j hi x)) (fun pv _ => hi + 1 - (intOf pv).toNat)
    case atStart => exact ⟨l0, g, [], rfl, hlo1, by simpa using HL2, by show _ = _; simp⟩
    case round =>
      obtain ⟨x, g1, ds, rfl, hx1, HLI, HLp⟩ := hrel
      have a0 : wr.cell? ⟨A, 0, none⟩ = some (.int .i64 (i : Int)) := by rw [HAA.out]; simp [World.cell?, HLI.out.at_]
      have a1 : wr.cell? ⟨A, 1, none⟩ = some (.int .i64 (j : Int)) := by rw [HAA.out]; simp [World.cell?, HLI.out.at_]
      have HGR : Hid (Calls Try.prog 41 #[.pointer (some ⟨s, 0, none⟩), .agg #[.int .i64 (i : Int), .int .i64 (j : Int)]] wr fun e w' => e = .returned (.int .i64 (hi : Int)) ∧ Hid (LI F D w w' lo H s U cu W cw fb vb vr (.func (.func 27) #[] #[ptr fb]) vs bs n m b c g g1 u i j bs' (acc ++ ds))) := by
        have hs := HLI.out.si
        refine (greatest_at s i j n vr (some ⟨W, 0, none⟩) cw vs lo c m g1 wr hs.stat.c1 hs.stat.c2 hs.rows him hjc hn hc).mono ?_
        rintro e w' ⟨rfl, hb⟩
        refine ⟨?_, HLI.out.grow HTF.out hb⟩
        have : hiN n c g1 i j = hi := by
          rw [HHI.out]
          refine hi_congr (HLI.out.ag i (j + 1) ?_)
          simp only [List.mem_cons, not_or]
          exact ⟨fun e => by have := (Prod.mk.inj e).2; omega, HO.out.2.2.1⟩
        rw [this]
      by_cases hxh : x ≤ hi
      · have hxh' : (x : Int) ≤ (hi : Int) := by omega
        have hxn : x ≤ n := by omega
        go_wp2_with fail
        refine HGR.out.mono ?_
        rintro e w3 ⟨rfl, HL3⟩
        have HMC : Hid (Calls Try.prog 42 #[.pointer (some ⟨s, 0, none⟩), .int .i64 (x : Int)] w3 fun e w' => e = .returned (.bool (mayN b u x)) ∧ Hid (LI F D w w' lo H s U cu W cw fb vb vr (.func (.func 27) #[] #[ptr fb]) vs bs n m b c g g1 u i j bs' (acc ++ ds))) := by
          have hs := HL3.out.si
          refine (mayCome_at s x n U cu W cw b u w3 hs.stat.c2 hs.stat.c3 hs.ucell.2 hs.stat.wa hx1 hxn hn).mono ?_
          rintro e w' ⟨rfl, k, rfl⟩
          exact ⟨rfl, HL3.out.grow HTF.out (below_drewN (Below.refl _ _) k)⟩
        clear HGR
        go_wp2_with fail
        refine HMC.out.mono ?_
        rintro e w4 ⟨rfl, HL4⟩
        clear HMC HL3
        have HLs : Hid (Lp n b c m bs' g u i j hi x = (if mayN b u x then srch n b c m bs' (upd2 g i j x) (inc1 u x) else []) ++ Lp n b c m bs' g u i j hi (x + 1)) := Lp_step hxh
        by_cases hmay : mayN b u x = true
        · have hs4 := HL4.out.si
          obtain ⟨R, cr, q, cq, hvr, hR, hcR, hrq, hq, hfq, hcq⟩ := hs4.rows.box him (by omega)
          have c1 := hs4.stat.c1
          rw [hvr] at c1
          have c2 := hcq j hjc
          have f2 := hfq j
          have hl : (castT (tabN c m g1)).length = m := by rw [castT_len, tabN_len]
          have hqo : (rowv vs i).ownBlock = some q := by rw [hrq]; rfl
          have hq1 : lo ≤ q := ((hs4.rows.rows i (by omega)).lt hqo).1
          have hq2 : q < H := hs4.hr i him q hqo
          have b0 : w4.cell? ⟨A, 0, none⟩ = some (.int .i64 (i : Int)) := by rw [HAA.out]; simp [World.cell?, HL4.out.at_]
          have b1 : w4.cell? ⟨A, 1, none⟩ = some (.int .i64 (j : Int)) := by rw [HAA.out]; simp [World.cell?, HL4.out.at_]
          have him' : (i : Int) < (m : Int) := by omega
          have hjc' : (j : Int) < (c i : Int) := by omega
          have HL5 : Hid (LI F D w (w4.setCell ⟨q, j, none⟩ (.int .i64 (x : Int))).drew lo H s U cu W cw fb vb vr (.func (.func 27) #[] #[ptr fb]) vs bs n m b c g (upd2 g1 i j x) u i j bs' (acc ++ ds)) := by
            have h := HL4.out
            exact (h.put HTF.out hq1 hq2 (h.si.box him hxn hrq) (fun p r hp => upd2_other g1 (fun e => hp (by rw [e.1, e.2]; simp)))).grow HTF.out (below_drewN (Below.refl _ _) 1)
          obtain ⟨y, HY⟩ : ∃ y, Hid (y = u x) := ⟨_, rfl⟩
          have hyb : y < b x := by
            have h1 := hs4.hu x hxn
            unfold mayN at hmay
            simp only [Bool.and_eq_true, decide_eq_true_eq] at hmay
            have := hmay.1
            rw [← HY.out] at h1 this
            omega
          have hy1000 : y ≤ 1000 := by have := hb x; omega
          rw [hmay] at HLs
          rw [hmay]
          clear hs4 hcq hfq
          go_wp2_with fail
          go_region
          generalize hW5 : (w4.setCell ⟨q, j, none⟩ (.int .i64 (x : Int))).drew = W5
          rw [hW5] at HL5
          have hs5 := HL5.out.si
          have c3 := hs5.stat.c3
          have c5 := hs5.ucell.2 x hxn
          rw [← HY.out] at c5
          have f5 := hs5.ucell.1 x
          have l5 : (x : Int) < (n : Int) + 1 := by omega
          have HAG : Hid (∀ p q, (p, q) ∉ (i, j) :: bs' → g1 p q = g p q) := HL4.out.ag
          have HL6 : Hid (LI F D w (W5.setCell ⟨U, x, none⟩ (.int .i64 ((y : Int) + 1))) lo H s U cu W cw fb vb vr (.func (.func 27) #[] #[ptr fb]) vs bs n m b c g (upd2 g1 i j x) (inc1 u x) i j bs' (acc ++ ds)) := by
            have h := HL5.out
            have hU1 := (World.ownsRow.lt h.si.used U rfl).1
            have h2 := h.si.use (x := x) (y := y + 1) (fun _ => hyb)
            have e : ((y + 1 : Nat) : Int) = (y : Int) + 1 := by omega
            rw [e] at h2
            have h3 := h2.ufn (u' := inc1 u x) (fun z _ => by
              unfold inc1
              by_cases e : z = x
              · subst e; rw [if_pos rfl, if_pos rfl, HY.out]
              · rw [if_neg e, if_neg e])
            exact h.put HTF.out hU1 h.si.hU h3 (fun _ _ _ => rfl)
          have HCALL : Hid (Calls Try.prog 30 #[.pointer (some ⟨s, 0, none⟩), .int .i64 ((k : Int) + 1)] (W5.setCell ⟨U, x, none⟩ (.int .i64 ((y : Int) + 1))) fun e w' => e = .returned (.tuple #[]) ∧ Hid (∃ g3, LI F D w w' lo H s U cu W cw fb vb vr (.func (.func 27) #[] #[ptr fb]) vs bs n m b c g g3 (inc1 u x) i j bs' (acc ++ ds ++ srch n b c m bs' (upd2 g i j x) (inc1 u x)))) := by
            have h6 := HL6.out
            have e : ((k + 1 : Nat) : Int) = (k : Int) + 1 := by omega
            have hsr : srch n b c m bs' (upd2 g1 i j x) (inc1 u x) = srch n b c m bs' (upd2 g i j x) (inc1 u x) := srch_congr _ _ _ _ bs' _ _ _ HO.out.2.2.2 (fun p r hp => by
              by_cases e : p = i ∧ r = j
              · rw [e.1, e.2, upd2_same, upd2_same]
              · rw [upd2_other _ e, upd2_other _ e]
                exact HAG.out p r (by simp only [List.mem_cons, not_or]; exact ⟨fun e2 => e (Prod.mk.inj e2), hp⟩))
            have hl6 : (acc ++ ds).length + (srch n b c m bs' (upd2 g1 i j x) (inc1 u x)).length ≤ LIM := by
              have h1 := HLEN.out
              have h2 := congrArg List.length HLp.out
              have h3 := congrArg List.length HLs.out
              rw [hsr]
              simp at h1 h2 h3 ⊢
              omega
            have hsz : w.heap.size < (W5.setCell ⟨U, x, none⟩ (.int .i64 ((y : Int) + 1))).heap.size := (Array.getElem?_eq_some_iff.1 h6.at_).1
            have hh := HIHH.out (k + 1) (upd2 g1 i j x) (inc1 u x) (acc ++ ds) (fun k => D k ∨ k = w.heap.size) _ hdr2 (by omega) HO.out.2.2.2 h6.si h6.f (fun k a1 a2 => Or.inl (h6.dd k a1 a2)) hl6
            rw [hsr, e] at hh
            refine hh.mono ?_
            rintro e w' ⟨rfl, g3, k1, k2, k3, k4, k5⟩
            refine ⟨rfl, g3, ⟨k2, fun p r hp => ?_, k3, h6.bl.trans k5, ?_, fun k a1 a2 a3 => ?_, h6.lH, h6.dd, h6.lof⟩⟩
            · rw [k1 p r (fun h => hp (List.mem_cons_of_mem _ h))]; exact h6.ag p r hp
            · rw [k4 w.heap.size (Or.inr rfl) (by have := h6.lH; omega) hsz]; exact h6.at_
            · rw [k4 k (Or.inl a1) a2 (by omega)]; exact h6.kp k a1 a2 a3
          clear hs5 hW5 HL5 HL6 HIHH c1 c2 f2 hcR hrq hqo b0 b1 hvr HL4 HLI a0 a1
          go_wp2_with fail
          refine HCALL.out.mono ?_
          intro e w7 h7
          obtain ⟨rfl, HL7⟩ := h7
          obtain ⟨g3, h7⟩ := HL7.out
          obtain ⟨z, HZ⟩ : ∃ z, Hid (z = y + 1) := ⟨_, rfl⟩
          have d3 := h7.si.stat.c3
          have d5 := h7.si.ucell.2 x hxn
          rw [inc_same, ← HY.out, ← HZ.out] at d5
          have e5 := h7.si.ucell.1 x
          have hz1 : (z : Int) - 1 = (y : Int) := by have := HZ.out; omega
          have HL8 : Hid (LI F D w (w7.setCell ⟨U, x, none⟩ (.int .i64 (y : Int))) lo H s U cu W cw fb vb vr (.func (.func 27) #[] #[ptr fb]) vs bs n m b c g g3 u i j bs' (acc ++ (ds ++ srch n b c m bs' (upd2 g i j x) (inc1 u x)))) := by
            have hU1 := (World.ownsRow.lt h7.si.used U rfl).1
            have h2 := h7.si.use (x := x) (y := y) (fun _ => by omega)
            have h3 := h2.ufn (u' := u) (fun q _ => by
              by_cases e : q = x
              · subst e; rw [if_pos rfl, HY.out]
              · rw [if_neg e, inc_other u e])
            have h4 := h7.put HTF.out hU1 h7.si.hU h3 (fun _ _ _ => rfl)
            rw [List.append_assoc] at h4
            exact h4
          have HLp2 : Hid (Lp n b c m bs' g u i j hi l0 = (ds ++ srch n b c m bs' (upd2 g i j x) (inc1 u x)) ++ Lp n b c m bs' g u i j hi (x + 1)) := by
            have := HLp.out
            rw [HLs.out] at this
            show _ = _
            simpa using this
          clear h7 HL7 HCALL
          go_wp2
          go_roundw
          case rel => exact ⟨x + 1, g3, _, by go_num, by omega, HL8, HLp2⟩
          case measure => simp [intOf]; omega
        · have hmay' : mayN b u x = false := by simpa using hmay
          have HLp2 : Hid (Lp n b c m bs' g u i j hi l0 = ds ++ Lp n b c m bs' g u i j hi (x + 1)) := by
            have := HLp.out
            rw [HLs.out, hmay'] at this
            show _ = _
            simpa using this
          rw [hmay']
          go_wp2
          go_roundw
          case rel => exact ⟨x + 1, g1, ds, by go_num, by omega, HL4, HLp2⟩
          case measure => simp [intOf]; omega
      · have hxh' : ¬ ((x : Int) ≤ (hi : Int)) := by omega
        go_wp2_with fail
        refine HGR.out.mono ?_
        rintro e w3 ⟨rfl, HL3⟩
        go_wp2
        go_end0
        have h3 := HL3.out
        have e1 : Lp n b c m bs' g u i j hi l0 = ds := by
          have := HLp.out
          rw [Lp_end (x := x) (by omega)] at this
          simpa using this
        rw [e1]
        exact ⟨rfl, g1, h3.ag, h3.si, HTF.out.less D _ _ _ (fun k hk => Or.inl hk) h3.f, h3.kp, h3.bl⟩

set_option maxHeartbeats 16000000 in
set_option maxRecDepth 100000 in
theorem from_fil {F : (Nat → Prop) → List (List (List Nat)) → World → Prop} (TF : Takes F) (LIM : Nat) (lo H s U cu W cw fb : Nat) (vb vr : Value) (vs : List Value) (bs : List (Nat × Nat)) (n m : Nat) (b c : Nat → Nat)
    (HF : ∀ D acc t w, F D acc w → (∀ k, lo ≤ k → k < H → D k) → TblV w lo vr vs (castT t) → (∀ r ∈ t, r.length ≤ 1000 ∧ ∀ z ∈ r, z ≤ 1000) → t.length ≤ 1000 → H ≤ w.heap.size → acc.length + 1 ≤ LIM → Calls Try.prog 12 #[vr, ptr fb] w fun e w' => e = .returned (.tuple #[]) ∧ F D (acc ++ [t]) w' ∧ (∀ k, D k → k < w.heap.size → w'.heap[k]? = w.heap[k]?) ∧ Below fb w w')
    (hbs : ∀ p ∈ bs, p.1 < m ∧ p.2 < c p.1) (hcd : ∀ i, c (i + 1) ≤ c i) (hn : n ≤ 1000) (hm : m ≤ 1000) (hc : ∀ i, c i ≤ 1000) (hb : ∀ x, b x ≤ 1000) (hL : bs.length ≤ 1000) (hfb : fb ≤ lo) (hlH : lo ≤ H) :
    ∀ (bs' : List (Nat × Nat)) (k : Nat) (g : Nat → Nat → Nat) (u : Nat → Nat) (acc : List (List (List Nat))) (D : Nat → Prop) (w : World), bs.drop k = bs' → k ≤ bs.length → OrdB bs' → SI w lo H s U cu W cw vb vr (.func (.func 12) #[] #[ptr fb]) vs bs n m b c g u → F D acc w → (∀ k, lo ≤ k → k < H → D k) → acc.length + (srch n b c m bs' g u).length ≤ LIM →
      Calls Try.prog 30 #[ptr s, .int .i64 (k : Int)] w fun e w' => e = .returned (.tuple #[]) ∧ ∃ g', (∀ i j, (i, j) ∉ bs' → g' i j = g i j) ∧ SI w' lo H s U cu W cw vb vr (.func (.func 12) #[] #[ptr fb]) vs bs n m b c g' u ∧ F D (acc ++ srch n b c m bs' g u) w' ∧ (∀ k, D k → ¬ (lo ≤ k ∧ k < H) → k < w.heap.size → w'.heap[k]? = w.heap[k]?) ∧ Below fb w w' := by
  intro bs'
  induction bs' with
  | nil =>
    intro k g u acc D w hdr hk _ hS hF hD hlen
    have hkl : k = bs.length := by
      have := congrArg List.length hdr
      rw [List.length_drop] at this; simp at this; omega
    have hst := hS.stat
    obtain ⟨c0, c1, c2, c3, c4, vb0, bx, wa⟩ := hst
    obtain ⟨a0, cb0, rfl⟩ := vb0
    have e0 : (k : Int) = (bs.length : Int) := by omega
    have HC : Hid (Calls Try.prog 12 #[vr, ptr fb] w.drew fun e w' => e = .returned (.tuple #[]) ∧ Hid (F D (acc ++ [tabN c m g]) w') ∧ Hid (∀ k, D k → k < w.heap.size → w'.heap[k]? = w.heap[k]?) ∧ Hid (Below fb w w')) := by
      refine (HF D acc (tabN c m g) w.drew (TF.step D acc w w.drew hF (fun _ _ _ => rfl) (Nat.le_refl _)) hD (hS.keep (w' := w.drew) (fun _ _ _ => rfl) hS.hH).rows (fun r hr => ?_) (by rw [tabN_len]; exact hm) hS.hH (by simp [srch] at hlen; omega)).mono ?_
      · unfold tabN at hr
        obtain ⟨i, _, rfl⟩ := List.mem_map.1 hr
        refine ⟨by simpa using hc i, fun z hz => ?_⟩
        obtain ⟨j, _, rfl⟩ := List.mem_map.1 hz
        have := hS.hg i j; omega
      · rintro e w' ⟨rfl, h1, h2, h3⟩
        exact ⟨rfl, h1, h2, (Below.refl _ _).drew.trans h3⟩
    have HS : Hid (SI w lo H s U cu W cw (.slice a0 bs.length cb0) vr (.func (.func 12) #[] #[ptr fb]) vs bs n m b c g u) := hS
    have HD : Hid (∀ k, lo ≤ k → k < H → D k) := hD
    clear hS hF hD hlen bx wa c2 c3 HF TF hbs hcd hdr
    go_enter Try.func30, Try.ntmps30
    go_wp2_with fail
    go_region_with (go_at_call 12; with_reducible (refine HC.out.mono ?_); rintro e W1 ⟨rfl, h1, h2, h3⟩)
    all_goals (
      go_wp2
      refine bodyPost_ret (results_none rfl _ _ _) rfl ?_
      exact ⟨rfl, g, fun _ _ _ => rfl, HS.out.keep (fun k a1 a2 => h2.out k (HD.out k a1 a2) (by have := HS.out.hH; omega)) (by have := h3.out.size; have := HS.out.hH; omega), h1.out, fun k a1 _ a3 => h2.out k a1 a3, h3.out⟩)
  | cons x bs' ih =>
    obtain ⟨i, j⟩ := x
    intro k g u acc D w hdr hk ho hS hF hD hlen
    have hkl : k < bs.length := by
      have := congrArg List.length hdr
      rw [List.length_drop] at this; simp at this; omega
    have hget : bs.getD k (0, 0) = (i, j) := by
      have := congrArg (fun l : List (Nat × Nat) => l.getD 0 (0, 0)) hdr
      simpa [List.getD, hkl] using this
    have hdr2 : bs.drop (k + 1) = bs' := by
      have := congrArg List.tail hdr
      simpa using this
    have hij := hbs (i, j) (by
      have : (i, j) ∈ bs.drop k := by rw [hdr]; simp
      exact List.mem_of_mem_drop this)
    have him : i < m := hij.1
    have hjc : j < c i := hij.2
    obtain ⟨o1, o2, o3, o4⟩ := ho
    have hst := hS.stat
    obtain ⟨B, cb, hvb, q0, q1⟩ := hst.bx k hkl
    rw [hget] at q0 q1
    have c0 := hst.c0
    rw [hvb] at c0
    have n0 : ¬ ((k : Int) = (bs.length : Int)) := by omega
    have n1 : ((k : Int) == (bs.length : Int)) = false := by simp; omega
    have n2 : (k : Int) < (bs.length : Int) := by omega
    have hsl : s < w.heap.size := World.block_lt_of_cell? w _ c0
    have hBl : B < w.heap.size := World.block_lt_of_cell? w _ q0
    have HS : Hid (SI w lo H s U cu W cw vb vr (.func (.func 12) #[] #[ptr fb]) vs bs n m b c g u) := hS
    have HFF : Hid (F D acc w) := hF
    have HD : Hid (∀ k, lo ≤ k → k < H → D k) := hD
    obtain ⟨hi, HHI⟩ : ∃ hi, Hid (hi = hiN n c g i j) := ⟨_, rfl⟩
    have hin : hi ≤ n := by rw [HHI.out]; unfold hiN; split; exact Nat.le_refl _; exact hS.hg _ _
    have HLP : Hid (srch n b c m ((i, j) :: bs') g u = Lp n b c m bs' g u i j hi (loN g i j)) := by show _ = _; rw [HHI.out]; rfl
    have hlo1 : 1 ≤ loN g i j := by unfold loN; split <;> omega
    have HL1 : Hid (LI F D w (w.alloc (.cells #[.int .i64 (i : Int), .int .i64 (j : Int)] 52)) lo H s U cu W cw fb vb vr (.func (.func 12) #[] #[ptr fb]) vs bs n m b c g g u i j bs' acc) := by
      have hHs := hS.hH
      have hB : Below w.heap.size w (w.alloc (.cells #[.int .i64 (i : Int), .int .i64 (j : Int)] 52)) := (Below.refl _ _).alloc (Nat.le_refl _) _
      exact ⟨hS.keep (fun k _ a2 => hB.block k (by omega)) (by have := hB.size; omega), fun _ _ _ => rfl, TF.more D acc w _ hF, hB.mono (by omega), heap_alloc_new _ _, fun k _ _ a3 => hB.block k a3, hHs, hD, hfb⟩
    have HTF : Hid (Takes F) := TF
    have HIHH : Hid (∀ (k : Nat) (g : Nat → Nat → Nat) (u : Nat → Nat) (acc : List (List (List Nat))) (D : Nat → Prop) (w : World), bs.drop k = bs' → k ≤ bs.length → OrdB bs' → SI w lo H s U cu W cw vb vr (.func (.func 12) #[] #[ptr fb]) vs bs n m b c g u → F D acc w → (∀ k, lo ≤ k → k < H → D k) → acc.length + (srch n b c m bs' g u).length ≤ LIM →
      Calls Try.prog 30 #[ptr s, .int .i64 (k : Int)] w fun e w' => e = .returned (.tuple #[]) ∧ ∃ g', (∀ i j, (i, j) ∉ bs' → g' i j = g i j) ∧ SI w' lo H s U cu W cw vb vr (.func (.func 12) #[] #[ptr fb]) vs bs n m b c g' u ∧ F D (acc ++ srch n b c m bs' g u) w' ∧ (∀ k, D k → ¬ (lo ≤ k ∧ k < H) → k < w.heap.size → w'.heap[k]? = w.heap[k]?) ∧ Below fb w w') := ih
    have HLE : Hid (∀ W, Below w.heap.size w W → Calls Try.prog 40 #[.pointer (some ⟨s, 0, none⟩), .agg #[.int .i64 (i : Int), .int .i64 (j : Int)]] W fun e w' => e = .returned (.int .i64 (loN g i j : Int)) ∧ Below W.heap.size W w') := fun W hW => by
      have hS2 := hS.keep (w' := W) (fun k _ a2 => hW.block k (by have := hS.hH; omega)) (by have := hW.size; have := hS.hH; omega)
      exact least_at s i j vr vs lo c m g W hS2.stat.c1 hS2.rows him hjc (fun h0 => by have := hcd (i - 1); rw [show i - 1 + 1 = i by omega] at this; exact this) hm (fun a d => by have := hS.hg a d; omega)
    have HO : Hid ((i, j) ∉ bs' ∧ (0 < i → (i - 1, j) ∉ bs') ∧ (i, j + 1) ∉ bs' ∧ OrdB bs') := ⟨o1, o2, o3, o4⟩
    obtain ⟨l0, HL0⟩ : ∃ l0, Hid (l0 = loN g i j) := ⟨_, rfl⟩
    rw [← HL0.out] at HLP HLE hlo1
    rw [HLP.out] at hlen ⊢
    have HLEN : Hid (acc.length + (Lp n b c m bs' g u i j hi l0).length ≤ LIM) := hlen
    have hA1 : Below w.heap.size w (w.alloc (.cells #[.int .i64 (i : Int), .int .i64 (j : Int)] 52)) := (Below.refl _ _).alloc (Nat.le_refl _) _
    have HA1 : Hid (Below w.heap.size w (w.alloc (.cells #[.int .i64 (i : Int), .int .i64 (j : Int)] 52))) := hA1
    clear ih hS hF hD TF HF hst hbs hA1 o1 o2 o3 o4 hlen HLP HS HFF HD
    go_enter Try.func30, Try.ntmps30
    go_wp2_with fail
    refine (HLE.out _ HA1.out).mono ?_
    rintro e w2 ⟨rfl, hb2⟩
    have HL2 : Hid (LI F D w w2 lo H s U cu W cw fb vb vr (.func (.func 12) #[] #[ptr fb]) vs bs n m b c g g u i j bs' acc) := HL1.out.grow HTF.out hb2
    obtain ⟨A, HAA⟩ : ∃ A, Hid (A = w.heap.size) := ⟨_, rfl⟩
    rw [← HAA.out]
    clear hb2 q0 q1 c0 n0 n1 n2 hvb hsl hBl HLE HL1 HA1
    go_wp2
    go_loopw [5] (fun pv wr => ∃ (x : Nat) (g1 : Nat → Nat → Nat) (ds : List (List (List Nat))), pv = .int .i64 (x : Int) ∧ 1 ≤ x ∧ Hid (LI F D w wr lo H s U cu W cw fb vb vr (.func (.func 12) #[] #[ptr fb]) vs bs n m b c g g1 u i j bs' (acc ++ ds)) ∧ Hid (Lp n b c m bs' g u i j hi l0 = ds ++ Lp n b c m bs' g u i j hi x)) (fun pv _ => hi + 1 - (intOf pv).toNat)
    case atStart => exact ⟨l0, g, [], rfl, hlo1, by simpa using HL2, by show _ = _; simp⟩
    case round =>
      obtain ⟨x, g1, ds, rfl, hx1, HLI, HLp⟩ := hrel
      have a0 : wr.cell? ⟨A, 0, none⟩ = some (.int .i64 (i : Int)) := by rw [HAA.out]; simp [World.cell?, HLI.out.at_]
      have a1 : wr.cell? ⟨A, 1, none⟩ = some (.int .i64 (j : Int)) := by rw [HAA.out]; simp [World.cell?, HLI.out.at_]
      have HGR : Hid (Calls Try.prog 41 #[.pointer (some ⟨s, 0, none⟩), .agg #[.int .i64 (i : Int), .int .i64 (j : Int)]] wr fun e w' => e = .returned (.int .i64 (hi : Int)) ∧ Hid (LI F D w w' lo H s U cu W cw fb vb vr (.func (.func 12) #[] #[ptr fb]) vs bs n m b c g g1 u i j bs' (acc ++ ds))) := by
        have hs := HLI.out.si
        refine (greatest_at s i j n vr (some ⟨W, 0, none⟩) cw vs lo c m g1 wr hs.stat.c1 hs.stat.c2 hs.rows him hjc hn hc).mono ?_
        rintro e w' ⟨rfl, hb⟩
        refine ⟨?_, HLI.out.grow HTF.out hb⟩
        have : hiN n c g1 i j = hi := by
          rw [HHI.out]
          refine hi_congr (HLI.out.ag i (j + 1) ?_)
          simp only [List.mem_cons, not_or]
          exact ⟨fun e => by have := (Prod.mk.inj e).2; omega, HO.out.2.2.1⟩
        rw [this]
      by_cases hxh : x ≤ hi
      · have hxh' : (x : Int) ≤ (hi : Int) := by omega
        have hxn : x ≤ n := by omega
        go_wp2_with fail
        refine HGR.out.mono ?_
        rintro e w3 ⟨rfl, HL3⟩
        have HMC : Hid (Calls Try.prog 42 #[.pointer (some ⟨s, 0, none⟩), .int .i64 (x : Int)] w3 fun e w' => e = .returned (.bool (mayN b u x)) ∧ Hid (LI F D w w' lo H s U cu W cw fb vb vr (.func (.func 12) #[] #[ptr fb]) vs bs n m b c g g1 u i j bs' (acc ++ ds))) := by
          have hs := HL3.out.si
          refine (mayCome_at s x n U cu W cw b u w3 hs.stat.c2 hs.stat.c3 hs.ucell.2 hs.stat.wa hx1 hxn hn).mono ?_
          rintro e w' ⟨rfl, k, rfl⟩
          exact ⟨rfl, HL3.out.grow HTF.out (below_drewN (Below.refl _ _) k)⟩
        clear HGR
        go_wp2_with fail
        refine HMC.out.mono ?_
        rintro e w4 ⟨rfl, HL4⟩
        clear HMC HL3
        have HLs : Hid (Lp n b c m bs' g u i j hi x = (if mayN b u x then srch n b c m bs' (upd2 g i j x) (inc1 u x) else []) ++ Lp n b c m bs' g u i j hi (x + 1)) := Lp_step hxh
        by_cases hmay : mayN b u x = true
        · have hs4 := HL4.out.si
          obtain ⟨R, cr, q, cq, hvr, hR, hcR, hrq, hq, hfq, hcq⟩ := hs4.rows.box him (by omega)
          have c1 := hs4.stat.c1
          rw [hvr] at c1
          have c2 := hcq j hjc
          have f2 := hfq j
          have hl : (castT (tabN c m g1)).length = m := by rw [castT_len, tabN_len]
          have hqo : (rowv vs i).ownBlock = some q := by rw [hrq]; rfl
          have hq1 : lo ≤ q := ((hs4.rows.rows i (by omega)).lt hqo).1
          have hq2 : q < H := hs4.hr i him q hqo
          have b0 : w4.cell? ⟨A, 0, none⟩ = some (.int .i64 (i : Int)) := by rw [HAA.out]; simp [World.cell?, HL4.out.at_]
          have b1 : w4.cell? ⟨A, 1, none⟩ = some (.int .i64 (j : Int)) := by rw [HAA.out]; simp [World.cell?, HL4.out.at_]
          have him' : (i : Int) < (m : Int) := by omega
          have hjc' : (j : Int) < (c i : Int) := by omega
          have HL5 : Hid (LI F D w (w4.setCell ⟨q, j, none⟩ (.int .i64 (x : Int))).drew lo H s U cu W cw fb vb vr (.func (.func 12) #[] #[ptr fb]) vs bs n m b c g (upd2 g1 i j x) u i j bs' (acc ++ ds)) := by
            have h := HL4.out
            exact (h.put HTF.out hq1 hq2 (h.si.box him hxn hrq) (fun p r hp => upd2_other g1 (fun e => hp (by rw [e.1, e.2]; simp)))).grow HTF.out (below_drewN (Below.refl _ _) 1)
          obtain ⟨y, HY⟩ : ∃ y, Hid (y = u x) := ⟨_, rfl⟩
          have hyb : y < b x := by
            have h1 := hs4.hu x hxn
            unfold mayN at hmay
            simp only [Bool.and_eq_true, decide_eq_true_eq] at hmay
            have := hmay.1
            rw [← HY.out] at h1 this
            omega
          have hy1000 : y ≤ 1000 := by have := hb x; omega
          rw [hmay] at HLs
          rw [hmay]
          clear hs4 hcq hfq
          go_wp2_with fail
          go_region
          generalize hW5 : (w4.setCell ⟨q, j, none⟩ (.int .i64 (x : Int))).drew = W5
          rw [hW5] at HL5
          have hs5 := HL5.out.si
          have c3 := hs5.stat.c3
          have c5 := hs5.ucell.2 x hxn
          rw [← HY.out] at c5
          have f5 := hs5.ucell.1 x
          have l5 : (x : Int) < (n : Int) + 1 := by omega
          have HAG : Hid (∀ p q, (p, q) ∉ (i, j) :: bs' → g1 p q = g p q) := HL4.out.ag
          have HL6 : Hid (LI F D w (W5.setCell ⟨U, x, none⟩ (.int .i64 ((y : Int) + 1))) lo H s U cu W cw fb vb vr (.func (.func 12) #[] #[ptr fb]) vs bs n m b c g (upd2 g1 i j x) (inc1 u x) i j bs' (acc ++ ds)) := by
            have h := HL5.out
            have hU1 := (World.ownsRow.lt h.si.used U rfl).1
            have h2 := h.si.use (x := x) (y := y + 1) (fun _ => hyb)
            have e : ((y + 1 : Nat) : Int) = (y : Int) + 1 := by omega
            rw [e] at h2
            have h3 := h2.ufn (u' := inc1 u x) (fun z _ => by
              unfold inc1
              by_cases e : z = x
              · subst e; rw [if_pos rfl, if_pos rfl, HY.out]
              · rw [if_neg e, if_neg e])
            exact h.put HTF.out hU1 h.si.hU h3 (fun _ _ _ => rfl)
          have HCALL : Hid (Calls Try.prog 30 #[.pointer (some ⟨s, 0, none⟩), .int .i64 ((k : Int) + 1)] (W5.setCell ⟨U, x, none⟩ (.int .i64 ((y : Int) + 1))) fun e w' => e = .returned (.tuple #[]) ∧ Hid (∃ g3, LI F D w w' lo H s U cu W cw fb vb vr (.func (.func 12) #[] #[ptr fb]) vs bs n m b c g g3 (inc1 u x) i j bs' (acc ++ ds ++ srch n b c m bs' (upd2 g i j x) (inc1 u x)))) := by
            have h6 := HL6.out
            have e : ((k + 1 : Nat) : Int) = (k : Int) + 1 := by omega
            have hsr : srch n b c m bs' (upd2 g1 i j x) (inc1 u x) = srch n b c m bs' (upd2 g i j x) (inc1 u x) := srch_congr _ _ _ _ bs' _ _ _ HO.out.2.2.2 (fun p r hp => by
              by_cases e : p = i ∧ r = j
              · rw [e.1, e.2, upd2_same, upd2_same]
              · rw [upd2_other _ e, upd2_other _ e]
                exact HAG.out p r (by simp only [List.mem_cons, not_or]; exact ⟨fun e2 => e (Prod.mk.inj e2), hp⟩))
            have hl6 : (acc ++ ds).length + (srch n b c m bs' (upd2 g1 i j x) (inc1 u x)).length ≤ LIM := by
              have h1 := HLEN.out
              have h2 := congrArg List.length HLp.out
              have h3 := congrArg List.length HLs.out
              rw [hsr]
              simp at h1 h2 h3 ⊢
              omega
            have hsz : w.heap.size < (W5.setCell ⟨U, x, none⟩ (.int .i64 ((y : Int) + 1))).heap.size := (Array.getElem?_eq_some_iff.1 h6.at_).1
            have hh := HIHH.out (k + 1) (upd2 g1 i j x) (inc1 u x) (acc ++ ds) (fun k => D k ∨ k = w.heap.size) _ hdr2 (by omega) HO.out.2.2.2 h6.si h6.f (fun k a1 a2 => Or.inl (h6.dd k a1 a2)) hl6
            rw [hsr, e] at hh
            refine hh.mono ?_
            rintro e w' ⟨rfl, g3, k1, k2, k3, k4, k5⟩
            refine ⟨rfl, g3, ⟨k2, fun p r hp => ?_, k3, h6.bl.trans k5, ?_, fun k a1 a2 a3 => ?_, h6.lH, h6.dd, h6.lof⟩⟩
            · rw [k1 p r (fun h => hp (List.mem_cons_of_mem _ h))]; exact h6.ag p r hp
            · rw [k4 w.heap.size (Or.inr rfl) (by have := h6.lH; omega) hsz]; exact h6.at_
            · rw [k4 k (Or.inl a1) a2 (by omega)]; exact h6.kp k a1 a2 a3
          clear hs5 hW5 HL5 HL6 HIHH c1 c2 f2 hcR hrq hqo b0 b1 hvr HL4 HLI a0 a1
          go_wp2_with fail
          refine HCALL.out.mono ?_
          intro e w7 h7
          obtain ⟨rfl, HL7⟩ := h7
          obtain ⟨g3, h7⟩ := HL7.out
          obtain ⟨z, HZ⟩ : ∃ z, Hid (z = y + 1) := ⟨_, rfl⟩
          have d3 := h7.si.stat.c3
          have d5 := h7.si.ucell.2 x hxn
          rw [inc_same, ← HY.out, ← HZ.out] at d5
          have e5 := h7.si.ucell.1 x
          have hz1 : (z : Int) - 1 = (y : Int) := by have := HZ.out; omega
          have HL8 : Hid (LI F D w (w7.setCell ⟨U, x, none⟩ (.int .i64 (y : Int))) lo H s U cu W cw fb vb vr (.func (.func 12) #[] #[ptr fb]) vs bs n m b c g g3 u i j bs' (acc ++ (ds ++ srch n b c m bs' (upd2 g i j x) (inc1 u x)))) := by
            have hU1 := (World.ownsRow.lt h7.si.used U rfl).1
            have h2 := h7.si.use (x := x) (y := y) (fun _ => by omega)
            have h3 := h2.ufn (u' := u) (fun q _ => by
              by_cases e : q = x
              · subst e; rw [if_pos rfl, HY.out]
              · rw [if_neg e, inc_other u e])
            have h4 := h7.put HTF.out hU1 h7.si.hU h3 (fun _ _ _ => rfl)
            rw [List.append_assoc] at h4
            exact h4
          have HLp2 : Hid (Lp n b c m bs' g u i j hi l0 = (ds ++ srch n b c m bs' (upd2 g i j x) (inc1 u x)) ++ Lp n b c m bs' g u i j hi (x + 1)) := by
            have := HLp.out
            rw [HLs.out] at this
            show _ = _
            simpa using this
          clear h7 HL7 HCALL
          go_wp2
          go_roundw
          case rel => exact ⟨x + 1, g3, _, by go_num, by omega, HL8, HLp2⟩
          case measure => simp [intOf]; omega
        · have hmay' : mayN b u x = false := by simpa using hmay
          have HLp2 : Hid (Lp n b c m bs' g u i j hi l0 = ds ++ Lp n b c m bs' g u i j hi (x + 1)) := by
            have := HLp.out
            rw [HLs.out, hmay'] at this
            show _ = _
            simpa using this
          rw [hmay']
          go_wp2
          go_roundw
          case rel => exact ⟨x + 1, g1, ds, by go_num, by omega, HL4, HLp2⟩
          case measure => simp [intOf]; omega
      · have hxh' : ¬ ((x : Int) ≤ (hi : Int)) := by omega
        go_wp2_with fail
        refine HGR.out.mono ?_
        rintro e w3 ⟨rfl, HL3⟩
        go_wp2
        go_end0
        have h3 := HL3.out
        have e1 : Lp n b c m bs' g u i j hi l0 = ds := by
          have := HLp.out
          rw [Lp_end (x := x) (by omega)] at this
          simpa using this
        rw [e1]
        exact ⟨rfl, g1, h3.ag, h3.si, HTF.out.less D _ _ _ (fun k hk => Or.inl hk) h3.f, h3.kp, h3.bl⟩

end Go.Proofs.Ytncokoimbpkapaa
