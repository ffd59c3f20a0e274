/-
  A table of the call's own whose blocks lie in a set S; what a step leaves as it was outside S.
-/
import Derived.Test.YtpbmcaoomcippadTTab
import Derived.Test.YtpbmcaoomcippadICol
namespace Go.Proofs.Ytpbmcaoomcippad
open Go.RowKit

theorem owns_new {w : World} (x : Int) : Owns (w.alloc (.cells #[.int .i64 x] 3)) w.heap.size (.slice (some ⟨w.heap.size, 0, none⟩) 1 1) [x] := by
  refine ⟨by simp, Or.inr ⟨w.heap.size, 1, #[.int .i64 x], rfl, Nat.le_refl _, ?_, Nat.le_refl _, by unfold maxLen; omega, rfl, rfl⟩⟩
  show (w.heap.push (.cells #[.int .i64 x] 3 (0, 0)))[w.heap.size]? = _
  simp

structure Off (S : Nat → Prop) (w w' : World) : Prop where
  low : Below 0 w w'
  block : ∀ k, k < w.heap.size → ¬ S k → w'.heap[k]? = w.heap[k]?
/-- S, and what was laid since. -/
def Gr (S : Nat → Prop) (w w' : World) : Nat → Prop := fun k => S k ∨ (w.heap.size ≤ k ∧ k < w'.heap.size)
/-- S lies from lo on, under the end of the heap. -/
def InS (S : Nat → Prop) (lo : Nat) (w : World) : Prop := ∀ k, S k → lo ≤ k ∧ k < w.heap.size

theorem Off.size {S : Nat → Prop} {w w' : World} (h : Off S w w') : w.heap.size ≤ w'.heap.size := h.low.size
theorem Off.refl (S : Nat → Prop) (w : World) : Off S w w := ⟨Below.refl _ _, fun _ _ _ => rfl⟩
theorem Off.trans {S : Nat → Prop} {a b c : World} (h : Off S a b) (k : Off (Gr S a b) b c) : Off S a c :=
  ⟨h.low.trans k.low, fun i hi hs => (k.block i (Nat.lt_of_lt_of_le hi h.size) (fun g => by rcases g with g | g; exact hs g; omega)).trans (h.block i hi hs)⟩
theorem Off.below {S : Nat → Prop} {w w' : World} {B : Nat} (h : Off S w w') (hB : B ≤ w.heap.size) (hS : ∀ k, S k → B ≤ k) : Below B w w' :=
  ⟨h.low.os, h.low.tape, h.low.output, h.low.size, fun k hk => h.block k (by omega) (fun s => by have := hS k s; omega)⟩
theorem Off.of_below {S : Nat → Prop} {w w' : World} {B : Nat} (h : Below B w w') (hB : w.heap.size ≤ B) : Off S w w' := ⟨h.mono (Nat.zero_le _), fun k hk _ => h.block k (by omega)⟩
theorem Off.drewN {S : Nat → Prop} {w w' : World} (h : Off S w w') (n : Nat) : Off S w (w'.drewN n) := ⟨below_drewN h.low n, h.block⟩
theorem Off.setCell {S : Nat → Prop} {w w' : World} (h : Off S w w') {g j : Nat} (hg : S g) (u : Value) : Off S w (w'.setCell ⟨g, j, none⟩ u) :=
  ⟨h.low.setCell (p := ⟨g, j, none⟩) (Nat.zero_le _) u, fun k hk hs => by rw [heap_setCell_other _ _ _ _ (fun e => hs (by rw [e]; exact hg))]; exact h.block k hk hs⟩
theorem Gr.inS {S : Nat → Prop} {lo : Nat} {w w' : World} (h : InS S lo w) (hl : lo ≤ w.heap.size) (hs : w.heap.size ≤ w'.heap.size) : InS (Gr S w w') lo w' := fun k hk => by
  rcases hk with hk | hk
  · have := h k hk; omega
  · omega

structure TblIn (w : World) (lo : Nat) (S : Nat → Prop) (v : Value) (vs : List Value) (ls : List (List Int)) : Prop where
  t : TblV w lo v vs ls
  hd : ∀ k, v.ownBlock = some k → S k
  rs : ∀ i, i < ls.length → ∀ k, (rowv vs i).ownBlock = some k → S k
def TIn (w : World) (lo : Nat) (S : Nat → Prop) (v : Value) (ls : List (List Int)) : Prop := ∃ vs, TblIn w lo S v vs ls

theorem TIn.tbl {w : World} {lo : Nat} {S : Nat → Prop} {v : Value} {ls : List (List Int)} (h : TIn w lo S v ls) : Tbl w lo v ls := by obtain ⟨vs, h⟩ := h; exact ⟨vs, h.t⟩
theorem TIn.of_tbl {w : World} {lo : Nat} {v : Value} {ls : List (List Int)} (h : Tbl w lo v ls) : TIn w lo (fun k => lo ≤ k ∧ k < w.heap.size) v ls := by
  obtain ⟨vs, h⟩ := h
  exact ⟨vs, h, fun k e => h.own.lt k e, fun i hi k e => (h.rows i hi).lt e⟩
theorem TIn.nil (w : World) (lo : Nat) : TIn w lo (fun _ => False) (.slice none 0 0) [] :=
  ⟨[], ⟨World.ownsRow_nil _ _ _ _, rfl, fun i h => absurd h (by simp), fun i _ h => absurd h (by simp), fun i h => absurd h (by simp)⟩, (fun k e => absurd e (by simp [Value.ownBlock])), (fun i h => absurd h (by simp))⟩
theorem TblIn.same {w w' : World} {lo : Nat} {S : Nat → Prop} {v : Value} {vs : List Value} {ls : List (List Int)} (h : TblIn w lo S v vs ls) (hk : ∀ k, S k → w'.heap[k]? = w.heap[k]?) : TblIn w' lo S v vs ls :=
  ⟨⟨ownsRow_blocks h.t.own (fun k e => hk k (h.hd k e)), h.t.len, fun i hi => ownsRow_blocks (h.t.rows i hi) (fun k e => hk k (h.rs i hi k e)), h.t.apart, h.t.off⟩, h.hd, h.rs⟩
theorem TIn.same {w w' : World} {lo : Nat} {S : Nat → Prop} {v : Value} {ls : List (List Int)} (h : TIn w lo S v ls) (hk : ∀ k, S k → w'.heap[k]? = w.heap[k]?) : TIn w' lo S v ls := by obtain ⟨vs, h⟩ := h; exact ⟨vs, h.same hk⟩
theorem TIn.off {w w' : World} {lo : Nat} {S Q : Nat → Prop} {v : Value} {ls : List (List Int)} (h : TIn w lo Q v ls) (hQ : InS Q lo w) (hd : ∀ k, Q k → ¬ S k) (ho : Off S w w') : TIn w' lo Q v ls :=
  h.same (fun k hk => ho.block k (hQ k hk).2 (hd k hk))
theorem TIn.grow {w : World} {lo : Nat} {S S' : Nat → Prop} {v : Value} {ls : List (List Int)} (h : TIn w lo S v ls) (hS : ∀ k, S k → S' k) : TIn w lo S' v ls := by
  obtain ⟨vs, h⟩ := h; exact ⟨vs, h.t, fun k e => hS k (h.hd k e), fun i hi k e => hS k (h.rs i hi k e)⟩
theorem TblV.shape {w : World} {lo : Nat} {v : Value} {vs : List Value} {ls : List (List Int)} (h : TblV w lo v vs ls) : ∃ a cap, v = .slice a ls.length cap := by
  rcases h.own.2 with ⟨h2, h3⟩ | ⟨g, cap, cur, hv, _⟩
  · exact ⟨none, 0, by rw [h2, ← h.len, h3]⟩
  · exact ⟨_, cap, by rw [hv, h.len]⟩
theorem TblIn.mono {w : World} {lo lo' : Nat} {S : Nat → Prop} {v : Value} {vs : List Value} {ls : List (List Int)} (h : TblIn w lo S v vs ls) (hl : lo' ≤ lo) : TblIn w lo' S v vs ls :=
  ⟨⟨ownsRow_down h.t.own hl, h.t.len, fun i hi => (h.t.rows i hi).mono hl, h.t.apart, h.t.off⟩, h.hd, h.rs⟩

/-- A row behind the others, laid since. -/
theorem TblIn.push {w w1 w' : World} {lo : Nat} {S : Nat → Prop} {v v' u : Value} {vs : List Value} {ls : List (List Int)} {zs : List Int} (h : TblIn w lo S v vs ls) (hS : InS S lo w) (hlo : lo ≤ w.heap.size) (hb : Below w.heap.size w w1) (hu : Owns w1 w.heap.size u zs)
    (hown : w'.ownsRow lo 22 1 v' (vs ++ [u]).length (vs ++ [u])) (hk : KeepB v v' w1 w') : TblIn w' lo (Gr S w w') v' (vs ++ [u]) (ls ++ [zs]) ∧ (∀ k, k < w.heap.size → ¬ S k → w'.heap[k]? = w.heap[k]?) := by
  have h1 : TblIn w1 lo S v vs ls := h.same (fun k hk => hb.block k (hS k hk).2)
  have hul : ∀ k, u.ownBlock = some k → w.heap.size ≤ k ∧ k < w1.heap.size := fun k e => hu.lt e
  refine ⟨⟨h1.t.push (hu.mono hlo) (fun i hi k e e2 => ?_) (fun k e e2 => ?_) hown hk, fun k e => ?_, fun i hi k e => ?_⟩, fun k hkl hs => ?_⟩
  · have := hul k e; have := hS k (h.rs i hi k e2); omega
  · have := hul k e2; have := hS k (h.hd k e); omega
  · rcases hk.lies k e with q | q
    · exact Or.inl (h.hd k q)
    · right
      exact ⟨by have := hb.size; omega, (hown.lt k e).2⟩
  · rw [List.length_append, List.length_singleton] at hi
    rw [rowv_push] at e
    have hl := h.t.len
    by_cases c : i < vs.length
    · rw [if_pos c] at e; exact Or.inl (h.rs i (by omega) k e)
    · rw [if_neg c, if_pos (by omega)] at e
      have := hul k e
      have := hk.size
      right; omega
  · rw [hk.block k (by have := hb.size; omega) (fun e => hs (h.hd k e)), hb.block k hkl]

/-- Row i becomes u, made out of its old value. -/
theorem TblIn.setRow {w w' : World} {lo g n cap i : Nat} {S : Nat → Prop} {vs : List Value} {ls : List (List Int)} {u : Value} {zs : List Int} (h : TblIn w lo S (.slice (some ⟨g, 0, none⟩) n cap) vs ls) (hi : i < ls.length) (hu : Owns w' lo u zs) (hk : KeepB (rowv vs i) u w w') :
    TblIn (w'.setCell ⟨g, i, none⟩ u) lo (Gr S w w') (.slice (some ⟨g, 0, none⟩) n cap) (vs.set i u) (ls.set i zs) ∧ (∀ k, k < w.heap.size → ¬ S k → (w'.setCell ⟨g, i, none⟩ u).heap[k]? = w.heap[k]?) := by
  refine ⟨⟨h.t.setRow hi hu hk, fun k e => Or.inl (h.hd k e), fun j hj k e => ?_⟩, fun k hkl hs => ?_⟩
  · rw [List.length_set] at hj
    rw [rowv_set _ _ _ _ (by rw [h.t.len]; exact hj)] at e
    by_cases c : j = i
    · rw [if_pos c] at e
      rcases hk.lies k e with q | q
      · exact Or.inl (h.rs i hi k q)
      · right; exact ⟨q, (hu.lt e).2⟩
    · rw [if_neg c] at e; exact Or.inl (h.rs j hj k e)
  · rw [heap_setCell_other _ _ _ _ (fun e => hs (by rw [e]; exact h.hd g rfl)), hk.block k hkl (fun e => hs (h.rs i hi k e))]

/-- A letter of row i is changed. -/
theorem TblIn.storeBox {w : World} {lo i h c m : Nat} {S : Nat → Prop} {v : Value} {vs : List Value} {ls : List (List Int)} (ht : TblIn w lo S v vs ls) (hi : i < ls.length) (hv : rowv vs i = .slice (some ⟨h, 0, none⟩) m c) (hm : m = (ls.getD i []).length) (j : Nat) (x : Int) :
    TblIn (w.setCell ⟨h, j, none⟩ (.int .i64 x)) lo S v vs (ls.set i ((ls.getD i []).set j x)) :=
  ⟨ht.t.storeBox hi hv hm j x, ht.hd, fun k hk => by rw [List.length_set] at hk; exact ht.rs k hk⟩

end Go.Proofs.Ytpbmcaoomcippad
