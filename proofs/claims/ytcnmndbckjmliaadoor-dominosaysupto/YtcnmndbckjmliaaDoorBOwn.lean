/-
  A slice of ints that the call itself made; the contract of perms.copied.
-/
import Derived.Test.YtcnmndbckjmliaaDoorBView
import Derived.Laws.CopyOwn
namespace Go.Proofs.YtcnmndbckjmliaaDoor
open Go.RowKit

theorem Tryd.info3 : (Tryd.prog.info? 3).map (fun i => (i.zero, i.size, i.bytes)) = some (some (.int .i64 0), 1, 8) := by kernel_rfl

theorem Tryd.sz3 : (Tryd.prog.info? 3).map (·.size) = some 1 := by kernel_rfl

/-- The value v owns the numbers zs, in a block from base on. -/
def Owns (w : World) (base : Nat) (v : Value) (zs : List Int) : Prop := w.ownsRow base 3 1 v zs.length (zs.map (Value.int .i64))

theorem Owns.mono {w : World} {base base' : Nat} {v : Value} {zs : List Int} (h : Owns w base v zs) (hb : base' ≤ base) : Owns w base' v zs := by
  obtain ⟨h1, h2⟩ := h
  refine ⟨h1, ?_⟩
  rcases h2 with h2 | ⟨g, cap, cur, hv, hg, r⟩
  · exact Or.inl h2
  · exact Or.inr ⟨g, cap, cur, hv, by omega, r⟩

theorem Owns.below {w w' : World} {base : Nat} {v : Value} {zs : List Int} (h : Owns w base v zs) (hb : Below w.heap.size w w') : Owns w' base v zs := by
  obtain ⟨h1, h2⟩ := h
  refine ⟨h1, ?_⟩
  rcases h2 with h2 | ⟨g, cap, cur, hv, hg, hh, r⟩
  · exact Or.inl h2
  · refine Or.inr ⟨g, cap, cur, hv, hg, ?_, r⟩
    rw [hb.block g (by rcases Nat.lt_or_ge g w.heap.size with h | h; exact h; rw [Array.getElem?_eq_none h] at hh; cases hh)]; exact hh

theorem Owns.shape {w : World} {base : Nat} {v : Value} {zs : List Int} (h : Owns w base v zs) : ∃ a cap, v = .slice a zs.length cap := by
  rcases h.2 with ⟨h2, h3⟩ | ⟨g, cap, cur, hv, _⟩
  · exact ⟨none, 0, by rw [h2, h3]⟩
  · exact ⟨_, cap, hv⟩

/-- A slice that owns at least one number lies at the head of a block. -/
theorem Owns.head {w : World} {base : Nat} {v : Value} {zs : List Int} (h : Owns w base v zs) (hne : 0 < zs.length) :
    ∃ g cap, v = .slice (some ⟨g, 0, none⟩) zs.length cap ∧ base ≤ g ∧ g < w.heap.size ∧ (∀ j, w.frozen? ⟨g, j, none⟩ = false) ∧ ∀ j, j < zs.length → w.cell? ⟨g, j, none⟩ = some (.int .i64 (zs.getD j 0)) := by
  have h0 := h
  rcases h.2 with ⟨h2, h3⟩ | ⟨g, cap, cur, hv, hg, hh, _⟩
  · omega
  · subst hv
    have hlt : g < w.heap.size := by
      rcases Nat.lt_or_ge g w.heap.size with h | h
      · exact h
      · rw [Array.getElem?_eq_none h] at hh; cases hh
    refine ⟨g, cap, rfl, hg, hlt, fun j => World.ownsRow.frozenAt h0 j, fun j hj => ?_⟩
    rw [World.ownsRow.cellAt h0 j (by omega)]
    simp [List.getD, List.getElem?_eq_getElem hj]

theorem Owns.shows {w : World} {base : Nat} {v : Value} {zs : List Int} (h : Owns w base v zs) (hl : zs.length ≤ 17592186044416) (hwf : ∀ z ∈ zs, -9223372036854775808 ≤ z ∧ z ≤ 9223372036854775807) :
    ∃ a cap, v = .slice a zs.length cap ∧ Shows w a zs := by
  by_cases hne : 0 < zs.length
  · obtain ⟨g, cap, hv, _, hlt, _, hc⟩ := h.head hne
    exact ⟨_, cap, hv, hl, hwf, fun _ => ⟨g, 0, rfl, hlt, fun j hj => by rw [Nat.zero_add]; exact hc j hj⟩⟩
  · obtain ⟨a, cap, hv⟩ := h.shape
    have : zs = [] := List.eq_nil_of_length_eq_zero (by omega)
    exact ⟨a, cap, hv, hl, hwf, fun h => absurd this h⟩

/-- A store into what is owned. -/
theorem Owns.store {w : World} {base g cap n : Nat} {zs : List Int} (h : Owns w base (.slice (some ⟨g, 0, none⟩) n cap) zs) (hn : n = zs.length) (j : Nat) (x : Int) :
    Owns (w.setCell ⟨g, j, none⟩ (.int .i64 x)) base (.slice (some ⟨g, 0, none⟩) n cap) (zs.set j x) := by
  subst hn
  have h := (World.ownsRow.stored (h : w.ownsRow base 3 1 _ _ _) j (.int .i64 x)).1
  unfold Owns
  simp only [List.length_set, List.map_set]
  exact h

theorem Owns.block {w : World} {base g cap n : Nat} {zs : List Int} (h : Owns w base (.slice (some ⟨g, 0, none⟩) n cap) zs) (hn : n = zs.length) :
    base ≤ g ∧ ∃ cur, w.heap[g]? = some (.cells cur 3 (0, 0)) ∧ cur.size = cap ∧ n ≤ cap ∧ cap ≤ maxLen ∧ cur.toList.take n = zs.map (Value.int .i64) := by
  subst hn
  rcases h.2 with ⟨h2, h3⟩ | ⟨g', cap', cur, hv, hg, hh, h4, h5, h6, h7⟩
  · cases h2
  · simp only [Value.slice.injEq, Option.some.injEq, Addr.mk.injEq, and_true, true_and] at hv
    obtain ⟨rfl, rfl⟩ := hv
    exact ⟨hg, cur, hh, by omega, h4, h5, by simpa using h7⟩

theorem owns_of_row {w : World} {base g n : Nat} {zs : List Int} (hg : base ≤ g) (hh : w.heap[g]? = some (.cells (zs.map (Value.int .i64)).toArray 3 (0, 0))) (hn : n = zs.length) (hl : zs.length ≤ 17592186044416) :
    Owns w base (.slice (some ⟨g, 0, none⟩) n n) zs := by
  subst hn
  refine ⟨by simp, Or.inr ⟨g, zs.length, _, rfl, hg, hh, Nat.le_refl _, by unfold maxLen; omega, by simp, ?_⟩⟩
  simp only [Nat.mul_one]
  rw [List.take_of_length_le (by simp)]

theorem splice_all {α : Type} (L cs : List α) (h : cs.length = L.length) : splice L 0 cs = cs := by
  unfold splice; simp [h]

/-- 'copy(q, p)' into a new row of the same length. -/
theorem run_copy_all {w0 w : World} {a : Option Addr} {cap g B : Nat} {zs : List Int} (hs : Shows w a zs) (hrow : w.heap[g]? = some (.cells (List.replicate zs.length (Value.int .i64 0)).toArray 3 (0, 0))) (hb : Below B w0 w) (hB : B ≤ g) :
    ∃ w2, Sem.run Tryd.prog (Builtin.copy_ #[57, 57] 3 #[.slice (some ⟨g, 0, none⟩) zs.length zs.length, .slice a zs.length cap]) w = .ok (.int .i64 zs.length) w2 ∧
      Hid (w2.heap[g]? = some (.cells (zs.map (Value.int .i64)).toArray 3 (0, 0))) ∧ Below B w0 w2 := by
  by_cases hne : zs = []
  · subst hne
    exact ⟨w, run_copy_none (P := Tryd.prog) w 57 57 3 3 _ _ _ _ _ _ Tryd.underlying57 Tryd.sz3 (by simp), by simpa [Hid] using hrow, hb⟩
  · obtain ⟨b, off, ha, _, hc⟩ := hs.cells hne
    subst ha
    have hrun := run_copy_row (P := Tryd.prog) w 57 57 3 3 g 0 zs.length zs.length ⟨b, off, none⟩ zs.length cap _ 3 (zs.map (Value.int .i64)) Tryd.underlying57 Tryd.sz3 hrow (by simp) (fun j v hj => by
      have hj' : j < zs.length := by have := (List.getElem?_eq_some_iff.1 hj).1; simpa using this
      rw [Addr.add_lit, hc j hj', ← hj]; simp [List.getD, List.getElem?_eq_getElem hj']) (by simp) (ints_oneCell _ _)
    refine ⟨_, by rw [hrun]; simp only [List.length_map]; rfl, ?_, below_setRow hb hB _⟩
    show _ = _
    rw [setRow_heap w g _ _ 3 _ hrow]
    simp

theorem Owns.at {w : World} {base g cap n : Nat} {zs : List Int} (h : Owns w base (.slice (some ⟨g, 0, none⟩) n cap) zs) (hn : n = zs.length) :
    base ≤ g ∧ (∀ j, w.frozen? ⟨g, j, none⟩ = false) ∧ ∀ j, j < zs.length → w.cell? ⟨g, j, none⟩ = some (.int .i64 (zs.getD j 0)) := by
  subst hn
  refine ⟨(h.block rfl).1, fun j => World.ownsRow.frozenAt h j, fun j hj => ?_⟩
  rw [World.ownsRow.cellAt h j (by omega)]
  simp [List.getD, List.getElem?_eq_getElem hj]

theorem Owns.opened {w : World} {base : Nat} {v : Value} {zs : List Int} (h : Owns w base v zs) (hl : zs.length ≤ 17592186044416) (hwf : ∀ z ∈ zs, -9223372036854775808 ≤ z ∧ z ≤ 9223372036854775807) :
    ∃ a n cap, v = .slice a n cap ∧ Shows w a zs ∧ n = zs.length ∧ n ≤ cap := by
  obtain ⟨a, cap, hv, hs⟩ := h.shows hl hwf
  refine ⟨a, _, cap, hv, hs, rfl, ?_⟩
  rcases h.2 with ⟨h2, h3⟩ | ⟨g, cap', cur, hv', _, _, hc, _⟩
  · omega
  · rw [hv] at hv'; cases hv'; exact hc

def lenOf : Value → Nat
  | .slice _ n _ => n
  | _ => 0

/-- The parts of a slice of the call's own, as a source. -/
theorem Owns.src {w : World} {base : Nat} {v : Value} {zs : List Int} (h : Owns w base v zs) (hl : zs.length ≤ 17592186044416) (hwf : ∀ z ∈ zs, -9223372036854775808 ≤ z ∧ z ≤ 9223372036854775807) :
    ∃ a n cap, v = .slice a n cap ∧ Shows w a zs ∧ Hid (n = zs.length) ∧ Hid (a = none → zs = [] ∧ cap = 0) := by
  rcases h.2 with ⟨h2, h3⟩ | ⟨g, cap', cur, hv', _, _, hc, _⟩
  · obtain rfl : zs = [] := List.eq_nil_of_length_eq_zero h3
    exact ⟨none, 0, 0, h2, ⟨hl, hwf, fun hne => absurd rfl hne⟩, rfl, fun _ => ⟨rfl, rfl⟩⟩
  · obtain ⟨a, n, cap, hv, hs, hn, _⟩ := h.opened hl hwf
    refine ⟨a, n, cap, hv, hs, hn, fun e => ?_⟩
    rw [hv', e] at hv; cases hv

theorem Owns.takeN {w : World} {base g cap n m : Nat} {zs : List Int} (h : Owns w base (.slice (some ⟨g, 0, none⟩) n cap) zs) (hm : m ≤ zs.length) : Owns w base (.slice (some ⟨g, 0, none⟩) m cap) (zs.take m) := by
  rcases h.2 with ⟨h2, h3⟩ | ⟨g', cap', cur, hv, hg, hh, h4, h5, h6, h7⟩
  · cases h2
  · simp only [Value.slice.injEq, Option.some.injEq, Addr.mk.injEq, and_true] at hv
    obtain ⟨rfl, rfl, rfl⟩ := hv
    refine ⟨by simp, Or.inr ⟨g, cap, cur, by simp; omega, hg, hh, by simp; omega, h5, h6, ?_⟩⟩
    rw [List.map_take, ← h7, List.take_take]
    congr 1; simp

/-- The numbers f 0, f 1, .. , f (n - 1). -/
def tab (n : Nat) (f : Nat → Int) : List Int := (List.range n).map f

theorem tab_length (n : Nat) (f : Nat → Int) : (tab n f).length = n := by simp [tab]

theorem tab_getD (n : Nat) (f : Nat → Int) (j : Nat) (hj : j < n) : (tab n f).getD j 0 = f j := by simp [tab, List.getD, hj]

theorem tab_out (n : Nat) (f : Nat → Int) (j : Nat) (hj : n ≤ j) : (tab n f).getD j 0 = 0 := by simp [tab, List.getD, hj]

theorem tab_mem {n : Nat} {f : Nat → Int} {z : Int} (h : z ∈ tab n f) : ∃ j, j < n ∧ z = f j := by
  simp only [tab, List.mem_map, List.mem_range] at h
  obtain ⟨j, hj, rfl⟩ := h
  exact ⟨j, hj, rfl⟩

theorem tab_congr {n : Nat} {f g : Nat → Int} (h : ∀ j, j < n → f j = g j) : tab n f = tab n g := List.map_congr_left (fun j hj => h j (List.mem_range.1 hj))

theorem tab_succ (n : Nat) (f : Nat → Int) : tab (n + 1) f = tab n f ++ [f n] := by simp [tab, List.range_succ]

end Go.Proofs.YtcnmndbckjmliaaDoor
