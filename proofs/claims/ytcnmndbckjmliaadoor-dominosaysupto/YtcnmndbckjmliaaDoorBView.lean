/-
  A slice of ints as the world shows it; the contracts of ferlaw.Same[int] and ferref.Size.
-/
import Derived.Test.YtcnmndbckjmliaaDoorRows
import Derived.WalkKit
import Derived.Deep.QuietTactic
import Derived.BigQuiet
import Derived.WalkSmall
namespace Go.Proofs.YtcnmndbckjmliaaDoor
open Go.RowKit

theorem hid_w {p : Prop} (h : p) : Hid p := h
/-- The address a shows the numbers zs in the world w. -/
structure Shows (w : World) (a : Option Addr) (zs : List Int) : Prop where
  len : zs.length ≤ 17592186044416
  wf : ∀ z ∈ zs, -9223372036854775808 ≤ z ∧ z ≤ 9223372036854775807
  cells : zs ≠ [] → ∃ b off, a = some ⟨b, off, none⟩ ∧ b < w.heap.size ∧ ∀ j, j < zs.length → w.cell? ⟨b, off + j, none⟩ = some (.int .i64 (zs.getD j 0))

theorem Shows.below {w w' : World} {a : Option Addr} {zs : List Int} (h : Shows w a zs) (hb : Below w.heap.size w w') : Shows w' a zs := by
  refine ⟨h.len, h.wf, fun hne => ?_⟩
  obtain ⟨b, off, ha, hlt, hc⟩ := h.cells hne
  exact ⟨b, off, ha, Nat.lt_of_lt_of_le hlt hb.size, fun j hj => (hb.cell (p := ⟨b, off + j, none⟩) hlt).trans (hc j hj)⟩

theorem Shows.below' {w w' : World} {B : Nat} {a : Option Addr} {zs : List Int} (h : Shows w a zs) (hb : Below B w w') (hB : w.heap.size ≤ B) : Shows w' a zs :=
  h.below (hb.mono hB)

/-- One element: a number z, its bounds, its cell. -/
theorem Shows.elem {w : World} {a : Option Addr} {zs : List Int} (h : Shows w a zs) {k : Nat} (hk : k < zs.length) :
    ∃ (b off : Nat) (z : Int), a = some ⟨b, off, none⟩ ∧ Hid (z = zs.getD k 0) ∧ -9223372036854775808 ≤ z ∧ z ≤ 9223372036854775807 ∧ w.cell? ⟨b, off + k, none⟩ = some (.int .i64 z) := by
  have hne : zs ≠ [] := by intro e; subst e; simp at hk
  obtain ⟨b, off, ha, _, hc⟩ := h.cells hne
  have hm : zs.getD k 0 ∈ zs := by simp [List.getD, List.getElem?_eq_getElem hk]
  exact ⟨b, off, _, ha, rfl, (h.wf _ hm).1, (h.wf _ hm).2, hc k hk⟩

/-- Two elements at once. -/
theorem Shows.elem2 {w : World} {a : Option Addr} {zs : List Int} (h : Shows w a zs) {k m : Nat} (hk : k < zs.length) (hm : m < zs.length) :
    ∃ (b off : Nat) (z y : Int), a = some ⟨b, off, none⟩ ∧ Hid (z = zs.getD k 0) ∧ Hid (y = zs.getD m 0) ∧ -9223372036854775808 ≤ z ∧ z ≤ 9223372036854775807 ∧ -9223372036854775808 ≤ y ∧ y ≤ 9223372036854775807 ∧
      w.cell? ⟨b, off + k, none⟩ = some (.int .i64 z) ∧ w.cell? ⟨b, off + m, none⟩ = some (.int .i64 y) := by
  have hne : zs ≠ [] := by intro e; subst e; simp at hk
  obtain ⟨b, off, ha, _, hc⟩ := h.cells hne
  have hmk : zs.getD k 0 ∈ zs := by simp [List.getD, List.getElem?_eq_getElem hk]
  have hmm : zs.getD m 0 ∈ zs := by simp [List.getD, List.getElem?_eq_getElem hm]
  exact ⟨b, off, _, _, ha, rfl, rfl, (h.wf _ hmk).1, (h.wf _ hmk).2, (h.wf _ hmm).1, (h.wf _ hmm).2, hc k hk, hc m hm⟩

theorem ret_int {k : IntKind} {a b : Int} (h : a = b) : Ending.returned (.int k a) = .returned (.int k b) := by rw [h]

theorem ret_bool {a b : Bool} (h : a = b) : Ending.returned (.bool a) = .returned (.bool b) := by rw [h]

theorem drewN_two (w : World) (n m : Nat) : (w.drewN n).drewN m = w.drewN (n + m) := by simp [World.drewN]; try omega


/-- What the numbers are together. -/
def sum : List Int → Int
  | [] => 0
  | n :: l => n + sum l

theorem sum_append (l m : List Int) : sum (l ++ m) = sum l + sum m := by
  induction l with
  | nil => simp [sum]
  | cons n l ih => simp [sum, ih]; omega

theorem take_snoc (zs : List Int) (k : Nat) (hk : k < zs.length) : zs.take (k + 1) = zs.take k ++ [zs.getD k 0] := by
  rw [List.take_succ_eq_append_getElem hk]; simp [List.getD, List.getElem?_eq_getElem hk]

theorem sum_bound (zs : List Int) (h : ∀ z ∈ zs, 0 ≤ z ∧ z ≤ 1000) : 0 ≤ sum zs ∧ sum zs ≤ 1000 * zs.length := by
  induction zs with
  | nil => simp [sum]
  | cons n l ih =>
    have := ih (fun z hz => h z (by simp [hz]))
    have := h n (by simp)
    simp [sum]; omega


/-- A literal slice in a new block. -/
theorem shows_lit (w : World) (zs : List Int) (cs : Array Value) (hcs : cs = (zs.map (Value.int .i64)).toArray) (hl : zs.length ≤ 17592186044416) (hwf : ∀ z ∈ zs, -9223372036854775808 ≤ z ∧ z ≤ 9223372036854775807) :
    Shows (w.alloc (.cells cs 3)) (some ⟨w.heap.size, 0, none⟩) zs := by
  subst hcs
  refine ⟨hl, hwf, fun _ => ⟨w.heap.size, 0, rfl, by simp, fun j hj => ?_⟩⟩
  rw [World.cell?_alloc_at _ _ _ _ rfl]
  simp [List.getD, List.getElem?_eq_getElem hj]

theorem getD_mem {zs : List Int} {j : Nat} (hj : j < zs.length) : zs.getD j 0 ∈ zs := by simp [List.getD, List.getElem?_eq_getElem hj]

theorem ext_getD {a b : List Int} (hl : a.length = b.length) (h : ∀ j, j < a.length → a.getD j 0 = b.getD j 0) : a = b := by
  refine List.ext_getElem hl (fun j h1 h2 => ?_)
  simpa [List.getD, List.getElem?_eq_getElem h1, List.getElem?_eq_getElem h2] using h j h1

theorem set_getD (zs : List Int) (k : Nat) (x : Int) (j : Nat) (hj : j < zs.length) : (zs.set k x).getD j 0 = if j = k then x else zs.getD j 0 := by
  simp only [List.getD, List.getElem?_set]
  by_cases h : k = j
  · subst h; simp [hj]
  · rw [if_neg h, if_neg (fun e => h e.symm)]

theorem Shows.take {w : World} {a : Option Addr} {zs : List Int} (h : Shows w a zs) (n : Nat) : Shows w a (zs.take n) := by
  refine ⟨by have := h.len; simp; omega, fun z hz => h.wf z (List.mem_of_mem_take hz), fun hne => ?_⟩
  obtain ⟨b, off, ha, hb, hc⟩ := h.cells (fun e => hne (by rw [e]; simp))
  refine ⟨b, off, ha, hb, fun j hj => ?_⟩
  rw [List.length_take] at hj
  rw [hc j (by omega)]
  simp [List.getD, show j < n by omega]

theorem small_wf {zs : List Int} (h : ∀ z ∈ zs, 0 ≤ z ∧ z ≤ 1000) : ∀ z ∈ zs, -9223372036854775808 ≤ z ∧ z ≤ 9223372036854775807 := fun z hz => by have := h z hz; omega

theorem drop_cons (zs : List Int) (k : Nat) (hk : k < zs.length) : zs.drop k = zs.getD k 0 :: zs.drop (k + 1) := by
  rw [List.drop_eq_getElem_cons hk]; simp [List.getD, List.getElem?_eq_getElem hk]

end Go.Proofs.YtcnmndbckjmliaaDoor
