/-
  An argument of type []int, opened: what the world shows of it, and that it reads behind the call as before it.
  An argument of type [][]int, opened: what the world shows of its rows.
-/
import Derived.Test.YtgcpconlmihilaaGreatDoorBView
import Derived.ProofKit
import Derived.SizedLaws
import Derived.OpenShut
import Derived.Test.YtgcpconlmihilaaGreatDoorTTab
import Derived.Deep.Matrix
namespace Go.Proofs.YtgcpconlmihilaaGreatDoor
open Go.ChangeShapes Go.WideShapes Go.ChangeAt Go.RowKit

theorem Tryz.own : ownKnob Tryz.prog.godebug = none := by kernel_rfl
theorem Tryz.laidOut : laidOutB Tryz.prog = true := by kernel_rfl
theorem Tryz.cells3 : Tryz.prog.cellsOf 3 = 1 := by kernel_rfl
theorem Tryz.bytes3 : Tryz.prog.bytesOf 3 = 8 := by kernel_rfl

theorem i64_of_wf {z : Int} (h : (Lit.int .i64 z).wf = true) : -9223372036854775808 ≤ z ∧ z ≤ 9223372036854775807 := by
  have h1 : IntKind.i64.min = -9223372036854775808 := rfl
  have h2 : IntKind.i64.max = 9223372036854775807 := rfl
  simp only [Lit.wf, Bool.and_eq_true, decide_eq_true_eq] at h
  omega

set_option maxRecDepth 100000 in
/-- The numbers of a []int argument; 'hsz' is the form's own reach of it. -/
theorem open_arg {H : Type} {enc : TypeId × Value → H} {W : World} {base : Nat} {v : Value} {d : DataW H} {p : List MemPlace}
    (hv : Value.okWide Tryz.prog W .any base 36 v) (h : DataW.Trod enc Tryz.prog W 0 (fun _ => true) true 36 v d p) (hlt : ∀ x ∈ p, x.block < W.heap.size)
    (hsz : ∀ es sp, d = .slice es sp → (es.length + sp.length) * Tryz.prog.bytesOf 3 ≤ reachBytes) :
    ∃ a cap zs, v = .slice a zs.length cap ∧ Shows W a zs ∧ zs.length ≤ cap := by
  obtain ⟨a0, len, cap, rfl⟩ := okWide_slice Tryz.underlying36 hv
  obtain ⟨fuel, hf⟩ := h
  rcases open_ints Tryz.underlying36 Tryz.underlying3 Tryz.cells3 hf with ⟨hcs, hx⟩ | ⟨a, len', cap', zs, hcs, _, hl, hm, hz, hx, hcell, hwz⟩
  · simp [Value.cells] at hcs
    obtain ⟨rfl, rfl, rfl⟩ := hcs
    exact ⟨none, 0, [], rfl, ⟨by simp, fun z h => (by cases h), fun h => absurd rfl h⟩, by simp⟩
  · simp [Value.cells] at hcs
    obtain ⟨rfl, rfl, rfl⟩ := hcs
    simp only [Prod.mk.injEq] at hx
    obtain ⟨rfl, rfl⟩ := hx
    simp only [if_true] at hz
    have hreach := hsz _ _ rfl
    rw [Tryz.bytes3] at hreach
    simp only [lits, List.length_map, List.length_take, List.length_drop, reachBytes] at hreach
    have hlen : (zs.take len).length = len := by simp; omega
    refine ⟨some a, cap, zs.take len, by rw [hlen], ⟨by omega, fun z hz' => i64_of_wf (hwz z (List.mem_of_mem_take hz')), fun hne => ?_⟩, by omega⟩
    have hpos : 0 < len := by
      rcases Nat.eq_zero_or_pos len with h0 | h0
      · subst h0; simp at hne
      · exact h0
    obtain ⟨b, off, spot⟩ := a
    have hspot : spot = none := by simpa [Addr.add] using World.cell?_spot (hcell 0 (by omega))
    subst hspot
    refine ⟨b, off, rfl, hlt (.cell b off) (MemPlace.mem_row.2 ⟨0, by omega, by simp⟩), fun j hj => ?_⟩
    rw [hlen] at hj
    rw [← add_plain, hcell j (by omega)]
    simp [List.getD, hj]

end Go.Proofs.YtgcpconlmihilaaGreatDoor

namespace Go.Proofs.YtgcpconlmihilaaGreatDoor
open Go.ChangeShapes Go.WideShapes Go.ChangeAt Go.RowKit

theorem Tryz.cells22 : Tryz.prog.cellsOf 36 = 1 := by kernel_rfl
theorem Tryz.bytes22 : Tryz.prog.bytesOf 36 = 24 := by kernel_rfl

/-- As Table; and each row's length is at most its capacity. -/
def TableX (w : World) (a : Option Addr) (ls : List (List Int)) : Prop := ∀ i, i < ls.length → ∃ b off ai ci, a = some ⟨b, off, none⟩ ∧ b < w.heap.size ∧ w.cell? ⟨b, off + i, none⟩ = some (.slice ai (ls.getD i []).length ci) ∧ Shows w ai (ls.getD i []) ∧ (ai = none → ls.getD i [] = [] ∧ ci = 0) ∧ (ls.getD i []).length ≤ ci
theorem TableX.table {w : World} {a : Option Addr} {ls : List (List Int)} (h : TableX w a ls) : Table w a ls := fun i hi => by
  obtain ⟨b, off, ai, ci, h1, h2, h3, h4, h5, _⟩ := h i hi
  exact ⟨b, off, ai, ci, h1, h2, h3, h4, h5⟩
theorem TableX.below {w w' : World} {a : Option Addr} {ls : List (List Int)} (h : TableX w a ls) (hb : Below w.heap.size w w') : TableX w' a ls := fun i hi => by
  obtain ⟨b, off, ai, ci, h1, h2, h3, h4, h5, h6⟩ := h i hi
  exact ⟨b, off, ai, ci, h1, Nat.lt_of_lt_of_le h2 hb.size, (hb.cell h2).trans h3, h4.below hb, h5, h6⟩

theorem weightsAll_mem {H : Type} {P : Program} {e : TypeId} : ∀ {ds : List (DataW H)} {d : DataW H}, d ∈ ds → ∀ n ∈ d.weights P e, n ∈ DataW.weightsAll P e ds
  | d0 :: ds, d, hd, n, hn => by
    rw [DataW.weightsAll, List.mem_append]
    rcases List.mem_cons.1 hd with rfl | hd
    · exact Or.inl hn
    · exact Or.inr (weightsAll_mem hd n hn)

set_option maxRecDepth 100000 in
/-- The rows of a [][]int argument; 'hsz' is the form's own reach of it. -/
theorem open_table {H : Type} {enc : TypeId × Value → H} {W : World} {base : Nat} {v : Value} {d : DataW H} {p : List MemPlace}
    (hv : Value.okWide Tryz.prog W .any base 22 v) (h : DataW.Trod enc Tryz.prog W 0 (fun _ => true) true 22 v d p) (hlt : ∀ x ∈ p, x.block < W.heap.size)
    (hsz : ∀ n ∈ d.weights Tryz.prog 22, n ≤ reachBytes) :
    ∃ a cap ls, v = .slice a ls.length cap ∧ TableX W a ls ∧ ls.length ≤ cap ∧ ls.length ≤ 17592186044416 ∧ (a = none → ls = [] ∧ cap = 0) := by
  obtain ⟨a0, len, cap, rfl⟩ := okWide_slice Tryz.underlying22 hv
  obtain ⟨fuel, hf⟩ := h
  rcases Go.Deep.open_int_rows Tryz.underlying22 Tryz.underlying36 Tryz.underlying3 Tryz.cells22 Tryz.cells3 hf with ⟨hcs, hx⟩ | ⟨a, len', cap', A, L, C, Z, hcs, _, hl, hm, hx, hr⟩
  · simp [Value.cells] at hcs
    obtain ⟨rfl, rfl, rfl⟩ := hcs
    exact ⟨none, 0, [], rfl, fun i hi => absurd hi (by simp), by simp, by simp, fun _ => ⟨rfl, rfl⟩⟩
  · simp [Value.cells] at hcs
    obtain ⟨rfl, rfl, rfl⟩ := hcs
    simp only [Prod.mk.injEq] at hx
    obtain ⟨rfl, rfl⟩ := hx
    have hw : ∀ n ∈ DataW.weights Tryz.prog 22 (DataW.slice ((List.range len).map fun r => Go.Deep.intRow (H := H) .i64 (A r) (L r) (Z r)) ((List.range (cap - len)).map fun j => Go.Deep.intRow .i64 (A (len + j)) (L (len + j)) (Z (len + j)))), n ≤ reachBytes := hsz
    simp only [DataW.weights, Tryz.underlying22] at hw
    have h0 := hw _ List.mem_cons_self
    simp only [List.length_map, List.length_range, Tryz.bytes22, reachBytes] at h0
    have hrow : ∀ r, r < len → C r ≤ 17592186044416 := fun r hr2 => by
      obtain ⟨_, hLC, _, hZ, _, hN, _⟩ := hr r (by omega)
      cases hA : A r with
      | none => rw [hN hA]; omega
      | some a' =>
        have h1 := hw ((lits (H := H) .i64 ((Z r).take (L r))).length * 8 + (lits (H := H) .i64 ((Z r).drop (L r))).length * 8) (List.mem_cons_of_mem _ (List.mem_append_left _ (weightsAll_mem (d := Go.Deep.intRow .i64 (A r) (L r) (Z r)) (List.mem_map.2 ⟨r, List.mem_range.2 hr2, rfl⟩) _ (by
          rw [hA]; simp only [Go.Deep.intRow, DataW.weights, Tryz.underlying36]
          rw [List.mem_cons]; left; rw [Tryz.bytes3]; omega))))
        simp only [lits, List.length_map, List.length_take, List.length_drop, reachBytes] at h1
        omega
    have hgd : ∀ i, i < len → ((List.range len).map fun r => (Z r).take (L r)).getD i [] = (Z i).take (L i) := fun i hi => by simp [List.getD, hi]
    refine ⟨some a, cap, (List.range len).map fun r => (Z r).take (L r), by simp, fun i hi => ?_, by simpa using hl, by simp; omega, fun h => by cases h⟩
    simp only [List.length_map, List.length_range] at hi
    rw [hgd i hi]
    obtain ⟨hc, hLC, hCm, hZ, hwf, hN, hcell⟩ := hr i (by omega)
    have hCr := hrow i hi
    have hlen : ((Z i).take (L i)).length = L i := by simp; omega
    obtain ⟨b, off, spot⟩ := a
    have hspot : spot = none := by simpa [Addr.add] using World.cell?_spot (hr 0 (by omega)).1
    subst hspot
    refine ⟨b, off, A i, C i, rfl, hlt (.cell b off) (List.mem_append_left _ (MemPlace.mem_row.2 ⟨0, by omega, by simp⟩)), by rw [hlen, ← add_plain]; exact hc, ⟨by omega, fun z hz => i64_of_wf (hwf z (List.mem_of_mem_take hz)), fun hne => ?_⟩, fun hn => ?_, by omega⟩
    · have hpos : 0 < L i := by
        rcases Nat.eq_zero_or_pos (L i) with h0 | h0
        · rw [h0] at hne; simp at hne
        · exact h0
      cases hA : A i with
      | none => have := hN hA; omega
      | some a' =>
        have hcl := (hcell a' hA).2
        obtain ⟨b', off', spot'⟩ := a'
        have hspot' : spot' = none := by simpa [Addr.add] using World.cell?_spot (hcl 0 (by omega))
        subst hspot'
        refine ⟨b', off', rfl, hlt (.cell b' off') (List.mem_append_right _ (List.mem_flatMap.2 ⟨i, List.mem_range.2 (by omega), ?_⟩)), fun j hj => ?_⟩
        · rw [hA]; exact MemPlace.mem_row.2 ⟨0, by omega, by simp⟩
        · rw [hlen] at hj
          rw [← add_plain, hcl j (by omega)]
          simp [List.getD, hj]
    · have h1 := hN hn
      exact ⟨List.eq_nil_of_length_eq_zero (by omega), h1⟩

end Go.Proofs.YtgcpconlmihilaaGreatDoor
