/-
  Lists of tables that grow: for ferref.Rights.
-/
import Derived.Test.YtncokoimbpkapaaRwE
import Derived.Test.YtncokoimbpkapaaRuG
namespace Go.Proofs.Ytncokoimbpkapaa
open Go.RowKit

/-- No block. -/
abbrev noB : Nat → Prop := fun _ => False
theorem Cub.nil (w : World) (lo : Nat) : Cub noB w lo (.slice none 0 0) [] [] := ⟨World.ownsRow_nil _ _ _ _, rfl, fun k h => absurd h (by simp)⟩
theorem Cub.same {w w' : World} {lo : Nat} {v : Value} {us : List Value} {ts : List (List (List Int))} (h : Cub noB w lo v us ts) (hs : w.heap.size ≤ w'.heap.size) (hk : ∀ k, k < w.heap.size → w'.heap[k]? = w.heap[k]?) : Cub noB w' lo v us ts :=
  ⟨ownsRow_blocks h.own (fun k e => hk k (h.own.lt k e).2), h.len, fun k hkk => by
    obtain ⟨a, c, e1, e2⟩ := h.el k hkk
    exact ⟨a, c, e1, fun w3 h3 h4 => e2 w3 (fun j a1 a2 a3 => by rw [h3 j (by omega) a2 a3, hk j a1]) (by omega)⟩⟩
theorem Cub.below {w w' : World} {lo : Nat} {v : Value} {us : List Value} {ts : List (List (List Int))} (h : Cub noB w lo v us ts) (hb : Below w.heap.size w w') : Cub noB w' lo v us ts := h.same hb.size (fun k hk => hb.block k hk)
/-- Table k of the list, now. -/
theorem Cub.table {w : World} {lo : Nat} {v : Value} {us : List Value} {ts : List (List (List Int))} (h : Cub noB w lo v us ts) {k : Nat} (hk : k < ts.length) : ∃ a c, rowv us k = .slice a (ts.getD k []).length c ∧ Table w a (ts.getD k []) := by
  obtain ⟨a, c, e1, e2⟩ := h.el k hk
  exact ⟨a, c, e1, e2 w (fun _ _ _ _ => rfl) (Nat.le_refl _)⟩
theorem castT_bd {t : List (List Nat)} (ht : ∀ r ∈ t, r.length ≤ 1000 ∧ ∀ z ∈ r, z ≤ 1000) : ∀ l ∈ castT t, l.length ≤ 17592186044416 ∧ ∀ z ∈ l, -9223372036854775808 ≤ z ∧ z ≤ 9223372036854775807 := fun l hl => by
  unfold castT at hl
  obtain ⟨r, hr, rfl⟩ := List.mem_map.1 hl
  have := ht r hr
  refine ⟨by rw [castL_len]; omega, fun z hz => ?_⟩
  unfold castL at hz
  obtain ⟨q, hq, rfl⟩ := List.mem_map.1 hz
  have := this.2 q hq
  omega
/-- A table more. -/
theorem Cub.push {lo : Nat} {ts : List (List (List Int))} {w w1 w2 : World} {v v2 u : Value} {us : List Value} {t : List (List Nat)} (h : Cub noB w lo v us ts) (hb1 : Below w.heap.size w w1) (hT : Tbl w1 w.heap.size u (castT t)) (ht : ∀ r ∈ t, r.length ≤ 1000 ∧ ∀ z ∈ r, z ≤ 1000)
    (ho : w2.ownsRow lo 35 1 v2 (us ++ [u]).length (us ++ [u])) (hk : KeepB v v2 w1 w2) : Cub noB w2 lo v2 (us ++ [u]) (ts ++ [castT t]) := by
  have hs1 := hb1.size
  have hs2 := hk.size
  have hv2 : ∀ j, v2.ownBlock = some j → v.ownBlock = some j ∨ w1.heap.size ≤ j := hk.lies
  refine ⟨ho, by simp [h.len], fun k hkk => ?_⟩
  rw [List.length_append] at hkk
  rw [rowv_push]
  by_cases e : k < ts.length
  · rw [if_pos (by rw [h.len]; exact e)]
    have eg : (ts ++ [castT t]).getD k [] = ts.getD k [] := by simp only [List.getD]; rw [List.getElem?_append_left e]
    rw [eg]
    obtain ⟨a, c, e1, e2⟩ := h.el k e
    refine ⟨a, c, e1, fun w3 h3 h4 => e2 w3 (fun j a1 a2 a4 => ?_) (by omega)⟩
    rw [h3 j (by omega) a2 (fun q => (hv2 j q).elim a4 (fun q2 => by omega)), hk.block j (by omega) a4, hb1.block j a1]
  · obtain rfl : k = ts.length := by simp at hkk; omega
    rw [if_neg (by rw [h.len]; omega), if_pos h.len.symm]
    have eg : (ts ++ [castT t]).getD ts.length [] = castT t := by simp [List.getD]
    rw [eg]
    obtain ⟨vs, hV⟩ := hT
    obtain ⟨a, n, c, e1, _, HN⟩ := Tbl.table ⟨vs, hV⟩ (castT_bd ht)
    refine ⟨a, c, by rw [e1, HN.out], fun w3 h3 h4 => ?_⟩
    have hsm : ∀ j, w.heap.size ≤ j → j < w1.heap.size → w3.heap[j]? = w1.heap[j]? := fun j a1 a2 => by
      have hvj : v.ownBlock ≠ some j := fun e => by have := (h.own.lt j e).2; omega
      rw [h3 j (by omega) (fun hd => hd) (fun q => (hv2 j q).elim hvj (fun q2 => by omega)), hk.block j a2 hvj]
    have hV3 := hV.same (w' := w3) hsm
    obtain ⟨a', n', c', e1', ht', _⟩ := Tbl.table ⟨vs, hV3⟩ (castT_bd ht)
    rw [e1] at e1'
    cases e1'
    exact ht'

end Go.Proofs.Ytncokoimbpkapaa
