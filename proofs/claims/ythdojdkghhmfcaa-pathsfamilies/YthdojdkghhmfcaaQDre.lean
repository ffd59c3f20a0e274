/-
  The document's looking: what belongs together goes on together.
-/
import Derived.Test.YthdojdkghhmfcaaQDcl
namespace Go.Proofs.Ythdojdkghhmfcaa
open Go.RowKit

theorem DRel.step {V : DEn} {k : Nat} {p : Nat × Nat} {f : Nat} {path : List UInt8} {gone : List (Nat × Nat)} {now : List (List UInt8)} {st : Nat} {cl : Nat → Bool} {tx : List (List UInt8)} (h : DRel V k p (f + 1) path gone now st cl tx) (b : UInt8) (q : Nat × Nat) (hq : q.1 < 8 ∧ q.2 < 8) (st' : Nat) (hst : st' ≤ 1000000) (hfu : fuN V.S V.E k q ≤ f) : DRel V k q f (path ++ [b]) (gone ++ [p]) now st' (mkP cl p true) (txA tx k b) := by
  have hk : k < tx.length := by rw [h.hlen]; exact h.hk
  refine ⟨h.hk, hq, hst, hfu, ?_, ?_, ?_, fun j hj => ?_, fun q h1 h2 => h.mark q h1 h2, ?_, ?_⟩
  · rw [h.hnow]; unfold txA
    rw [List.take_set_of_le (Nat.le_refl _)]
  · unfold txA
    rw [getD_setU _ _ _ _ hk, if_pos rfl, h.hpath]
  · unfold txA; rw [List.length_set]; exact h.hlen
  · have e : (txA tx k b).getD j [] = tx.getD j [] := by unfold txA; simp [List.getD, Nat.ne_of_lt hj]
    rw [e]; exact h.hrest j hj
  · have := h.hgl; rw [List.length_append, List.length_singleton]; omega
  · have := h.hpl; rw [List.length_append, List.length_singleton]; omega
theorem DRel.next {V : DEn} (hV : V.ok) {k : Nat} {p : Nat × Nat} {f : Nat} {path : List UInt8} {gone : List (Nat × Nat)} {now : List (List UInt8)} {st : Nat} {cl : Nat → Bool} {tx : List (List UInt8)} (h : DRel V k p (f + 1) path gone now st cl tx) (hk1 : k + 1 < V.S.length) (st' : Nat) (hst : st' ≤ 1000000) : DRel V (k + 1) (ptD V.S (k + 1)) f [] (gone ++ [p]) (now ++ [path]) st' (mkP cl p true) tx := by
  have hk : k < tx.length := by rw [h.hlen]; exact h.hk
  have hp := hV.pts (k + 1) hk1
  refine ⟨hk1, ⟨hp.1, hp.2.1⟩, hst, ?_, ?_, ?_, h.hlen, fun j hj => h.hrest j (by omega), fun q h1 h2 => h.mark q h1 h2, ?_, ?_⟩
  · have h1 := h.hfu
    have h2 := fuS_step V.S V.E (k + 1) hk1
    unfold fuN at h1 ⊢
    omega
  · rw [List.take_add_one, h.hnow, h.hpath]; simp [List.getD, hk]
  · exact (h.hrest (k + 1) (by omega)).symm
  · have := h.hgl; rw [List.length_append, List.length_singleton]; omega
  · have := h.hpl; simp; omega
theorem DRel.all {V : DEn} {k : Nat} {p : Nat × Nat} {f : Nat} {path : List UInt8} {gone : List (Nat × Nat)} {now : List (List UInt8)} {st : Nat} {cl : Nat → Bool} {tx : List (List UInt8)} (h : DRel V k p f path gone now st cl tx) (hk : k + 1 = V.S.length) : now ++ [path] = tx := by
  have hkl : k < tx.length := by rw [h.hlen]; exact h.hk
  rw [h.hnow, h.hpath]
  have e : tx.take k ++ [tx.getD k []] = tx.take (k + 1) := by rw [List.take_add_one]; simp [List.getD, hkl]
  rw [e, List.take_of_length_le (by rw [h.hlen, hk]; exact Nat.le_refl _)]
theorem fu_right {V : DEn} {k px py f : Nat} {ex ey : Nat} (he : ptD V.E k = (ex, ey)) (hx : px < ex) (h : fuN V.S V.E k (px, py) ≤ f + 1) : fuN V.S V.E k (px + 1, py) ≤ f := by
  unfold fuN dsP at h ⊢
  rw [he] at h ⊢
  simp only at h ⊢
  omega
theorem fu_up {V : DEn} {k px py f : Nat} {ex ey : Nat} (he : ptD V.E k = (ex, ey)) (hy : py < ey) (h : fuN V.S V.E k (px, py) ≤ f + 1) : fuN V.S V.E k (px, py + 1) ≤ f := by
  unfold fuN dsP at h ⊢
  rw [he] at h ⊢
  simp only at h ⊢
  omega
/-- A block of the caller's own stays. -/
theorem DFr.own {V : DEn} {w w' : World} {gv nv fv gv' nv' fv' : Value} (h : DFr V w gv nv fv w' gv' nv' fv') (hV : V.ok) {k : Nat} (h1 : k < w.heap.size) (h2 : V.hi ≤ k) (h3 : ¬ Bl gv nv fv k) : w'.heap[k]? = w.heap[k]? ∧ ¬ Bl gv' nv' fv' k :=
  ⟨h.block k h1 (fun q => by have := hV.sixlo q; omega) h3, fun q => by
    rcases h.sub k q with q1 | q1
    · exact h3 q1
    · omega⟩

end Go.Proofs.Ythdojdkghhmfcaa
