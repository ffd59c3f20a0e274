/-
  The contracts of insert.rowOfGreatest, insert.taken, insert.takenFromRows.
-/
import Derived.Test.YtpbkidgdpejenaeILng
import Derived.Test.YtpbkidgdpejenaeIBack
namespace Go.Proofs.Ytpbkidgdpejenae
open Go.RowKit

theorem ownsRow_take {w : World} {lo g n cap k : Nat} {e : TypeId} {xs : List Value} (h : w.ownsRow lo e 1 (.slice (some ⟨g, 0, none⟩) n cap) n xs) (hk : k ≤ n) : w.ownsRow lo e 1 (.slice (some ⟨g, 0, none⟩) k cap) k (xs.take k) := by
  obtain ⟨h1, h2⟩ := h
  rcases h2 with ⟨h2, _⟩ | ⟨g', cap', cur, hv, hg, hh, h4, h5, h6, h7⟩
  · cases h2
  · simp only [Value.slice.injEq, Option.some.injEq, Addr.mk.injEq, and_true, true_and] at hv
    obtain ⟨rfl, rfl⟩ := hv
    refine ⟨by simp at h1 ⊢; omega, Or.inr ⟨g, cap, cur, rfl, hg, hh, by omega, h5, h6, ?_⟩⟩
    rw [← h7, List.take_take]; congr 1; omega
theorem ownsRow_cap {w : World} {lo g n cap : Nat} {e : TypeId} {xs : List Value} (h : w.ownsRow lo e 1 (.slice (some ⟨g, 0, none⟩) n cap) n xs) : n ≤ cap ∧ cap ≤ maxLen := by
  rcases h.2 with ⟨h2, _⟩ | ⟨g', cap', cur, hv, hg, hh, h4, h5, h6, h7⟩
  · cases h2
  · simp only [Value.slice.injEq, Option.some.injEq, Addr.mk.injEq, and_true, true_and] at hv
    obtain ⟨rfl, rfl⟩ := hv
    exact ⟨h4, h5⟩
theorem Owns.front {w : World} {lo h m ch : Nat} {zs : List Int} (ho : Owns w lo (.slice (some ⟨h, 0, none⟩) m ch) zs) (hm : m = zs.length) (hp : 0 < m) : Owns w lo (.slice (some ⟨h, 0, none⟩) (m - 1) ch) zs.dropLast := by
  subst hm
  unfold Owns at ho ⊢
  have := ownsRow_take (k := zs.length - 1) ho (by omega)
  rw [List.length_dropLast, List.dropLast_eq_take, List.map_take]
  exact this

/-- Only a prefix of the rows. -/
theorem TblIn.take {w : World} {lo g n cap k : Nat} {S : Nat → Prop} {vs : List Value} {ls : List (List Int)} (h : TblIn w lo S (.slice (some ⟨g, 0, none⟩) n cap) vs ls) (hn : n = ls.length) (hk : k ≤ ls.length) : TblIn w lo S (.slice (some ⟨g, 0, none⟩) k cap) (vs.take k) (ls.take k) := by
  have hlen := h.t.len
  have hrv : ∀ i, i < k → rowv (vs.take k) i = rowv vs i := fun i hi => by unfold rowv; simp [List.getD, hi]
  have hrl : ∀ i, i < k → (ls.take k).getD i [] = ls.getD i [] := fun i hi => by simp [List.getD, hi]
  have hkl : (ls.take k).length = k := by rw [List.length_take]; omega
  have ho := h.t.own
  rw [hlen, ← hn] at ho
  refine ⟨⟨?_, by simp [hlen], fun i hi => ?_, fun i j hi hj hij => ?_, fun i hi => ?_⟩, fun q e => h.hd q e, fun i hi q e => ?_⟩
  · have := ownsRow_take (k := k) ho (by omega)
    rw [show (vs.take k).length = k by rw [List.length_take]; omega]; exact this
  · rw [hkl] at hi
    rw [hrv i hi, hrl i hi]; exact h.t.rows i (by omega)
  · rw [hkl] at hi hj
    rw [hrv i hi, hrv j hj]; exact h.t.apart i j (by omega) (by omega) hij
  · rw [hkl] at hi
    rw [hrv i hi]; exact fun q e1 e2 => h.t.off i (by omega) q e1 e2
  · rw [hkl] at hi
    rw [hrv i hi] at e; exact h.rs i (by omega) q e


end Go.Proofs.Ytpbkidgdpejenae
