/-
  The contract of ferrersbig's Text at base 10, of a number that is not below 0.
-/
import Derived.Test.YthfbkangjpcpgaaDoorATwn
import Derived.Laws.IdiomStrings
namespace Go.Proofs.YthfbkangjpcpgaaDoor
open Go.RowKit

def slen : Value → Nat
  | .slice _ n _ => n
  | _ => 0
theorem OwnsB.shape {w : World} {base : Nat} {v : Value} {us : List Nat} (h : OwnsB w base v us) : ∃ a cap, v = .slice a us.length cap := by
  rcases h.2 with ⟨h2, h3⟩ | ⟨g, cap, cur, hv, _⟩
  · exact ⟨none, 0, by rw [h2, h3]⟩
  · exact ⟨_, cap, hv⟩
theorem OwnsB.lt {w : World} {base : Nat} {v : Value} {us : List Nat} (h : OwnsB w base v us) {g : Nat} (hg : v.ownBlock = some g) : base ≤ g ∧ g < w.heap.size := World.ownsRow.lt h g hg
theorem OwnsB.below {w w' : World} {base : Nat} {v : Value} {us : List Nat} (h : OwnsB w base v us) (hb : Below w.heap.size w w') : OwnsB w' base v us := ownsRow_blocks h (fun k e => hb.block k (h.lt e).2)
theorem OwnsB.head {w : World} {base : Nat} {v : Value} {us : List Nat} (h : OwnsB w base v us) (h0 : 0 < us.length) :
    ∃ g cap, v = .slice (some ⟨g, 0, none⟩) us.length cap ∧ base ≤ g ∧ g < w.heap.size := by
  rcases h.2 with ⟨h2, h3⟩ | ⟨g, cap, cur, hv, hg, hh, _⟩
  · omega
  · exact ⟨g, cap, hv, hg, (Array.getElem?_eq_some_iff.1 hh).1⟩
theorem OwnsB.at {w : World} {base g cap n : Nat} {us : List Nat} (h : OwnsB w base (.slice (some ⟨g, 0, none⟩) n cap) us) (hn : n = us.length) {j : Nat} (hj : j < us.length) :
    w.frozen? ⟨g, j, none⟩ = false ∧ w.cell? ⟨g, j, none⟩ = some (bv (us.getD j 0)) := by
  subst hn
  unfold OwnsB at h
  refine ⟨World.ownsRow.frozenAt h j, ?_⟩
  rw [World.ownsRow.cellAt h j (by omega)]
  simp [List.getD, List.getElem?_eq_getElem hj]
theorem OwnsB.store {w : World} {base g cap n : Nat} {us : List Nat} (h : OwnsB w base (.slice (some ⟨g, 0, none⟩) n cap) us) (hn : n = us.length) (j x : Nat) :
    OwnsB (w.setCell ⟨g, j, none⟩ (bv x)) base (.slice (some ⟨g, 0, none⟩) n cap) (us.set j x) := by
  subst hn
  have h := (World.ownsRow.stored (h : w.ownsRow base 5 1 _ _ _) j (bv x)).1
  unfold OwnsB
  simp only [List.length_set, List.map_set]
  exact h

/-- The list with its first i and its last i elements turned round. -/
def revL (bs : List Nat) (i : Nat) : List Nat := (List.range bs.length).map fun t => if t < i ∨ bs.length ≤ t + i then bs.getD (bs.length - 1 - t) 0 else bs.getD t 0
theorem revL_len (bs : List Nat) (i : Nat) : (revL bs i).length = bs.length := by simp [revL]
theorem revL_get {bs : List Nat} {i t : Nat} (h : t < bs.length) : (revL bs i).getD t 0 = if t < i ∨ bs.length ≤ t + i then bs.getD (bs.length - 1 - t) 0 else bs.getD t 0 := by simp [revL, List.getD, h]
theorem ext_nat {l m : List Nat} (h : l.length = m.length) (he : ∀ t, t < l.length → l.getD t 0 = m.getD t 0) : l = m := by
  apply List.ext_getElem h
  intro t h1 h2
  have := he t h1
  simpa [List.getD, List.getElem?_eq_getElem h1, List.getElem?_eq_getElem h2] using this
theorem revL_zero (bs : List Nat) : revL bs 0 = bs := by
  refine ext_nat (revL_len _ _) (fun t ht => ?_)
  rw [revL_len] at ht
  rw [revL_get ht, if_neg (by omega)]
theorem revL_end {bs : List Nat} {i : Nat} (h : bs.length ≤ 2 * i + 1) : revL bs i = bs.reverse := by
  refine ext_nat (by rw [revL_len, List.length_reverse]) (fun t ht => ?_)
  rw [revL_len] at ht
  have e : bs.reverse.getD t 0 = bs.getD (bs.length - 1 - t) 0 := by
    simp [List.getD, List.getElem?_reverse ht]
  rw [revL_get ht, e]
  by_cases h2 : t < i ∨ bs.length ≤ t + i
  · rw [if_pos h2]
  · rw [if_neg h2]
    congr 1
    omega
theorem getD_set_nat (l : List Nat) (i x t : Nat) (ht : t < l.length) : (l.set i x).getD t 0 = if t = i then x else l.getD t 0 := by
  simp only [List.getD, List.getElem?_set]
  by_cases h : i = t
  · subst h; simp [ht]
  · rw [if_neg h, if_neg (fun e => h e.symm)]
theorem revL_step {bs : List Nat} {i j : Nat} (h : i < j) (hj : j + i + 1 = bs.length) : ((revL bs i).set i ((revL bs i).getD j 0)).set j ((revL bs i).getD i 0) = revL bs (i + 1) := by
  refine ext_nat (by simp [revL_len]) (fun t ht => ?_)
  rw [List.length_set, List.length_set, revL_len] at ht
  rw [getD_set_nat _ _ _ _ (by rw [List.length_set, revL_len]; exact ht), getD_set_nat _ _ _ _ (by rw [revL_len]; exact ht), revL_get ht, revL_get ht, revL_get (show i < bs.length by omega), revL_get (show j < bs.length by omega)]
  by_cases e1 : t = j
  · subst e1
    rw [if_pos rfl, if_neg (by omega), if_pos (by omega)]
    congr 1; omega
  · rw [if_neg e1]
    by_cases e2 : t = i
    · subst e2
      rw [if_pos rfl, if_neg (by omega), if_pos (by omega)]
      congr 1; omega
    · rw [if_neg e2]
      by_cases e3 : t < i ∨ bs.length ≤ t + i
      · rw [if_pos e3, if_pos (by omega)]
      · rw [if_neg e3, if_neg (by omega)]


end Go.Proofs.YthfbkangjpcpgaaDoor
