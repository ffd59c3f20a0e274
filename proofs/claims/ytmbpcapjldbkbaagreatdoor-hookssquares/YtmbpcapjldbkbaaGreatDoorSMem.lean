/-
  The memory of the closure in fill.standardOf: a row is put back as it was.
-/
import Derived.Test.YtmbpcapjldbkbaaGreatDoorWTb
import Derived.Test.YtmbpcapjldbkbaaGreatDoorSApp
import Derived.Test.YtmbpcapjldbkbaaGreatDoorHStS
namespace Go.Proofs.YtmbpcapjldbkbaaGreatDoor
open Go.RowKit

/-- What the closure leaves alone. -/
def KeepS (w w' : World) (l0 R m : Nat) (vl : Value) (vs : List Value) : Prop := w.heap.size ≤ w'.heap.size ∧ ∀ k, k < w.heap.size → k ≠ l0 → k ≠ R → vl.ownBlock ≠ some k → (∀ i, i < m → (rowv vs i).ownBlock ≠ some k) → w'.heap[k]? = w.heap[k]?
def LiesS (w : World) (vl vl' : Value) : Prop := ∀ k, vl'.ownBlock = some k → vl.ownBlock = some k ∨ w.heap.size ≤ k
/-- u is the table t, in blocks from x on that nothing writes any more. -/
def Elm (w : World) (x m : Nat) (vl : Value) (vs : List Value) (u : Value) (t : List (List Nat)) : Prop :=
  ∃ x' y, x ≤ x' ∧ y ≤ w.heap.size ∧ (∀ g, vl.ownBlock = some g → x' ≤ g → y ≤ g) ∧ (∀ i, i < m → ∀ g, (rowv vs i).ownBlock = some g → x' ≤ g → y ≤ g) ∧ ∀ W : World, (∀ j, x' ≤ j → j < y → W.heap[j]? = w.heap[j]?) → Tbl W x' u (castT t)
/-- The values us are the tables of the list L. -/
def Els (w : World) (x m : Nat) (vl : Value) (vs : List Value) : List Value → List (List (List Nat)) → Prop
  | [], [] => True
  | u :: us, t :: L => Elm w x m vl vs u t ∧ Els w x m vl vs us L
  | _, _ => False
theorem Els.len {w : World} {x m : Nat} {vl : Value} {vs : List Value} : ∀ {us : List Value} {L : List (List (List Nat))}, Els w x m vl vs us L → us.length = L.length
  | [], [], _ => rfl
  | _ :: us, _ :: L, h => by rw [List.length_cons, List.length_cons, Els.len h.2]
theorem Els.app {w : World} {x m : Nat} {vl : Value} {vs : List Value} : ∀ {us : List Value} {L : List (List (List Nat))} {us' : List Value} {L' : List (List (List Nat))}, Els w x m vl vs us L → Els w x m vl vs us' L' → Els w x m vl vs (us ++ us') (L ++ L')
  | [], [], _, _, _, h2 => h2
  | _ :: _, _ :: _, _, _, h, h2 => ⟨h.1, Els.app h.2 h2⟩
theorem Els.imp {w w' : World} {x x' m : Nat} {vl vl' : Value} {vs vs' : List Value} (hi : ∀ u t, Elm w x m vl vs u t → Elm w' x' m vl' vs' u t) : ∀ {us : List Value} {L : List (List (List Nat))}, Els w x m vl vs us L → Els w' x' m vl' vs' us L
  | [], [], _ => trivial
  | _ :: _, _ :: _, h => ⟨hi _ _ h.1, Els.imp hi h.2⟩
/-- A call's end: the rows are the same slices again, the list has the tables of L more. -/
def SEnd (H : Nat) (w0 w : World) (l0 R lo m : Nat) (vl : Value) (us vs : List Value) (t : List (List Nat)) (L : List (List (List Nat))) (w' : World) : Prop :=
  ∃ vl' nw, TX H w0 w' l0 R lo m vl' (us ++ nw) vs t ∧ KeepS w w' l0 R m vl vs ∧ LiesS w vl vl' ∧ Els w' w.heap.size m vl' vs nw L
/-- A round: the row grows, the closure runs, the row is put back. -/
theorem TX.round {H : Nat} {w0 w w2 w3 : World} {l0 R lo m i c : Nat} {vl v2 : Value} {us vs : List Value} {t : List (List Nat)} {L : List (List (List Nat))} (h : TX H w0 w l0 R lo m vl us vs t) (hi : i < m) (hk : KeepB (rowv vs i) v2 w w2)
    (hn : NearA (rowv vs i) v2 (rwN t i).length ((rwN t i).length + 1) ∨ FarA w w2 v2) (h3 : SEnd H w0 (w2.setCell ⟨R, i, none⟩ v2) l0 R lo m vl us (vs.set i v2) (endN t i c) L w3) :
    SEnd H w0 w l0 R lo m vl us vs t L (w3.setCell ⟨R, i, none⟩ (rowv vs i)) := by
  obtain ⟨vl3, nw, hx3, ⟨hs3, hk3⟩, hv3, hE3⟩ := h3
  obtain ⟨a1, a2, a3⟩ := h.lt
  have hsz := h.sz
  have hks := hk.size
  have hs3' : w2.heap.size ≤ w3.heap.size := by simpa using hs3
  have hrow : ∀ q, q < m → ∀ g, (rowv vs q).ownBlock = some g → lo ≤ g ∧ g < w.heap.size := fun q hq g hg => ⟨h.rl q hq g hg, ((h.tb.rows q (by rw [castT_len, h.rm]; exact hq)).lt hg).2⟩
  have hlr : ∀ q, q < m → rowv (vs.set i v2) q = if q = i then v2 else rowv vs q := fun q hq => rowv_set _ _ _ _ (by rw [h.lenV]; exact hq)
  have hfr : ∀ k, k < w.heap.size → k ≠ l0 → k ≠ R → vl.ownBlock ≠ some k → (∀ q, q < m → q ≠ i → (rowv vs q).ownBlock ≠ some k) → v2.ownBlock ≠ some k → w2.heap[k]? = w.heap[k]? → w3.heap[k]? = w.heap[k]? := fun k b1 b2 b3 b4 b5 b6 b7 => by
    rw [hk3 k (by simp; omega) b2 b3 b4 (fun q hq => by
      rw [hlr q hq]
      split
      · exact b6
      · exact b5 q hq (by assumption)), heap_setCell_other _ _ _ _ b3, b7]
  have hold : Owns w3 R (rowv vs i) (castL (rwN t i)) := by
    have hri := h.tb.rows i (by rw [castT_len, h.rm]; exact hi)
    have hti : (castT t).getD i [] = castL (rwN t i) := by
      unfold castT rwN
      simp only [List.getD, List.getElem?_map]
      cases t[i]? <;> rfl
    rw [hti] at hri
    rcases hn with ⟨g, cap, e1, e2⟩ | ⟨f1, f2⟩
    · have h5 := hx3.tb.rows i (by rw [castT_len, hx3.rm]; exact hi)
      rw [hlr i hi, if_pos rfl] at h5
      have hte : (castT (endN t i c)).getD i [] = castL (rwN t i ++ [c]) := by
        unfold castT endN
        simp only [List.getD, List.getElem?_map, List.getElem?_set]
        simp [h.rm, hi]
      rw [hte, e2] at h5
      have h6 := h5.cutX (m := (rwN t i).length) (by rw [castL_len]; simp) (fun e => by cases e)
      rw [show (castL (rwN t i ++ [c])).take (rwN t i).length = castL (rwN t i) by simp [castL]] at h6
      rw [e1]; exact h6
    · refine ownsRow_blocks hri (fun g hg => ?_)
      obtain ⟨g1, g2⟩ := hrow i hi g hg
      exact hfr g g2 (by omega) (by omega) (fun e => h.ap i hi g hg e) (fun q hq hqi e => h.tb.apart q i (by rw [castT_len, h.rm]; exact hq) (by rw [castT_len, h.rm]; exact hi) hqi g e hg) (fun e => by have := f2 g e; omega) (f1.block g g2)
  have hset : (vs.set i v2).set i (rowv vs i) = vs := by
    rw [List.set_set]
    refine List.ext_getElem (by simp) fun q q1 q2 => ?_
    rw [List.getElem_set]
    split
    · subst q; simp [rowv, List.getD, q2]
    · rfl
  have hgo : ∀ g, lo ≤ g → (w3.setCell ⟨R, i, none⟩ (rowv vs i)).heap[g]? = w3.heap[g]? := fun g hg => heap_setCell_other _ _ _ _ (by show g ≠ R; omega)
  have htb : TblV (w3.setCell ⟨R, i, none⟩ (rowv vs i)) R (.slice (some ⟨R, 0, none⟩) m m) vs (castT t) := by
    refine ⟨?_, h.tb.len, fun q hq => ?_, h.tb.apart, h.tb.off⟩
    · have h5 := hx3.tb.own
      have e1 : (vs.set i v2).length = m := by rw [List.length_set, h.lenV]
      rw [e1] at h5
      have h6 := (World.ownsRow.stored h5 i (rowv vs i)).1
      rw [hset] at h6
      rw [h.lenV]; exact h6
    · have hqm : q < m := by rw [castT_len, h.rm] at hq; exact hq
      by_cases e : q = i
      · subst q
        have hti : (castT t).getD i [] = castL (rwN t i) := by
          unfold castT rwN
          simp only [List.getD, List.getElem?_map]
          cases t[i]? <;> rfl
        rw [hti]
        exact ownsRow_blocks hold (fun g hg => hgo g (hrow i hi g hg).1)
      · have h5 := hx3.tb.rows q (by rw [castT_len, hx3.rm]; exact hqm)
        rw [hlr q hqm, if_neg e] at h5
        have hte : (castT (endN t i c)).getD q [] = (castT t).getD q [] := by
          unfold castT endN
          simp only [List.getD, List.getElem?_map, List.getElem?_set]
          rw [if_neg (fun z => e z.symm)]
        rw [hte] at h5
        exact ownsRow_blocks h5 (fun g hg => hgo g (hrow q hqm g hg).1)
  have hs2 : (w2.setCell ⟨R, i, none⟩ v2).heap.size = w2.heap.size := by simp
  refine ⟨vl3, nw, ⟨fun k b1 b2 b3 => by rw [heap_setCell_other _ _ _ _ b3]; exact hx3.st k b1 b2 b3, by have := hx3.sz; simp; omega, by rw [heap_setCell_other _ _ _ _ a3]; exact hx3.lb, ownsRow_blocks hx3.li (fun g hg => hgo g (hx3.li.lt g hg).1), htb, h.rl, fun q hq g e1 e2 => ?_, h.lt, h.rm, hx3.be.setCell (p := ⟨R, i, none⟩) h.hh.2 _, h.hh⟩, ⟨by simp; omega, fun k b1 b2 b3 b4 b5 => ?_⟩, fun k e => ?_, ?_⟩
  · rcases hv3 g e2 with z | z
    · exact h.ap q hq g e1 z
    · have := (hrow q hq g e1).2; omega
  · rw [heap_setCell_other _ _ _ _ b3]
    refine hfr k b1 b2 b3 b4 (fun q hq _ => b5 q hq) (fun e => ?_) (hk.block k b1 (b5 i hi))
    rcases hk.lies k e with z | z
    · exact b5 i hi z
    · omega
  · rcases hv3 k e with z | z
    · exact .inl z
    · right; omega
  · refine Els.imp (fun u s hu => ?_) hE3
    obtain ⟨x', y, c1, c2, c3, c4, c5⟩ := hu
    rw [hs2] at c1
    refine ⟨x', y, by omega, by simpa using c2, c3, fun q hq g hg hx => ?_, fun W hW => c5 W fun j j1 j2 => ?_⟩
    · by_cases e : q = i
      · subst q; have := (hrow i hi g hg).2; omega
      · exact c4 q hq g (by rw [hlr q hq, if_neg e]; exact hg) hx
    · rw [hW j j1 j2]; exact heap_setCell_other _ _ _ _ (by show j ≠ R; omega)

end Go.Proofs.YtmbpcapjldbkbaaGreatDoor
