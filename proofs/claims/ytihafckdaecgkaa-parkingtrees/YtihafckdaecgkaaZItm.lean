/-
  What hangs together with the first vertex, found one by one (plain).
-/
import Derived.Test.YtihafckdaecgkaaZCdm
import Derived.Test.YtihafckdaecgkaaZLin
namespace Go.Proofs.Ytihafckdaecgkaa
open Go.RowKit

/-- What is seen hangs on the vertex f. -/
structure SeI (f m : Nat) (L : List (Int × Int)) (seen : List Int) : Prop where
  nd : seen.Nodup
  sub : ∀ v ∈ seen, v ∈ rgV f (m + 1)
  first : (f : Int) ∈ seen
  reach : ∀ g, Cst L g → ∀ v ∈ seen, g v = g (f : Int)
/-- The edge's first j sides are looked at from x. -/
def Hlf (seen : List Int) (x : Int) (e : Int × Int) (j : Nat) : Prop := (1 ≤ j → e.1 = x → e.2 ∈ seen) ∧ (2 ≤ j → e.2 = x → e.1 ∈ seen)
structure SeD (L : List (Int × Int)) (seen : List Int) (i k : Nat) : Prop where
  low : ∀ p, p < i → ∀ e ∈ L, Hlf seen (seen.getD p 0) e 2
  now : ∀ t, t < k → Hlf seen (seen.getD i 0) (L.getD t (0, 0)) 2
theorem SeI.start {f m : Nat} {L : List (Int × Int)} : SeI f m L [(f : Int)] :=
  ⟨by simp, fun v hv => by simp at hv; subst hv; exact mem_rgV.2 (by omega), by simp, fun g _ v hv => by simp at hv; rw [hv]⟩
theorem SeI.len {f m : Nat} {L : List (Int × Int)} {seen : List Int} (h : SeI f m L seen) : seen.length ≤ m + 1 := by
  have := nodup_len h.nd h.sub
  rw [rgV_length] at this; exact this
theorem SeI.bd {f m : Nat} {L : List (Int × Int)} {seen : List Int} (h : SeI f m L seen) : ∀ z ∈ seen, 0 ≤ z ∧ z ≤ (f + m : Nat) := fun z hz => by
  have := mem_rgV.1 (h.sub z hz); omega
theorem SeI.add {f m : Nat} {L : List (Int × Int)} {seen : List Int} (h : SeI f m L seen) {e : Int × Int} (he : e ∈ L) (hb : e.1 ∈ rgV f (m + 1) ∧ e.2 ∈ rgV f (m + 1)) {x y : Int} (hj : Jn e x y) (hx : x ∈ seen) (hy : y ∉ seen) : SeI f m L (seen ++ [y]) := by
  refine ⟨?_, fun v hv => ?_, by simp [h.first], fun g hg v hv => ?_⟩
  · refine List.nodup_append.2 ⟨h.nd, by simp, fun a ha b hb => ?_⟩
    simp at hb; subst hb
    exact fun e => hy (e ▸ ha)
  · rcases List.mem_append.1 hv with q | q
    · exact h.sub v q
    · simp at q; subst q
      rcases hj with ⟨_, rfl⟩ | ⟨_, rfl⟩
      · exact hb.2
      · exact hb.1
  · rcases List.mem_append.1 hv with q | q
    · exact h.reach g hg v q
    · simp at q; subst q
      rw [← h.reach g hg x hx]
      have := hg e he
      rcases hj with ⟨rfl, rfl⟩ | ⟨rfl, rfl⟩
      · exact this.symm
      · exact this
theorem Hlf.mono {seen : List Int} {x y : Int} {e : Int × Int} {j : Nat} (h : Hlf seen x e j) : Hlf (seen ++ [y]) x e j :=
  ⟨fun a b => List.mem_append_left _ (h.1 a b), fun a b => List.mem_append_left _ (h.2 a b)⟩
theorem getD_snocZ {seen : List Int} {p : Nat} (h : p < seen.length) (y : Int) : (seen ++ [y]).getD p 0 = seen.getD p 0 := by
  simp [List.getD, List.getElem?_append_left h]
theorem SeD.mono {L : List (Int × Int)} {seen : List Int} {i k : Nat} (h : SeD L seen i k) (hi : i < seen.length) (y : Int) : SeD L (seen ++ [y]) i k :=
  ⟨fun p hp e he => by rw [getD_snocZ (by omega)]; exact (h.low p hp e he).mono, fun t ht => by rw [getD_snocZ hi]; exact (h.now t ht).mono⟩
theorem SeD.next {L : List (Int × Int)} {seen : List Int} {i : Nat} (h : SeD L seen i L.length) : SeD L seen (i + 1) 0 := by
  refine ⟨fun p hp e he => ?_, fun t ht => by omega⟩
  rcases Nat.lt_or_ge p i with q | q
  · exact h.low p q e he
  · obtain rfl : p = i := by omega
    obtain ⟨t, ht, rfl⟩ := List.getElem_of_mem he
    have := h.now t ht
    rw [show L.getD t (0, 0) = L[t] by simp [List.getD, ht]] at this
    exact this
theorem SeD.step {L : List (Int × Int)} {seen : List Int} {i k : Nat} (h : SeD L seen i k) (hh : Hlf seen (seen.getD i 0) (L.getD k (0, 0)) 2) : SeD L seen i (k + 1) :=
  ⟨h.low, fun t ht => by
    rcases Nat.lt_or_ge t k with q | q
    · exact h.now t q
    · obtain rfl : t = k := by omega
      exact hh⟩
/-- All is seen just if it is a tree. -/
theorem seen_tree {f m : Nat} {L : List (Int × Int)} {seen : List Int} (hm : m = L.length) (hL : ∀ e ∈ L, e.1 ∈ rgV f (m + 1) ∧ e.2 ∈ rgV f (m + 1)) (h : SeI f m L seen) (hd : SeD L seen seen.length 0) : seen.length = m + 1 ↔ Tr (rgV f (m + 1)) L := by
  have hcl : ∀ e ∈ L, (e.1 ∈ seen → e.2 ∈ seen) ∧ (e.2 ∈ seen → e.1 ∈ seen) := fun e he => by
    refine ⟨fun q => ?_, fun q => ?_⟩
    · obtain ⟨p, hp, e1⟩ := mem_getD q
      exact (hd.low p hp e he).1 (by omega) e1
    · obtain ⟨p, hp, e1⟩ := mem_getD q
      exact (hd.low p hp e he).2 (by omega) e1
  constructor
  · intro hl
    refine ⟨rgV_nodup _ _, by rw [rgV_length, hm], hL, fun g hg a ha b hb => ?_⟩
    have hall : ∀ v ∈ rgV f (m + 1), v ∈ seen := fun v hv => by
      refine Classical.byContradiction (fun hn => ?_)
      have h1 : (v :: seen).Nodup := List.nodup_cons.2 ⟨hn, h.nd⟩
      have := nodup_len h1 (S := rgV f (m + 1)) (fun z hz => by
        rcases List.mem_cons.1 hz with rfl | q
        · exact hv
        · exact h.sub z q)
      rw [rgV_length, List.length_cons] at this; omega
    rw [h.reach g hg a (hall a ha), h.reach g hg b (hall b hb)]
  · intro hT
    have hg : Cst L (fun v => if v ∈ seen then 1 else 0) := fun e he => by
      have := hcl e he
      by_cases q : e.1 ∈ seen
      · simp [q, this.1 q]
      · have q2 : e.2 ∉ seen := fun c => q (this.2 c)
        simp [q, q2]
    have hall : ∀ v ∈ rgV f (m + 1), v ∈ seen := fun v hv => by
      have := hT.2.2.2 _ hg v hv (f : Int) (mem_rgV.2 (by omega))
      simp only [h.first, if_true] at this
      refine Classical.byContradiction (fun hn => ?_)
      simp [hn] at this
    have h1 := nodup_len (rgV_nodup f (m + 1)) hall
    rw [rgV_length] at h1
    have := h.len
    omega
end Go.Proofs.Ytihafckdaecgkaa
