/-
  The least leaf, found by looking at all ends (plain).
-/
import Derived.Test.YtihafckdaecgkaaZCdm
import Derived.Test.YtihafckdaecgkaaZPrv
namespace Go.Proofs.Ytihafckdaecgkaa
open Go.RowKit

/-- The end v has been looked at. -/
def Scn (L : List (Int × Int)) (i jj : Nat) (v : Int) : Prop :=
  (∃ t, t < i ∧ (v = (L.getD t (0, 0)).1 ∨ v = (L.getD t (0, 0)).2)) ∨ (1 ≤ jj ∧ v = (L.getD i (0, 0)).1) ∨ (2 ≤ jj ∧ v = (L.getD i (0, 0)).2)
def BsI (L : List (Int × Int)) (i jj : Nat) (best other : Int) (at_ : Nat) : Prop :=
  (best = 1073741824 ∧ ∀ v, Scn L i jj v → cn L v ≠ 1) ∨ (at_ < L.length ∧ Jn (L.getD at_ (0, 0)) best other ∧ cn L best = 1 ∧ ∀ v, Scn L i jj v → cn L v = 1 → best ≤ v)
theorem BsI.start (L : List (Int × Int)) : BsI L 0 0 1073741824 0 0 := Or.inl ⟨rfl, fun v h => by
  rcases h with ⟨t, h, _⟩ | ⟨h, _⟩ | ⟨h, _⟩ <;> omega⟩
theorem Scn.side {L : List (Int × Int)} {i jj : Nat} {v px : Int} (hj : jj < 2) (hp : px = if jj = 0 then (L.getD i (0, 0)).1 else (L.getD i (0, 0)).2) : Scn L i (jj + 1) v ↔ Scn L i jj v ∨ v = px := by
  unfold Scn
  rcases jj with _ | _ | jj
  · simp only [if_true] at hp
    subst hp
    constructor
    · rintro (h | h | h)
      · exact Or.inl (Or.inl h)
      · exact Or.inr h.2
      · omega
    · rintro ((h | h | h) | h)
      · exact Or.inl h
      · omega
      · omega
      · exact Or.inr (Or.inl ⟨by omega, h⟩)
  · simp only [Nat.zero_add, Nat.one_ne_zero, if_false] at hp
    subst hp
    constructor
    · rintro (h | h | h)
      · exact Or.inl (Or.inl h)
      · exact Or.inl (Or.inr (Or.inl ⟨by omega, h.2⟩))
      · exact Or.inr h.2
    · rintro ((h | h | h) | h)
      · exact Or.inl h
      · exact Or.inr (Or.inl ⟨by omega, h.2⟩)
      · omega
      · exact Or.inr (Or.inr ⟨by omega, h⟩)
  · omega
theorem Scn.next {L : List (Int × Int)} {i : Nat} {v : Int} : Scn L (i + 1) 0 v ↔ Scn L i 2 v := by
  unfold Scn
  constructor
  · rintro (⟨t, h, g⟩ | h | h)
    · rcases Nat.lt_or_ge t i with q | q
      · exact Or.inl ⟨t, q, g⟩
      · obtain rfl : t = i := by omega
        rcases g with g | g
        · exact Or.inr (Or.inl ⟨by omega, g⟩)
        · exact Or.inr (Or.inr ⟨by omega, g⟩)
    · omega
    · omega
  · rintro (⟨t, h, g⟩ | h | h)
    · exact Or.inl ⟨t, by omega, g⟩
    · exact Or.inl ⟨i, by omega, Or.inl h.2⟩
    · exact Or.inl ⟨i, by omega, Or.inr h.2⟩
theorem BsI.next {L : List (Int × Int)} {i at_ : Nat} {b o : Int} (h : BsI L i 2 b o at_) : BsI L (i + 1) 0 b o at_ := by
  rcases h with ⟨h1, h2⟩ | ⟨h1, h2, h3, h4⟩
  · exact Or.inl ⟨h1, fun v hv => h2 v (Scn.next.1 hv)⟩
  · exact Or.inr ⟨h1, h2, h3, fun v hv => h4 v (Scn.next.1 hv)⟩
theorem BsI.take {L : List (Int × Int)} {i jj at_ : Nat} {b o px py : Int} (h : BsI L i jj b o at_) (hi : i < L.length) (hj : jj < 2) (hp : px = if jj = 0 then (L.getD i (0, 0)).1 else (L.getD i (0, 0)).2) (hq : py = if jj = 0 then (L.getD i (0, 0)).2 else (L.getD i (0, 0)).1) (h1 : cn L px = 1) (hb : px < b) : BsI L i (jj + 1) px py i := by
  refine Or.inr ⟨hi, ?_, h1, fun v hv hc => ?_⟩
  · rcases jj with _ | _ | jj
    · simp only [if_true] at hp hq
      exact Or.inl ⟨hp.symm, hq.symm⟩
    · simp only [Nat.zero_add, Nat.one_ne_zero, if_false] at hp hq
      exact Or.inr ⟨hp.symm, hq.symm⟩
    · omega
  · rcases (Scn.side hj hp).1 hv with hv | hv
    · rcases h with ⟨_, h2⟩ | ⟨_, _, _, h4⟩
      · exact absurd hc (h2 v hv)
      · have := h4 v hv hc; omega
    · omega
theorem BsI.keep {L : List (Int × Int)} {i jj at_ : Nat} {b o px : Int} (h : BsI L i jj b o at_) (hj : jj < 2) (hp : px = if jj = 0 then (L.getD i (0, 0)).1 else (L.getD i (0, 0)).2) (h1 : cn L px = 1 → ¬ px < b) (hx : px ≤ 1000) : BsI L i (jj + 1) b o at_ := by
  rcases h with ⟨g1, g2⟩ | ⟨g1, g2, g3, g4⟩
  · refine Or.inl ⟨g1, fun v hv hc => ?_⟩
    rcases (Scn.side hj hp).1 hv with hv | hv
    · exact g2 v hv hc
    · subst hv; have := h1 hc; omega
  · refine Or.inr ⟨g1, g2, g3, fun v hv hc => ?_⟩
    rcases (Scn.side hj hp).1 hv with hv | hv
    · exact g4 v hv hc
    · subst hv; have := h1 hc; omega
theorem cn_snoc {L : List (Int × Int)} {k : Nat} (hk : k < L.length) {x y : Int} (h : (x, y) = L.getD k (0, 0)) (v : Int) : cn (L.take (k + 1)) v = cn (L.take k) v + if (x == v || y == v) then 1 else 0 := by
  rw [List.take_succ_eq_append_getElem hk]
  unfold cn
  rw [List.countP_append]
  have e : L[k] = (x, y) := by rw [h]; simp [List.getD, hk]
  rw [e]
  simp [List.countP_cons]
theorem cn_le (L : List (Int × Int)) (v : Int) : cn L v ≤ L.length := List.countP_le_length

/-- What is done, and what is left. -/
def PrI (es0 : List Int) (L : List (Int × Int)) (c : List Int) (K : List (Int × Int)) : Prop := ∃ V es, Tr V K ∧ Ed es K ∧ VB V es ∧ es.length = es0.length ∧ ∀ d, CdR es d K → CdR es0 (c ++ d) L
theorem PrI.step {es0 : List Int} {L K : List (Int × Int)} {c : List Int} (h : PrI es0 L c K) (h2 : 2 ≤ K.length) {b o : Int} {a : Nat} (hb : BsI K K.length 0 b o a) : a < K.length ∧ PrI es0 L (c ++ [o]) (K.take a ++ K.drop (a + 1)) := by
  obtain ⟨V, es, hT, hE, hV, hel, hc⟩ := h
  have hcd : ∀ v, cn K v = dg K v := fun v => cn_dg hT.loop
  have hsc : ∀ v, 1 ≤ dg K v → Scn K K.length 0 v := fun v hv => by
    refine Classical.byContradiction (fun hn => ?_)
    have : ∀ (M : List (Int × Int)), (∀ e ∈ M, e ∈ K) → dg M v = 0 := by
      intro M
      induction M with
      | nil => intro _; rfl
      | cons e M ih =>
        intro hM
        obtain ⟨t, ht, e1⟩ := List.getElem_of_mem (hM e (by simp))
        have g1 : e = K.getD t (0, 0) := by rw [← e1]; simp [List.getD, ht]
        rw [dg_cons, ih (fun e he => hM e (by simp [he])), if_neg (fun q => hn (Or.inl ⟨t, ht, Or.inl (by rw [← g1]; exact q.symm)⟩)), if_neg (fun q => hn (Or.inl ⟨t, ht, Or.inr (by rw [← g1]; exact q.symm)⟩))]
    have := this K (fun _ h => h)
    omega
  obtain ⟨x0, hx0⟩ := hT.lf hE hV (by omega)
  have hd0 : dg K (x0 : Int) = 1 := by have := hE x0 hx0.1; rw [hx0.2.1] at this; omega
  rcases hb with ⟨_, g2⟩ | ⟨g1, g2, g3, g4⟩
  · exact absurd (by rw [hcd]; exact hd0) (g2 (x0 : Int) (hsc _ (by omega)))
  · refine ⟨g1, ?_⟩
    have hle := g4 (x0 : Int) (hsc _ (by omega)) (by rw [hcd]; exact hd0)
    have hbV : b ∈ V := by
      have he : K.getD a (0, 0) ∈ K := by simp [List.getD, g1]
      have := hT.2.2.1 _ he
      rcases g2 with ⟨q, _⟩ | ⟨q, _⟩
      · rw [← q]; exact this.1
      · rw [← q]; exact this.2
    have hbb := hV b hbV
    obtain ⟨x, rfl⟩ : ∃ x : Nat, b = x := ⟨b.toNat, by omega⟩
    have hxl : Lf es x := by
      refine ⟨by omega, ?_, fun j hj e => ?_⟩
      · rw [hE x (by omega), ← hcd, g3]; rfl
      · exact absurd e (hx0.2.2 j (by omega))
    have hK : K = K.take a ++ K.getD a (0, 0) :: K.drop (a + 1) := by
      have e : K.getD a (0, 0) = K[a] := by simp [List.getD, g1]
      rw [e, ← List.drop_eq_getElem_cons g1, List.take_append_drop]
    rw [hK] at hT hE
    obtain ⟨n1, n2, n3, _⟩ := Tr.next hT hE hV hxl g2
    refine ⟨_, _, n1, n2, n3, by rw [dn_length]; exact hel, fun d hd => ?_⟩
    rw [List.append_assoc]
    refine hc _ ?_
    exact ⟨x, _, _, _, hxl, hK, g2, hd⟩
end Go.Proofs.Ytihafckdaecgkaa
