/-
  PRUEFER'S code: where both processes begin, and the last two (plain).
-/
import Derived.Test.YtihafckdaecgkaaZPru
namespace Go.Proofs.Ytihafckdaecgkaa

/-- The vertices f, f + 1, ... -/
def rgV (f n : Nat) : List Int := (List.range n).map fun (k : Nat) => ((k + f : Nat) : Int)
theorem rgV_length (f n : Nat) : (rgV f n).length = n := by simp [rgV]
theorem rgV_nodup (f n : Nat) : (rgV f n).Nodup := by
  unfold rgV
  rw [List.Nodup, List.pairwise_map]
  exact List.Pairwise.imp (fun h => by omega) List.nodup_range
theorem mem_rgV {f n : Nat} {z : Int} : z ∈ rgV f n ↔ (f : Int) ≤ z ∧ z < (f + n : Nat) := by
  unfold rgV
  rw [List.mem_map]
  constructor
  · rintro ⟨k, hk, rfl⟩
    have := List.mem_range.1 hk
    omega
  · intro h
    exact ⟨(z - f).toNat, List.mem_range.2 (by omega), by omega⟩
/-- The ends that a code tells. -/
def tst (c : List Int) : List Int := tab (c.length + 3) (fun v => if v = 0 then 0 else 1 + (c.count (v : Int) : Int))
theorem tst_length (c : List Int) : (tst c).length = c.length + 3 := tab_length _ _
theorem St_start {c : List Int} (hc : ∀ z ∈ c, 1 ≤ z ∧ z ≤ (c.length : Int) + 2) : St (rgV 1 (c.length + 2)) (tst c) c := by
  refine ⟨rgV_nodup _ _, rgV_length _ _, fun v hv => ?_, fun v hv => ?_, fun v hv hn => ?_, fun z hz => ?_⟩
  · have := mem_rgV.1 hv
    rw [tst_length]; omega
  · have := mem_rgV.1 hv
    unfold tst
    rw [tab_getD _ _ _ (by omega), if_neg (by omega), show ((v.toNat : Nat) : Int) = v by omega]
  · rw [tst_length] at hv
    unfold tst
    rw [tab_getD _ _ _ hv]
    by_cases h0 : v = 0
    · rw [if_pos h0]
    · exact absurd (mem_rgV.2 (by omega)) hn
  · have := hc z hz
    exact mem_rgV.2 (by omega)
theorem mem_getD {es : List Int} {z : Int} (h : z ∈ es) : ∃ i, i < es.length ∧ z = es.getD i 0 := by
  obtain ⟨i, hi, e⟩ := List.getElem_of_mem h
  exact ⟨i, hi, by rw [← e]; simp [List.getD, hi]⟩
theorem St.bd {V es c : List Int} (h : St V es c) (hl : c.length ≤ 1000) : ∀ z ∈ es, 0 ≤ z ∧ z ≤ 2000 := by
  intro z hz
  obtain ⟨i, hi, rfl⟩ := mem_getD hz
  by_cases hm : (i : Int) ∈ V
  · have := h.2.2.2.1 _ hm
    rw [Int.toNat_natCast] at this
    have := List.count_le_length (a := (i : Int)) (l := c)
    omega
  · rw [h.2.2.2.2.1 i hi hm]; omega
theorem getD_dropZ (es : List Int) (k j : Nat) : (es.drop k).getD j 0 = es.getD (k + j) 0 := by
  rw [List.getD_eq_getElem?_getD, List.getElem?_drop, List.getD_eq_getElem?_getD]
theorem St.two {V es : List Int} (h : St V es []) {a : Nat} (ha : Lf es a) : ∃ d, Lf (es.drop (a + 1)) d ∧ a + 1 + d < es.length ∧ es.getD (a + 1 + d) 0 = 1 := by
  obtain ⟨ma, _⟩ := h.mem ha.1 ha.2.1
  obtain ⟨h1, h2, h3, h4, h5, h6⟩ := h
  obtain ⟨p, q, rfl⟩ := two_of h2
  have hpq : p ≠ q := by intro c; subst c; simp at h1
  have key : ∃ v : Nat, a < v ∧ v < es.length ∧ es.getD v 0 = 1 := by
    have ex : ∃ v ∈ [p, q], v ≠ (a : Int) := by
      by_cases c : p = (a : Int)
      · exact ⟨q, by simp, fun e => hpq (c.trans e.symm)⟩
      · exact ⟨p, by simp, c⟩
    obtain ⟨v, hv, hne⟩ := ex
    have hb := h3 v hv
    have e := h4 v hv
    simp only [List.count_nil] at e
    refine ⟨v.toNat, ?_, by omega, by rw [e]; rfl⟩
    rcases Nat.lt_trichotomy a v.toNat with g | g | g
    · exact g
    · omega
    · exact absurd (by rw [e]; rfl) (ha.2.2 _ g)
  obtain ⟨v, v1, v2, v3⟩ := key
  obtain ⟨d, hd, hl⟩ := Lf.ex (es := es.drop (a + 1)) (v := v - (a + 1)) (by rw [List.length_drop]; omega) (by rw [getD_dropZ, show a + 1 + (v - (a + 1)) = v by omega]; exact v3)
  refine ⟨d, hl, by omega, ?_⟩
  rw [← getD_dropZ]; exact hl.2.1
end Go.Proofs.Ytihafckdaecgkaa
