/-
  The contract of ferref.Conj.
-/
import Derived.Test.YtheebpjkjclgbaaLFbx
import Derived.Test.YtheebpjkjclgbaaHChr
namespace Go.Proofs.Ytheebpjkjclgbaa
open Go.RowKit

theorem getD_bound {zs : List Int} (h : IsPt zs) (k : Nat) : 0 ≤ zs.getD k 0 ∧ zs.getD k 0 ≤ 40 := by
  rw [pF_cast h]; have := pF_le h k; omega
theorem pt_first {zs : List Int} (h : IsPt zs) (k : Nat) : zs.getD k 0 ≤ zs.getD 0 0 := by
  rw [pF_cast h, pF_cast h]; have := pF_mono h 0 k; rw [Nat.zero_add] at this; omega
def swp (p : Int × Int) : Int × Int := (p.2, p.1)
def swTo (k : Nat) (ps : List (Int × Int)) : List (Int × Int) := (ps.take k).map swp ++ ps.drop k
theorem swTo_length (k : Nat) (ps : List (Int × Int)) : (swTo k ps).length = ps.length := by simp [swTo]; omega
theorem swTo_zero (ps : List (Int × Int)) : swTo 0 ps = ps := by simp [swTo]
theorem swTo_all (ps : List (Int × Int)) : swTo ps.length ps = ps.map swp := by simp [swTo]
theorem swTo_at (k : Nat) (ps : List (Int × Int)) (hk : k < ps.length) : (swTo k ps).getD k (0, 0) = ps.getD k (0, 0) := by
  unfold swTo
  simp only [List.getD]
  rw [List.getElem?_append_right (by simp; omega)]
  simp only [List.length_map, List.length_take, List.getElem?_drop]
  rw [show k + (k - min k ps.length) = k by omega]
theorem swTo_succ (k : Nat) (ps : List (Int × Int)) (hk : k < ps.length) : swTo (k + 1) ps = (swTo k ps).set k (swp (ps.getD k (0, 0))) := by
  unfold swTo
  have e : ps.drop k = ps.getD k (0, 0) :: ps.drop (k + 1) := by
    rw [List.drop_eq_getElem_cons hk]; simp [List.getD, List.getElem?_eq_getElem hk]
  rw [take_snoc2 ps k hk, List.map_append, e, List.set_append_right _ _ (by simp; omega)]
  simp only [List.length_map, List.length_take]
  rw [show k - min k ps.length = 0 by omega, List.set_cons_zero, List.append_assoc]
  rfl

theorem flat_set (l : List (Int × Int)) : ∀ (k : Nat) (x y : Int), k < l.length → ((flat l).set (k * 2) (.int .i64 x)).set (k * 2 + 1) (.int .i64 y) = flat (l.set k (x, y)) := by
  induction l with
  | nil => intro k x y hk; simp at hk
  | cons p l ih =>
    intro k x y hk
    cases k with
    | zero => rfl
    | succ k =>
      rw [show (k + 1) * 2 = k * 2 + 1 + 1 by omega]
      simp only [flat, List.set_cons_succ]
      rw [ih k x y (by simp at hk; omega)]
theorem Owns2.store {w : World} {base g cap n : Nat} {ps : List (Int × Int)} (h : Owns2 w base (.slice (some ⟨g, 0, none⟩) n cap) ps) (hn : n = ps.length) {k : Nat} (hk : k < ps.length) (x y : Int) :
    Owns2 ((w.setCell ⟨g, k * 2, none⟩ (.int .i64 x)).setCell ⟨g, k * 2 + 1, none⟩ (.int .i64 y)) base (.slice (some ⟨g, 0, none⟩) n cap) (ps.set k (x, y)) := by
  subst hn
  have h1 := (World.ownsRow.stored (h : w.ownsRow base 59 2 _ _ _) (k * 2) (.int .i64 x)).1
  have h2 := (World.ownsRow.stored h1 (k * 2 + 1) (.int .i64 y)).1
  rw [flat_set _ _ _ _ hk] at h2
  unfold Owns2
  rw [List.length_set]
  exact h2

set_option maxHeartbeats 4000000 in
theorem Conj_any (a : Option Addr) (cap : Nat) (zs : List Int) (w : World) (hs : Shows w a zs) (hp : IsPt zs) (ps : List (Int × Int)) (HPS : Hid (ps = boxes zs)) (hbl : Hid (ps.length ≤ 1600)) (hbb : Hid (∀ p ∈ ps.map swp, 0 ≤ p.1 ∧ p.1 ≤ 100)) :
    Calls Try.prog 21 #[.slice a zs.length cap] w fun e w' => ∃ v, e = .returned v ∧ Owns w' w.heap.size v (fromB (ps.map swp)) ∧ Below w.heap.size w w' := by
  have hl := hp.len
  go_enter Try.func21, Try.ntmps21
  go_wp2_with fail
  refine (Boxes_any _ _ _ _ hs (fun z hz => by have := hp.range z hz; omega) hl).mono ?_
  rintro e w1 ⟨v, rfl, hown, hb1⟩
  rw [← HPS.out] at hown
  have HB1 : Hid (Below w.heap.size w w1) := hb1
  have HO1 : Hid (Owns2 w1 w.heap.size v ps) := hown
  have hpl := hbl.out
  clear hown hb1
  obtain ⟨av, cv, rfl⟩ := HO1.out.shape
  go_wp2_with fail
  go_loopw [4] (fun i wr => ∃ k : Nat, k ≤ ps.length ∧ i = .int .i64 k ∧ Hid (Owns2 wr w.heap.size (.slice av ps.length cv) (swTo k ps)) ∧ Hid (Below w.heap.size w wr)) (fun i _ => ps.length - (intOf i).toNat)
  case atStart => exact ⟨0, Nat.zero_le _, rfl, by rw [swTo_zero]; exact HO1, HB1⟩
  case round =>
    obtain ⟨k, hk, rfl, HO, HB⟩ := hrel
    by_cases hlt : k < ps.length
    · have hltI : (k : Int) < (ps.length : Int) := by omega
      obtain ⟨g, cp, hv, hgB, hglt, hfz, hcl⟩ := HO.out.head (by rw [swTo_length]; omega)
      rw [swTo_length] at hv
      simp only [Value.slice.injEq] at hv
      obtain ⟨rfl, -, rfl⟩ := hv
      have hc := hcl k (by rw [swTo_length]; exact hlt)
      rw [swTo_at k ps hlt] at hc
      obtain ⟨x, y, HXY⟩ : ∃ x y, Hid (ps.getD k (0, 0) = (x, y)) := ⟨_, _, rfl⟩
      rw [HXY.out] at hc
      obtain ⟨hc1, hc2⟩ := hc
      have hf1 := hfz (k * 2)
      have hf2 := hfz (k * 2 + 1)
      have HS : Hid (Owns2 ((wr.setCell ⟨g, k * 2, none⟩ (.int .i64 y)).setCell ⟨g, k * 2 + 1, none⟩ (.int .i64 x)) w.heap.size (.slice (some ⟨g, 0, none⟩) ps.length cv) (swTo (k + 1) ps)) := by
        show Owns2 _ _ _ _
        have := HO.out.store (by rw [swTo_length]) (k := k) (by rw [swTo_length]; exact hlt) y x
        rw [swTo_succ k ps hlt, HXY.out]; exact this
      clear hcl hfz
      go_wp2_with fail
      go_region
      go_wp2
      go_roundw
      case rel => exact ⟨k + 1, by omega, by go_num, HS, ((HB.out.setCell hgB _).setCell hgB _).drew⟩
      case measure => simp [intOf] <;> omega
    · obtain rfl : k = ps.length := by omega
      rw [swTo_all] at HO
      obtain ⟨aq, cq, hvq, hsq⟩ := HO.out.shows
      rw [List.length_map] at hvq
      simp only [Value.slice.injEq] at hvq
      obtain ⟨rfl, -, rfl⟩ := hvq
      go_wp2_with (go_at_call 37; refine (FromBoxes_any _ _ _ (ps.map swp) _ hsq (show _ = _ by rw [List.length_map]) hbb (by rw [List.length_map]; omega)).mono ?_; rintro e w4 ⟨v4, rfl, hown4, hb4⟩)
      go_ret
      exact ⟨_, rfl, hown4.mono HB.out.size, HB.out.trans (hb4.mono HB.out.size)⟩

theorem topOf_append (a b : List (Int × Int)) : topOf (a ++ b) = max (topOf a) (topOf b) := by
  induction a with
  | nil => simp [topOf]
  | cons p a ih => simp only [List.cons_append, topOf, ih]; omega
theorem inRow_append (a b : List (Int × Int)) (r : Nat) : inRow (a ++ b) r = inRow a r + inRow b r := by unfold inRow; rw [List.countP_append]; omega
theorem inRow_cons (p : Int × Int) (a : List (Int × Int)) (r : Nat) : inRow (p :: a) r = inRow a r + if p.1 = (r : Int) then 1 else 0 := by
  unfold inRow
  rw [List.countP_cons]
  by_cases h : p.1 = (r : Int) <;> simp [h]
theorem swp_row (k : Nat) : ∀ m, topOf ((rowOf k m).map swp) = m ∧ ∀ r, inRow ((rowOf k m).map swp) r = if r < m then 1 else 0 := by
  intro m
  induction m with
  | zero => exact ⟨rfl, fun r => rfl⟩
  | succ m ih =>
    rw [rowOf_succ, List.map_append]
    refine ⟨?_, fun r => ?_⟩
    · rw [topOf_append, ih.1]; simp only [List.map_cons, List.map_nil, swp, topOf]; omega
    · rw [inRow_append, ih.2]
      simp only [List.map_cons, List.map_nil, swp]
      rw [inRow_cons]
      show _ + (0 + _) = _
      by_cases h1 : r < m
      · rw [if_pos h1, if_neg (show ¬ (m : Int) = (r : Int) by omega), if_pos (by omega)]; rfl
      · rw [if_neg h1]
        by_cases h2 : r = m
        · subst h2; rw [if_pos rfl, if_pos (by omega)]; rfl
        · rw [if_neg (show ¬ (m : Int) = (r : Int) by omega), if_neg (by omega)]; rfl
theorem swp_rows {zs : List Int} (h : IsPt zs) : ∀ k, k ≤ zs.length → (topOf ((boxesTo zs k).map swp) = if k = 0 then 0 else (zs.getD 0 0).toNat) ∧ ∀ r, inRow ((boxesTo zs k).map swp) r = ptCol (zs.take k) r := by
  intro k
  induction k with
  | zero => intro _; exact ⟨rfl, fun r => rfl⟩
  | succ k ih =>
    intro hk
    obtain ⟨i1, i2⟩ := ih (by omega)
    rw [boxesTo, List.map_append]
    have hz := getD_bound h k
    have hf := pt_first h k
    refine ⟨?_, fun r => ?_⟩
    · rw [topOf_append, i1, (swp_row k _).1, if_neg (show ¬ k + 1 = 0 by omega)]
      by_cases h0 : k = 0
      · subst h0; rw [if_pos rfl]; omega
      · rw [if_neg h0]; omega
    · rw [inRow_append, i2, (swp_row k _).2, take_snoc zs k (by omega), ptCol_snoc]
      by_cases hr : (r : Int) < zs.getD k 0
      · rw [if_pos hr, if_pos (by omega)]
      · rw [if_neg hr, if_neg (by omega)]
theorem fromB_conj {zs : List Int} (h : IsPt zs) : fromB ((boxes zs).map swp) = ptConj zs := by
  obtain ⟨h1, h2⟩ := swp_rows h zs.length (Nat.le_refl _)
  unfold fromB boxes ptConj
  rw [h1]
  by_cases h0 : zs.length = 0
  · obtain rfl : zs = [] := List.eq_nil_of_length_eq_zero h0
    rfl
  · rw [if_neg h0]
    exact tab_congr (fun j _ => by rw [h2, List.take_length])

theorem boxes_mem {zs : List Int} (h : IsPt zs) : ∀ k, k ≤ zs.length → ∀ p ∈ boxesTo zs k, 0 ≤ p.1 ∧ p.1 < k ∧ 0 ≤ p.2 ∧ p.2 < zs.getD p.1.toNat 0 := by
  intro k
  induction k with
  | zero => intro _ p hp; cases hp
  | succ k ih =>
    intro hk p hp
    rw [boxesTo, List.mem_append] at hp
    rcases hp with hp | hp
    · have := ih (by omega) p hp; omega
    · simp only [rowOf, List.mem_map, List.mem_range] at hp
      obtain ⟨j, hj, rfl⟩ := hp
      have hz := getD_bound h k
      refine ⟨by simp, by simp; omega, by simp, ?_⟩
      show (j : Int) < zs.getD (k : Int).toNat 0
      rw [Int.toNat_natCast]; omega
theorem boxes_len {zs : List Int} (h : IsPt zs) : (boxes zs).length ≤ 1600 := by
  have := boxesTo_length (zs := zs) (fun z hz => by have := h.range z hz; omega) zs.length (Nat.le_refl _)
  have := h.len
  unfold boxes; omega
theorem boxes_small {zs : List Int} (h : IsPt zs) : (∀ p ∈ boxes zs, 0 ≤ p.1 ∧ p.1 ≤ 100) ∧ (∀ p ∈ (boxes zs).map swp, 0 ≤ p.1 ∧ p.1 ≤ 100) := by
  have hm := boxes_mem h zs.length (Nat.le_refl _)
  have hl := h.len
  refine ⟨fun p hp => by have := hm p hp; omega, fun p hp => ?_⟩
  obtain ⟨q, hq, rfl⟩ := List.mem_map.1 hp
  have := hm q hq
  have := getD_bound h q.1.toNat
  show 0 ≤ q.2 ∧ q.2 ≤ 100
  omega

theorem Conj_is (a : Option Addr) (cap : Nat) (zs : List Int) (w : World) (hs : Shows w a zs) (hp : IsPt zs) :
    Calls Try.prog 21 #[.slice a zs.length cap] w fun e w' => ∃ v, e = .returned v ∧ Owns w' w.heap.size v (ptConj zs) ∧ Below w.heap.size w w' := by
  have := Conj_any a cap zs w hs hp (boxes zs) rfl (boxes_len hp) (boxes_small hp).2
  rw [fromB_conj hp] at this; exact this

end Go.Proofs.Ytheebpjkjclgbaa
