/-
  BRUHAT'S order by first numbers put in order; the contract of ferref.Under.
-/
import Derived.Test.YtnjbkiegeielhabWFal
import Derived.Test.YtnjbkiegeielhabPBel
namespace Go.Proofs.Ytnjbkiegeielhab
open Go.RowKit

theorem desc_cnt : ∀ {l : List Int}, Desc l → ∀ {k : Nat}, k < l.length → ∀ t : Int, (t ≤ l.getD k 0 ↔ k < cnt t l) := by
  intro l
  induction l with
  | nil => intro _ k hk; simp at hk
  | cons a l ih =>
    intro h k hk t
    have h' := h
    unfold Desc at h'
    rw [List.pairwise_cons] at h'
    rw [cnt_cons]
    by_cases hta : t ≤ a
    · rw [ind_pos hta]
      cases k with
      | zero => simp only [List.getD_cons_zero]; exact ⟨fun _ => by omega, fun _ => hta⟩
      | succ k =>
        have := ih h'.2 (k := k) (by simpa using hk) t
        simp only [List.getD_cons_succ]
        rw [this]; omega
    · rw [ind_neg hta]
      have h0 : cnt t l = 0 := by
        unfold cnt; rw [List.countP_eq_zero]; intro z hz; have := h'.1 z hz; simp; omega
      rw [h0]
      have hle : (a :: l).getD k 0 ≤ a := by
        cases k with
        | zero => simp
        | succ k =>
          have hm : l.getD k 0 ∈ l := getD_mem (by simpa using hk)
          have := h'.1 _ hm
          simpa using this
      constructor
      · intro h2; omega
      · intro h2; omega

/-- Two lists in order, place by place, and by counts. -/
theorem desc_le {x y : List Int} (hx : Desc x) (hy : Desc y) (hl : x.length = y.length) : (∀ k, k < x.length → x.getD k 0 ≤ y.getD k 0) ↔ ∀ t, cnt t x ≤ cnt t y := by
  constructor
  · intro h t
    rcases Nat.eq_zero_or_pos (cnt t x) with h0 | h0
    · omega
    · have hc : cnt t x ≤ x.length := cnt_le t x
      have h1 := (desc_cnt hx (k := cnt t x - 1) (by omega) t).2 (by omega)
      have h2 := h (cnt t x - 1) (by omega)
      have h3 := (desc_cnt hy (k := cnt t x - 1) (by omega) t).1 (by omega)
      omega
  · intro h k hk
    have h1 := (desc_cnt hx hk (x.getD k 0)).1 (Int.le_refl _)
    have h2 := h (x.getD k 0)
    exact (desc_cnt hy (k := k) (by omega) (x.getD k 0)).2 (by omega)

/-- Below at the first i numbers. -/
def At (xs ys : List Int) (i : Nat) : Prop := ∀ t : Int, cnt t (xs.take i) ≤ cnt t (ys.take i)
theorem under_at {xs ys : List Int} (hl : xs.length = ys.length) : Under xs ys ↔ ∀ i, 1 ≤ i → i ≤ xs.length → At xs ys i := by
  constructor
  · intro h i _ _ t; exact h i t
  · intro h i t
    rcases Nat.eq_zero_or_pos i with h0 | h0
    · subst h0; simp [cnt]
    · by_cases h1 : i ≤ xs.length
      · exact h i h0 h1 t
      · rcases Nat.eq_zero_or_pos xs.length with h2 | h2
        · have e1 : xs = [] := List.eq_nil_of_length_eq_zero h2
          subst e1; simp [cnt]
        · have := h xs.length h2 (Nat.le_refl _) t
          rw [List.take_of_length_le (by omega), List.take_of_length_le (by omega)] at this
          rw [List.take_of_length_le (by omega), List.take_of_length_le (by omega)]; exact this

set_option maxHeartbeats 4000000 in
theorem Under_ok (a b : Option Addr) (ca cb : Nat) (xs ys : List Int) (t : Bool) (w : World) (hs : Shows w a xs) (ht : Shows w b ys) (hca : xs.length ≤ ca) (hcb : ys.length ≤ cb) (h40 : xs.length ≤ 40) (hl : xs.length = ys.length) (hxw : ∀ z ∈ xs, 0 ≤ z ∧ z ≤ 1000) (hyw : ∀ z ∈ ys, 0 ≤ z ∧ z ≤ 1000) (hT : t = true ↔ Under xs ys) :
    Calls Try.prog 27 #[.slice a xs.length ca, .slice b ys.length cb] w fun e w' => e = .returned (.bool t) ∧ Below w.heap.size w w' := by
  have HT : Hid (t = true ↔ ∀ i, 1 ≤ i → i ≤ xs.length → At xs ys i) := by show _ ↔ _; rw [hT, under_at hl]
  have HL : Hid (xs.length = ys.length) := hl
  have HXW : Hid (∀ z ∈ xs, 0 ≤ z ∧ z ≤ 1000) := hxw
  have HYW : Hid (∀ z ∈ ys, 0 ≤ z ∧ z ≤ 1000) := hyw
  have hcb' : xs.length ≤ cb := by omega
  clear hT hl hxw hyw hcb
  go_enter Try.func27, Try.ntmps27
  go_wp2
  go_loopw [5] (fun i wr => ∃ k : Nat, k ≤ xs.length ∧ i = .int .i64 ((k : Int) + 1) ∧ Hid (∀ i, 1 ≤ i → i ≤ k → At xs ys i) ∧ Hid (Below w.heap.size w wr)) (fun i _ => (xs.length + 1 - (intOf i).toNat : Nat))
  case atStart => exact ⟨0, Nat.zero_le _, rfl, fun i h1 h2 => by omega, Below.refl _ _⟩
  case round =>
    obtain ⟨k, hk, rfl, HR, HB⟩ := hrel
    by_cases hlt : k < xs.length
    · obtain ⟨k1, hk1⟩ : ∃ k1, k1 = k + 1 := ⟨_, rfl⟩
      have hii : (k : Int) + 1 = (k1 : Int) := by omega
      have hle : k1 ≤ xs.length := by omega
      have b1 : k1 ≤ ca := by omega
      have b2 : k1 ≤ cb := by omega
      obtain ⟨ba, oa, -, rfl, -⟩ := (hs.below HB.out).elem hlt
      obtain ⟨bb, ob, -, rfl, -⟩ := (ht.below HB.out).elem (k := k) (by have := HL.out; omega)
      have HX1 : Hid (k1 = (xs.take k1).length) := by show _ = _; simp; omega
      have HY1 : Hid (k1 = (ys.take k1).length) := by have := HL.out; show _ = _; simp; omega
      have HSX : Hid (∀ W, Below w.heap.size w W → Calls Try.prog 49 #[.slice (some ⟨ba, oa, none⟩) k1 ca] W fun e w' => ∃ v r, e = .returned v ∧ Owns w' W.heap.size v r ∧ r.Perm (xs.take k1) ∧ Desc r ∧ Below W.heap.size W w') := fun W hW => Fallen_any _ _ _ _ _ ((hs.below hW).take k1) HX1 (fun h => by cases h) (by rw [← HX1.out]; omega)
      have HSY : Hid (∀ W, Below w.heap.size w W → Calls Try.prog 49 #[.slice (some ⟨bb, ob, none⟩) k1 cb] W fun e w' => ∃ v r, e = .returned v ∧ Owns w' W.heap.size v r ∧ r.Perm (ys.take k1) ∧ Desc r ∧ Below W.heap.size W w') := fun W hW => Fallen_any _ _ _ _ _ ((ht.below hW).take k1) HY1 (fun h => by cases h) (by rw [← HY1.out]; omega)
      have HK1 : Hid (k1 = k + 1) := hk1
      have HLT : Hid (k < xs.length) := hlt
      have HB0 : Hid (Below w.heap.size w wr.drew) := HB.out.trans (below_drewN (Below.refl _ _) 1)
      rw [hii]
      clear hii hk1
      go_wp2_with fail
      go_region_with (go_at_call 49; first | (with_reducible (refine (HSX.out _ HB0.out).mono ?_); rintro e W1 ⟨vx, rx, rfl, hox, hpx, hdx, hbx⟩) | (with_reducible (refine (HSY.out _ HB0.out).mono ?_); rintro e W1 ⟨vy, ry, rfl, hoy, hpy, hdy, hby⟩) | (with_reducible (refine (HSX.out _ (HB0.out.trans (hby.mono HB0.out.size))).mono ?_); rintro e W2 ⟨vx, rx, rfl, hox, hpx, hdx, hbx⟩) | (with_reducible (refine (HSY.out _ (HB0.out.trans (hbx.mono HB0.out.size))).mono ?_); rintro e W2 ⟨vy, ry, rfl, hoy, hpy, hdy, hby⟩))
      have HAt : Hid (At xs ys k1 ↔ ∀ j, j < k1 → rx.getD j 0 ≤ ry.getD j 0) := by
        show _ ↔ _
        have e1 : rx.length = k1 := by rw [hpx.length_eq, ← HX1.out]
        have e2 : ry.length = k1 := by rw [hpy.length_eq, ← HY1.out]
        have := desc_le hdx hdy (by rw [e1, e2])
        rw [e1] at this
        rw [this]
        unfold At cnt
        constructor
        · intro h t; rw [hpx.countP_eq, hpy.countP_eq]; exact h t
        · intro h t; have := h t; rw [hpx.countP_eq, hpy.countP_eq] at this; exact this
      have HXl : Hid (rx.length = k1) := by show _ = _; rw [hpx.length_eq, ← HX1.out]
      have HYl : Hid (ry.length = k1) := by show _ = _; rw [hpy.length_eq, ← HY1.out]
      obtain ⟨ax, nx, cx, rfl, Sx, hnx, -⟩ := (hox.below hby).opened (by rw [HXl.out]; omega) (fun z hz => by have := HXW.out z (List.mem_of_mem_take (hpx.subset hz)); omega)
      obtain ⟨ay, ny, cy, rfl, Sy, hny, -⟩ := hoy.opened (by rw [HYl.out]; omega) (fun z hz => by have := HYW.out z (List.mem_of_mem_take (hpy.subset hz)); omega)
      rw [HXl.out] at hnx
      rw [HYl.out] at hny
      replace hnx := hnx.symm
      replace hny := hny.symm
      subst hnx; subst hny
      have HB2 : Hid (Below w.heap.size w W2) := (HB0.out.trans (hbx.mono HB0.out.size)).trans (hby.mono (HB0.out.trans (hbx.mono HB0.out.size)).size)
      clear hox hoy hpx hpy hdx hdy hbx hby
      go_wp2_with fail
      go_loopw [8] (fun i wq => ∃ m : Nat, m ≤ k1 ∧ i = .int .i64 m ∧ Hid (∀ j, j < m → rx.getD j 0 ≤ ry.getD j 0) ∧ ∃ n, wq = W2.drewN n) (fun i _ => k1 - (intOf i).toNat)
      case atStart => exact ⟨0, Nat.zero_le _, rfl, fun j hj => by omega, 0, rfl⟩
      case round =>
        obtain ⟨m, hm, rfl, HM, n0, rfl⟩ := hrel
        by_cases hml : m < k1
        · have hml' : (m : Int) < (k1 : Int) := by omega
          obtain ⟨b1, o1, x, rfl, HX, -, -, hcx⟩ := Sx.elem (k := m) (by rw [HXl.out]; exact hml)
          obtain ⟨b2, o2, y, rfl, HY, -, -, hcy⟩ := Sy.elem (k := m) (by rw [HYl.out]; exact hml)
          by_cases hxy : y < x
          · have hb : decide (x > y) = true := by simpa using hxy
            have HF : Hid (t = false) := by
              cases t with
              | false => rfl
              | true =>
                have h1 := HAt.out.1 (HT.out.1 rfl k1 (by have := HK1.out; omega) (by have := HK1.out; have := HLT.out; omega)) m hml
                rw [← HX.out, ← HY.out] at h1; omega
            obtain rfl := HF.out
            clear hxy
            go_wp2_with fail
            go_quiet (fail)
            go_wp2
            go_ret
            exact ⟨rfl, by first | exact below_drewN HB2.out _ | exact below_drewN (below_drewN HB2.out _) _⟩
          · have hb : decide (x > y) = false := by simpa using hxy
            have HE : Hid (x ≤ y) := by show _ ≤ _; omega
            clear hxy
            go_wp2_with fail
            go_quiet (fail)
            go_wp2
            go_roundw
            case rel => exact ⟨m + 1, by omega, by go_num, fun j hj => by
                          by_cases hj' : j < m
                          · exact HM.out j hj'
                          · obtain rfl : j = m := by omega
                            rw [← HX.out, ← HY.out]; exact HE.out, _, by first | exact rfl | exact drewN_two _ _ _⟩
            case measure => simp [intOf]; omega
        · obtain rfl : m = k1 := by omega
          have HR2 : Hid (∀ i, 1 ≤ i → i ≤ m → At xs ys i) := fun i h1 h2 => by
            by_cases e : i ≤ k
            · exact HR.out i h1 e
            · obtain rfl : i = m := by have := HK1.out; omega
              exact HAt.out.2 HM.out
          go_wp2
          go_roundw
          case rel => exact ⟨m, by have := HK1.out; have := HLT.out; omega, by go_num, HR2, below_drewN HB2.out _⟩
          case measure => have := HK1.out; have := HLT.out; simp [intOf]; omega
    · obtain rfl : k = xs.length := by omega
      have hle : decide ((xs.length : Int) + 1 ≤ (xs.length : Int)) = false := by simp; omega
      have HF : Hid (t = true) := HT.out.2 HR.out
      obtain rfl := HF.out
      go_wp2
      go_ret
      exact ⟨rfl, HB.out⟩

end Go.Proofs.Ytnjbkiegeielhab
