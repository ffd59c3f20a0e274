/-
  The contract of ferref.Fallen: the numbers in order, the greatest first.
-/
import Derived.Test.YtheebpjkjclgbaaBApp
namespace Go.Proofs.Ytheebpjkjclgbaa
open Go.RowKit

/-- The greatest first. -/
def Desc (l : List Int) : Prop := l.Pairwise (fun a b => b ≤ a)

/-- Two neighbours change places. -/
def swapF (k : Nat) (zs : List Int) : List Int := (zs.set (k + 1) (zs.getD k 0)).set k (zs.getD (k + 1) 0)
theorem swapF_perm (k : Nat) (zs : List Int) (h : k + 1 < zs.length) : (swapF k zs).Perm zs := by
  have : ((zs.set (k + 1) (zs[k]'(by omega))).set k zs[k + 1]).Perm zs := List.set_set_perm h (by omega)
  unfold swapF
  simp only [List.getD, List.getElem?_eq_getElem h, List.getElem?_eq_getElem (show k < zs.length by omega), Option.getD_some]
  exact this
theorem swapF_len (k : Nat) (zs : List Int) : (swapF k zs).length = zs.length := by simp [swapF]
theorem swapF_getD (k : Nat) (zs : List Int) (j : Nat) (hj : j < zs.length) : (swapF k zs).getD j 0 = if j = k then zs.getD (k + 1) 0 else if j = k + 1 then zs.getD k 0 else zs.getD j 0 := by
  unfold swapF
  rw [set_getD _ _ _ _ (by simp; exact hj), set_getD _ _ _ _ hj]

set_option maxHeartbeats 4000000 in
theorem Fallen_any (a : Option Addr) (n cap : Nat) (zs : List Int) (w : World) (hs : Shows w a zs) (hn : Hid (n = zs.length)) (hnone : Hid (a = none → zs = [] ∧ cap = 0)) (hl : zs.length ≤ 1000000) :
    Calls Try.prog 31 #[.slice a n cap] w fun e w' => ∃ v r, e = .returned v ∧ Owns w' w.heap.size v r ∧ r.Perm zs ∧ Desc r ∧ Below w.heap.size w w' := by
  go_enter Try.func31, Try.ntmps31
  go_wp2_with (at_builtin; refine append_src (zs := []) (ys := zs) rfl _ _ rfl rfl rfl (World.ownsRow_nil _ w.heap.size _ _) hs hn.out hnone.out ?c1 ?c2 ?_)
  case c1 => simp; omega
  case c2 => exact Nat.le_refl _
  intro v w1 hown hb1 _
  by_cases hne : 0 < zs.length
  · obtain ⟨g, cp, rfl, -⟩ := hown.head hne
    have HO : Hid (Owns w1 w.heap.size (.slice (some ⟨g, 0, none⟩) zs.length cp) zs) := hown
    have HB1 : Hid (Below w.heap.size w w1) := hb1
    clear hown hb1
    go_wp2
    go_loopw [4] (fun i wr => ∃ (k : Nat) (out : List Int), k ≤ zs.length ∧ i = .int .i64 k ∧ Hid (Owns wr w.heap.size (.slice (some ⟨g, 0, none⟩) zs.length cp) out) ∧ Hid (out.Perm zs) ∧ Hid (∀ x y, x < y → y < k → out.getD y 0 ≤ out.getD x 0) ∧ Hid (Below w.heap.size w wr)) (fun i _ => zs.length - (intOf i).toNat)
    case atStart => exact ⟨0, zs, Nat.zero_le _, rfl, HO, List.Perm.refl _, fun x y _ h => by omega, HB1⟩
    case round =>
      obtain ⟨i, out, hi, rfl, HOi, HP, HS, HB⟩ := hrel
      by_cases hlt : i < zs.length
      · have hltI : (i : Int) < (zs.length : Int) := by omega
        go_wp2
        go_loopw [5] (fun t wq => ∃ (k : Nat) (o : List Int), k ≤ i ∧ t = .int .i64 k ∧ Hid (Owns wq w.heap.size (.slice (some ⟨g, 0, none⟩) zs.length cp) o) ∧ Hid (o.Perm zs) ∧ Hid (∀ x y, x < y → y ≤ i → y ≠ k → o.getD y 0 ≤ o.getD x 0) ∧ Hid (Below w.heap.size w wq)) (fun t _ => (intOf t).toNat)
        case atStart => exact ⟨i, out, Nat.le_refl _, rfl, HOi, HP, fun x y h1 h2 h3 => HS.out x y h1 (by omega), HB⟩
        case round =>
          obtain ⟨k, o, hk, rfl, HOk, HPk, HSk, HBk⟩ := hrel
          have hol : Hid (o.length = zs.length) := HPk.out.length_eq
          by_cases hk0 : 0 < k
          · obtain ⟨m, rfl⟩ : ∃ m, k = m + 1 := ⟨k - 1, by omega⟩
            obtain ⟨hgB, hfz, hcl⟩ := HOk.out.at hol.out.symm
            have hc1 := hcl (m + 1) (by rw [hol.out]; omega)
            have hc0 := hcl m (by rw [hol.out]; omega)
            have hf1 := hfz (m + 1)
            have hf0 := hfz m
            obtain ⟨x, HX⟩ : ∃ x, Hid (x = o.getD (m + 1) 0) := ⟨_, rfl⟩
            obtain ⟨y, HY⟩ : ∃ y, Hid (y = o.getD m 0) := ⟨_, rfl⟩
            rw [← HX.out] at hc1
            rw [← HY.out] at hc0
            have hkI : (0 : Int) < ((m + 1 : Nat) : Int) := by omega
            have hml : ((m + 1 : Nat) : Int) < (zs.length : Int) := by omega
            have hml' : (m : Int) < (zs.length : Int) := by omega
            have hmn : m + 1 < zs.length := by omega
            clear hcl hfz
            by_cases hxy : y < x
            · have hA := HOk.out.store hol.out.symm (m + 1) y
              have hA2 := hA.store (by rw [List.length_set]; exact hol.out.symm) m x
              have HS2 : Hid (Owns ((wr.setCell ⟨g, m + 1, none⟩ (.int .i64 y)).setCell ⟨g, m, none⟩ (.int .i64 x)) w.heap.size (.slice (some ⟨g, 0, none⟩) zs.length cp) (swapF m o)) := by
                show Owns _ _ _ _
                unfold swapF
                rw [← HX.out, ← HY.out]; exact hA2
              have hfA := (hA.at (by rw [List.length_set]; exact hol.out.symm)).2.1 m
              clear hA hA2
              go_wp2_with fail
              go_quiet (fail)
              go_wp2_with fail
              go_region
              go_wp2
              go_roundw
              case rel =>
                refine ⟨m, swapF m o, by omega, by go_num, HS2, (swapF_perm m o (by rw [hol.out]; omega)).trans HPk.out, ?_, ((below_drewN HBk.out _).setCell hgB _).setCell hgB _⟩
                intro p q h1 h2 h3
                have hq : q < o.length := by rw [hol.out]; omega
                rw [swapF_getD _ _ _ hq, swapF_getD _ _ _ (by omega), if_neg h3]
                by_cases e1 : q = m + 1
                · rw [if_pos e1, ← HY.out]
                  by_cases e2 : p = m
                  · rw [if_pos e2, ← HX.out]; omega
                  · rw [if_neg e2, if_neg (by omega)]
                    have := HSk.out p m (by omega) (by omega) (by omega)
                    rw [← HY.out] at this; exact this
                · rw [if_neg e1]
                  by_cases e2 : p = m
                  · rw [if_pos e2]; exact HSk.out (m + 1) q (by omega) h2 e1
                  · rw [if_neg e2]
                    by_cases e3 : p = m + 1
                    · rw [if_pos e3]; exact HSk.out m q (by omega) h2 e1
                    · rw [if_neg e3]; exact HSk.out p q h1 h2 e1
              case measure => simp [intOf] <;> omega
            · have hd : decide (y < x) = false := by simp; omega
              go_wp2_with fail
              go_quiet (fail)
              go_wp2
              go_roundw
              case rel =>
                refine ⟨i + 1, o, by omega, by go_num, HOk, HPk, ?_, by first | exact HBk | exact below_drewN HBk.out _⟩
                intro p q h1 h2
                by_cases e : q = m + 1
                · subst e
                  by_cases e2 : p = m
                  · subst e2; rw [← HX.out, ← HY.out]; omega
                  · have := HSk.out p m (by omega) (by omega) (by omega)
                    rw [← HY.out] at this
                    rw [← HX.out]; omega
                · exact HSk.out p q h1 (by omega) e
              case measure => simp [intOf] <;> omega
          · obtain rfl : k = 0 := by omega
            go_wp2_with fail
            go_quiet (fail)
            go_wp2
            go_roundw
            case rel => exact ⟨i + 1, o, by omega, by go_num, HOk, HPk, fun p q h1 h2 => HSk.out p q h1 (by omega) (by omega), by first | exact HBk | exact below_drewN HBk.out _⟩
            case measure => simp [intOf] <;> omega
      · have hd : decide ((i : Int) < (zs.length : Int)) = false := by simp; omega
        go_wp2
        go_ret
        refine ⟨_, out, rfl, HOi.out, HP.out, ?_, HB.out⟩
        have hol := HP.out.length_eq
        refine List.pairwise_iff_getElem.2 (fun p q hp hq hpq => ?_)
        have := HS.out p q hpq (by omega)
        simpa [List.getD, List.getElem?_eq_getElem hp, List.getElem?_eq_getElem hq] using this
  · obtain rfl : zs = [] := List.eq_nil_of_length_eq_zero (by omega)
    obtain ⟨av, cv, rfl⟩ := hown.shape
    have HO : Hid (Owns w1 w.heap.size (.slice av ([] : List Int).length cv) []) := hown
    have HB1 : Hid (Below w.heap.size w w1) := hb1
    clear hown hb1
    simp only [List.length_nil]
    go_wp2
    refine wp_loop_rounds 1 ?_
    rw [rounds_succ]
    go_wp2
    go_ret
    exact ⟨_, [], rfl, HO.out, List.Perm.refl _, List.Pairwise.nil, HB1.out⟩

#print axioms Fallen_any
end Go.Proofs.Ytheebpjkjclgbaa
