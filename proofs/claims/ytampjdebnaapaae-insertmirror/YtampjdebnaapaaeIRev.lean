/-
  The contracts of slices.Clone[[]int,int], slices.Reverse[[]int,int].
-/
import Derived.Test.YtampjdebnaapaaeBApp
import Derived.Test.YtampjdebnaapaaePChk
namespace Go.Proofs.Ytampjdebnaapaae
open Go.RowKit

/-- The first k and the last k are turned round. -/
def revTo (zs : List Int) (k : Nat) (j : Nat) : Int := if j < k ∨ zs.length ≤ j + k then zs.getD (zs.length - 1 - j) 0 else zs.getD j 0
theorem revTo_end {zs : List Int} {k : Nat} (h : zs.length ≤ 2 * k + 1) : tab zs.length (revTo zs k) = zs.reverse := by
  refine ext_getD (by rw [tab_length, List.length_reverse]) (fun j hj => ?_)
  rw [tab_length] at hj
  rw [tab_getD _ _ _ hj]
  have e : zs.reverse.getD j 0 = zs.getD (zs.length - 1 - j) 0 := by simp only [List.getD, List.getElem?_reverse hj]
  rw [e]
  unfold revTo
  by_cases c : j < k ∨ zs.length ≤ j + k
  · rw [if_pos c]
  · rw [if_neg c, show zs.length - 1 - j = j by omega]
theorem tab_self (zs : List Int) : tab zs.length (revTo zs 0) = zs := by
  refine ext_getD (tab_length _ _) (fun j hj => ?_)
  rw [tab_length] at hj
  rw [tab_getD _ _ _ hj]
  unfold revTo
  rw [if_neg (by omega)]
theorem revTo_step {zs : List Int} {k m : Nat} (hk : k < m) (hm : m = zs.length - 1 - k) (j : Nat) : upd (upd (revTo zs k) k (zs.getD m 0)) m (zs.getD k 0) j = revTo zs (k + 1) j ∨ zs.length ≤ j := by
  by_cases hj : zs.length ≤ j
  · exact Or.inr hj
  · left
    unfold upd revTo
    by_cases e1 : j = m
    · rw [if_pos e1, if_pos (by omega), show zs.length - 1 - j = k by omega]
    · rw [if_neg e1]
      by_cases e2 : j = k
      · rw [if_pos e2, if_pos (by omega), show zs.length - 1 - j = m by omega]
      · rw [if_neg e2]
        by_cases c : j < k ∨ zs.length ≤ j + k
        · rw [if_pos c, if_pos (by omega)]
        · rw [if_neg c, if_neg (by omega)]

set_option maxHeartbeats 4000000 in
theorem Reverse_at (g n cap : Nat) (zs : List Int) (lo : Nat) (w : World) (ho : Owns w lo (.slice (some ⟨g, 0, none⟩) n cap) zs) (hn : n = zs.length) (hl : zs.length ≤ 1000) :
    Calls Try.prog 8 #[.slice (some ⟨g, 0, none⟩) n cap] w fun e w' => e = .returned (.tuple #[]) ∧ Owns w' lo (.slice (some ⟨g, 0, none⟩) n cap) zs.reverse ∧ Below lo w w' ∧ w'.heap.size = w.heap.size := by
  subst hn
  have HO0 : Hid (Owns w lo (.slice (some ⟨g, 0, none⟩) zs.length cap) (tab zs.length (revTo zs 0))) := by rw [tab_self]; exact ho
  have HG : Hid (lo ≤ g) := (ho.block rfl).1
  obtain ⟨n1, Hn1⟩ : ∃ n1 : Int, Hid (n1 = (zs.length : Int) - 1) := ⟨_, rfl⟩
  have hsub : IntKind.i64.wrap ((zs.length : Int) - 1) = n1 := by rw [IntWalk.i64_left, IntWalk.wrap64_in _ (by omega)]; exact Hn1.out.symm
  clear ho
  go_enter Try.func8, Try.ntmps8
  go_wp2
  go_loopw [2, 3] (fun iv jv wr => ∃ k : Nat, iv = .int .i64 k ∧ jv = .int .i64 ((zs.length : Int) - 1 - k) ∧ 2 * k ≤ zs.length + 1 ∧ Hid (Owns wr lo (.slice (some ⟨g, 0, none⟩) zs.length cap) (tab zs.length (revTo zs k))) ∧ Hid (Below lo w wr) ∧ Hid (wr.heap.size = w.heap.size)) (fun iv _ _ => zs.length + 1 - (intOf iv).toNat)
  case atStart => exact ⟨0, rfl, by rw [Hn1.out]; simp, by omega, HO0, Below.refl _ _, rfl⟩
  case round =>
    obtain ⟨k, rfl, rfl, hk2, HO, HB, HZ⟩ := hrel
    by_cases hlt : (k : Int) < (zs.length : Int) - 1 - k
    · obtain ⟨m, HM⟩ : ∃ m, Hid (m = zs.length - 1 - k) := ⟨_, rfl⟩
      have hm : (zs.length : Int) - 1 - k = (m : Int) := by rw [HM.out]; omega
      rw [hm] at hlt ⊢
      have hkm : k < m := by omega
      have hml : m < zs.length := by rw [HM.out]; omega
      have hk' : (k : Int) < (zs.length : Int) := by omega
      have hm' : (m : Int) < (zs.length : Int) := by omega
      have hne : ¬ k = m := by omega
      have hne' : ¬ m = k := by omega
      obtain ⟨f1, c1⟩ := HO.out.tabAt (j := k) (by omega)
      obtain ⟨f2, c2⟩ := HO.out.tabAt (j := m) hml
      have e1 : revTo zs k k = zs.getD k 0 := by unfold revTo; rw [if_neg (by omega)]
      have e2 : revTo zs k m = zs.getD m 0 := by unfold revTo; rw [if_neg (by have := HM.out; omega)]
      rw [e1] at c1
      rw [e2] at c2
      obtain ⟨x, HX⟩ : ∃ x, Hid (x = zs.getD k 0) := ⟨_, rfl⟩
      obtain ⟨y, HY⟩ : ∃ y, Hid (y = zs.getD m 0) := ⟨_, rfl⟩
      rw [← HX.out] at c1
      rw [← HY.out] at c2
      have HO2 : Hid (Owns ((wr.setCell ⟨g, k, none⟩ (.int .i64 y)).setCell ⟨g, m, none⟩ (.int .i64 x)).drew lo (.slice (some ⟨g, 0, none⟩) zs.length cap) (tab zs.length (revTo zs (k + 1)))) := by
        have h1 := (HO.out.tabStore k y).tabStore m x
        refine (h1.tabCongr (fun j hj => ?_)).below (below_drewN (Below.refl _ _) 1)
        rw [HX.out, HY.out]
        rcases revTo_step hkm HM.out j with q | q
        · exact q
        · omega
      have HB2 : Hid (Below lo w ((wr.setCell ⟨g, k, none⟩ (.int .i64 y)).setCell ⟨g, m, none⟩ (.int .i64 x)).drew) := below_drewN ((HB.out.setCell (p := ⟨g, k, none⟩) HG.out _).setCell (p := ⟨g, m, none⟩) HG.out _) 1
      have HZ2 : Hid (((wr.setCell ⟨g, k, none⟩ (.int .i64 y)).setCell ⟨g, m, none⟩ (.int .i64 x)).drew.heap.size = w.heap.size) := by have := HZ.out; show _ = _; simpa [World.drew] using this
      have hsub2 : IntKind.i64.wrap ((m : Int) - 1) = (m : Int) - 1 := by rw [IntWalk.i64_left, IntWalk.wrap64_in _ (by omega)]
      clear e1 e2 hm
      go_wp2_with fail
      go_region
      go_wp2
      go_roundw
      case rel => exact ⟨k + 1, by go_num, by have := HM.out; rw [show (m : Int) - 1 = (zs.length : Int) - 1 - ((k + 1 : Nat) : Int) by omega], by have := HM.out; omega, HO2, HB2, HZ2⟩
      case measure => simp [intOf]; omega
    · have HE : Hid (Owns wr lo (.slice (some ⟨g, 0, none⟩) zs.length cap) zs.reverse) := by
        have := HO.out
        rw [revTo_end (by omega)] at this; exact this
      go_wp2
      go_end0
      exact ⟨rfl, HE.out, HB.out, HZ.out⟩

end Go.Proofs.Ytampjdebnaapaae
