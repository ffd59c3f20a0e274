/-
  The contract of perms.firstToBack: each block of the first n numbers of an owned row has its first letter behind.
-/
import Derived.Test.YtnjbkiegeielhabMFront
namespace Go.Proofs.Ytnjbkiegeielhab
open Go.RowKit

theorem back_step (A B : List Int) (y : Int) (R : List Int) : (splice (A ++ y :: B ++ R) A.length (((A ++ y :: B ++ R).drop (A.length + 1)).take B.length)).set (A.length + B.length) y = A ++ B ++ y :: R := by
  have e1 : ((A ++ y :: B ++ R).drop (A.length + 1)).take B.length = B := by
    rw [show A ++ y :: B ++ R = (A ++ [y]) ++ (B ++ R) by simp, show A.length + 1 = (A ++ [y]).length by simp, List.drop_left]; simp
  rw [e1]
  unfold splice
  have e2 : (A ++ y :: B ++ R).take A.length = A := by simp
  obtain ⟨u, hu⟩ : ∃ u, (A ++ y :: B ++ R).drop (A.length + B.length) = u :: R := by
    obtain ⟨u, hu⟩ := List.length_eq_one_iff.1 (show ((y :: B).drop B.length).length = 1 by simp)
    refine ⟨u, ?_⟩
    rw [List.append_assoc, List.drop_append, List.drop_of_length_le (by omega), show A.length + B.length - A.length = B.length by omega, List.nil_append, List.drop_append_of_le_length (by simp), hu]; rfl
  rw [e2, hu, show A.length + B.length = (A ++ B).length by simp]
  simp

theorem back_getD (A : List Int) (y : Int) (R : List Int) : (A ++ y :: R).getD A.length 0 = y := by simp [List.getD]

set_option maxHeartbeats 2000000 in
theorem firstToBack_own (g n cap N base : Nat) (zs : List Int) (x : Int) (w : World) (hO : Owns w base (.slice (some ⟨g, 0, none⟩) N cap) zs) (hN : Hid (N = zs.length)) (hn0 : 0 < n) (hn : n ≤ zs.length) (h40 : zs.length ≤ 40) :
    Calls Try.prog 51 #[.slice (some ⟨g, 0, none⟩) n cap, .int .i64 x] w fun e w' => e = .returned (.tuple #[]) ∧ Owns w' base (.slice (some ⟨g, 0, none⟩) N cap) (bwd x (zs.take n) ++ zs.drop n) ∧ Below base w w' := by
  obtain ⟨hbg, hfz, hcl⟩ := hO.at hN.out
  have hcap : n ≤ cap := by
    obtain ⟨_, _, _, _, h, _⟩ := hO.block hN.out
    have := hN.out; omega
  have hcm := hcl 0 (by omega)
  obtain ⟨r, HR⟩ : ∃ r, Hid (r = zs.getD 0 0) := ⟨_, rfl⟩
  rw [← HR.out] at hcm
  have HF : Hid (bwd x (zs.take n) = back (cut x r) (zs.take n).reverse [] []) := by
    show _ = _; unfold bwd
    have : (zs.take n).headD 0 = zs.getD 0 0 := by
      cases zs with
      | nil => simp at hn; omega
      | cons z zs => obtain ⟨k, rfl⟩ : ∃ k, n = k + 1 := ⟨n - 1, by omega⟩
                     simp
    rw [this, HR.out]
  have hn0' : (0 : Int) < (n : Int) := by omega
  clear hcl
  have hOw : Hid (Owns w base (.slice (some ⟨g, 0, none⟩) N cap) zs) := hO
  clear hO
  go_enter Try.func51, Try.ntmps51
  go_wp2
  go_loopw [5, 6] (fun en i wr => ∃ (e k : Nat) (iv : Int) (B D : List Int), en = .int .i64 e ∧ i = .int .i64 iv ∧ Hid (iv = (k : Int) - 1) ∧ k ≤ n ∧ Hid (k + B.length = e ∧ e + D.length = n) ∧ Hid (Owns wr base (.slice (some ⟨g, 0, none⟩) N cap) (zs.take k ++ B ++ (D ++ zs.drop n))) ∧ Hid (back (cut x r) (zs.take k).reverse B D = bwd x (zs.take n)) ∧ Hid (Below base w wr)) (fun _ i _ => (intOf i + 1).toNat)
  case atStart => exact ⟨n, n, (n : Int) - 1, [], [], rfl, by go_num, rfl, Nat.le_refl _, ⟨rfl, rfl⟩, by show Owns _ _ _ _; simpa using hOw.out, by show _ = _; rw [HF.out], Below.refl _ _⟩
  case round =>
    obtain ⟨e, k, iv, B, D, rfl, rfl, HI, hk, HL, HO, HT, HB⟩ := hrel
    by_cases hlt : 0 < k
    · obtain ⟨j, rfl⟩ : ∃ j, k = j + 1 := ⟨k - 1, by omega⟩
      obtain rfl : iv = (j : Int) := by have := HI.out; omega
      have hge : (0 : Int) ≤ (j : Int) := by omega
      have hjn : (j : Int) < (n : Int) := by omega
      have hlz : j < zs.length := by omega
      obtain ⟨y, HY⟩ : ∃ y, Hid (y = zs.getD j 0) := ⟨_, rfl⟩
      have HC : Hid (zs.take (j + 1) = zs.take j ++ [y]) := by show _ = _; rw [HY.out]; exact take_snoc zs j hlz
      have hLen : Hid ((zs.take (j + 1) ++ B ++ (D ++ zs.drop n)).length = zs.length) := by
        have := HL.out; show _ = _; simp; omega
      have hLj : Hid ((zs.take j).length = j) := by show _ = _; simp; omega
      have hje : j + 1 ≤ e := by have := HL.out; omega
      have hen : e ≤ n := by have := HL.out; omega
      obtain ⟨hbg2, hfz2, hcl2⟩ := HO.out.at (by rw [hN.out, hLen.out])
      have hck := hcl2 j (by rw [hLen.out]; exact hlz)
      have hyk : (zs.take (j + 1) ++ B ++ (D ++ zs.drop n)).getD j 0 = y := by
        rw [HC.out]
        have := back_getD (zs.take j) y (B ++ (D ++ zs.drop n))
        rw [hLj.out] at this
        simpa using this
      rw [hyk] at hck
      clear hyk
      obtain ⟨e1, he1⟩ : ∃ e1, e1 = e - 1 := ⟨_, rfl⟩
      have hfs := hfz2 e1
      obtain ⟨u, hu⟩ : ∃ u, wr.cell? ⟨g, e1, none⟩ = some (.int .i64 u) := ⟨_, hcl2 e1 (by rw [hLen.out]; omega)⟩
      clear hcl2 hfz2
      cases hP : cut x r y with
      | true =>
        have hbP : (decide (y ≤ x) == decide (r ≤ x)) = true := hP
        have HP : Hid (cut x r y = true) := hP
        obtain ⟨j1, hj1⟩ : ∃ j1, j1 = j + 1 := ⟨_, rfl⟩
        have hw1 : IntKind.i64.wrap ((e : Int) - 1) = (e1 : Int) := by rw [IntWalk.i64_left, IntWalk.wrap64_in _ (by omega)]; omega
        have hw2 : IntKind.i64.wrap ((j : Int) + 1) = (j1 : Int) := by rw [IntWalk.i64_left, IntWalk.wrap64_in _ (by omega)]; omega
        have b1 : j ≤ e1 := by omega
        have b2 : e1 ≤ cap := by omega
        have b3 : j ≤ cap := by omega
        have b4 : j1 ≤ e := by omega
        have b5 : j < cap := by omega
        have b6 : e ≤ cap := by omega
        have b7 : j1 ≤ cap := by omega
        have b8 : (e1 : Int) < (n : Int) := by omega
        have b9 : e1 < n := by omega
        have HJ1 : Hid (j1 = j + 1) := hj1
        have HE1 : Hid (e1 = e - 1) := he1
        clear he1 hj1 hP
        by_cases hcs : cap = j1
        · have hB0 : Hid (B = []) := List.eq_nil_of_length_eq_zero (by have := HL.out; have := HJ1.out; omega)
          have HEJ : Hid (e1 = j) := by
              have h1 := HL.out.1; rw [hB0.out] at h1; simp at h1; have := HE1.out; show _ = _; omega
          subst hcs
          have q1 : Hid (Nat.min (e - cap) (e1 - j) = 0) := by have := HEJ.out; show min _ _ = _; omega
          go_wp2_with fail
          go_region_law (refine step_copy_zero rfl (.tmp 35) (.tmp 40) rfl (some ⟨g, j, none⟩) (some ⟨g, 0, none⟩) (e1 - j) (cap - j) (e - cap) 0 (by first | (simp [Act.eval]; done) | (simp [Act.eval, Act.put]; done) | (simp [Act.eval, Act.put]; omega)) (by first | (simp [Act.eval]; done) | (simp [Act.eval, Act.put]; done) | (simp [Act.eval, Act.put]; omega)) q1.out ?_)
          go_wp2
          go_roundw
          case rel => exact ⟨j, j, (j : Int) - 1, [], B ++ y :: D, rfl, by go_num, rfl, by omega, ⟨by simp, by have := HL.out; simp; omega⟩, by
                        show Owns _ _ _ _
                        have h5 : Owns (wr.setCell ⟨g, e1, none⟩ (.int .i64 y)).drew base (.slice (some ⟨g, 0, none⟩) N cap) ((zs.take (j + 1) ++ B ++ (D ++ zs.drop n)).set e1 y) := (HO.out.store (by rw [hLen.out]; exact hN.out) e1 y).below (below_drewN (Below.refl _ _) 1)
                        have h6 : (zs.take (j + 1) ++ B ++ (D ++ zs.drop n)).set e1 y = zs.take j ++ y :: (D ++ zs.drop n) := by
                          rw [HC.out, hB0.out, HEJ.out]
                          have h7 : (zs.take j ++ y :: (D ++ zs.drop n)).set (zs.take j).length y = zs.take j ++ y :: (D ++ zs.drop n) := by simp
                          rw [hLj.out] at h7
                          simpa using h7
                        rw [h6] at h5
                        rw [hB0.out]
                        simpa using h5, by
                        show _ = _
                        have := HT.out
                        rw [HC.out, List.reverse_append, List.reverse_singleton, List.singleton_append, back, if_pos (by rw [HP.out])] at this
                        exact this, (HB.out.setCell hbg2 _).trans (below_drewN (Below.refl _ _) 1)⟩
          case measure => simp [intOf] <;> omega
        · have hcs' : (cap == j1) = false := by simpa using hcs
          by_cases hks0 : B = []
          · have hB0 : Hid (B = []) := hks0
            have HEJ : Hid (e1 = j) := by
              have h1 := HL.out.1; rw [hB0.out] at h1; simp at h1; have := HE1.out; show _ = _; omega
            clear hks0
            have q1 : Hid (Nat.min (e - j1) (e1 - j) = 0) := by have := HEJ.out; show min _ _ = _; omega
            go_wp2_with fail
            go_region_law (refine step_copy_zero rfl (.tmp 35) (.tmp 40) rfl (some ⟨g, j, none⟩) (some ⟨g, j1, none⟩) (e1 - j) (cap - j) (e - j1) (cap - j1) (by first | (simp [Act.eval]; done) | (simp [Act.eval, Act.put]; done) | (simp [Act.eval, Act.put]; omega)) (by first | (simp [Act.eval]; done) | (simp [Act.eval, Act.put]; done) | (simp [Act.eval, Act.put]; omega)) q1.out ?_)
            go_wp2
            go_roundw
            case rel => exact ⟨j, j, (j : Int) - 1, [], B ++ y :: D, rfl, by go_num, rfl, by omega, ⟨by simp, by have := HL.out; simp; omega⟩, by
                          show Owns _ _ _ _
                          have h5 : Owns (wr.setCell ⟨g, e1, none⟩ (.int .i64 y)).drew base (.slice (some ⟨g, 0, none⟩) N cap) ((zs.take (j + 1) ++ B ++ (D ++ zs.drop n)).set e1 y) := (HO.out.store (by rw [hLen.out]; exact hN.out) e1 y).below (below_drewN (Below.refl _ _) 1)
                          have h6 : (zs.take (j + 1) ++ B ++ (D ++ zs.drop n)).set e1 y = zs.take j ++ y :: (D ++ zs.drop n) := by
                            rw [HC.out, hB0.out, HEJ.out]
                            have h7 : (zs.take j ++ y :: (D ++ zs.drop n)).set (zs.take j).length y = zs.take j ++ y :: (D ++ zs.drop n) := by simp
                            rw [hLj.out] at h7
                            simpa using h7
                          rw [h6] at h5
                          rw [hB0.out]
                          simpa using h5, by
                          show _ = _
                          have := HT.out
                          rw [HC.out, List.reverse_append, List.reverse_singleton, List.singleton_append, back, if_pos (by rw [HP.out])] at this
                          exact this, (HB.out.setCell hbg2 _).trans (below_drewN (Below.refl _ _) 1)⟩
            case measure => simp [intOf] <;> omega
          · have HO2 : Hid (Owns wr.drew base (.slice (some ⟨g, 0, none⟩) N cap) (zs.take (j + 1) ++ B ++ (D ++ zs.drop n))) := HO.out.below (below_drewN (Below.refl _ _) 1)
            have q1 : Hid (B.length = Nat.min (e - j1) (e1 - j)) := by
              have := HE1.out; have := HJ1.out; have := HL.out; show _ = min _ _; omega
            have q2 : Hid (j + B.length ≤ (zs.take (j + 1) ++ B ++ (D ++ zs.drop n)).length) := by
              have := HL.out; have := hLen.out; show _ ≤ _; omega
            have q3 : Hid (j1 + B.length ≤ (zs.take (j + 1) ++ B ++ (D ++ zs.drop n)).length) := by
              have := HL.out; have := HJ1.out; have := hLen.out; show _ ≤ _; omega
            have q4 : Hid (N = (zs.take (j + 1) ++ B ++ (D ++ zs.drop n)).length) := by show _ = _; rw [hLen.out]; exact hN.out
            go_wp2_with fail
            go_region_law (refine step_copy_in rfl (.tmp 35) (.tmp 40) rfl j j1 (e1 - j) (cap - j) (e - j1) (cap - j1) B.length (by first | (simp [Act.eval]; done) | (simp [Act.eval, Act.put]; done) | (simp [Act.eval, Act.put]; omega)) (by first | (simp [Act.eval]; done) | (simp [Act.eval, Act.put]; done) | (simp [Act.eval, Act.put]; omega)) q1.out q2.out q3.out HO2.out q4.out ?_; intro w4 HO4 HB4)
            have HO5 : Hid (Owns w4 base (.slice (some ⟨g, 0, none⟩) N cap) (splice (zs.take (j + 1) ++ B ++ (D ++ zs.drop n)) j (((zs.take (j + 1) ++ B ++ (D ++ zs.drop n)).drop j1).take B.length))) := HO4
            have HB5 : Hid (Below base w w4) := HB.out.trans ((below_drewN (Below.refl _ _) 1).trans HB4)
            have hl4 : Hid (N = (splice (zs.take (j + 1) ++ B ++ (D ++ zs.drop n)) j (((zs.take (j + 1) ++ B ++ (D ++ zs.drop n)).drop j1).take B.length)).length) := by
              show _ = _
              rw [length_splice _ _ _ (by rw [List.length_take, List.length_drop]; have := q2.out; omega)]; exact q4.out
            have hfs4 := (HO5.out.at hl4.out).2.1 e1
            obtain ⟨u4, hu4⟩ : ∃ u, w4.cell? ⟨g, e1, none⟩ = some (.int .i64 u) := ⟨_, (HO5.out.at hl4.out).2.2 e1 (by rw [← hl4.out, hN.out]; omega)⟩
            clear HO4 HB4
            go_wp2
            go_roundw
            case rel => exact ⟨j, j, (j : Int) - 1, [], B ++ y :: D, rfl, by go_num, rfl, by omega, ⟨by simp, by have := HL.out; simp; omega⟩, by
                          show Owns _ _ _ _
                          have h5 := HO5.out.store hl4.out e1 y
                          have h6 := back_step (zs.take j) B y (D ++ zs.drop n)
                          rw [hLj.out, show j + B.length = e1 by have := HL.out; have := HE1.out; omega] at h6
                          rw [show zs.take (j + 1) ++ B ++ (D ++ zs.drop n) = zs.take j ++ y :: B ++ (D ++ zs.drop n) by rw [HC.out]; simp, HJ1.out, h6] at h5
                          simpa using h5, by
                          show _ = _
                          have := HT.out
                          rw [HC.out, List.reverse_append, List.reverse_singleton, List.singleton_append, back, if_pos (by rw [HP.out])] at this
                          exact this, HB5.out.setCell hbg2 _⟩
            case measure => simp [intOf] <;> omega
      | false =>
        have hbP : (decide (y ≤ x) == decide (r ≤ x)) = false := hP
        have HP : Hid (cut x r y = false) := hP
        clear hP he1
        go_wp2
        go_roundw
        case rel => exact ⟨e, j, (j : Int) - 1, y :: B, D, rfl, by go_num, rfl, by omega, ⟨by have := HL.out.1; simp; omega, HL.out.2⟩, by
                      have := HO.out
                      rw [HC.out] at this
                      show Owns _ _ _ _; simpa using this, by
                      show _ = _
                      have := HT.out
                      rw [HC.out, List.reverse_append, List.reverse_singleton, List.singleton_append, back, if_neg (by rw [HP.out]; simp)] at this
                      exact this, HB⟩
        case measure => simp [intOf] <;> omega
    · obtain rfl : k = 0 := by omega
      obtain rfl : iv = -1 := by have := HI.out; omega
      go_wp2
      go_end0
      refine ⟨rfl, ?_, HB.out⟩
      have := HT.out
      rw [List.take_zero, List.reverse_nil, back] at this
      rw [← this]
      have h5 := HO.out
      simpa using h5

end Go.Proofs.Ytnjbkiegeielhab
