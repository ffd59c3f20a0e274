/-
  The contract of perms.lastToFront: each block of the first n numbers of an owned row has its last letter in front.
-/
import Derived.Test.YtnjbkiegeielhabMLet
namespace Go.Proofs.Ytnjbkiegeielhab
open Go.RowKit

/-- 'copy' of nothing, as one step of a region that draws its order. -/
theorem step_copy_zero {ops : Array Oper} {o : Oper} {a : Act} {w : World} {K : Act → World → Prop} {Q : Exit → Act → World → Prop} {E : Prop} (hgd : o.guard = none) (d s : Operand)
    (ho : o.op = .call { callee := .builtin .copy, args := #[d, s], argTypes := #[22, 22] }) (dp sp : Option Addr) (dLen dCap sLen sCap : Nat) (hd : a.eval d = .slice dp dLen dCap) (hs : a.eval s = .slice sp sLen sCap)
    (hk : Nat.min sLen dLen = 0) (h : K (a.put o.dst (.int .i64 0)) w) :
    if Region.wanted o (yielded ops a.tmps) = true then Oper.wp Try.prog o a w K Q else E := by
  have hw : Region.wanted o (yielded ops a.tmps) = true := by simp [Region.wanted, hgd]
  rw [if_pos hw]
  have hrun := run_copy_none (P := Try.prog) w 22 22 o.type 3 dp sp dLen dCap sLen sCap Try.underlying22 Try.sz3 hk
  unfold Oper.wp
  simp [execOp, ho, resolve, invoke, builtin, hd, hs, hrun, Result.andThen]
  exact h

theorem front_step (D B : List Int) (y : Int) (R : List Int) : (splice (D ++ B ++ y :: R) (D.length + 1) (((D ++ B ++ y :: R).drop D.length).take B.length)).set D.length y = D ++ y :: B ++ R := by
  have e1 : ((D ++ B ++ y :: R).drop D.length).take B.length = B := by simp
  rw [e1]
  unfold splice
  cases B with
  | nil =>
    have e2 : (D ++ [] ++ y :: R).take (D.length + 1) = D ++ [y] := by
      rw [List.append_assoc, List.take_append, List.take_of_length_le (by omega)]; simp
    have e3 : (D ++ [] ++ y :: R).drop (D.length + 1 + ([] : List Int).length) = R := by
      rw [show D.length + 1 + ([] : List Int).length = (D ++ ([] : List Int)).length + 1 by simp, List.drop_append]; simp
    rw [e2, e3]
    simp
  | cons b B =>
    have e2 : (D ++ b :: B ++ y :: R).take (D.length + 1) = D ++ [b] := by
      rw [List.append_assoc, List.take_append, List.take_of_length_le (by omega)]; simp
    have e3 : (D ++ b :: B ++ y :: R).drop (D.length + 1 + (b :: B).length) = R := by
      rw [show D.length + 1 + (b :: B).length = (D ++ b :: B).length + 1 by simp; omega, List.drop_append]; simp
    rw [e2, e3]
    simp

theorem front_getD (D B : List Int) (y : Int) (R : List Int) : (D ++ B ++ y :: R).getD (D.length + B.length) 0 = y := by
  rw [List.getD_eq_getElem?_getD, List.getElem?_append_right (by simp)]; simp

set_option maxHeartbeats 2000000 in
theorem lastToFront_own (g n cap N base : Nat) (zs : List Int) (x : Int) (w : World) (hO : Owns w base (.slice (some ⟨g, 0, none⟩) N cap) zs) (hN : Hid (N = zs.length)) (hn0 : 0 < n) (hn : n ≤ zs.length) (h40 : zs.length ≤ 40) :
    Calls Try.prog 50 #[.slice (some ⟨g, 0, none⟩) n cap, .int .i64 x] w fun e w' => e = .returned (.tuple #[]) ∧ Owns w' base (.slice (some ⟨g, 0, none⟩) N cap) (fwd x (zs.take n) ++ zs.drop n) ∧ Below base w w' := by
  obtain ⟨hbg, hfz, hcl⟩ := hO.at hN.out
  have hcap : n ≤ cap := by
    obtain ⟨_, _, _, _, h, _⟩ := hO.block hN.out
    have := hN.out; omega
  obtain ⟨m, hm⟩ : ∃ m, m = n - 1 := ⟨_, rfl⟩
  have hmw : IntKind.i64.wrap ((n : Int) - 1) = (m : Int) := by rw [IntWalk.i64_left, IntWalk.wrap64_in _ (by omega)]; omega
  have hcm := hcl m (by omega)
  obtain ⟨r, HR⟩ : ∃ r, Hid (r = zs.getD m 0) := ⟨_, rfl⟩
  rw [← HR.out] at hcm
  have HF : Hid (fwd x (zs.take n) = turn (cut x r) [] (zs.take n)) := by
    show _ = _; unfold fwd; rw [take_last hn0 hn, HR.out, hm]
  have hmn : m < n := by omega
  clear hm hcl
  have hOw : Hid (Owns w base (.slice (some ⟨g, 0, none⟩) N cap) zs) := hO
  clear hO
  go_enter Try.func50, Try.ntmps50
  go_wp2
  go_loopw [5, 18] (fun st i wr => ∃ (s k : Nat) (D B : List Int), st = .int .i64 s ∧ i = .int .i64 k ∧ k ≤ n ∧ Hid (D.length = s ∧ s + B.length = k) ∧ Hid (Owns wr base (.slice (some ⟨g, 0, none⟩) N cap) (D ++ B ++ zs.drop k)) ∧ Hid (D ++ turn (cut x r) B ((zs.take n).drop k) = fwd x (zs.take n)) ∧ Hid (Below base w wr)) (fun _ i _ => n - (intOf i).toNat)
  case atStart => exact ⟨0, 0, [], [], rfl, rfl, Nat.zero_le _, ⟨rfl, rfl⟩, by show Owns _ _ _ _; simpa using hOw.out, by show _ = _; simp [HF.out], Below.refl _ _⟩
  case round =>
    obtain ⟨s, k, D, B, rfl, rfl, hk, HL, HO, HT, HB⟩ := hrel
    by_cases hlt : k < n
    · have hlt' : (k : Int) < (n : Int) := by omega
      have hlz : k < zs.length := by omega
      obtain ⟨y, HY⟩ : ∃ y, Hid (y = zs.getD k 0) := ⟨_, rfl⟩
      have HC : Hid (zs.drop k = y :: zs.drop (k + 1)) := by show _ = _; rw [HY.out]; exact drop_cons zs k hlz
      have HC2 : Hid ((zs.take n).drop k = y :: (zs.take n).drop (k + 1)) := by
        show _ = _; rw [drop_cons _ _ (by rw [List.length_take]; omega)]
        congr 1
        rw [HY.out]; simp [List.getD, hlt]
      have hLen : Hid ((D ++ B ++ zs.drop k).length = zs.length) := by
        have := HL.out; show _ = _; simp; omega
      have hks : s ≤ k := by have := HL.out; omega
      obtain ⟨hbg2, hfz2, hcl2⟩ := HO.out.at (by rw [hN.out, hLen.out])
      have hck := hcl2 k (by rw [hLen.out]; exact hlz)
      have hyk : (D ++ B ++ zs.drop k).getD k 0 = y := by
        rw [HC.out]
        have := front_getD D B y (zs.drop (k + 1))
        rw [HL.out.1, HL.out.2] at this; exact this
      rw [hyk] at hck
      have hfs := hfz2 s
      clear hcl2 hfz2 hyk
      cases hP : cut x r y with
      | true =>
        have hbP : (decide (y ≤ x) == decide (r ≤ x)) = true := hP
        have HP : Hid (cut x r y = true) := hP
        obtain ⟨s1, hs1⟩ : ∃ s1, s1 = s + 1 := ⟨_, rfl⟩
        obtain ⟨k1, hk1⟩ : ∃ k1, k1 = k + 1 := ⟨_, rfl⟩
        have hw1 : IntKind.i64.wrap ((s : Int) + 1) = (s1 : Int) := by rw [IntWalk.i64_left, IntWalk.wrap64_in _ (by omega)]; omega
        have hw2 : IntKind.i64.wrap ((k : Int) + 1) = (k1 : Int) := by rw [IntWalk.i64_left, IntWalk.wrap64_in _ (by omega)]; omega
        have b1 : s1 ≤ k1 := by omega
        have b2 : k1 ≤ cap := by omega
        have b3 : s1 ≤ cap := by omega
        have b4 : k ≤ cap := by omega
        have b5 : s < cap := by omega
        have b6 : s < n := by omega
        have hsn : (s : Int) < (n : Int) := by omega
        have HK1 : Hid (k1 = k + 1) := hk1
        have HS1 : Hid (s1 = s + 1) := hs1
        clear hk1 hs1 hP
        by_cases hcs : cap = s1
        · obtain rfl : s = k := by have := HK1.out; have := HS1.out; omega
          subst hcs
          have hB0 : Hid (B = []) := List.eq_nil_of_length_eq_zero (by have := HL.out; omega)
          obtain ⟨u, hu⟩ : ∃ u, wr.cell? ⟨g, s, none⟩ = some (.int .i64 u) := ⟨_, hck⟩
          have q1 : Hid (Nat.min (s - s) (k1 - cap) = 0) := by show min _ _ = _; omega
          go_wp2_with fail
          go_region_law (refine step_copy_zero rfl (.tmp 33) (.tmp 37) rfl (some ⟨g, 0, none⟩) (some ⟨g, s, none⟩) (k1 - cap) 0 (s - s) (cap - s) (by first | (simp [Act.eval]; done) | (simp [Act.eval, Act.put]; done) | (simp [Act.eval, Act.put]; omega)) (by first | (simp [Act.eval]; done) | (simp [Act.eval, Act.put]; done) | (simp [Act.eval, Act.put]; omega)) q1.out ?_)
          go_wp2
          go_roundw
          case rel => exact ⟨k1, k1, D ++ y :: B, [], rfl, rfl, by have := HK1.out; omega, ⟨by have := HL.out; have := HK1.out; simp; omega, rfl⟩, by
                        rw [HK1.out]
                        show Owns _ _ _ _
                        have h5 : Owns (wr.setCell ⟨g, s, none⟩ (.int .i64 y)).drew base (.slice (some ⟨g, 0, none⟩) N cap) ((D ++ B ++ zs.drop s).set s y) := (HO.out.store (by rw [hLen.out]; exact hN.out) s y).below (below_drewN (Below.refl _ _) 1)
                        rw [HC.out, hB0.out, List.append_nil] at h5
                        have h6 : (D ++ y :: zs.drop (s + 1)).set s y = D ++ y :: zs.drop (s + 1) := by
                          rw [← HL.out.1]; simp
                        rw [h6] at h5
                        rw [hB0.out]
                        simpa using h5, by
                        rw [HK1.out]
                        show _ = _
                        have := HT.out
                        rw [HC2.out, turn, if_pos (by rw [HP.out])] at this
                        simpa using this, (HB.out.setCell hbg2 _).trans (below_drewN (Below.refl _ _) 1)⟩
          case measure => have := HK1.out; simp [intOf]; omega
        · have hcs' : (cap == s1) = false := by simpa using hcs
          by_cases hks0 : s = k
          · subst hks0
            obtain rfl : s1 = k1 := by have := HK1.out; have := HS1.out; omega
            have hB0 : Hid (B = []) := List.eq_nil_of_length_eq_zero (by have := HL.out; omega)
            obtain ⟨u, hu⟩ : ∃ u, wr.cell? ⟨g, s, none⟩ = some (.int .i64 u) := ⟨_, hck⟩
            have q1 : Hid (Nat.min (s - s) (s1 - s1) = 0) := by show min _ _ = _; omega
            go_wp2_with fail
            go_region_law (refine step_copy_zero rfl (.tmp 33) (.tmp 37) rfl (some ⟨g, s1, none⟩) (some ⟨g, s, none⟩) (s1 - s1) (cap - s1) (s - s) (cap - s) (by first | (simp [Act.eval]; done) | (simp [Act.eval, Act.put]; done) | (simp [Act.eval, Act.put]; omega)) (by first | (simp [Act.eval]; done) | (simp [Act.eval, Act.put]; done) | (simp [Act.eval, Act.put]; omega)) q1.out ?_)
            go_wp2
            go_roundw
            case rel => exact ⟨s1, s1, D ++ y :: B, [], rfl, rfl, by have := HS1.out; omega, ⟨by have := HL.out; have := HS1.out; simp; omega, rfl⟩, by
                          rw [HS1.out]
                          show Owns _ _ _ _
                          have h5 : Owns (wr.setCell ⟨g, s, none⟩ (.int .i64 y)).drew base (.slice (some ⟨g, 0, none⟩) N cap) ((D ++ B ++ zs.drop s).set s y) := (HO.out.store (by rw [hLen.out]; exact hN.out) s y).below (below_drewN (Below.refl _ _) 1)
                          rw [HC.out, hB0.out, List.append_nil] at h5
                          have h6 : (D ++ y :: zs.drop (s + 1)).set s y = D ++ y :: zs.drop (s + 1) := by
                            rw [← HL.out.1]; simp
                          rw [h6] at h5
                          rw [hB0.out]
                          simpa using h5, by
                          rw [HS1.out]
                          show _ = _
                          have := HT.out
                          rw [HC2.out, turn, if_pos (by rw [HP.out])] at this
                          simpa using this, (HB.out.setCell hbg2 _).trans (below_drewN (Below.refl _ _) 1)⟩
            case measure => have := HS1.out; simp [intOf]; omega
          · have HO2 : Hid (Owns wr.drew base (.slice (some ⟨g, 0, none⟩) N cap) (D ++ B ++ zs.drop k)) := HO.out.below (below_drewN (Below.refl _ _) 1)
            have q1 : Hid (k - s = Nat.min (k - s) (k1 - s1)) := by
              have := HK1.out; have := HS1.out; show _ = min _ _; omega
            have q2 : Hid (s1 + (k - s) ≤ (D ++ B ++ zs.drop k).length) := by
              have := HS1.out; have := hLen.out; show _ ≤ _; omega
            have q3 : Hid (s + (k - s) ≤ (D ++ B ++ zs.drop k).length) := by
              have := hLen.out; show _ ≤ _; omega
            have q4 : Hid (N = (D ++ B ++ zs.drop k).length) := by show _ = _; rw [hLen.out]; exact hN.out
            go_wp2_with fail
            go_region_law (refine step_copy_in rfl (.tmp 33) (.tmp 37) rfl s1 s (k1 - s1) (cap - s1) (k - s) (cap - s) (k - s) (by first | (simp [Act.eval]; done) | (simp [Act.eval, Act.put]; done) | (simp [Act.eval, Act.put]; omega)) (by first | (simp [Act.eval]; done) | (simp [Act.eval, Act.put]; done) | (simp [Act.eval, Act.put]; omega)) q1.out q2.out q3.out HO2.out q4.out ?_; intro w4 HO4 HB4)
            have HO5 : Hid (Owns w4 base (.slice (some ⟨g, 0, none⟩) N cap) (splice (D ++ B ++ zs.drop k) s1 (((D ++ B ++ zs.drop k).drop s).take (k - s)))) := HO4
            have HB5 : Hid (Below base w w4) := HB.out.trans ((below_drewN (Below.refl _ _) 1).trans HB4)
            have hl4 : Hid (N = (splice (D ++ B ++ zs.drop k) s1 (((D ++ B ++ zs.drop k).drop s).take (k - s))).length) := by
              show _ = _
              rw [length_splice _ _ _ (by rw [List.length_take, List.length_drop]; have := q2.out; omega)]; exact q4.out
            have hfs4 := (HO5.out.at hl4.out).2.1 s
            have hcu4 := (HO5.out.at hl4.out).2.2 s (by rw [← hl4.out, hN.out]; omega)
            obtain ⟨u, hu⟩ : ∃ u, w4.cell? ⟨g, s, none⟩ = some (.int .i64 u) := ⟨_, hcu4⟩
            clear HO4 HB4 hcu4
            go_wp2
            go_roundw
            case rel => exact ⟨k1, k1, D ++ y :: B, [], rfl, rfl, by have := HK1.out; omega, ⟨by have := HL.out; have := HK1.out; simp; omega, rfl⟩, by
                          rw [HK1.out]
                          show Owns _ _ _ _
                          have h5 := HO5.out.store hl4.out s y
                          have h6 := front_step D B y (zs.drop (k + 1))
                          rw [HL.out.1] at h6
                          rw [HC.out, HS1.out, show k - s = B.length by have := HL.out.2; omega, h6] at h5
                          simpa using h5, by
                          rw [HK1.out]
                          show _ = _
                          have := HT.out
                          rw [HC2.out, turn, if_pos (by rw [HP.out])] at this
                          simpa using this, HB5.out.setCell hbg2 _⟩
            case measure => have := HK1.out; simp [intOf]; omega
      | false =>
        have hbP : (decide (y ≤ x) == decide (r ≤ x)) = false := hP
        have HP : Hid (cut x r y = false) := hP
        clear hP
        go_wp2
        go_roundw
        case rel => exact ⟨s, k + 1, D, B ++ [y], rfl, by go_num, by omega, ⟨HL.out.1, by have := HL.out.2; simp; omega⟩, by
                      have := HO.out
                      rw [HC.out] at this
                      show Owns _ _ _ _; simpa using this, by
                      show _ = _
                      have := HT.out
                      rw [HC2.out, turn, if_neg (by rw [HP.out]; simp)] at this
                      exact this, HB⟩
        case measure => simp [intOf]; omega
    · go_wp2
      go_end0
      refine ⟨rfl, ?_, HB.out⟩
      obtain rfl : k = n := by omega
      have := HT.out
      rw [List.drop_of_length_le (by rw [List.length_take]; omega), turn] at this
      rw [← this]; exact HO.out

end Go.Proofs.Ytnjbkiegeielhab
