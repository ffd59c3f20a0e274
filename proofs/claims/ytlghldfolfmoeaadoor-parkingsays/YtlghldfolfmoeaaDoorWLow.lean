/-
  The contract of wide.lowered.
-/
import Derived.Test.YtlghldfolfmoeaaDoorWGcd
import Derived.Test.YtlghldfolfmoeaaDoorHLow
import Derived.Test.YtlghldfolfmoeaaDoorCCst
import Derived.Test.YtlghldfolfmoeaaDoorBOwn
namespace Go.Proofs.YtlghldfolfmoeaaDoor
open Go.RowKit

theorem castL_app (l m : List Nat) : castL (l ++ m) = castL l ++ castL m := by simp [castL]
theorem castL_set (l : List Nat) (i x : Nat) : castL (l.set i x) = (castL l).set i (x : Int) := by simp [castL, List.map_set]
/-- The numbers, i of them lowered. -/
def lwI (d : Nat) (L : List Nat) (i : Nat) : List Nat := (lwd d (L.take i)).1 ++ L.drop i
def lwD (d : Nat) (L : List Nat) (i : Nat) : Nat := (lwd d (L.take i)).2
theorem lwI_len (d : Nat) (L : List Nat) {i : Nat} (h : i ≤ L.length) : (lwI d L i).length = L.length := by
  unfold lwI; rw [List.length_append, lwd_len, List.length_take, List.length_drop]; omega
theorem lwI_at (d : Nat) (L : List Nat) {i : Nat} (h : i < L.length) : (lwI d L i).getD i 0 = L.getD i 0 := by
  unfold lwI
  have hl : (lwd d (L.take i)).1.length = i := by rw [lwd_len, List.length_take]; omega
  simp only [List.getD]
  rw [List.getElem?_append_right (by omega), hl, Nat.sub_self, List.getElem?_drop, Nat.add_zero]
theorem take_snocN (L : List Nat) {i : Nat} (h : i < L.length) : L.take (i + 1) = L.take i ++ [L.getD i 0] := by
  rw [List.take_succ_eq_append_getElem h]; simp [List.getD, h]
theorem lwI_set (d : Nat) (L : List Nat) {i : Nat} (h : i < L.length) : (lwI d L i).set i (L.getD i 0 / Nat.gcd (L.getD i 0) (lwD d L i)) = lwI d L (i + 1) := by
  have hl : (lwd d (L.take i)).1.length = i := by rw [lwd_len, List.length_take]; omega
  unfold lwI lwD
  rw [take_snocN L h, lwd_app]
  simp only [lwd]
  rw [List.set_append_right _ _ (by omega), hl, Nat.sub_self, List.append_assoc]
  congr 1
  have e : L.drop i = L.getD i 0 :: L.drop (i + 1) := by rw [List.drop_eq_getElem_cons h]; simp [List.getD, h]
  rw [e]; rfl
theorem lwD_succ (d : Nat) (L : List Nat) {i : Nat} (h : i < L.length) : lwD d L (i + 1) = lwD d L i / Nat.gcd (L.getD i 0) (lwD d L i) := by
  unfold lwD
  rw [take_snocN L h, lwd_app]
  rfl

set_option maxHeartbeats 4000000 in
set_option maxRecDepth 100000 in
theorem lowered_at (a0 a1 : Option Addr) (n0 c0 n1 c1 : Nat) (ov un : List Nat) (w : World) (hs0 : Shows w a0 (castL ov)) (hs1 : Shows w a1 (castL un)) (hn0 : n0 = ov.length) (hn1 : n1 = un.length) (hl0 : ov.length ≤ 100000) (hl1 : un.length ≤ 100000) (hz0 : ∀ z ∈ ov, z ≤ 1000) (hz1 : ∀ z ∈ un, 0 < z ∧ z ≤ 1000) :
    Calls Tryd.prog 28 #[.slice a0 n0 c0, .slice a1 n1 c1] w fun e w' => ∃ v, e = .returned v ∧ Owns w' w.heap.size v (castL (lows un ov)) ∧ Below w.heap.size w w' := by
  have hcl : (castL ov).length = n0 := by rw [castL_len, hn0]
  have HS1 : Hid (Shows w a1 (castL un)) := hs1
  have HN0 : Hid (n0 = ov.length) := hn0
  have HN1 : Hid (n1 = un.length) := hn1
  have HZ0 : Hid (∀ z ∈ ov, z ≤ 1000) := hz0
  have HZ1 : Hid (∀ z ∈ un, 0 < z ∧ z ≤ 1000) := hz1
  have hb0 : n0 ≤ 100000 := by rw [hn0]; exact hl0
  have hb1 : n1 ≤ 100000 := by rw [hn1]; exact hl1
  clear hz0 hz1 hs1 hl0 hl1 hn0 hn1
  obtain ⟨i0, hi, hz0, hz1, hz2⟩ := info_parts Tryd.info3
  go_enter Tryd.func28, Tryd.ntmps28
  go_wp2_with (at_make; refine wpList_make_full _ rfl _ _ 22 rfl w.heap.size 3 i0 (.int .i64 0) 1 Tryd.underlying22 hi hz0 hz1 _ _ _ _ n0 rfl rfl rfl rfl ?b1 ?b2 ?b3 ?_)
  case b1 => rw [hz2]; omega
  case b2 => unfold maxLen; omega
  case b3 => exact Nat.le_refl _
  intro w1 hown hgrow
  have hbb1 : Below w.heap.size w w1 := (Below.refl _ _).grown hgrow (Nat.le_refl _) (fun k h => by cases h)
  have hrow : w1.heap[w.heap.size]? = some (.cells (List.replicate (castL ov).length (Value.int .i64 0)).toArray 3 (0, 0)) := by
    rw [hcl]
    rcases hown.2 with ⟨h2, _⟩ | ⟨g', cap', cur, hv, hg, hh, h4, h5, h6, h7⟩
    · cases h2
    · simp only [Value.slice.injEq, Option.some.injEq, Addr.mk.injEq, and_true, true_and] at hv
      obtain ⟨rfl, rfl⟩ := hv
      rw [hh]
      have e0 : cur.toList = List.replicate n0 (Value.int .i64 0) := by
        rw [← toList_madeCells_one, List.take_of_length_le (by simp [h6])] at *
        rw [h7]
        try simp [Value.cells]
      rw [← e0]
  have hs1 := hs0.below hbb1
  obtain ⟨w2, hrun, HR2, hb2⟩ := run_copy_all (cap := c0) hs1 hrow hbb1 (Nat.le_refl _)
  rw [hcl] at hrun
  have HO2 : Hid (Owns w2 w.heap.size (.slice (some ⟨w.heap.size, 0, none⟩) n0 n0) (castL ov)) := owns_of_row (Nat.le_refl _) HR2.out hcl.symm (by omega)
  have HB2 : Hid (Below w.heap.size w w2) := hb2
  clear hrow hown hgrow hs1 hbb1 hb2 HR2 hs0 hz0 hz1 hz2 hi hcl
  go_wp2_with fail
  go_loopw [19] (fun kv wr => ∃ k : Nat, k ≤ n1 ∧ kv = .int .i64 (k : Int) ∧ Hid (Owns wr w.heap.size (.slice (some ⟨w.heap.size, 0, none⟩) n0 n0) (castL (lows (un.take k) ov))) ∧ Hid (Below w.heap.size w wr)) (fun kv _ => n1 - (intOf kv).toNat)
  case atStart => exact ⟨0, Nat.zero_le _, rfl, HO2, HB2⟩
  case round =>
    clear HO2 HB2
    obtain ⟨k, hk, rfl, HO, HB⟩ := hrel
    by_cases hlt : k < n1
    · have hlt' : (k : Int) < (n1 : Int) := by omega
      obtain ⟨b1, o1, ha1, hcd⟩ := (HS1.out.below HB.out).nat (i := k) (by rw [← HN1.out]; exact hlt)
      subst ha1
      obtain ⟨d0, HD0⟩ : ∃ d0, Hid (d0 = un.getD k 0) := ⟨_, rfl⟩
      rw [← HD0.out] at hcd
      obtain ⟨L, HL⟩ : ∃ L, Hid (L = lows (un.take k) ov) := ⟨_, rfl⟩
      have HLl : Hid (L.length = n0) := by show _ = _; rw [HL.out, lows_len, HN0.out]
      have HLz : Hid (∀ z ∈ L, z ≤ 1000) := by rw [HL.out]; exact lows_le _ _ _ HZ0.out
      have hd0 : 0 < d0 ∧ d0 ≤ 1000 := by rw [HD0.out]; exact HZ1.out _ (by have : k < un.length := by rw [← HN1.out]; exact hlt
                                                                            simp [List.getD, this])
      have HO1 : Hid (Owns wr w.heap.size (.slice (some ⟨w.heap.size, 0, none⟩) n0 n0) (castL (lwI d0 L 0))) := by
        have h := HO.out
        rw [← HL.out] at h
        show Owns _ _ _ _
        rw [show lwI d0 L 0 = L by simp [lwI, lwd]]
        exact h
      go_wp2_with fail
      go_loopw [7, 25] (fun dv iv wr => ∃ i d : Nat, i ≤ n0 ∧ iv = .int .i64 (i : Int) ∧ dv = .int .i64 (d : Int) ∧ 0 < d ∧ d ≤ 1000 ∧ Hid (d = lwD d0 L i) ∧ Hid (Owns wr w.heap.size (.slice (some ⟨w.heap.size, 0, none⟩) n0 n0) (castL (lwI d0 L i))) ∧ Hid (Below w.heap.size w wr)) (fun _ iv _ => n0 - (intOf iv).toNat)
      case atStart => exact ⟨0, d0, Nat.zero_le _, rfl, rfl, hd0.1, hd0.2, rfl, HO1, HB⟩
      case round =>
        clear HO HB HO1 hcd
        obtain ⟨i, d, hi, rfl, rfl, hd1, hd2, HD, HOi, HBi⟩ := hrel
        by_cases hlti : i < n0
        · have hlti' : (i : Int) < (n0 : Int) := by omega
          obtain ⟨f, HF⟩ : ∃ f, Hid (f = L.getD i 0) := ⟨_, rfl⟩
          have hiL : i < L.length := by rw [HLl.out]; exact hlti
          have hf : f ≤ 1000 := by rw [HF.out]; exact getD_le HLz.out i
          obtain ⟨g2, cap2, hv2, hg2, hgs, hfr, hce⟩ := HOi.out.head (by rw [castL_len, lwI_len _ _ (by omega), HLl.out]; omega)
          simp only [Value.slice.injEq, Option.some.injEq, Addr.mk.injEq, and_true] at hv2
          obtain ⟨rfl, -, -⟩ := hv2
          have hcf : wr.cell? ⟨w.heap.size, i, none⟩ = some (.int .i64 (f : Int)) := by
            rw [hce i (by rw [castL_len, lwI_len _ _ (by omega)]; exact hiL), castL_at, lwI_at _ _ hiL, HF.out]
          have hff : wr.frozen? ⟨w.heap.size, i, none⟩ = false := hfr i
          obtain ⟨cm, HC⟩ : ∃ cm, Hid (cm = Nat.gcd f d) := ⟨_, rfl⟩
          have hcm : 0 < cm ∧ cm ≤ 1000 := by
            rw [HC.out]
            exact ⟨Nat.gcd_pos_of_pos_right _ hd1, Nat.le_trans (Nat.le_of_dvd hd1 (Nat.gcd_dvd_right f d)) hd2⟩
          have HG := hid_g (gcd_at f d wr (by omega) (by omega))
          rw [← HC.out] at HG
          have hc0 : ¬ ((cm : Int) = 0) := by omega
          obtain ⟨fq, HFq⟩ : ∃ fq, Hid (fq = f / cm) := ⟨_, rfl⟩
          obtain ⟨dq, HDq⟩ : ∃ dq, Hid (dq = d / cm) := ⟨_, rfl⟩
          have hfq : fq ≤ 1000 := by rw [HFq.out]; exact Nat.le_trans (Nat.div_le_self _ _) hf
          have hdq : 0 < dq ∧ dq ≤ 1000 := by
            rw [HDq.out]
            refine ⟨Nat.div_pos ?_ hcm.1, Nat.le_trans (Nat.div_le_self _ _) hd2⟩
            rw [HC.out]; exact Nat.le_of_dvd hd1 (Nat.gcd_dvd_right f d)
          have ht1 : Int.tdiv (f : Int) (cm : Int) = (fq : Int) := by rw [HFq.out]; rfl
          have ht2 : Int.tdiv (d : Int) (cm : Int) = (dq : Int) := by rw [HDq.out]; rfl
          have HO3 : Hid (∀ W, Below wr.heap.size wr W → Owns (W.setCell ⟨w.heap.size, i, none⟩ (.int .i64 (fq : Int))) w.heap.size (.slice (some ⟨w.heap.size, 0, none⟩) n0 n0) (castL (lwI d0 L (i + 1)))) := fun W hW => by
            have h := (HOi.out.below hW).store (by rw [castL_len, lwI_len _ _ (by omega), HLl.out]) i (fq : Int)
            rw [← castL_set, HFq.out, HC.out, HF.out, HD.out, lwI_set _ _ hiL] at h
            rw [HFq.out, HC.out, HF.out, HD.out]
            exact h
          have HD2 : Hid (dq = lwD d0 L (i + 1)) := by show _ = _; rw [lwD_succ _ _ hiL, HDq.out, HC.out, HF.out, HD.out]
          clear hce hfr
          go_wp2_with fail
          refine HG.out.mono ?_
          rintro e w3 ⟨rfl, q, hw3⟩
          have HB3 : Hid (Below wr.heap.size wr w3) := by rw [hw3]; exact below_drewN (Below.refl _ _) q
          have hcf3 : w3.cell? ⟨w.heap.size, i, none⟩ = some (.int .i64 (f : Int)) := by rw [HB3.out.cell (p := ⟨w.heap.size, i, none⟩) hgs]; exact hcf
          have hff3 : w3.frozen? ⟨w.heap.size, i, none⟩ = false := by rw [HB3.out.frozen (p := ⟨w.heap.size, i, none⟩) hgs]; exact hff
          have HO4 := hid_g (HO3.out w3 HB3.out)
          have HB4 : Hid (Below w.heap.size w (w3.setCell ⟨w.heap.size, i, none⟩ (.int .i64 (fq : Int)))) := (HBi.out.trans (HB3.out.mono HBi.out.size)).setCell (p := ⟨w.heap.size, i, none⟩) (Nat.le_refl _) _
          clear hw3 hcf hff HG HO3 HOi
          go_wp2
          go_roundw
          case rel => exact ⟨i + 1, dq, by omega, by go_num, by first | rfl | (simp [ht2]; done), hdq.1, hdq.2, HD2, HO4, HB4⟩
          case measure => simp [intOf]; omega
        · obtain rfl : i = n0 := by omega
          have HO5 : Hid (Owns wr w.heap.size (.slice (some ⟨w.heap.size, 0, none⟩) i i) (castL (lows (un.take (k + 1)) ov))) := by
            have h := HOi.out
            have e1 : lwI d0 L i = (lwd d0 L).1 := by unfold lwI; rw [List.take_of_length_le (by rw [HLl.out]; exact Nat.le_refl _), List.drop_of_length_le (by rw [HLl.out]; exact Nat.le_refl _), List.append_nil]
            show Owns _ _ _ _
            rw [e1] at h
            rw [take_snocN un (by rw [← HN1.out]; exact hlt), lows_app, ← HL.out, ← HD0.out]
            exact h
          go_wp2
          go_roundw
          case rel => exact ⟨k + 1, by omega, by go_num, HO5, HBi⟩
          case measure => simp [intOf]; omega
    · obtain rfl : k = n1 := by omega
      have HO5 : Hid (Owns wr w.heap.size (.slice (some ⟨w.heap.size, 0, none⟩) n0 n0) (castL (lows un ov))) := by
        have h := HO.out
        rw [List.take_of_length_le (by rw [← HN1.out]; exact Nat.le_refl _)] at h
        exact h
      go_wp2
      go_ret
      exact ⟨_, rfl, HO5.out, HB.out⟩

end Go.Proofs.YtlghldfolfmoeaaDoor
