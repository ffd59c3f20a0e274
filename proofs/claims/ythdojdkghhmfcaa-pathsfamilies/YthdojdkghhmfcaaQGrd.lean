/-
  ferref.IsGrid, Sides, IsOrder.
-/
import Derived.Test.YthdojdkghhmfcaaQLam
import Derived.Test.YthdojdkghhmfcaaQPtc
namespace Go.Proofs.Ythdojdkghhmfcaa
open Go.RowKit

set_option maxHeartbeats 4000000 in
theorem IsOrder_at (a : Option Addr) (n c : Nat) (zs : List Int) (w : World) (hn : n = zs.length) (h4 : n ≤ 4) (hS : Shows w a zs) (B : Bool) (hB : wyF n (fun _ => false) zs = B) :
    Calls Try.prog 10 #[.slice a n c] w fun e w' => e = .returned (.bool B) ∧ w' = w := by
  have HN : Hid (n = zs.length) := hn
  have HB : Hid (B = true ↔ ∀ v : Nat, v < zs.length → (v : Int) ∈ zs) := by
    rw [← hB, hn]; exact order_iff zs (by omega)
  have HC : Hid (∀ x, Calls Try.prog 21 #[.slice a n c, .int .i64 x] w fun e w' => e = .returned (.bool (decide (x ∈ zs))) ∧ w' = w) := fun x => by
    rw [hn]; exact Contains_any a c zs x w hS
  clear hn hS hB
  go_enter Try.func10, Try.ntmps10
  go_wp2_with fail
  go_loopw [3] (fun iv wr => ∃ i : Nat, i ≤ n ∧ iv = .int .i64 (i : Int) ∧ Hid (∀ v : Nat, v < i → (v : Int) ∈ zs) ∧ wr = w) (fun iv _ => n - (intOf iv).toNat)
  case atStart => exact ⟨0, Nat.zero_le _, rfl, fun v hv => absurd hv (by omega), rfl⟩
  case round =>
    obtain ⟨i, hi, rfl, HA, rfl⟩ := hrel
    by_cases hlt : i < n
    · have hlt' : (i : Int) < (n : Int) := by omega
      by_cases hm : (i : Int) ∈ zs
      · have HA2 : Hid (∀ v : Nat, v < i + 1 → (v : Int) ∈ zs) := fun v hv => by
          by_cases e : v = i
          · rw [e]; exact hm
          · exact HA.out v (by omega)
        have HCi : Hid (Calls Try.prog 21 #[.slice a n c, .int .i64 (i : Int)] wr fun e w' => e = .returned (.bool true) ∧ w' = wr) := by
          have h := HC.out (i : Int)
          rw [decide_eq_true hm] at h; exact h
        clear hm
        go_wp2_with (go_at_call 21; with_reducible (refine HCi.out.mono ?_); rintro e w1 ⟨rfl, rfl⟩)
        go_roundw
        case rel => exact ⟨i + 1, by omega, by go_num, HA2, by first | rfl | trivial⟩
        case measure => simp [intOf]; omega
      · have hE : B = false := by
          cases hb : B with
          | false => rfl
          | true => exact absurd ((HB.out.1 hb) i (by rw [← HN.out]; exact hlt)) hm
        have HCi : Hid (Calls Try.prog 21 #[.slice a n c, .int .i64 (i : Int)] wr fun e w' => e = .returned (.bool false) ∧ w' = wr) := by
          have h := HC.out (i : Int)
          rw [decide_eq_false hm] at h; exact h
        subst hE
        clear hm HB
        go_wp2_with (go_at_call 21; with_reducible (refine HCi.out.mono ?_); rintro e w1 ⟨rfl, rfl⟩)
        go_ret
        exact ⟨rfl, rfl⟩
    · obtain rfl : i = n := by omega
      have hlt' : ¬ ((i : Int) < (i : Int)) := by omega
      have hE : B = true := HB.out.2 (fun v hv => HA.out v (by rw [HN.out]; exact hv))
      subst hE
      clear HB
      go_wp2_with fail
      go_ret
      exact ⟨rfl, rfl⟩

set_option maxHeartbeats 8000000 in
set_option maxRecDepth 100000 in
theorem IsGrid_at (gw gh : Int) (ba : Option Addr) (n c : Nat) (bs : List (Int × Int)) (w : World) (hn : n = bs.length) (hl : n ≤ 17592186044416) (hP : PtI w ba bs) (B : Bool) (hB : (!badD gw gh && gdL gw gh bs) = B) :
    Calls Try.prog 19 #[.agg #[.int .i64 gw, .int .i64 gh, .slice ba n c]] w fun e w' => e = .returned (.bool B) ∧ Hid (Below w.heap.size w w') := by
  have HN : Hid (n = bs.length) := hn
  have HP : Hid (PtI w ba bs) := hP
  have HB : Hid ((!badD gw gh && gdL gw gh bs) = B) := hB
  obtain ⟨dm, HD⟩ : ∃ dm, Hid (dm = !badD gw gh) := ⟨_, rfl⟩
  obtain ⟨Q, HQ⟩ : ∃ Q, Hid (Q = w.heap.size) := ⟨_, rfl⟩
  obtain ⟨W0, HW0⟩ : ∃ W0, Hid (W0 = w.alloc (.cells #[.int .i64 gw, .int .i64 gh, .slice ba n c] 24)) := ⟨_, rfl⟩
  have HB0 : Hid (Below w.heap.size w W0) := by rw [HW0.out]; exact (Below.refl _ _).alloc (Nat.le_refl _) _
  have HQb : Hid (W0.heap[Q]? = some (.cells #[.int .i64 gw, .int .i64 gh, .slice ba n c] 24 (0, 0))) := by
    show _ = _
    rw [HW0.out, HQ.out]; exact heap_alloc_last _ _
  have q0 : W0.cell? ⟨Q, 0, none⟩ = some (.int .i64 gw) := by rw [cell_of_row W0 Q 0 _ _ _ HQb.out]; rfl
  have q1 : W0.cell? ⟨Q, 1, none⟩ = some (.int .i64 gh) := by rw [cell_of_row W0 Q 1 _ _ _ HQb.out]; rfl
  clear hn hP hB
  go_enter Try.func19, Try.ntmps19
  go_upto_region 1 with fail
  rw [← HQ.out, ← HW0.out]
  go_cut [3] (fun s3 wx => s3 = .bool dm ∧ Hid (wx = W0))
  case first =>
    by_cases h1 : gw > 0
    · by_cases h2 : gw ≤ 8
      · by_cases h3 : gh > 0
        · by_cases h4 : gh ≤ 8
          · have hE : dm = true := by rw [HD.out]; unfold badD; simp; omega
            subst hE
            go_wp2_with fail
            go_meet
            exact ⟨by first | rfl | (simp; omega), rfl⟩
          · have hE : dm = false := by rw [HD.out]; unfold badD; simp; omega
            subst hE
            go_wp2_with fail
            go_meet
            exact ⟨by first | rfl | (simp; omega), rfl⟩
        · have hE : dm = false := by rw [HD.out]; unfold badD; simp; omega
          subst hE
          go_wp2_with fail
          go_meet
          exact ⟨by first | rfl | (simp; omega), rfl⟩
      · have hE : dm = false := by rw [HD.out]; unfold badD; simp; omega
        subst hE
        go_wp2_with fail
        go_meet
        exact ⟨by first | rfl | (simp; omega), rfl⟩
    · have hE : dm = false := by rw [HD.out]; unfold badD; simp; omega
      subst hE
      go_wp2_with fail
      go_meet
      exact ⟨by first | rfl | (simp; omega), rfl⟩
  obtain ⟨rfl, HWx⟩ := hcut
  obtain rfl : W0 = wc := HWx.out.symm
  clear HWx q0 q1
  go_wp2_with fail
  go_loopw [3, 4] (fun ov iv wr => ∃ (i : Nat) (b : Bool), i ≤ n ∧ iv = .int .i64 (i : Int) ∧ ov = .bool b ∧ Hid (b = (dm && gdL gw gh (bs.take i))) ∧ Hid (Below w.heap.size w wr) ∧ Hid (wr.heap[Q]? = some (.cells #[.int .i64 gw, .int .i64 gh, .slice ba n c] 24 (0, 0)))) (fun _ iv _ => n - (intOf iv).toNat)
  case atStart => exact ⟨0, dm, Nat.zero_le _, rfl, rfl, by show _ = _; unfold gdL; simp, HB0, HQb⟩
  case round =>
    obtain ⟨i, b, hi, rfl, rfl, HBb, HBr, HQr⟩ := hrel
    cases b with
    | false =>
      have hE : B = false := by
        rw [← HB.out, ← HD.out]
        have h := HBb.out
        cases hd : dm with
        | false => rfl
        | true =>
          rw [hd] at h
          cases hg : gdL gw gh bs with
          | false => rfl
          | true => rw [gdL_take i hg] at h; cases h
      subst hE
      clear HB
      go_wp2_with fail
      go_ret
      exact ⟨rfl, HBr⟩
    | true =>
      have q2 : wr.cell? ⟨Q, 2, none⟩ = some (.slice ba n c) := by rw [cell_of_row wr Q 2 _ _ _ HQr.out]; rfl
      by_cases hlt : i < n
      · have hlt' : (i : Int) < (n : Int) := by omega
        have hiz : i < bs.length := by rw [← HN.out]; exact hlt
        obtain ⟨x, y, HXY⟩ : ∃ x y, Hid (bs.getD i (0, 0) = (x, y)) := ⟨_, _, rfl⟩
        have HTk : Hid (bs.take (i + 1) = bs.take i ++ [(x, y)]) := by
          show _ = _
          rw [List.take_add_one, ← HXY.out]; simp [List.getD, hiz]
        obtain ⟨bb, bo, ha, hbl, k0, k1⟩ := (HP.out.below HBr.out) i hiz
        subst ha
        rw [HXY.out] at k0 k1
        have k0' : wr.drew.cell? ⟨bb, bo + i * 2, none⟩ = some (.int .i64 x) := k0
        have k1' : wr.drew.cell? ⟨bb, bo + i * 2 + 1, none⟩ = some (.int .i64 y) := k1
        have p0 : wr.drew.cell? ⟨Q, 0, none⟩ = some (.int .i64 gw) := by rw [cell_of_row wr.drew Q 0 _ _ _ HQr.out]; rfl
        have p1 : wr.drew.cell? ⟨Q, 1, none⟩ = some (.int .i64 gh) := by rw [cell_of_row wr.drew Q 1 _ _ _ HQr.out]; rfl
        have p2 : wr.drew.cell? ⟨Q, 2, none⟩ = some (.slice (some ⟨bb, bo, none⟩) n c) := by rw [cell_of_row wr.drew Q 2 _ _ _ HQr.out]; rfl
        obtain ⟨b1, HB1⟩ : ∃ b1, Hid (inG gw gh (x, y) = b1) := ⟨_, rfl⟩
        have HC : Hid (Calls Try.prog 12 #[.agg #[.int .i64 gw, .int .i64 gh, .slice (some ⟨bb, bo, none⟩) n c], .agg #[.int .i64 x, .int .i64 y]] wr.drew fun e w' => e = .returned (.bool b1) ∧ Hid (Below wr.drew.heap.size wr.drew w')) := In_at gw gh _ x y wr.drew b1 HB1.out
        go_upto_region 5 with fail
        clear k0 k1 q2
        go_cut [3] (fun s3 wx => s3 = .bool b1 ∧ Hid (Below wr.heap.size wr wx))
        case first =>
          first
            | go_region_with (go_at_call 12; with_reducible (refine HC.out.mono ?_); rintro e W1 ⟨rfl, HBw⟩)
            | fail
          all_goals (
            go_wp2_with fail
            go_meet
            exact ⟨rfl, (below_drewN (Below.refl _ _) 1).trans HBw.out⟩)
        obtain ⟨rfl, HBc⟩ := hcut
        clear HC k0' k1' p0 p1 p2
        have HBcw : Hid (Below w.heap.size w wc) := HBr.out.trans (HBc.out.mono HBr.out.size)
        have HQc : Hid (wc.heap[Q]? = some (.cells #[.int .i64 gw, .int .i64 gh, .slice (some ⟨bb, bo, none⟩) n c] 24 (0, 0))) := by show _ = _; rw [HBc.out.block Q (lt_of_some HQr.out)]; exact HQr.out
        go_wp2_with fail
        go_loopw [3, 5] (fun ov kv wz => ∃ (k : Nat) (b : Bool), k ≤ i ∧ kv = .int .i64 (k : Int) ∧ ov = .bool b ∧ Hid (b = (b1 && decide ((x, y) ∉ bs.take k))) ∧ Hid (Below w.heap.size w wz) ∧ Hid (wz.heap[Q]? = some (.cells #[.int .i64 gw, .int .i64 gh, .slice (some ⟨bb, bo, none⟩) n c] 24 (0, 0)))) (fun _ kv _ => i - (intOf kv).toNat)
        case atStart => exact ⟨0, b1, Nat.zero_le _, rfl, rfl, by show _ = _; simp, HBcw, HQc⟩
        case round =>
          obtain ⟨k, b, hk, rfl, rfl, HBk, HBz, HQz⟩ := hrel
          by_cases hlk : k < i
          · have hlk' : (k : Int) < (i : Int) := by omega
            have hkz : k < bs.length := by omega
            obtain ⟨x2, y2, HXY2⟩ : ∃ x2 y2, Hid (bs.getD k (0, 0) = (x2, y2)) := ⟨_, _, rfl⟩
            have HTk2 : Hid (bs.take (k + 1) = bs.take k ++ [(x2, y2)]) := by
              show _ = _
              rw [List.take_add_one, ← HXY2.out]; simp [List.getD, hkz]
            obtain ⟨bb1, bo1, ha1, hbl1, k0, k1⟩ := (HP.out.below HBz.out) i hiz
            obtain ⟨bb2, bo2, ha2, hbl2, k2, k3⟩ := (HP.out.below HBz.out) k hkz
            simp only [Option.some.injEq, Addr.mk.injEq, and_true] at ha1 ha2
            obtain ⟨rfl, rfl⟩ := ha1
            obtain ⟨rfl, rfl⟩ := ha2
            rw [HXY.out] at k0 k1
            rw [HXY2.out] at k2 k3
            have HBd : Hid (Below w.heap.size w wr.drew) := below_drewN HBz.out 1
            have k0' : wr.drew.cell? ⟨bb, bo + i * 2, none⟩ = some (.int .i64 x) := k0
            have k1' : wr.drew.cell? ⟨bb, bo + i * 2 + 1, none⟩ = some (.int .i64 y) := k1
            have k2' : wr.drew.cell? ⟨bb, bo + k * 2, none⟩ = some (.int .i64 x2) := k2
            have k3' : wr.drew.cell? ⟨bb, bo + k * 2 + 1, none⟩ = some (.int .i64 y2) := k3
            have p2 : wr.drew.cell? ⟨Q, 2, none⟩ = some (.slice (some ⟨bb, bo, none⟩) n c) := by rw [cell_of_row wr.drew Q 2 _ _ _ HQz.out]; rfl
            have hkn : (k : Int) < (n : Int) := by omega
            clear k0 k1 k2 k3
            have HNx : Hid (∀ b' : Bool, b' = (b && decide ((x, y) ≠ (x2, y2))) → b' = (b1 && decide ((x, y) ∉ bs.take (k + 1)))) := fun b' hb' => by
              rw [hb', HBk.out, HTk2.out]
              have e : ((x, y) ∉ bs.take k ++ [(x2, y2)]) ↔ ((x, y) ∉ bs.take k ∧ (x, y) ≠ (x2, y2)) := by
                rw [List.mem_append, List.mem_singleton, not_or]
              rw [decide_eq_decide.2 e, Bool.decide_and, Bool.and_assoc]
            go_upto_region 9 with fail
            cases b with
            | false =>
              have HN2 : Hid (false = (b1 && decide ((x, y) ∉ bs.take (k + 1)))) := HNx.out false rfl
              clear HBk
              first
                | go_region
                | fail
              all_goals (
                go_wp2_with fail
                go_roundw
                case rel => exact ⟨k + 1, false, by omega, by go_num, rfl, HN2, HBd, HQz⟩
                case measure => simp [intOf]; omega)
            | true =>
              by_cases hx : x2 = x
              · by_cases hy : y2 = y
                · have HN2 : Hid (false = (b1 && decide ((x, y) ∉ bs.take (k + 1)))) := HNx.out false (by rw [hx, hy]; simp)
                  subst hx hy
                  clear HBk
                  first
                    | go_region
                    | fail
                  all_goals (
                    go_wp2_with fail
                    go_roundw
                    case rel => exact ⟨k + 1, false, by omega, by go_num, rfl, HN2, HBd, HQz⟩
                    case measure => simp [intOf]; omega)
                · have HN2 : Hid (true = (b1 && decide ((x, y) ∉ bs.take (k + 1)))) := HNx.out true (by simp; exact Or.inr (fun q => hy q.symm))
                  have hy' : (y2 == y) = false := by simpa using hy
                  subst hx
                  clear HBk hy
                  first
                    | go_region
                    | fail
                  all_goals (
                    go_wp2_with fail
                    go_roundw
                    case rel => exact ⟨k + 1, true, by omega, by go_num, rfl, HN2, HBd, HQz⟩
                    case measure => simp [intOf]; omega)
              · have HN2 : Hid (true = (b1 && decide ((x, y) ∉ bs.take (k + 1)))) := HNx.out true (by simp; exact Or.inl (fun q => hx q.symm))
                have hx' : (x2 == x) = false := by simpa using hx
                clear HBk hx
                first
                  | go_region
                  | fail
                all_goals (
                  go_wp2_with fail
                  go_roundw
                  case rel => exact ⟨k + 1, true, by omega, by go_num, rfl, HN2, HBd, HQz⟩
                  case measure => simp [intOf]; omega)
          · obtain rfl : k = i := by omega
            have hlk' : ¬ ((k : Int) < (k : Int)) := by omega
            have HNx : Hid (b = (dm && gdL gw gh (bs.take (k + 1)))) := by
              show _ = _
              have h := HBb.out
              have hd : dm = true ∧ gdL gw gh (bs.take k) = true := by
                cases dm with
                | false => cases h
                | true => exact ⟨rfl, h.symm⟩
              rw [HTk.out, gdL_snoc, hd.1, hd.2, HBk.out, HB1.out]; rfl
            go_wp2_with fail
            go_roundw
            case rel => exact ⟨k + 1, b, by omega, by go_num, rfl, HNx, HBz, HQz⟩
            case measure => simp [intOf]; omega
      · obtain rfl : i = n := by omega
        have hlt' : ¬ ((i : Int) < (i : Int)) := by omega
        have hE : B = true := by
          rw [← HB.out, ← HD.out, HBb.out, List.take_of_length_le (by rw [HN.out]; exact Nat.le_refl _)]
        subst hE
        clear HB
        go_wp2_with fail
        go_ret
        exact ⟨rfl, HBr⟩

end Go.Proofs.Ythdojdkghhmfcaa
