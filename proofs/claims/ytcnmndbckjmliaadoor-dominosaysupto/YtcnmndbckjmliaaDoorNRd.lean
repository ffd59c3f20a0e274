/-
  domino.read.
-/
import Derived.Test.YtcnmndbckjmliaaDoorNRdz
import Derived.Deep.DeepCutAuto
namespace Go.Proofs.YtcnmndbckjmliaaDoor
open Go.RowKit

theorem u8_size : (Tryd.prog.info? 5).map (·.size) = some 1 := by kernel_rfl
theorem pcz_len {P : List ByteArray} {l : List (List UInt8)} (h : P.map (·.data.toList) = l) : P.length = l.length := by rw [← h, List.length_map]
theorem pcz_at {P : List ByteArray} {l : List (List UInt8)} (h : P.map (·.data.toList) = l) {k : Nat} (hk : k < P.length) : P[k].data.toList = l.getD k [] := by
  subst h
  simp [List.getD, List.getElem?_eq_getElem hk]
theorem ba_len (s : ByteArray) : s.data.toList.length = s.size := by simp
theorem ba_extN {a b : ByteArray} (h : a.data.toList = b.data.toList) : a = b := by
  cases a; cases b; simp at h; simp [h]

set_option maxHeartbeats 4000000 in
set_option maxRecDepth 100000 in
theorem read_at (s lt : ByteArray) (m : Int) (w : World) (hm : w.cell? ⟨0, 0, none⟩ = some (.int .i64 m)) :
    Calls Tryd.prog 54 #[.string s, .string lt] w fun e w' => ∃ v, e = .returned v ∧ Hid (RdP lt.data.toList s.data.toList v) ∧ Hid (Below w.heap.size w w') := by
  obtain ⟨Z, HZ⟩ : ∃ Z, Hid (Z = shC 0 0 fun _ => 0) := ⟨_, rfl⟩
  have hz : ∀ W : World, (zeroValue 62).run Tryd.prog W = .ok (.agg Z) W := fun W => by rw [HZ.out]; exact (zero_of_info zeroS).1 W
  have HZ6 : Hid (C66 Z) := by rw [HZ.out]; exact shC_66 _ _ _
  obtain ⟨Q, HQ⟩ : ∃ Q, Hid (Q = w.heap.size) := ⟨_, rfl⟩
  obtain ⟨W0, HW0⟩ : ∃ W0, Hid (W0 = w.alloc (.cells Z 62)) := ⟨_, rfl⟩
  have HB0 : Hid (Below w.heap.size w W0) := by rw [HW0.out]; exact (Below.refl _ _).alloc (Nat.le_refl _) _
  have HQ0 : Hid (W0.heap[Q]? = some (.cells Z 62 (0, 0))) := by
    show _ = _
    rw [HW0.out, HQ.out]; exact heap_alloc_last _ _
  have hm0 : W0.cell? ⟨0, 0, none⟩ = some (.int .i64 m) := by rw [HW0.out, World.cell?_alloc_past _ _ _ (World.block_lt_of_cell? w ⟨0, 0, none⟩ hm)]; exact hm
  have HFail : Hid (∀ W : World, W.heap[Q]? = some (.cells Z 62 (0, 0)) → Below w.heap.size w W → (loadVar 62 ⟨Q, 0, none⟩).run Tryd.prog (W.setRow Q Z) = .ok (.agg Z) (W.setRow Q Z) ∧ Below w.heap.size w (W.setRow Q Z)) := fun W h hb =>
    ⟨load_66 _ _ _ HZ6.out (setRow_heap _ _ _ _ _ _ h), below_setRowN hb Q (by rw [HQ.out]; omega) _⟩
  by_cases h71 : s.size > 71
  · have hgt : (s.size : Int) > 71 := by omega
    obtain ⟨hl, hb⟩ := HFail.out W0 HQ0.out HB0.out
    have HL := hid_w hl
    have HB := hid_w hb
    have HP : Hid (RdP lt.data.toList s.data.toList (.tuple #[.agg Z, .int .i64 1])) := by
      refine Or.inr ⟨fun r c h => ?_, by rw [HZ.out]⟩
      have := shz_len h
      rw [ba_len] at this; omega
    clear hl hb h71 hm hm0
    go_enter Tryd.func54, Tryd.ntmps54
    go_upto_region 1 with fail
    rw [← HQ.out, ← HW0.out]
    go_wp2_with (first | (refine wpList_build66 rfl rfl Z HZ.out ?_) | (refine wpList_store66 rfl (.tmp 4) (.tmp 13) rfl Q Z Z rfl rfl HQ0.out HZ6.out HZ6.out ?_))
    refine bodyPost_ret (v := .tuple #[.agg Z, .int .i64 1]) ?_ rfl ⟨_, rfl, HP, HB⟩
    rw [results_cell_tmp rfl]
    simp [asAddr, Result.andThen, HL.out]
  · have hgt : ¬ ((s.size : Int) > 71) := by omega
    have HCs := hid_w (Split_z s m W0 (by omega) hm0)
    clear hm hm0
    go_enter Tryd.func54, Tryd.ntmps54
    go_upto_region 1 with fail
    rw [← HQ.out, ← HW0.out]
    go_upto_region 4 with (go_at_call 43; with_reducible (refine HCs.out.mono ?_); rintro e w1 ⟨P, HP, rfl, rfl⟩)
    have HPl := hid_w (pcz_len HP.out)
    have h0 : 0 < P.length := by rw [HPl.out]; exact List.length_pos_iff.2 (pz_ne _)
    obtain ⟨r, HRr⟩ : ∃ r, Hid (r = P.length) := ⟨_, rfl⟩
    obtain ⟨c, HC⟩ : ∃ c, Hid (c = (P[0]'h0).size) := ⟨_, rfl⟩
    obtain ⟨X, HX⟩ : ∃ X, Hid (X = W0.heap.size) := ⟨_, rfl⟩
    obtain ⟨W1, HW1⟩ : ∃ W1, Hid (W1 = W0.alloc (.cells (P.map Value.string).toArray 9)) := ⟨_, rfl⟩
    have HB1 : Hid (Below w.heap.size w W1) := by rw [HW1.out]; exact HB0.out.alloc HB0.out.size _
    have HPc1 : Hid (PcZ W1 X P) := by rw [HW1.out, HX.out]; exact heap_alloc_last _ _
    have HQ1 : Hid (W1.heap[Q]? = some (.cells Z 62 (0, 0))) := by
      show _ = _
      rw [HW1.out, (Below.alloc (Below.refl W0.heap.size W0) (Nat.le_refl _) _).block Q (lt_someN HQ0.out)]; exact HQ0.out
    obtain ⟨p0, HP0⟩ : ∃ p0, Hid (p0 = P[0]'h0) := ⟨_, rfl⟩
    have hp0 : W1.cell? ⟨X, 0, none⟩ = some (.string p0) := by rw [HP0.out]; exact HPc1.out.cell h0
    have hc0 : (p0.size : Int) = (c : Int) := by rw [HC.out, HP0.out]
    have hr0 : (0 : Int) < (r : Int) := by have := HRr.out; omega
    obtain ⟨T, HT⟩ : ∃ T, Hid (T = W1.heap.size) := ⟨_, rfl⟩
    obtain ⟨S, HS⟩ : ∃ S, Hid (S = shC r c fun _ => 0) := ⟨_, rfl⟩
    have HS6 : Hid (C66 S) := by rw [HS.out]; exact shC_66 _ _ _
    rw [← HRr.out, ← HX.out, ← HW1.out]
    go_upto_region 5 with (first | (refine wpList_build2 rfl (.tmp 17) (.tmp 21) rfl r c rfl rfl S HS.out ?_) | (refine wpList_store66 rfl (.tmp 7) (.tmp (21 + 1)) rfl W1.heap.size S Z rfl rfl (heap_alloc_last _ _) HS6.out HZ6.out ?_))
    obtain ⟨W3, HW3⟩ : ∃ W3, Hid (W3 = (W1.alloc (.cells Z 62)).setRow W1.heap.size S) := ⟨_, rfl⟩
    rw [← HW3.out, ← HT.out]
    have hb13 : Below W1.heap.size W1 W3 := by
      rw [HW3.out]; exact below_setRowN ((Below.refl _ _).alloc (Nat.le_refl _) _) _ (Nat.le_refl _) _
    have HB3 : Hid (Below w.heap.size w W3) := HB1.out.trans (hb13.mono HB1.out.size)
    have HT3 : Hid (W3.heap[T]? = some (.cells S 62 (0, 0))) := by
      show _ = _
      rw [HW3.out, HT.out]; exact setRow_heap _ _ _ _ _ _ (heap_alloc_last _ _)
    have HQ3 : Hid (W3.heap[Q]? = some (.cells Z 62 (0, 0))) := by
      show _ = _
      rw [hb13.block Q (lt_someN HQ1.out)]; exact HQ1.out
    have HX3 : Hid (PcZ W3 X P) := by
      show W3.heap[X]? = _
      rw [hb13.block X (lt_someN HPc1.out)]; exact HPc1.out
    have HQT : Hid (Q ≠ T ∧ X ≠ T) := ⟨by have h1 := lt_someN HQ1.out; have h2 := HT.out; omega, by have h1 := lt_someN HPc1.out; have h2 := HT.out; omega⟩
    have HTq : Hid (w.heap.size ≤ T) := by rw [HT.out]; exact HB1.out.size
    have s0 : W3.cell? ⟨T, 0, none⟩ = some (.int .i64 (r : Int)) := by rw [cell_of_row W3 T _ _ _ _ HT3.out, HS.out, shC_get _ _ _ _ (by omega)]; rfl
    have s1 : W3.cell? ⟨T, 1, none⟩ = some (.int .i64 (c : Int)) := by rw [cell_of_row W3 T _ _ _ _ HT3.out, HS.out, shC_get _ _ _ _ (by omega)]; rfl
    obtain ⟨b1, Hb1⟩ : ∃ b1, Hid (decide (1 ≤ (r : Int) ∧ (r : Int) ≤ 8) = b1) := ⟨_, rfl⟩
    obtain ⟨b2, Hb2⟩ : ∃ b2, Hid (decide (1 ≤ (c : Int) ∧ (c : Int) ≤ 8) = b2) := ⟨_, rfl⟩
    have HI1 := hid_w (isSide_at (r : Int) W3 b1 Hb1.out)
    have HI2 := hid_w (isSide_at (c : Int) W3 b2 Hb2.out)
    have HRC : Hid (r = (pz s.data.toList).length ∧ c = ((pz s.data.toList).getD 0 []).length) := ⟨by rw [HRr.out]; exact HPl.out, by rw [HC.out, ← ba_len, pcz_at HP.out h0]⟩
    clear hb13 hp0 hc0 hr0 hgt h71
    simp only [Act.put]
    go_cut [32] (fun s32 wx => s32 = .bool (!(b1 && b2)) ∧ wx = W3)
    case first =>
      cases b1 with
      | false =>
        go_wp2_with (first | (go_at_call 67; with_reducible (refine HI1.out.mono ?_); rintro e v1 ⟨rfl, rfl⟩))
        go_meet
        exact ⟨rfl, rfl⟩
      | true =>
        go_wp2_with (first | (go_at_call 67; with_reducible (refine HI1.out.mono ?_); rintro e v1 ⟨rfl, rfl⟩) | (go_at_call 67; with_reducible (refine HI2.out.mono ?_); rintro e v2 ⟨rfl, rfl⟩))
        go_meet
        exact ⟨by first | rfl | (cases b2 <;> rfl), rfl⟩
    obtain ⟨rfl, rfl⟩ := hcut
    obtain ⟨b, Hb⟩ : ∃ b, Hid ((b1 && b2) = b) := ⟨_, rfl⟩
    rw [Hb.out]
    clear HI1 HI2 s0 s1
    cases b with
    | false =>
      have HP : Hid (RdP lt.data.toList s.data.toList (.tuple #[.agg Z, .int .i64 1])) := by
        refine Or.inr ⟨fun r' c' h => ?_, by rw [HZ.out]⟩
        have e := shz_eq h
        obtain ⟨g1, g2, g3, g4, g5, _⟩ := h
        have h1 := Hb1.out
        have h2 := Hb2.out
        have h3 := HRC.out
        rw [decide_eq_true (by omega)] at h1
        rw [decide_eq_true (by omega)] at h2
        have := Hb.out
        rw [← h1, ← h2] at this
        cases this
      obtain ⟨hl, hb⟩ := HFail.out wc HQ3.out HB3.out
      have HL := hid_w hl
      have HB := hid_w hb
      clear hl hb
      go_wp2_with (first | (refine wpList_build66 rfl rfl Z HZ.out ?_) | (refine wpList_store66 rfl (.tmp 4) (.tmp 33) rfl Q Z Z rfl rfl HQ3.out HZ6.out HZ6.out ?_))
      refine bodyPost_ret (v := .tuple #[.agg Z, .int .i64 1]) ?_ rfl ⟨_, rfl, HP, HB⟩
      rw [results_cell_tmp rfl]
      simp [asAddr, Result.andThen, HL.out]
    | true =>
      rw [show (!true) = false from rfl]
      have HSd : Hid (1 ≤ r ∧ r ≤ 8 ∧ 1 ≤ c ∧ c ≤ 8) := by
        have h1 := Hb1.out
        have h2 := Hb2.out
        have h3 := Hb.out
        rw [Bool.and_eq_true] at h3
        rw [h3.1] at h1
        rw [h3.2] at h2
        have h1 := of_decide_eq_true h1
        have h2 := of_decide_eq_true h2
        exact ⟨by omega, by omega, by omega, by omega⟩
      clear Hb1 Hb2 Hb
      obtain ⟨l, HL⟩ : ∃ l, Hid (l = pz s.data.toList) := ⟨_, rfl⟩
      rw [← HL.out] at HP HRC
      have HR0 : Hid (wc.heap[T]? = some (.cells (shC r c (cek l 0)) 62 (0, 0))) := by
        show _ = _
        rw [cek_zero, ← HS.out]; exact HT3.out
      go_wp2_with fail
      go_loopw [36] (fun i wr => ∃ k : Nat, k ≤ r ∧ i = .int .i64 (k : Int) ∧ Hid (wr.heap[T]? = some (.cells (shC r c (cek l k)) 62 (0, 0))) ∧ Hid (wr.heap[Q]? = some (.cells Z 62 (0, 0))) ∧ Hid (PcZ wr X P) ∧ Hid (Below w.heap.size w wr) ∧ Hid (∀ j, j < k → (l.getD j []).length = c ∧ isL lt.data.toList (l.getD j []) = true)) (fun i _ => r - (intOf i).toNat)
      case atStart => exact ⟨0, Nat.zero_le _, rfl, HR0, HQ3, HX3, HB3, fun j hj => by omega⟩
      case round =>
        clear HR0 HQ3 HX3 HB3 HT3
        obtain ⟨k, hk, rfl, HTk, HQk, HXk, HBk, HJk⟩ := hrel
        by_cases hlt : k < r
        · have hlt' : (k : Int) < (r : Int) := by omega
          have HkP : Hid (k < P.length) := by rw [← HRr.out]; exact hlt
          obtain ⟨p, HPk⟩ : ∃ p, Hid (p = P[k]'HkP.out) := ⟨_, rfl⟩
          have hpk : wr.cell? ⟨X, k, none⟩ = some (.string p) := by rw [HPk.out]; exact HXk.out.cell HkP.out
          have HPl : Hid (p.data.toList = l.getD k []) := by rw [HPk.out]; exact pcz_at HP.out HkP.out
          have HPs : Hid (p.size = (l.getD k []).length) := by rw [← HPl.out]; exact (ba_len p).symm
          have s1 : wr.cell? ⟨T, 1, none⟩ = some (.int .i64 (c : Int)) := by rw [cell_of_row wr T _ _ _ _ HTk.out, shC_get _ _ _ _ (by omega)]; rfl
          obtain ⟨hl, hb⟩ := HFail.out wr HQk.out HBk.out
          have HLd := hid_w hl
          have HBd := hid_w hb
          clear hl hb
          have HNo : Hid ((p.size ≠ c ∨ isL lt.data.toList p.data.toList = false) → RdP lt.data.toList s.data.toList (.tuple #[.agg Z, .int .i64 1])) := fun h => by
            refine Or.inr ⟨?_, by rw [HZ.out]⟩
            rw [← HL.out]
            refine shz_no (k := k) (by rw [← HRC.out.1]; exact hlt) ?_
            rw [← HPs.out, ← HRC.out.2, ← HPl.out]; exact h
          by_cases hsz : p.size = c
          · have hne : decide ((p.size : Int) ≠ (c : Int)) = false := by simp; omega
            have hne2 : ((p.size : Int) != (c : Int)) = false := by simp; omega
            obtain ⟨bo, Hbo⟩ : ∃ bo, Hid (isL lt.data.toList p.data.toList = bo) := ⟨_, rfl⟩
            have HIo := hid_w (isOf_at p lt bo (by have := HSd.out; omega) Hbo.out wr)
            cases bo with
            | false =>
              have HP1 := hid_w (HNo.out (Or.inr Hbo.out))
              clear HNo
              go_wp2_with (first | (go_at_call 68; with_reducible (refine HIo.out.mono ?_); rintro e v1 ⟨rfl, rfl⟩) | (refine wpList_build66 rfl rfl Z HZ.out ?_) | (refine wpList_store66 rfl (.tmp 4) (.tmp 52) rfl Q Z Z rfl rfl HQk.out HZ6.out HZ6.out ?_))
              refine bodyPost_ret (v := .tuple #[.agg Z, .int .i64 1]) ?_ rfl ⟨_, rfl, HP1, HBd⟩
              rw [results_cell_tmp rfl]
              simp [asAddr, Result.andThen, HLd.out]
            | true =>
              obtain ⟨W', HW'⟩ : ∃ W', Hid (W' = wr.setRow T (shC r c (cek l (k + 1)))) := ⟨_, rfl⟩
              have hcopy : Sem.run Tryd.prog (Builtin.copy_ #[80, 9] 3 #[.slice (some ⟨T, 2 + k * 8, none⟩) 8 8, .string p]) wr = .ok (.int .i64 (p.size : Int)) W' := by
                have hd := HSd.out
                have h := Lib.run_copy_row_string (P := Tryd.prog) wr 80 9 3 5 T (2 + k * 8) 8 8 p _ 62 Tryd.underlying80 u8_size HTk.out (by omega) (by rw [shC_size]; omega)
                have e := shC_row r c (cek l k) k p.data.toList (by omega) (by rw [ba_len]; omega)
                rw [ba_len] at e
                rw [h, e, HW'.out, HPl.out, cek_succ l k (by rw [← HRC.out.1]; exact hlt)]
                rfl
              have HT' : Hid (W'.heap[T]? = some (.cells (shC r c (cek l (k + 1))) 62 (0, 0))) := by
                show _ = _
                rw [HW'.out]; exact setRow_heap _ _ _ _ _ _ HTk.out
              have HQ' : Hid (W'.heap[Q]? = some (.cells Z 62 (0, 0))) := by
                show _ = _
                rw [HW'.out, setRow_other _ _ _ _ HQT.out.1]; exact HQk.out
              have HX' : Hid (PcZ W' X P) := by
                show _ = _
                rw [HW'.out, setRow_other _ _ _ _ HQT.out.2]; exact HXk.out
              have HB' : Hid (Below w.heap.size w W') := by rw [HW'.out]; exact below_setRowN HBk.out T HTq.out _
              have HJ' : Hid (∀ j, j < k + 1 → (l.getD j []).length = c ∧ isL lt.data.toList (l.getD j []) = true) := fun j hj => by
                by_cases e : j = k
                · rw [e, ← HPs.out]; exact ⟨hsz, by rw [← HPl.out]; exact Hbo.out⟩
                · exact HJk.out j (by omega)
              have hk8 : (k : Int) < 8 := by have := HSd.out; omega
              clear HNo HLd HBd
              go_wp2_with (first | (go_at_call 68; with_reducible (refine HIo.out.mono ?_); rintro e v1 ⟨rfl, rfl⟩))
              go_roundw
              case rel => exact ⟨k + 1, by omega, by go_num, HT', HQ', HX', HB', HJ'⟩
              case measure => simp [intOf]; omega
          · have hne : decide ((p.size : Int) ≠ (c : Int)) = true := by simp; omega
            have hne2 : ((p.size : Int) != (c : Int)) = true := by simp; omega
            have HP1 := hid_w (HNo.out (Or.inl hsz))
            clear HNo
            go_wp2_with (first | (refine wpList_build66 rfl rfl Z HZ.out ?_) | (refine wpList_store66 rfl (.tmp 4) (.tmp 52) rfl Q Z Z rfl rfl HQk.out HZ6.out HZ6.out ?_))
            refine bodyPost_ret (v := .tuple #[.agg Z, .int .i64 1]) ?_ rfl ⟨_, rfl, HP1, HBd⟩
            rw [results_cell_tmp rfl]
            simp [asAddr, Result.andThen, HLd.out]
        · obtain rfl : k = r := by omega
          obtain ⟨Y, HY⟩ : ∃ Y, Hid (Y = shC k c (cek l k)) := ⟨_, rfl⟩
          have HY6 : Hid (C66 Y) := by rw [HY.out]; exact shC_66 _ _ _
          rw [← HY.out] at HTk
          have HLd : Hid ((loadVar 62 ⟨Q, 0, none⟩).run Tryd.prog (wr.setRow Q Y) = .ok (.agg Y) (wr.setRow Q Y)) := load_66 _ _ _ HY6.out (setRow_heap _ _ _ _ _ _ HQk.out)
          have HBd : Hid (Below w.heap.size w (wr.setRow Q Y)) := below_setRowN HBk.out Q (by rw [HQ.out]; exact Nat.le_refl _) _
          have HP1 : Hid (RdP lt.data.toList s.data.toList (.tuple #[.agg Y, .int .i64 0])) := by
            refine Or.inl ⟨k, c, ?_, ?_⟩
            · rw [← HL.out]
              have h := shz_of (lt := lt.data.toList) (l := l) (by have := HSd.out; have := HRC.out; omega) (by have := HSd.out; have := HRC.out; omega) (by have := HSd.out; have := HRC.out; omega) (by have := HSd.out; have := HRC.out; omega) (fun j hj => by
                have := HJk.out j (by rw [HRC.out.1]; exact hj)
                rw [← HRC.out.2]; exact this)
              rw [← HRC.out.1, ← HRC.out.2] at h; exact h
            · rw [HY.out, ← HL.out]
              have e := cek_all l
              rw [← HRC.out.1] at e
              rw [e]
          go_wp2_with (first | (refine wpList_load66 rfl (.tmp 7) rfl T Y rfl HTk.out HY6.out ?_) | (refine wpList_store66 rfl (.tmp 4) (.tmp 60) rfl Q Y Z rfl rfl HQk.out HY6.out HZ6.out ?_))
          refine bodyPost_ret (v := .tuple #[.agg Y, .int .i64 0]) ?_ rfl ⟨_, rfl, HP1, HBd⟩
          rw [results_cell_tmp rfl]
          simp [asAddr, Result.andThen, HLd.out]

end Go.Proofs.YtcnmndbckjmliaaDoor
