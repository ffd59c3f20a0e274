/-
  ferref.Blocks.
-/
import Derived.Test.YtcnmndbckjmliaaDoorNRLe
import Derived.Test.YtcnmndbckjmliaaDoorNPt
namespace Go.Proofs.YtcnmndbckjmliaaDoor
open Go.RowKit

theorem cell_pz {lt : List UInt8} {r c : Nat} {l : List (List UInt8)} (h : Shz lt r c l) (i j : Nat) (_hi : i < r) (hj : j < c) (p : ByteArray) (hp : p.data.toList = l.getD i []) (hjp : j < p.size) : p[j] = cef l (i * 8 + j) := by
  have hc8 := h.2.2.2.2.1
  rw [cef_at _ _ _ (by omega), ← hp, List.getD_eq_getElem?_getD, List.getElem?_eq_getElem (by rw [ba_len]; exact hjp), Option.getD_some]
  rfl
theorem ext_two (p : ByteArray) (j : Nat) (hj : j + 1 < p.size) : (p.extract j (j + 2)).data.toList = [p[j]'(by omega), p[j + 1]'hj] := by
  cases p with
  | mk d =>
    have hj' : j + 1 < d.size := hj
    show ((ByteArray.mk d).extract j (j + 2)).data.toList = [d[j], d[j + 1]]
    rw [ByteArray.data_extract, Array.toList_extract, List.extract_eq_take_drop]
    rw [show j + 2 - j = 2 by omega, List.drop_eq_getElem_cons (by simp; omega), List.drop_eq_getElem_cons (by simp; omega)]
    simp
theorem ba_lenN (s : ByteArray) : s.size = s.data.toList.length := by simp
theorem ba_neql {t : ByteArray} {L : List UInt8} (h : ¬ t.data.toList = L) : (t.toList == L) = false ∧ ¬ t.toList = L := by
  rw [beq_eq_false_iff_ne, ByteArray.toList_eq]
  exact ⟨h, h⟩
/-- Four letters of a block. -/
def blk (f : Nat → UInt8) (y x : Nat) : List UInt8 := [f (y * 8 + x), f (y * 8 + (x + 1)), f ((y + 1) * 8 + x), f ((y + 1) * 8 + (x + 1))]
theorem blk_qR (f : Nat → UInt8) (y x : Nat) : qR f y x = true ↔ blk f y x = [108, 114, 108, 114] ∨ blk f y x = [117, 117, 100, 100] := by
  unfold qR blk
  simp [Bool.and_eq_true, and_assoc]

set_option maxHeartbeats 4000000 in
set_option maxRecDepth 100000 in
theorem Blocks_at (s : ByteArray) (r c : Nat) (m : Int) (w : World) (hz : Shz lrud (r + 1) (c + 1) (pz s.data.toList)) (hm : w.cell? ⟨0, 0, none⟩ = some (.int .i64 m)) :
    Calls Tryd.prog 22 #[.string s] w fun e w' => ∃ v, e = .returned v ∧ Hid (OwPt w' w.heap.size v (flp (qR (cef (pz s.data.toList))) r c)) ∧ Hid (Below w.heap.size w w') := by
  obtain ⟨l, HL⟩ : ∃ l, Hid (l = pz s.data.toList) := ⟨_, rfl⟩
  have HCs := hid_w (Split_z s m w (by have := shz_len hz; rw [ba_len] at this; omega) hm)
  rw [← HL.out] at HCs hz ⊢
  have HZ : Hid (Shz lrud (r + 1) (c + 1) l) := hz
  obtain ⟨f, HF⟩ : ∃ f, Hid (f = cef l) := ⟨_, rfl⟩
  rw [← HF.out]
  have hr8 : r + 1 ≤ 8 := hz.2.2.1
  have hc8 : c + 1 ≤ 8 := hz.2.2.2.2.1
  clear hz hm
  go_enter Tryd.func22, Tryd.ntmps22
  go_upto_region 2 with (go_at_call 43; with_reducible (refine HCs.out.mono ?_); rintro e w1 ⟨P, HP, rfl, rfl⟩)
  have HPl := hid_w (pcz_len HP.out)
  have HPr : Hid (P.length = r + 1) := HPl.out.trans HZ.out.1
  obtain ⟨n, HN⟩ : ∃ n, Hid (n = r + 1) := ⟨_, rfl⟩
  obtain ⟨X, HX⟩ : ∃ X, Hid (X = w.heap.size) := ⟨_, rfl⟩
  obtain ⟨W1, HW1⟩ : ∃ W1, Hid (W1 = w.alloc (.cells (P.map Value.string).toArray 9)) := ⟨_, rfl⟩
  have HB1 : Hid (Below w.heap.size w W1) := by rw [HW1.out]; exact (Below.refl _ _).alloc (Nat.le_refl _) _
  have HPc : Hid (PcZ W1 X P) := by rw [HW1.out, HX.out]; exact heap_alloc_last _ _
  rw [← HX.out, HPr.out, ← HN.out, ← HW1.out]
  have HPz : Hid (∀ W, Below W1.heap.size W1 W → PcZ W X P) := fun W hW => by
    show W.heap[X]? = _
    rw [hW.block X (lt_someN HPc.out)]; exact HPc.out
  have HRow : Hid (∀ W, Below W1.heap.size W1 W → ∀ i, i < r + 1 → ∃ p : ByteArray, W.cell? ⟨X, i, none⟩ = some (.string p) ∧ p.size = c + 1 ∧ ∀ j (hj : j < p.size), p[j] = f (i * 8 + j)) := fun W hW i hi => by
    have hiP : i < P.length := by rw [HPr.out]; exact hi
    have hd := pcz_at HP.out hiP
    have hsz : P[i].size = c + 1 := by
      rw [← ba_len, hd]
      have hm : l.getD i [] ∈ l := by rw [List.getD_eq_getElem?_getD, List.getElem?_eq_getElem (by rw [HZ.out.1]; omega), Option.getD_some]; exact List.getElem_mem _
      exact (HZ.out.2.2.2.2.2 _ hm).1
    exact ⟨P[i], (HPz.out W hW).cell hiP, hsz, fun j hj => by rw [HF.out]; exact cell_pz HZ.out i j hi (by omega) _ hd hj⟩
  have HO0 : Hid (OwPt W1 W1.heap.size (.slice none 0 0) (flp (qR f) 0 c)) := ⟨rfl, Or.inl ⟨rfl, rfl⟩⟩
  have HBr : Hid (Below W1.heap.size W1 W1) := Below.refl _ _
  go_wp2_with fail
  go_loopw [4, 5] (fun lv v wr => ∃ (i : Nat) (L : Value), i ≤ r ∧ v = .int .i64 (i : Int) ∧ L = lv ∧ Hid (OwPt wr W1.heap.size L (flp (qR f) i c)) ∧ Hid (Below W1.heap.size W1 wr)) (fun _ v _ => r - (intOf v).toNat)
  case atStart => exact ⟨0, _, Nat.zero_le _, rfl, rfl, HO0, HBr⟩
  case round =>
    clear HO0 HBr
    obtain ⟨i, L, hi, rfl, rfl, HO, HB⟩ := hrel
    by_cases hlt : i < r
    · have hlt' : (i : Int) + 1 < (n : Int) := by have := HN.out; omega
      have HOz : Hid (OwPt wr W1.heap.size L (flp (qR f) i c ++ rowP (qR f) i 0)) := by
        show OwPt _ _ _ (_ ++ [])
        rw [List.append_nil]; exact HO.out
      go_wp2_with fail
      go_loopw [4, 6] (fun lv v wr => ∃ (j : Nat) (L : Value), j ≤ c ∧ v = .int .i64 (j : Int) ∧ L = lv ∧ Hid (OwPt wr W1.heap.size L (flp (qR f) i c ++ rowP (qR f) i j)) ∧ Hid (Below W1.heap.size W1 wr)) (fun _ v _ => c - (intOf v).toNat)
      case atStart => exact ⟨0, _, Nat.zero_le _, rfl, rfl, HOz, HB⟩
      case round =>
        clear HOz HO HB
        obtain ⟨j, L, hj, rfl, rfl, HO, HB⟩ := hrel
        obtain ⟨p, hp, hps0, hpj0⟩ := HRow.out wr HB.out i (by omega)
        have HPj := hid_w hpj0
        have HPs := hid_w hps0
        clear hpj0 hps0
        have hir : (i : Int) < (n : Int) := by have := HN.out; omega
        by_cases hltj : j < c
        · obtain ⟨q, hq, hqs0, hqj0⟩ := HRow.out wr HB.out (i + 1) (by omega)
          have HQj := hid_w hqj0
          have HQs := hid_w hqs0
          clear hqj0 hqs0
          have hltj' : (j : Int) + 1 < (p.size : Int) := by have := HPs.out; omega
          have hi1 : (i : Int) + 1 < (n : Int) := by have := HN.out; omega
          have hsl1 : ∀ W : World, (Instr.slice 9 (.string p) (some (.int .i64 (j : Int))) (some (.int .i64 ((j : Int) + 2))) none).run Tryd.prog W = .ok (.string (p.extract j (j + 2))) W := fun W => by
            have := HPs.out
            rw [run_slice_string_if W 9 p .i64 .i64 _ _ Tryd.underlying9, if_pos (by omega), if_pos (by omega), Int.toNat_natCast, show ((j : Int) + 2).toNat = j + 2 by omega]
          have hsl2 : ∀ W : World, (Instr.slice 9 (.string q) (some (.int .i64 (j : Int))) (some (.int .i64 ((j : Int) + 2))) none).run Tryd.prog W = .ok (.string (q.extract j (j + 2))) W := fun W => by
            have := HQs.out
            rw [run_slice_string_if W 9 q .i64 .i64 _ _ Tryd.underlying9, if_pos (by omega), if_pos (by omega), Int.toNat_natCast, show ((j : Int) + 2).toNat = j + 2 by omega]
          obtain ⟨a, HAa⟩ : ∃ a, Hid (a = p.extract j (j + 2)) := ⟨_, rfl⟩
          obtain ⟨b, HBb⟩ : ∃ b, Hid (b = q.extract j (j + 2)) := ⟨_, rfl⟩
          have HAd : Hid (a.data.toList = [f (i * 8 + j), f (i * 8 + (j + 1))]) := by
            have := HPs.out
            show _ = _
            rw [HAa.out, ext_two p j (by omega), HPj.out j (by omega), HPj.out (j + 1) (by omega)]
          have HBd : Hid (b.data.toList = [f ((i + 1) * 8 + j), f ((i + 1) * 8 + (j + 1))]) := by
            have := HQs.out
            show _ = _
            rw [HBb.out, ext_two q j (by omega), HQj.out j (by omega), HQj.out (j + 1) (by omega)]
          have has : a.size = 2 := by rw [ba_lenN, HAd.out]; rfl
          have hbs : b.size = 2 := by rw [ba_lenN, HBd.out]; rfl
          obtain ⟨t, HTt⟩ : ∃ t : ByteArray, Hid (t = a ++ b) := ⟨_, rfl⟩
          have HTd : Hid (t.data.toList = blk f i j) := by
            show _ = _
            rw [HTt.out, ByteArray.data_append, Array.toList_append, HAd.out, HBd.out]; rfl
          rw [← HAa.out] at hsl1
          rw [← HBb.out] at hsl2
          go_upto_region 9 with fail
          go_quiet (fail)
          rw [← HTt.out]
          obtain ⟨Wq, HWq⟩ : ∃ Wq, Hid (Wq = wr.drewN nq) := ⟨_, rfl⟩
          rw [← HWq.out]
          have HBd1 : Hid (Below wr.heap.size wr Wq) := by rw [HWq.out]; exact below_drewN (Below.refl _ _) _
          have HOq : Hid (OwPt Wq W1.heap.size L (flp (qR f) i c ++ rowP (qR f) i j)) := HO.out.below HBd1.out
          have HBq : Hid (Below W1.heap.size W1 Wq) := HB.out.trans (HBd1.out.mono HB.out.size)
          have HLn : Hid ((flp (qR f) i c ++ rowP (qR f) i j).length ≤ 1000) := by
            have h1 := flp_length (qR f) i c
            have h2 := rowP_length (qR f) i j
            have h3 : i * c ≤ 8 * 8 := Nat.mul_le_mul (by omega) (by omega)
            show _ ≤ _
            rw [List.length_append]; omega
          have HRw : Hid (qR f i j = true → flp (qR f) i c ++ rowP (qR f) i (j + 1) = (flp (qR f) i c ++ rowP (qR f) i j) ++ [((j : Int), (i : Int))]) := fun h => by
            rw [rowP_succ, if_pos h, List.append_assoc]
          have HRn : Hid (¬ qR f i j = true → flp (qR f) i c ++ rowP (qR f) i (j + 1) = (flp (qR f) i c ++ rowP (qR f) i j)) := fun h => by
            rw [rowP_succ, if_neg h, List.append_nil]
          clear hsl1 hsl2 hp hq has hbs HTt HAa HBb
          by_cases g1 : t = ⟨#[108, 114, 108, 114]⟩
          · have hq : qR f i j = true := (blk_qR f i j).2 (Or.inl (by rw [← HTd.out, g1]))
            have HR2 := hid_w (HRw.out hq)
            clear HTd HRw HRn
            subst g1
            go_wp2_with (at_builtin; refine append_pt1 (base := W1.heap.size) rfl _ _ rfl rfl rfl HOq.out HLn.out HBq.out.size ?_; intro L2 W4 HO4 HB4)
            have HO5 : Hid (OwPt W4 W1.heap.size L2 (flp (qR f) i c ++ rowP (qR f) i (j + 1))) := by rw [HR2.out]; exact HO4.out
            have HB5 : Hid (Below W1.heap.size W1 W4) := HBq.out.trans HB4.out
            go_wp2_with fail
            go_roundw
            case rel => exact ⟨j + 1, _, by omega, by go_num, rfl, HO5, HB5⟩
            case measure => simp [intOf]; omega
          · obtain ⟨g1b, g1c⟩ : (t.toList == [108, 114, 108, 114]) = false ∧ ¬ t.toList = [108, 114, 108, 114] := ba_neql (fun e => g1 (ba_extN e))
            by_cases g2 : t = ⟨#[117, 117, 100, 100]⟩
            · have hq : qR f i j = true := (blk_qR f i j).2 (Or.inr (by rw [← HTd.out, g2]))
              have HR2 := hid_w (HRw.out hq)
              clear HTd HRw HRn g1 g1b g1c
              subst g2
              go_wp2_with (at_builtin; refine append_pt1 (base := W1.heap.size) rfl _ _ rfl rfl rfl HOq.out HLn.out HBq.out.size ?_; intro L2 W4 HO4 HB4)
              have HO5 : Hid (OwPt W4 W1.heap.size L2 (flp (qR f) i c ++ rowP (qR f) i (j + 1))) := by rw [HR2.out]; exact HO4.out
              have HB5 : Hid (Below W1.heap.size W1 W4) := HBq.out.trans HB4.out
              go_wp2_with fail
              go_roundw
              case rel => exact ⟨j + 1, _, by omega, by go_num, rfl, HO5, HB5⟩
              case measure => simp [intOf]; omega
            · obtain ⟨g2b, g2c⟩ : (t.toList == [117, 117, 100, 100]) = false ∧ ¬ t.toList = [117, 117, 100, 100] := ba_neql (fun e => g2 (ba_extN e))
              have hq : ¬ qR f i j = true := fun h => by
                rcases (blk_qR f i j).1 h with e | e
                · exact g1 (ba_extN (by rw [HTd.out, e]))
                · exact g2 (ba_extN (by rw [HTd.out, e]))
              have HO5 : Hid (OwPt Wq W1.heap.size L (flp (qR f) i c ++ rowP (qR f) i (j + 1))) := by rw [HRn.out hq]; exact HOq.out
              clear HTd HRw HRn hq
              go_wp2_with fail
              go_roundw
              case rel => exact ⟨j + 1, _, by omega, by go_num, rfl, HO5, HBq⟩
              case measure => simp [intOf]; omega
        · obtain rfl : j = c := by omega
          have HO2 : Hid (OwPt wr W1.heap.size L (flp (qR f) (i + 1) j)) := by
            rw [flp_succ]; exact HO.out
          have hnl : ¬ ((j : Int) + 1 < (p.size : Int)) := by have := HPs.out; omega
          go_wp2_with fail
          go_roundw
          case rel => exact ⟨i + 1, _, by omega, by go_num, rfl, HO2, HB⟩
          case measure => simp [intOf]; omega
    · obtain rfl : i = r := by omega
      have hnl : ¬ ((i : Int) + 1 < (n : Int)) := by have := HN.out; omega
      have HP2 : Hid (OwPt wr w.heap.size L (flp (qR f) i c)) := ownsRow_down HO.out HB1.out.size
      have HB5 : Hid (Below w.heap.size w wr) := HB1.out.trans (HB.out.mono HB1.out.size)
      go_wp2_with fail
      go_ret
      exact ⟨_, rfl, HP2, HB5⟩

end Go.Proofs.YtcnmndbckjmliaaDoor
