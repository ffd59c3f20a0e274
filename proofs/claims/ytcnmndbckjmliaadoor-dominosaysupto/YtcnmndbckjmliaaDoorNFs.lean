/-
  domino.Flips.
-/
import Derived.Test.YtcnmndbckjmliaaDoorNRt
import Derived.Test.YtcnmndbckjmliaaDoorNPt
namespace Go.Proofs.YtcnmndbckjmliaaDoor
open Go.RowKit

/-- The blocks that may be turned. -/
def mtQ (r c : Nat) (f : Nat → UInt8) (i j : Nat) : Bool := mtB r c f (i : Int) (j : Int)
/-- What domino.Flips answers. -/
def FlP (s : List UInt8) (B : Nat) (w : World) (v : Value) (er : Int) : Prop := (er = 0 ∧ ∃ r c, Til s r c ∧ OwPt w B v (flp (mtQ r c (cef (pz s))) r c)) ∨ (er = 1 ∧ v = .slice none 0 0 ∧ ∀ r c, ¬ Til s r c)

set_option maxHeartbeats 4000000 in
set_option maxRecDepth 100000 in
theorem Flips_at (s : ByteArray) (m : Int) (w : World) (hm : w.cell? ⟨0, 0, none⟩ = some (.int .i64 m)) :
    Calls Tryd.prog 20 #[.string s] w fun e w' => ∃ v er, e = .returned (.tuple #[v, .int .i64 er]) ∧ Hid (FlP s.data.toList w.heap.size w' v er) ∧ Hid (Below w.heap.size w w') := by
  obtain ⟨Z, HZ⟩ : ∃ Z, Hid (Z = shC 0 0 fun _ => 0) := ⟨_, rfl⟩
  have hz : ∀ W : World, (zeroValue 62).run Tryd.prog W = .ok (.agg Z) W := fun W => by rw [HZ.out]; exact (zero_of_info zeroS).1 W
  have HZ6 : Hid (C66 Z) := by rw [HZ.out]; exact shC_66 _ _ _
  have HCr := hid_w (readT_at s m w hm)
  clear hm
  go_enter Tryd.func20, Tryd.ntmps20
  go_upto_region 2 with (first | (go_at_call 40; with_reducible (refine HCr.out.mono ?_); rintro e W1 ⟨v, rfl, HR, HB1⟩; obtain ⟨Y, er, rfl, HY6, HYr⟩ := HR.out.parts) | (refine wpList_store66 rfl (.tmp 4) (.tmp 12) rfl W1.heap.size Y Z rfl rfl (heap_alloc_last _ _) HY6.out HZ6.out ?_))
  try simp only [Act.put]
  obtain ⟨T, HT⟩ : ∃ T, Hid (T = W1.heap.size) := ⟨_, rfl⟩
  obtain ⟨W3, HW3⟩ : ∃ W3, Hid (W3 = (W1.alloc (.cells Z 62)).setRow W1.heap.size Y) := ⟨_, rfl⟩
  rw [← HW3.out, ← HT.out]
  have HB3 : Hid (Below w.heap.size w W3) := by
    rw [HW3.out]; exact below_setRowN (HB1.out.alloc HB1.out.size _) _ HB1.out.size _
  have HT3 : Hid (W3.heap[T]? = some (.cells Y 62 (0, 0))) := by
    show _ = _
    rw [HW3.out, HT.out]; exact setRow_heap _ _ _ _ _ _ (heap_alloc_last _ _)
  rcases HYr.out with ⟨rfl, r, c, htl, hY⟩ | ⟨rfl, hY, hno⟩
  case inr =>
    have HP : Hid (FlP s.data.toList w.heap.size W3 (.slice none 0 0) 1) := Or.inr ⟨rfl, rfl, hno⟩
    clear hno hY HYr HR
    go_wp2_with fail
    go_ret2
    exact ⟨_, 1, rfl, HP, HB3⟩
  obtain ⟨f, HF⟩ : ∃ f, Hid (f = cef (pz s.data.toList)) := ⟨_, rfl⟩
  rw [← HF.out] at hY
  have HYf : Hid (Y = shC r c f) := hY
  have HTl : Hid (Til s.data.toList r c) := htl
  have hr8 : r ≤ 8 := htl.1.2.2.1
  have hc8 : c ≤ 8 := htl.1.2.2.2.2.1
  have HTf : Hid (∀ W, Below W3.heap.size W3 W → W.heap[T]? = some (.cells (shC r c f) 62 (0, 0))) := fun W hW => by rw [hW.block T (lt_someN HT3.out), ← HYf.out]; exact HT3.out
  have s0 : W3.cell? ⟨T, 0, none⟩ = some (.int .i64 (r : Int)) := by rw [cell_of_row W3 T _ _ _ _ (HTf.out W3 (Below.refl _ _)), shC_get _ _ _ _ (by omega)]; rfl
  have HBr : Hid (Below W3.heap.size W3 W3) := Below.refl _ _
  have HO0 : Hid (OwPt W3 W3.heap.size (.slice none 0 0) (flp (mtQ r c f) 0 c)) := ⟨rfl, Or.inl ⟨rfl, rfl⟩⟩
  clear htl hY HYr HR
  go_wp2_with fail
  go_loopw [6, 19] (fun lv v wr => ∃ (i : Nat) (L : Value), i ≤ r ∧ v = .int .i64 (i : Int) ∧ L = lv ∧ Hid (OwPt wr W3.heap.size L (flp (mtQ r c f) i c)) ∧ Hid (Below W3.heap.size W3 wr)) (fun _ v _ => r - (intOf v).toNat)
  case atStart => exact ⟨0, _, Nat.zero_le _, rfl, rfl, HO0, HBr⟩
  case round =>
    clear s0 HO0 HBr
    obtain ⟨i, L, hi, rfl, rfl, HO, HB⟩ := hrel
    by_cases hlt : i < r
    · have hlt' : (i : Int) < (r : Int) := by omega
      have s1 : wr.cell? ⟨T, 1, none⟩ = some (.int .i64 (c : Int)) := by rw [cell_of_row wr T _ _ _ _ (HTf.out wr HB.out), shC_get _ _ _ _ (by omega)]; rfl
      have HOz : Hid (OwPt wr W3.heap.size L (flp (mtQ r c f) i c ++ rowP (mtQ r c f) i 0)) := by
        show OwPt _ _ _ (_ ++ [])
        rw [List.append_nil]; exact HO.out
      go_wp2_with fail
      go_loopw [6, 24] (fun lv v wr => ∃ (j : Nat) (L : Value), j ≤ c ∧ v = .int .i64 (j : Int) ∧ L = lv ∧ Hid (OwPt wr W3.heap.size L (flp (mtQ r c f) i c ++ rowP (mtQ r c f) i j)) ∧ Hid (Below W3.heap.size W3 wr)) (fun _ v _ => c - (intOf v).toNat)
      case atStart => exact ⟨0, _, Nat.zero_le _, rfl, rfl, HOz, HB⟩
      case round =>
        clear s1 HOz HO HB
        obtain ⟨j, L, hj, rfl, rfl, HO, HB⟩ := hrel
        by_cases hltj : j < c
        · have hltj' : (j : Int) < (c : Int) := by omega
          obtain ⟨b, Hb⟩ : ∃ b, Hid (mtQ r c f i j = b) := ⟨_, rfl⟩
          have HCm := hid_w (dmay_at T r c f (i : Int) (j : Int) wr (HTf.out wr HB.out) hr8 hc8 b Hb.out)
          cases b with
          | false =>
            have HO2 : Hid (OwPt wr W3.heap.size L (flp (mtQ r c f) i c ++ rowP (mtQ r c f) i (j + 1))) := by
              rw [rowP_succ, if_neg (by rw [Hb.out]; simp), List.append_nil]; exact HO.out
            go_wp2_with (go_at_call 46; with_reducible (refine HCm.out.mono ?_); rintro e v1 ⟨rfl, rfl⟩)
            go_roundw
            case rel => exact ⟨j + 1, _, by omega, by go_num, rfl, HO2, HB⟩
            case measure => simp [intOf]; omega
          | true =>
            have HLn : Hid ((flp (mtQ r c f) i c ++ rowP (mtQ r c f) i j).length ≤ 1000) := by
              have h1 := flp_length (mtQ r c f) i c
              have h2 := rowP_length (mtQ r c f) i j
              have h3 : i * c ≤ 8 * 8 := Nat.mul_le_mul (by omega) hc8
              show _ ≤ _
              rw [List.length_append]; omega
            have HRw : Hid (flp (mtQ r c f) i c ++ rowP (mtQ r c f) i (j + 1) = (flp (mtQ r c f) i c ++ rowP (mtQ r c f) i j) ++ [((j : Int), (i : Int))]) := by
              show _ = _
              rw [rowP_succ, if_pos Hb.out, List.append_assoc]
            go_wp2_with (first | (go_at_call 46; with_reducible (refine HCm.out.mono ?_); rintro e v1 ⟨rfl, rfl⟩) | (at_builtin; refine append_pt1 (base := W3.heap.size) rfl _ _ rfl rfl rfl HO.out HLn.out HB.out.size ?_; intro L2 W4 HO4 HB4))
            have HO5 : Hid (OwPt W4 W3.heap.size L2 (flp (mtQ r c f) i c ++ rowP (mtQ r c f) i (j + 1))) := by rw [HRw.out]; exact HO4.out
            have HB5 : Hid (Below W3.heap.size W3 W4) := HB.out.trans HB4.out
            go_wp2_with fail
            go_roundw
            case rel => exact ⟨j + 1, _, by omega, by go_num, rfl, HO5, HB5⟩
            case measure => simp [intOf]; omega
        · obtain rfl : j = c := by omega
          have HO2 : Hid (OwPt wr W3.heap.size L (flp (mtQ r j f) (i + 1) j)) := by
            rw [flp_succ]; exact HO.out
          go_wp2_with fail
          go_roundw
          case rel => exact ⟨i + 1, _, by omega, by go_num, rfl, HO2, HB⟩
          case measure => simp [intOf]; omega
    · obtain rfl : i = r := by omega
      have HP : Hid (FlP s.data.toList w.heap.size wr L 0) := Or.inl ⟨rfl, i, c, HTl.out, ownsRow_down (by rw [← HF.out]; exact HO.out) HB3.out.size⟩
      have HB5 : Hid (Below w.heap.size w wr) := HB3.out.trans (HB.out.mono HB3.out.size)
      go_wp2_with fail
      go_ret2
      exact ⟨_, 0, rfl, HP, HB5⟩

end Go.Proofs.YtcnmndbckjmliaaDoor
