/-
  domino.sheet.board, Board.
-/
import Derived.Test.YtcnmndbckjmliaaDoorNRt
import Derived.Test.YtcnmndbckjmliaaDoorNDi
namespace Go.Proofs.YtcnmndbckjmliaaDoor
open Go.RowKit

/-- A cell wherever half a domino is, as far as row i and column j. -/
def prg (c : Nat) (f : Nat → UInt8) (i j k : Nat) : UInt8 := if (k / 8 < i ∨ (k / 8 = i ∧ k % 8 < j)) ∧ k % 8 < c ∧ f k ≠ 46 then 35 else f k
theorem prg_zero (c : Nat) (f : Nat → UInt8) : prg c f 0 0 = f := by
  funext k; unfold prg; rw [if_neg (by omega)]
theorem prg_row (c : Nat) (f : Nat → UInt8) (i : Nat) : prg c f i c = prg c f (i + 1) 0 := by
  funext k; unfold prg
  by_cases h : (k / 8 < i ∨ (k / 8 = i ∧ k % 8 < c)) ∧ k % 8 < c ∧ f k ≠ 46
  · rw [if_pos h, if_pos ⟨by omega, h.2⟩]
  · rw [if_neg h, if_neg (fun q => h ⟨by omega, q.2⟩)]
theorem prg_skip {c : Nat} {f : Nat → UInt8} {i j : Nat} (h : f (i * 8 + j) = 46) : prg c f i (j + 1) = prg c f i j := by
  funext k; unfold prg
  by_cases e : k = i * 8 + j
  · subst e
    rw [if_neg (fun q => q.2.2 h), if_neg (fun q => q.2.2 h)]
  · by_cases q : (k / 8 < i ∨ (k / 8 = i ∧ k % 8 < j)) ∧ k % 8 < c ∧ f k ≠ 46
    · rw [if_pos q, if_pos ⟨by omega, q.2⟩]
    · rw [if_neg q, if_neg (fun z => q ⟨by omega, z.2⟩)]
theorem prg_put {c : Nat} {f : Nat → UInt8} {i j : Nat} (hj : j < c) (hc : c ≤ 8) (h : f (i * 8 + j) ≠ 46) : upB (prg c f i j) (i * 8 + j) 35 = prg c f i (j + 1) := by
  funext k; unfold upB prg
  by_cases e : k = i * 8 + j
  · subst e
    rw [if_pos rfl, if_pos ⟨by omega, by omega, h⟩]
  · rw [if_neg e]
    by_cases q : (k / 8 < i ∨ (k / 8 = i ∧ k % 8 < j)) ∧ k % 8 < c ∧ f k ≠ 46
    · rw [if_pos q, if_pos ⟨by omega, q.2⟩]
    · rw [if_neg q, if_neg (fun z => q ⟨by omega, z.2⟩)]

set_option maxHeartbeats 4000000 in
set_option maxRecDepth 100000 in
theorem dboard_at (G r c : Nat) (f : Nat → UInt8) (w : World) (hG : w.heap[G]? = some (.cells (shC r c f) 62 (0, 0))) (hr : r ≤ 8) (hc : c ≤ 8) :
    Calls Tryd.prog 41 #[.pointer (some ⟨G, 0, none⟩)] w fun e w' => e = .returned (.agg (shC r c (prg c f r 0))) ∧ Hid (Below w.heap.size w w') := by
  have HG : Hid (∀ W, Below w.heap.size w W → W.heap[G]? = some (.cells (shC r c f) 62 (0, 0))) := fun W hW => by rw [hW.block G (lt_someN hG)]; exact hG
  have HGl := hid_w (lt_someN hG)
  obtain ⟨Z, HZ⟩ : ∃ Z, Hid (Z = shC 0 0 fun _ => 0) := ⟨_, rfl⟩
  have hz : ∀ W : World, (zeroValue 62).run Tryd.prog W = .ok (.agg Z) W := fun W => by rw [HZ.out]; exact (zero_of_info zeroS).1 W
  have HZ6 : Hid (C66 Z) := by rw [HZ.out]; exact shC_66 _ _ _
  obtain ⟨Q, HQ⟩ : ∃ Q, Hid (Q = w.heap.size) := ⟨_, rfl⟩
  obtain ⟨W0, HW0⟩ : ∃ W0, Hid (W0 = w.alloc (.cells Z 62)) := ⟨_, rfl⟩
  have HB0 : Hid (Below w.heap.size w W0) := by rw [HW0.out]; exact (Below.refl _ _).alloc (Nat.le_refl _) _
  have HQ0 : Hid (W0.heap[Q]? = some (.cells Z 62 (0, 0))) := by
    show _ = _
    rw [HW0.out, HQ.out]; exact heap_alloc_last _ _
  have HG0 := hid_w (HG.out W0 HB0.out)
  obtain ⟨S, HS⟩ : ∃ S, Hid (S = shC r c f) := ⟨_, rfl⟩
  have HS6 : Hid (C66 S) := by rw [HS.out]; exact shC_66 _ _ _
  rw [← HS.out] at HG0
  clear hG
  go_enter Tryd.func41, Tryd.ntmps41
  go_upto_region 1 with fail
  rw [← HQ.out, ← HW0.out]
  go_upto_region 2 with (first | (refine wpList_load66 rfl (.tmp 7) rfl G S rfl HG0.out HS6.out ?_) | (refine wpList_store66 rfl (.tmp 3) (.tmp 8) rfl W0.heap.size S Z rfl rfl (heap_alloc_last _ _) HS6.out HZ6.out ?_))
  try simp only [Act.put]
  obtain ⟨T, HT⟩ : ∃ T, Hid (T = W0.heap.size) := ⟨_, rfl⟩
  obtain ⟨W3, HW3⟩ : ∃ W3, Hid (W3 = (W0.alloc (.cells Z 62)).setRow W0.heap.size S) := ⟨_, rfl⟩
  rw [← HW3.out, ← HT.out]
  have hb13 : Below W0.heap.size W0 W3 := by
    rw [HW3.out]; exact below_setRowN ((Below.refl _ _).alloc (Nat.le_refl _) _) _ (Nat.le_refl _) _
  have HB3 : Hid (Below w.heap.size w W3) := HB0.out.trans (hb13.mono HB0.out.size)
  have HT3 : Hid (W3.heap[T]? = some (.cells (shC r c (prg c f 0 0)) 62 (0, 0))) := by
    show _ = _
    rw [HW3.out, HT.out, prg_zero, ← HS.out]; exact setRow_heap _ _ _ _ _ _ (heap_alloc_last _ _)
  have HQ3 : Hid (W3.heap[Q]? = some (.cells Z 62 (0, 0))) := by
    show _ = _
    rw [hb13.block Q (lt_someN HQ0.out)]; exact HQ0.out
  have HQT : Hid (Q ≠ T ∧ w.heap.size ≤ T) := ⟨by have h1 := lt_someN HQ0.out; have h2 := HT.out; omega, by rw [HT.out]; exact HB0.out.size⟩
  clear hb13
  have s0 : W3.cell? ⟨G, 0, none⟩ = some (.int .i64 (r : Int)) := by rw [cell_of_row W3 G _ _ _ _ (HG.out W3 HB3.out), shC_get _ _ _ _ (by omega)]; rfl
  go_wp2_with fail
  go_loopw [13] (fun v wr => ∃ i : Nat, i ≤ r ∧ v = .int .i64 (i : Int) ∧ Hid (wr.heap[T]? = some (.cells (shC r c (prg c f i 0)) 62 (0, 0))) ∧ Hid (wr.heap[Q]? = some (.cells Z 62 (0, 0))) ∧ Hid (Below w.heap.size w wr)) (fun v _ => r - (intOf v).toNat)
  case atStart => exact ⟨0, Nat.zero_le _, rfl, HT3, HQ3, HB3⟩
  case round =>
    clear s0 HT3 HQ3 HB3
    obtain ⟨i, hi, rfl, HTi, HQi, HBi⟩ := hrel
    by_cases hlt : i < r
    · have hlt' : (i : Int) < (r : Int) := by omega
      have s1 : wr.cell? ⟨G, 1, none⟩ = some (.int .i64 (c : Int)) := by rw [cell_of_row wr G _ _ _ _ (HG.out wr HBi.out), shC_get _ _ _ _ (by omega)]; rfl
      go_wp2_with fail
      go_loopw [20] (fun v wr => ∃ j : Nat, j ≤ c ∧ v = .int .i64 (j : Int) ∧ Hid (wr.heap[T]? = some (.cells (shC r c (prg c f i j)) 62 (0, 0))) ∧ Hid (wr.heap[Q]? = some (.cells Z 62 (0, 0))) ∧ Hid (Below w.heap.size w wr)) (fun v _ => c - (intOf v).toNat)
      case atStart => exact ⟨0, Nat.zero_le _, rfl, HTi, HQi, HBi⟩
      case round =>
        clear s1 HTi HQi HBi
        obtain ⟨j, hj, rfl, HTj, HQj, HBj⟩ := hrel
        by_cases hltj : j < c
        · have hltj' : (j : Int) < (c : Int) := by omega
          have hi8 : (i : Int) < 8 := by omega
          have hj8 : (j : Int) < 8 := by omega
          obtain ⟨y, HY⟩ : ∃ y : Nat, Hid (y = (f (i * 8 + j)).toNat) := ⟨_, rfl⟩
          have cy : wr.cell? ⟨G, 2 + i * 8 + j, none⟩ = some (.int .u8 (y : Int)) := by
            have h := sh_cell (w := wr) (HG.out wr HBj.out) (i * 8 + j) (by omega)
            rw [← Nat.add_assoc, ← HY.out] at h; exact h
          by_cases hy : y = 46
          · have hf : f (i * 8 + j) = 46 := (byteN (n := 46) (by omega)).1 (by rw [← HY.out]; exact hy)
            have HT2 : Hid (wr.heap[T]? = some (.cells (shC r c (prg c f i (j + 1))) 62 (0, 0))) := by
              show _ = _
              rw [prg_skip hf]; exact HTj.out
            clear HY hf
            subst hy
            go_wp2_with fail
            go_roundw
            case rel => exact ⟨j + 1, by omega, by go_num, HT2, HQj, HBj⟩
            case measure => simp [intOf]; omega
          · have hf : f (i * 8 + j) ≠ 46 := fun q => hy (by rw [HY.out, q]; rfl)
            have hyb : ((y : Int) != 46) = true := by simp; omega
            have hyd : (y : Int) ≠ 46 := by omega
            have c0 : wr.cell? ⟨T, 2 + i * 8 + j, none⟩ = some (.int .u8 ((prg c f i j (i * 8 + j)).toNat : Int)) := by
              have h := sh_cell (w := wr) HTj.out (i * 8 + j) (by omega)
              rw [← Nat.add_assoc] at h; exact h
            have f0 : wr.frozen? ⟨T, 2 + i * 8 + j, none⟩ = false := frozen_of_row wr T _ _ _ HTj.out
            have HT2 : Hid ((wr.setCell ⟨T, 2 + i * 8 + j, none⟩ (.int .u8 35)).heap[T]? = some (.cells (shC r c (prg c f i (j + 1))) 62 (0, 0))) := by
              show _ = _
              have h := sh_store (w := wr) HTj.out (i * 8 + j) 35
              rw [← Nat.add_assoc] at h
              rw [← prg_put hltj hc hf]; exact h
            have HQ2 : Hid ((wr.setCell ⟨T, 2 + i * 8 + j, none⟩ (.int .u8 35)).heap[Q]? = some (.cells Z 62 (0, 0))) := by
              show _ = _
              rw [heap_setCell_other _ _ _ _ HQT.out.1]; exact HQj.out
            have HB2 : Hid (Below w.heap.size w (wr.setCell ⟨T, 2 + i * 8 + j, none⟩ (.int .u8 35))) :=
              HBj.out.trans ⟨rfl, rfl, rfl, by simp, fun k hk => heap_setCell_other _ _ _ _ (show k ≠ T by have := HQT.out.2; omega)⟩
            clear HY hf hy
            go_wp2_with fail
            go_roundw
            case rel => exact ⟨j + 1, by omega, by go_num, HT2, HQ2, HB2⟩
            case measure => simp [intOf]; omega
        · obtain rfl : j = c := by omega
          have HT2 : Hid (wr.heap[T]? = some (.cells (shC r j (prg j f (i + 1) 0)) 62 (0, 0))) := by
            rw [← prg_row]; exact HTj.out
          go_wp2_with fail
          go_roundw
          case rel => exact ⟨i + 1, by omega, by go_num, HT2, HQj, HBj⟩
          case measure => simp [intOf]; omega
    · obtain rfl : i = r := by omega
      obtain ⟨Y, HYy⟩ : ∃ Y, Hid (Y = shC i c (prg c f i 0)) := ⟨_, rfl⟩
      have HY6 : Hid (C66 Y) := by rw [HYy.out]; exact shC_66 _ _ _
      rw [← HYy.out] at HTi
      have HBd : Hid (Below w.heap.size w (wr.setRow Q Y)) := below_setRowN HBi.out Q (by rw [HQ.out]; exact Nat.le_refl _) _
      go_wp2_with (first | (refine wpList_load66 rfl (.tmp 3) rfl T Y rfl HTi.out HY6.out ?_) | (refine wpList_store66 rfl (.tmp 2) (.tmp 39) rfl Q Y Z rfl rfl HQi.out HY6.out HZ6.out ?_))
      refine bodyPost_ret (v := .agg Y) ?_ rfl ⟨by rw [HYy.out], HBd⟩
      exact results_cell_row rfl _ _ Q 62 Y (0, 0) _ rfl (setRow_heap _ _ _ _ _ _ HQi.out) Tryd.underlying62 rfl (by rw [infoS, HY6.out.1])

/-- What domino.Board answers. -/
def brdF (f : Nat → UInt8) (k : Nat) : UInt8 := if f k ≠ 46 then 35 else 46
def BoP (s : List UInt8) (v : Value) (er : Int) : Prop := (er = 0 ∧ ∃ r c, Til s r c ∧ v = .string ⟨(tx r c (brdF (cef (pz s)))).toArray⟩) ∨ (er = 1 ∧ v = .string ⟨#[]⟩ ∧ ∀ r c, ¬ Til s r c)
theorem prg_tx (r c : Nat) (f : Nat → UInt8) (hc : c ≤ 8) : tx r c (prg c f r 0) = tx r c (brdF f) := tx_congr (fun i hi j hj => by
  unfold prg brdF
  by_cases h : f (i * 8 + j) ≠ 46
  · rw [if_pos ⟨by omega, by omega, h⟩, if_pos h]
  · rw [if_neg (fun q => h q.2.2), if_neg h]
    exact Classical.not_not.1 h)

set_option maxHeartbeats 4000000 in
set_option maxRecDepth 100000 in
theorem Board_at (s : ByteArray) (m : Int) (w : World) (hm : w.cell? ⟨0, 0, none⟩ = some (.int .i64 m)) :
    Calls Tryd.prog 10 #[.string s] w fun e w' => ∃ (v : Value) (er : Int), e = .returned (.tuple #[v, .int .i64 er]) ∧ Hid (BoP s.data.toList v er) ∧ Hid (Below w.heap.size w w') := by
  obtain ⟨Z, HZ⟩ : ∃ Z, Hid (Z = shC 0 0 fun _ => 0) := ⟨_, rfl⟩
  have hz : ∀ W : World, (zeroValue 62).run Tryd.prog W = .ok (.agg Z) W := fun W => by rw [HZ.out]; exact (zero_of_info zeroS).1 W
  have HZ6 : Hid (C66 Z) := by rw [HZ.out]; exact shC_66 _ _ _
  have HCr := hid_w (readT_at s m w hm)
  clear hm
  go_enter Tryd.func10, Tryd.ntmps10
  go_upto_region 2 with (first | (go_at_call 40; with_reducible (refine HCr.out.mono ?_); rintro e W1 ⟨v, rfl, HR, HB1⟩; obtain ⟨Y, er, rfl, HY6, HYr⟩ := HR.out.parts) | (refine wpList_store66 rfl (.tmp 4) (.tmp 10) rfl W1.heap.size Y Z rfl rfl (heap_alloc_last _ _) HY6.out HZ6.out ?_))
  try simp only [Act.put]
  obtain ⟨T, HT⟩ : ∃ T, Hid (T = W1.heap.size) := ⟨_, rfl⟩
  obtain ⟨W3, HW3⟩ : ∃ W3, Hid (W3 = (W1.alloc (.cells Z 62)).setRow W1.heap.size Y) := ⟨_, rfl⟩
  rw [← HW3.out, ← HT.out]
  have HB3 : Hid (Below w.heap.size w W3) := by
    rw [HW3.out]; exact below_setRowN (HB1.out.alloc HB1.out.size _) _ HB1.out.size _
  have HT3 : Hid (W3.heap[T]? = some (.cells Y 62 (0, 0))) := by
    show _ = _
    rw [HW3.out, HT.out]; exact setRow_heap _ _ _ _ _ _ (heap_alloc_last _ _)
  rcases HYr.out with ⟨rfl, r, c, htl, hY⟩ | ⟨rfl, hY, hno⟩
  case inr =>
    have HP : Hid (BoP s.data.toList (.string ⟨#[]⟩) 1) := Or.inr ⟨rfl, rfl, hno⟩
    clear hno hY HYr HR
    go_wp2_with fail
    go_ret2
    exact ⟨_, 1, rfl, HP, HB3⟩
  obtain ⟨f, HF⟩ : ∃ f, Hid (f = cef (pz s.data.toList)) := ⟨_, rfl⟩
  rw [← HF.out] at hY
  have hr8 : r ≤ 8 := htl.1.2.2.1
  have hc8 : c ≤ 8 := htl.1.2.2.2.2.1
  have HTf : Hid (W3.heap[T]? = some (.cells (shC r c f) 62 (0, 0))) := by rw [← hY]; exact HT3.out
  obtain ⟨t, HTt⟩ : ∃ t : ByteArray, Hid (t = ⟨(tx r c (prg c f r 0)).toArray⟩) := ⟨_, rfl⟩
  have HP : Hid (BoP s.data.toList (.string t) 0) := Or.inl ⟨rfl, r, c, htl, by rw [HTt.out, prg_tx r c f hc8, ← HF.out]⟩
  obtain ⟨S, HS⟩ : ∃ S, Hid (S = shC r c (prg c f r 0)) := ⟨_, rfl⟩
  have HS6 : Hid (C66 S) := by rw [HS.out]; exact shC_66 _ _ _
  have HC := hid_w (dboard_at T r c f W3 HTf.out hr8 hc8)
  rw [← HS.out] at HC
  have HX : Hid (∀ (W : World) (T2 : Nat), W.heap[T2]? = some (.cells S 62 (0, 0)) → Calls Tryd.prog 39 #[.pointer (some ⟨T2, 0, none⟩)] W fun e w' => e = .returned (.string t) ∧ Hid (Below W.heap.size W w')) := fun W T2 hT2 => by
    rw [HTt.out]
    exact dtext_at T2 r c _ W (by rw [← HS.out]; exact hT2) hr8 hc8
  clear htl hY HYr HR
  go_upto_region 5 with (first | (go_at_call 41; with_reducible (refine HC.out.mono ?_); rintro e W4 ⟨rfl, HB4⟩) | (refine wpList_store66 rfl (.tmp 6) (.tmp 15) rfl W4.heap.size S Z rfl rfl (heap_alloc_last _ _) HS6.out HZ6.out ?_))
  try simp only [Act.put]
  obtain ⟨W5, HW5⟩ : ∃ W5, Hid (W5 = (W4.alloc (.cells Z 62)).setRow W4.heap.size S) := ⟨_, rfl⟩
  rw [← HW5.out]
  have HB4w : Hid (Below w.heap.size w W4) := HB3.out.trans (HB4.out.mono HB3.out.size)
  have HB5 : Hid (Below w.heap.size w W5) := by
    rw [HW5.out]; exact below_setRowN (HB4w.out.alloc HB4w.out.size _) _ HB4w.out.size _
  have HT5 : Hid (W5.heap[W4.heap.size]? = some (.cells S 62 (0, 0))) := by
    show _ = _
    rw [HW5.out]; exact setRow_heap _ _ _ _ _ _ (heap_alloc_last _ _)
  have HXc := hid_w (HX.out W5 _ HT5.out)
  go_wp2_with (go_at_call 39; with_reducible (refine HXc.out.mono ?_); rintro e W6 ⟨rfl, HB6⟩)
  have HB7 : Hid (Below w.heap.size w W6) := HB5.out.trans (HB6.out.mono HB5.out.size)
  go_ret2
  exact ⟨_, 0, rfl, HP, HB7⟩

end Go.Proofs.YtcnmndbckjmliaaDoor
