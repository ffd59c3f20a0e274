/-
  domino.shuffled, Needs, Shuffle of what is refused.
-/
import Derived.Test.YtcnmndbckjmliaaDoorNFr
namespace Go.Proofs.YtcnmndbckjmliaaDoor
open Go.RowKit

theorem u8l_inj {x y : UInt8} (h : u8l x = u8l y) : x = y := by
  unfold u8l at h
  simp only [Lit.int.injEq, true_and] at h
  exact UInt8.toNat_inj.1 (by omega)
theorem sheet_diff (r c : Nat) (f : Nat → UInt8) (r' c' : Nat) (f' : Nat → UInt8) (hr : r ≤ 8) (hc : c ≤ 8) (hr' : r' ≤ 8) (hc' : c' ≤ 8) (hne : ¬ (r = r' ∧ c = c' ∧ ∀ k, k < 64 → f k = f' k)) (w : World) : (Op.equalIn 10000 62 (.agg (shC r c f)) (.agg (shC r' c' f'))).run Tryd.prog w = .ok false w := by
  have hk : Tryd.prog.keyTypeAt 4 62 = true := by kernel_rfl
  have hf : ∀ (r c : Nat) (f : Nat → UInt8), (Value.agg (shC r c f)).formed Tryd.prog 62 = true := fun r c f => by
    unfold Value.formed
    rw [Tryd.underlying62, cells62]
    show ((shC r c f).size == 66) = true
    rw [shC_size]; rfl
  obtain ⟨b, h1, h2⟩ := run_equalIn_deep (P := Tryd.prog) 9996 4 62 hk w 4 4 _ _ _ _ (hf r c f) (hf r' c' f') (lit_sheet r c f hr hc) (lit_sheet r' c' f' hr' hc')
  cases b with
  | false => exact h1
  | true =>
    exfalso
    have e := h2.1 rfl
    simp only [List.cons.injEq, Lit.int.injEq, true_and] at e
    apply hne
    refine ⟨by omega, by omega, fun k hk => ?_⟩
    have e2 := congrArg (fun l => l[k]?) e.2.2
    simp only [List.getElem?_map, List.getElem?_range hk, Option.map_some, Option.some.injEq] at e2
    exact u8l_inj e2
theorem wpList_neq66d {ops : Array Oper} {rest : List Oper} {o : Oper} {a : Act} {w : World} {Q : Exit → Act → World → Prop} (hgd : o.guard = none) (x y : Operand) (tt : TypeId) (ho : o.op = .binOp .neq 62 x y tt)
    (S T : Array Value) (r c : Nat) (f : Nat → UInt8) (r' c' : Nat) (f' : Nat → UInt8) (hx : a.eval x = .agg S) (hy : a.eval y = .agg T) (hS : S = shC r c f) (hT : T = shC r' c' f') (hr : r ≤ 8) (hc : c ≤ 8) (hr' : r' ≤ 8) (hc' : c' ≤ 8) (hne : ¬ (r = r' ∧ c = c' ∧ ∀ k, k < 64 → f k = f' k))
    (h : wpList Tryd.prog ops Q rest (a.put o.dst (.bool true)) w) : wpList Tryd.prog ops Q (o :: rest) a w := by
  subst hS hT
  refine wpList_plain hgd fun _ hK => ?_
  have hq : Tryd.prog.eqGuardType Tryd.prog.depth 62 = false := by kernel_rfl
  unfold Oper.wp execOp
  simp only [ho, hx, hy, Sem.run_bind, run_eqGuard_agg w .neq 62 x y _ _ hq, run_neq_struct, sheet_diff r c f r' c' f' hr hc hr' hc' hne, Result.andThen_ok]
  exact hK _ _ h

set_option maxHeartbeats 8000000 in
set_option maxRecDepth 100000 in
theorem shuffled_no (s : ByteArray) (m : Int) (w : World) (hm : w.cell? ⟨0, 0, none⟩ = some (.int .i64 m)) (hno : ∀ r c, ¬ Til s.data.toList r c) :
    Calls Tryd.prog 49 #[.string s] w fun e w' => e = .returned (.tuple #[.agg (shC 0 0 fun _ => 0), .slice none 0 0, .int .i64 1]) ∧ Hid (Below w.heap.size w w') := by
  obtain ⟨Z, HZ⟩ : ∃ Z, Hid (Z = shC 0 0 fun _ => 0) := ⟨_, rfl⟩
  have hz : ∀ W : World, (zeroValue 62).run Tryd.prog W = .ok (.agg Z) W := fun W => by rw [HZ.out]; exact (zero_of_info zeroS).1 W
  have HZ6 : Hid (C66 Z) := by rw [HZ.out]; exact shC_66 _ _ _
  obtain ⟨Q, HQ⟩ : ∃ Q, Hid (Q = w.heap.size) := ⟨_, rfl⟩
  obtain ⟨W0, HW0⟩ : ∃ W0, Hid (W0 = w.alloc (.cells Z 62)) := ⟨_, rfl⟩
  have HB0 : Hid (Below w.heap.size w W0) := by rw [HW0.out]; exact (Below.refl _ _).alloc (Nat.le_refl _) _
  have HQ0 : Hid (W0.heap[Q]? = some (.cells Z 62 (0, 0))) := by
    show _ = _
    rw [HW0.out, HQ.out]; exact heap_alloc_last _ _
  have HNo := hid_w hno
  have hm0 : W0.cell? ⟨0, 0, none⟩ = some (.int .i64 m) := by
    rw [HW0.out, World.cell?_alloc_past _ _ _ (World.block_lt_of_cell? w ⟨0, 0, none⟩ hm)]; exact hm
  have HCr := hid_w (readT_at s m W0 hm0)
  clear hm hm0 hno
  go_enter Tryd.func49, Tryd.ntmps49
  go_upto_region 1 with fail
  rw [← HQ.out, ← HW0.out]
  go_upto_region 2 with (first | (go_at_call 40; with_reducible (refine HCr.out.mono ?_); rintro e W1 ⟨v, rfl, HR, HB1⟩; obtain ⟨Y, er, rfl, HY6, HYr⟩ := HR.out.parts) | (refine wpList_store66 rfl (.tmp 5) (.tmp 12) rfl W1.heap.size Y Z rfl rfl (heap_alloc_last _ _) HY6.out HZ6.out ?_))
  try simp only [Act.put]
  obtain ⟨T, HT⟩ : ∃ T, Hid (T = W1.heap.size) := ⟨_, rfl⟩
  obtain ⟨W3, HW3⟩ : ∃ W3, Hid (W3 = (W1.alloc (.cells Z 62)).setRow W1.heap.size Y) := ⟨_, rfl⟩
  rw [← HW3.out, ← HT.out]
  have HB13 : Hid (Below W1.heap.size W1 W3) := by
    rw [HW3.out]; exact below_setRowN ((Below.refl _ _).alloc (Nat.le_refl _) _) _ (Nat.le_refl _) _
  have HB3 : Hid (Below W0.heap.size W0 W3) := HB1.out.trans (HB13.out.mono HB1.out.size)
  have HT3 : Hid (W3.heap[T]? = some (.cells Y 62 (0, 0))) := by
    show _ = _
    rw [HW3.out, HT.out]; exact setRow_heap _ _ _ _ _ _ (heap_alloc_last _ _)
  have hYr : er = 1 := by
    rcases HYr.out with ⟨h0, r, c, htl, hY⟩ | ⟨h, _, hno⟩
    · exact absurd htl (HNo.out _ _)
    · exact h
  subst hYr
  have HB03 : Hid (Below w.heap.size w W3) := HB0.out.trans (HB3.out.mono HB0.out.size)
  have HQ3 : Hid (W3.heap[Q]? = some (.cells Z 62 (0, 0))) := by
    show _ = _
    rw [HB3.out.block Q (lt_someN HQ0.out)]; exact HQ0.out
  have HLd : Hid ((loadVar 62 ⟨Q, 0, none⟩).run Tryd.prog (W3.setRow Q Z) = .ok (.agg Z) (W3.setRow Q Z)) := load_66 _ _ _ HZ6.out (setRow_heap _ _ _ _ _ _ HQ3.out)
  have HB6 : Hid (Below w.heap.size w (W3.setRow Q Z)) := below_setRowN HB03.out Q (by rw [HQ.out]; exact Nat.le_refl _) _
  go_wp2_with (first | (refine wpList_build66 rfl rfl Z HZ.out ?_) | (refine wpList_store66 rfl (.tmp 2) (.tmp 16) rfl Q Z Z rfl rfl HQ3.out HZ6.out HZ6.out ?_))
  refine bodyPost_ret (v := .tuple #[.agg Z, .slice none 0 0, .int .i64 1]) ?_ rfl ⟨by rw [HZ.out], HB6⟩
  rw [results_three rfl]
  simp [asAddr, Result.andThen, HLd.out]

set_option maxHeartbeats 8000000 in
set_option maxRecDepth 100000 in
theorem shuffled_sh (s : ByteArray) (R C n : Nat) (m : Int) (w : World) (hm : w.cell? ⟨0, 0, none⟩ = some (.int .i64 m)) (hT : Til s.data.toList R C) (hn : n = R / 2) (hne : ¬ (R = 2 * n ∧ C = 2 * n ∧ brdT s.data.toList R C = tx (2 * n) (2 * n) (dmF n))) :
    Calls Tryd.prog 49 #[.string s] w fun e w' => e = .returned (.tuple #[.agg (shC 0 0 fun _ => 0), .slice none 0 0, .int .i64 3]) ∧ Hid (Below w.heap.size w w') := by
  obtain ⟨Z, HZ⟩ : ∃ Z, Hid (Z = shC 0 0 fun _ => 0) := ⟨_, rfl⟩
  have hz : ∀ W : World, (zeroValue 62).run Tryd.prog W = .ok (.agg Z) W := fun W => by rw [HZ.out]; exact (zero_of_info zeroS).1 W
  have HZ6 : Hid (C66 Z) := by rw [HZ.out]; exact shC_66 _ _ _
  obtain ⟨Q, HQ⟩ : ∃ Q, Hid (Q = w.heap.size) := ⟨_, rfl⟩
  obtain ⟨W0, HW0⟩ : ∃ W0, Hid (W0 = w.alloc (.cells Z 62)) := ⟨_, rfl⟩
  have HB0 : Hid (Below w.heap.size w W0) := by rw [HW0.out]; exact (Below.refl _ _).alloc (Nat.le_refl _) _
  have HQ0 : Hid (W0.heap[Q]? = some (.cells Z 62 (0, 0))) := by
    show _ = _
    rw [HW0.out, HQ.out]; exact heap_alloc_last _ _
  have hR8 : R ≤ 8 := hT.1.2.2.1
  have hC8 : C ≤ 8 := hT.1.2.2.2.2.1
  have hn4 : n ≤ 4 := by omega
  obtain ⟨B, HBd⟩ : ∃ B, Hid (B = shC R C (prg C (cef (pz s.data.toList)) R 0)) := ⟨_, rfl⟩
  obtain ⟨D, HDd⟩ : ∃ D, Hid (D = shC (2 * n) (2 * n) (dmF n)) := ⟨_, rfl⟩
  have hR2 : Int.tdiv (R : Int) 2 = (n : Int) := by rw [Int.tdiv_eq_ediv_of_nonneg (by omega)]; omega
  have HTl := hid_w hT
  have HNe : Hid (¬ (R = 2 * n ∧ C = 2 * n ∧ ∀ k, k < 64 → prg C (cef (pz s.data.toList)) R 0 k = dmF n k)) := fun q => by
    apply hne
    refine ⟨q.1, q.2.1, ?_⟩
    unfold brdT
    obtain ⟨rfl, rfl, q3⟩ := q
    refine tx_congr fun i hi j hj => ?_
    rw [← q3 _ (by omega)]
    unfold brdF prg
    by_cases h1 : cef (pz s.data.toList) (i * 8 + j) ≠ 46
    · rw [if_pos h1, if_pos ⟨by omega, by omega, h1⟩]
    · rw [if_neg h1, if_neg (fun q => h1 q.2.2)]
      exact (Decidable.not_not.1 h1).symm
  have HN8 : Hid (n ≤ 4) := hn4
  have hm0 : W0.cell? ⟨0, 0, none⟩ = some (.int .i64 m) := by
    rw [HW0.out, World.cell?_alloc_past _ _ _ (World.block_lt_of_cell? w ⟨0, 0, none⟩ hm)]; exact hm
  have HCr := hid_w (readT_at s m W0 hm0)
  clear hm hm0 hT hne hn
  go_enter Tryd.func49, Tryd.ntmps49
  go_upto_region 1 with fail
  rw [← HQ.out, ← HW0.out]
  go_upto_region 2 with (first | (go_at_call 40; with_reducible (refine HCr.out.mono ?_); rintro e W1 ⟨v, rfl, HR, HB1⟩; obtain ⟨Y, er, rfl, HY6, HYr⟩ := HR.out.parts) | (refine wpList_store66 rfl (.tmp 5) (.tmp 12) rfl W1.heap.size Y Z rfl rfl (heap_alloc_last _ _) HY6.out HZ6.out ?_))
  try simp only [Act.put]
  obtain ⟨T, HT⟩ : ∃ T, Hid (T = W1.heap.size) := ⟨_, rfl⟩
  obtain ⟨W3, HW3⟩ : ∃ W3, Hid (W3 = (W1.alloc (.cells Z 62)).setRow W1.heap.size Y) := ⟨_, rfl⟩
  rw [← HW3.out, ← HT.out]
  have HB13 : Hid (Below W1.heap.size W1 W3) := by
    rw [HW3.out]; exact below_setRowN ((Below.refl _ _).alloc (Nat.le_refl _) _) _ (Nat.le_refl _) _
  have HB3 : Hid (Below W0.heap.size W0 W3) := HB1.out.trans (HB13.out.mono HB1.out.size)
  have HT3 : Hid (W3.heap[T]? = some (.cells Y 62 (0, 0))) := by
    show _ = _
    rw [HW3.out, HT.out]; exact setRow_heap _ _ _ _ _ _ (heap_alloc_last _ _)
  obtain ⟨f, HF⟩ : ∃ f, Hid (f = cef (pz s.data.toList)) := ⟨_, rfl⟩
  have hYr : er = 0 ∧ Y = shC R C f := by
    rcases HYr.out with ⟨h0, r, c, htl, hY⟩ | ⟨_, _, hno⟩
    · obtain ⟨rfl, rfl⟩ := til_eqB HTl.out htl
      exact ⟨h0, by rw [hY, HF.out]⟩
    · exact absurd HTl.out (hno _ _)
  obtain ⟨rfl, hY⟩ := hYr
  have HYf : Hid (Y = shC R C f) := hY
  have HTf : Hid (∀ W, Below W3.heap.size W3 W → W.heap[T]? = some (.cells (shC R C f) 62 (0, 0))) := fun W hW => by rw [hW.block T (lt_someN HT3.out), ← HYf.out]; exact HT3.out
  have s0 : W3.cell? ⟨T, 0, none⟩ = some (.int .i64 (R : Int)) := by rw [cell_of_row W3 T _ _ _ _ (HTf.out W3 (Below.refl _ _)), shC_get _ _ _ _ (by omega)]; rfl
  have HCb : Hid (Calls Tryd.prog 41 #[.pointer (some ⟨T, 0, none⟩)] W3 fun e w' => e = .returned (.agg B) ∧ Hid (Below W3.heap.size W3 w')) := by
    have h := dboard_at T R C f W3 (HTf.out W3 (Below.refl _ _)) (by omega) (by omega)
    rw [HBd.out, ← HF.out]; exact h
  have HCd : Hid (∀ W, Calls Tryd.prog 45 #[.int .i64 (n : Int)] W fun e w' => e = .returned (.agg D) ∧ Hid (Below W.heap.size W w')) := fun W => by
    rw [HDd.out]; exact diamond_at n W HN8.out
  clear hY HYr HR
  go_upto_region 5 with fail
  clear s0
  have HB03 : Hid (Below w.heap.size w W3) := HB0.out.trans (HB3.out.mono HB0.out.size)
  have HQ3 : Hid (W3.heap[Q]? = some (.cells Z 62 (0, 0))) := by
    show _ = _
    rw [HB3.out.block Q (lt_someN HQ0.out)]; exact HQ0.out
  have HLq : Hid (∀ W : World, Hid (Below W3.heap.size W3 W) → Hid (W.heap[Q]? = some (.cells Z 62 (0, 0)))) := fun W hW => by
    show _ = _
    rw [hW.out.block Q (lt_someN HQ3.out)]; exact HQ3.out
  go_upto_region 6 with (first | (go_at_call 41; with_reducible (refine HCb.out.mono ?_); rintro e W4 ⟨rfl, HB4⟩; have HCd4 := hid_w (HCd.out W4)) | (go_at_call 45; with_reducible (refine HCd4.out.mono ?_); rintro e W5 ⟨rfl, HB5⟩) | (refine wpList_neq66d rfl (.tmp 21) (.tmp 23) _ rfl B D R C _ (2 * n) (2 * n) (dmF n) rfl rfl HBd.out HDd.out hR8 hC8 (by omega) (by omega) HNe.out ?_))
  have HB35 : Hid (Below W3.heap.size W3 W5) := HB4.out.trans (HB5.out.mono HB4.out.size)
  have HQ5 := hid_w (HLq.out W5 HB35)
  have HLd : Hid ((loadVar 62 ⟨Q, 0, none⟩).run Tryd.prog (W5.setRow Q Z) = .ok (.agg Z) (W5.setRow Q Z)) := load_66 _ _ _ HZ6.out (setRow_heap _ _ _ _ _ _ HQ5.out.out)
  have HB6 : Hid (Below w.heap.size w (W5.setRow Q Z)) := below_setRowN (HB03.out.trans (HB35.out.mono HB03.out.size)) Q (by rw [HQ.out]; exact Nat.le_refl _) _
  go_wp2_with (first | (refine wpList_build66 rfl rfl Z HZ.out ?_) | (refine wpList_store66 rfl (.tmp 2) (.tmp 25) rfl Q Z Z rfl rfl HQ5.out.out HZ6.out HZ6.out ?_))
  refine bodyPost_ret (v := .tuple #[.agg Z, .slice none 0 0, .int .i64 3]) ?_ rfl ⟨by rw [HZ.out], HB6⟩
  rw [results_three rfl]
  simp [asAddr, Result.andThen, HLd.out]

set_option maxHeartbeats 8000000 in
set_option maxRecDepth 100000 in
theorem Needs_bad (s : ByteArray) (er : Int) (w : World) (hs : Calls Tryd.prog 49 #[.string s] w fun e w' => e = .returned (.tuple #[.agg (shC 0 0 fun _ => 0), .slice none 0 0, .int .i64 er]) ∧ Hid (Below w.heap.size w w')) :
    Calls Tryd.prog 25 #[.string s] w fun e w' => e = .returned (.tuple #[.int .i64 0, .int .i64 er]) ∧ Hid (Below w.heap.size w w') := by
  obtain ⟨Z, HZ⟩ : ∃ Z, Hid (Z = shC 0 0 fun _ => 0) := ⟨_, rfl⟩
  have hz : ∀ W : World, (zeroValue 62).run Tryd.prog W = .ok (.agg Z) W := fun W => by rw [HZ.out]; exact (zero_of_info zeroS).1 W
  have HZ6 : Hid (C66 Z) := by rw [HZ.out]; exact shC_66 _ _ _
  have HC := hid_w hs
  rw [← HZ.out] at HC
  clear hs
  go_enter Tryd.func25, Tryd.ntmps25
  go_upto_region 2 with (first | (go_at_call 49; with_reducible (refine HC.out.mono ?_); rintro e W1 ⟨rfl, HB1⟩) | (refine wpList_store66 rfl (.tmp 4) (.tmp 10) rfl W1.heap.size Z Z rfl rfl (heap_alloc_last _ _) HZ6.out HZ6.out ?_))
  try simp only [Act.put]
  have HB3 : Hid (Below w.heap.size w ((W1.alloc (.cells Z 62)).setRow W1.heap.size Z)) := below_setRowN (HB1.out.alloc HB1.out.size _) _ HB1.out.size _
  go_wp2_with fail
  go_ret2
  exact ⟨rfl, HB3⟩

set_option maxHeartbeats 8000000 in
set_option maxRecDepth 100000 in
theorem Shuffle_bad (s : ByteArray) (er : Int) (w : World) (hne : ¬ er = 0) (ua : Option Addr) (un uc : Nat) (hs : Calls Tryd.prog 49 #[.string s] w fun e w' => e = .returned (.tuple #[.agg (shC 0 0 fun _ => 0), .slice none 0 0, .int .i64 er]) ∧ Hid (Below w.heap.size w w')) :
    Calls Tryd.prog 26 #[.string s, .slice ua un uc] w fun e w' => e = .returned (.tuple #[.string ⟨#[]⟩, .int .i64 er]) ∧ Hid (Below w.heap.size w w') := by
  obtain ⟨Z, HZ⟩ : ∃ Z, Hid (Z = shC 0 0 fun _ => 0) := ⟨_, rfl⟩
  have hz : ∀ W : World, (zeroValue 62).run Tryd.prog W = .ok (.agg Z) W := fun W => by rw [HZ.out]; exact (zero_of_info zeroS).1 W
  have HZ6 : Hid (C66 Z) := by rw [HZ.out]; exact shC_66 _ _ _
  have HC := hid_w hs
  rw [← HZ.out] at HC
  clear hs
  have hnb : (er == 0) = false := beq_false_of_ne hne
  go_enter Tryd.func26, Tryd.ntmps26
  go_upto_region 2 with (first | (go_at_call 49; with_reducible (refine HC.out.mono ?_); rintro e W1 ⟨rfl, HB1⟩) | (refine wpList_store66 rfl (.tmp 6) (.tmp 14) rfl W1.heap.size Z Z rfl rfl (heap_alloc_last _ _) HZ6.out HZ6.out ?_))
  try simp only [Act.put]
  have HB3 : Hid (Below w.heap.size w ((W1.alloc (.cells Z 62)).setRow W1.heap.size Z)) := below_setRowN (HB1.out.alloc HB1.out.size _) _ HB1.out.size _
  go_wp2_with fail
  go_ret2
  exact ⟨rfl, HB3⟩

set_option maxHeartbeats 8000000 in
set_option maxRecDepth 100000 in
theorem Shuffle_len {s : ByteArray} {n : Nat} {N0 : Nat → UInt8} {l : List (Int × Int)} {N1 : Nat → UInt8} (h : ShH s.data.toList n N0 l N1) (m : Int) (w : World) (hm : w.cell? ⟨0, 0, none⟩ = some (.int .i64 m)) (L : Nat) (hL : L = l.length) (ua : Option Addr) (un uc : Nat) (hne : ¬ un = L) :
    Calls Tryd.prog 26 #[.string s, .slice ua un uc] w fun e w' => e = .returned (.tuple #[.string ⟨#[]⟩, .int .i64 3]) ∧ Hid (Below w.heap.size w w') := by
  obtain ⟨Z, HZ⟩ : ∃ Z, Hid (Z = shC 0 0 fun _ => 0) := ⟨_, rfl⟩
  have hz : ∀ W : World, (zeroValue 62).run Tryd.prog W = .ok (.agg Z) W := fun W => by rw [HZ.out]; exact (zero_of_info zeroS).1 W
  have HZ6 : Hid (C66 Z) := by rw [HZ.out]; exact shC_66 _ _ _
  have HC : Hid (Calls Tryd.prog 49 #[.string s] w fun e w' => ∃ Y a cp, e = .returned (.tuple #[.agg Y, .slice a L cp, .int .i64 0]) ∧ Hid (C66 Y) ∧ Hid (Below w.heap.size w w')) := by
    refine (h.run m w hm _ rfl).mono ?_
    rintro e w' ⟨N, a, cp, rfl, _, _, hB⟩
    exact ⟨_, a, cp, by rw [hL], shC_66 _ _ _, hB⟩
  have hnb : ((un : Int) == (L : Int)) = false := beq_false_of_ne (fun e => hne (by omega))
  have hnp : ¬ (un : Int) = (L : Int) := fun e => hne (by omega)
  clear hm hL h hne
  go_enter Tryd.func26, Tryd.ntmps26
  go_upto_region 2 with (first | (go_at_call 49; with_reducible (refine HC.out.mono ?_); rintro e W1 ⟨Y, a1, cp1, rfl, HY6, HB1⟩) | (refine wpList_store66 rfl (.tmp 6) (.tmp 14) rfl W1.heap.size Y Z rfl rfl (heap_alloc_last _ _) HY6.out HZ6.out ?_))
  try simp only [Act.put]
  have HB3 : Hid (Below w.heap.size w ((W1.alloc (.cells Z 62)).setRow W1.heap.size Y)) := below_setRowN (HB1.out.alloc HB1.out.size _) _ HB1.out.size _
  go_wp2_with fail
  go_ret2
  exact ⟨rfl, HB3⟩

end Go.Proofs.YtcnmndbckjmliaaDoor
