/-
  domino.shuffled.
-/
import Derived.Test.YtcnmndbckjmliaaDoorNPz
import Derived.Test.YtcnmndbckjmliaaDoorNBka
import Derived.Deep.RegionWith
namespace Go.Proofs.YtcnmndbckjmliaaDoor
open Go.RowKit

theorem cef_out {lt s : List UInt8} {r c : Nat} (h : Shz lt r c (pz s)) {k : Nat} (hk : ¬ (k / 8 < r ∧ k % 8 < c)) : cef (pz s) k = 0 := by
  unfold cef
  by_cases h1 : k / 8 < r
  · have hm : (pz s).getD (k / 8) [] ∈ pz s := by rw [List.getD_eq_getElem?_getD, List.getElem?_eq_getElem (by rw [h.1]; exact h1), Option.getD_some]; exact List.getElem_mem _
    have h6 := (h.2.2.2.2.2 _ hm).1
    rw [List.getD_eq_getElem?_getD, List.getElem?_eq_none (by rw [h6]; omega)]; rfl
  · have e : (pz s).getD (k / 8) [] = [] := by rw [List.getD_eq_getElem?_getD, List.getElem?_eq_none (by rw [h.1]; omega)]; rfl
    rw [e]; rfl
theorem dm_inB {n k : Nat} (hk : k / 8 < 2 * n ∧ k % 8 < 2 * n) : dmF n k = 35 ∨ dmF n k = 46 := by
  unfold dmF dmB
  rw [if_pos hk]
  split
  · exact Or.inl rfl
  · exact Or.inr rfl
/-- The tiling's board is the diamond, cell by cell. -/
theorem brd_dm {s : List UInt8} {n : Nat} (hn : 1 ≤ n) (hn4 : n ≤ 4) (h : Til s (2 * n) (2 * n)) (hb : brdT s (2 * n) (2 * n) = tx (2 * n) (2 * n) (dmF n)) {k : Nat} (hk : k / 8 < 2 * n ∧ k % 8 < 2 * n) : brdF (cef (pz s)) k = dmF n k := by
  obtain ⟨m, rfl⟩ : ∃ m, n = m + 1 := ⟨n - 1, by omega⟩
  have e := congrArg (fun l => l[k / 8 * (2 * (m + 1) + 1) + k % 8]?) hb
  simp only [brdT] at e
  rw [show 2 * (m + 1) = (2 * m + 1) + 1 by omega] at e
  rw [tx_get _ _ _ _ _ (by omega) (by omega), tx_get _ _ _ _ _ (by omega) (by omega), show k / 8 * 8 + k % 8 = k by omega] at e
  exact Option.some.inj e
theorem shC_congr {r c : Nat} {f g : Nat → UInt8} (h : ∀ k, k < 64 → f k = g k) : shC r c f = shC r c g := by
  unfold shC
  congr 1
  apply List.map_congr_left
  intro k hk
  have := List.mem_range.1 hk
  unfold shF
  split
  · rfl
  · split
    · rfl
    · rw [h _ (by omega)]
theorem board_dm {s : List UInt8} {n : Nat} (hn : 1 ≤ n) (hn4 : n ≤ 4) (h : Til s (2 * n) (2 * n)) (hb : brdT s (2 * n) (2 * n) = tx (2 * n) (2 * n) (dmF n)) : shC (2 * n) (2 * n) (prg (2 * n) (cef (pz s)) (2 * n) 0) = shC (2 * n) (2 * n) (dmF n) := by
  apply shC_congr
  intro k hk
  by_cases hin : k / 8 < 2 * n ∧ k % 8 < 2 * n
  · rw [← brd_dm hn hn4 h hb hin]
    unfold prg brdF
    by_cases h1 : cef (pz s) k ≠ 46
    · rw [if_pos ⟨by omega, by omega, h1⟩, if_pos h1]
    · rw [if_neg (fun q => h1 q.2.2), if_neg h1]
      exact Decidable.not_not.1 h1
  · have h0 := cef_out h.1 hin
    unfold prg
    rw [if_neg (by omega), h0]
    unfold dmF
    rw [if_neg hin]

theorem shuf_below {w W0 W7 w8 : World} {Q U : Nat} (h0 : Below w.heap.size w W0) (h7 : Below W0.heap.size W0 W7) (hk : KpT W7 U w8) (hQ : Q = w.heap.size) (hU : W0.heap.size ≤ U) (cs : Array Value) : Below w.heap.size w (w8.setRow Q cs) := by
  refine below_setRowN ?_ Q (by omega) cs
  refine (h0.trans (h7.mono h0.size)).trans ⟨hk.1.1, hk.1.2.1, hk.1.2.2, hk.2.1, fun k hk2 => hk.2.2 k ?_ ?_⟩
  · have := h0.size; have := h7.size; omega
  · have := h0.size; omega
theorem shuf_own {w W0 W7 w8 : World} {Q : Nat} {v : Value} {l : List (Int × Int)} (h : OwPt w8 W7.heap.size v l) (h7 : W0.heap.size ≤ W7.heap.size) (h0 : w.heap.size ≤ W0.heap.size) (hQ : Q < W0.heap.size) (cs : Array Value) : OwPt (w8.setRow Q cs) w.heap.size v l :=
  ownsRow_down (ownsRow_blocks h (fun k e => setRow_other _ _ _ _ (by have := (h.lt k e).1; omega))) (by omega)
theorem results_three {fn : Func} {p u v : Tmp} {ty : TypeId} (h : fn.results = #[.cell p ty, .tmp u, .tmp v]) (tmps : Array Value) (P : Program) (w : World) :
    (results fn tmps).run P w =
      ((asAddr (tmps.getD p undef)).run P w).andThen fun a w₁ => ((loadVar ty a).run P w₁).andThen fun x w₂ => .ok (.tuple #[x, tmps.getD u undef, tmps.getD v undef]) w₂ := by
  simp only [results, h]
  simp [Sem.run_bind, Result.andThen]

set_option maxHeartbeats 8000000 in
set_option maxRecDepth 100000 in
theorem shuffled_at (s : ByteArray) (n : Nat) (m : Int) (w : World) (hm : w.cell? ⟨0, 0, none⟩ = some (.int .i64 m)) (h1 : 1 ≤ n) (h3 : n ≤ 3) (hT : Til s.data.toList (2 * n) (2 * n)) (hb : brdT s.data.toList (2 * n) (2 * n) = tx (2 * n) (2 * n) (dmF n))
    (N0 : Nat → UInt8) (hN0 : N0 = spA (2 * n) (2 * n) n (cef (pz s.data.toList)) (2 * n) 0) (d : Nat) (hd : d = 2 * (n + 1)) (hok : ∀ i j, i < d → j < d → (cbA d N0 i j).1 (i * 8 + j) = 35 → i + 1 < 8 ∧ j + 1 < 8) :
    Calls Tryd.prog 49 #[.string s] w fun e w' => ∃ N v, e = .returned (.tuple #[.agg (shC d d N), v, .int .i64 0]) ∧ Hid (N = N0 ∨ N = (cbA d N0 d 0).1) ∧ Hid (OwPt w' w.heap.size v (cbA d N0 d 0).2) ∧ Hid (Below w.heap.size w w') := by
  obtain ⟨Z, HZ⟩ : ∃ Z, Hid (Z = shC 0 0 fun _ => 0) := ⟨_, rfl⟩
  have hz : ∀ W : World, (zeroValue 62).run Tryd.prog W = .ok (.agg Z) W := fun W => by rw [HZ.out]; exact (zero_of_info zeroS).1 W
  have HZ6 : Hid (C66 Z) := by rw [HZ.out]; exact shC_66 _ _ _
  obtain ⟨Q, HQ⟩ : ∃ Q, Hid (Q = w.heap.size) := ⟨_, rfl⟩
  obtain ⟨W0, HW0⟩ : ∃ W0, Hid (W0 = w.alloc (.cells Z 62)) := ⟨_, rfl⟩
  have HB0 : Hid (Below w.heap.size w W0) := by rw [HW0.out]; exact (Below.refl _ _).alloc (Nat.le_refl _) _
  have HQ0 : Hid (W0.heap[Q]? = some (.cells Z 62 (0, 0))) := by
    show _ = _
    rw [HW0.out, HQ.out]; exact heap_alloc_last _ _
  obtain ⟨R, HR0⟩ : ∃ R, Hid (R = 2 * n) := ⟨_, rfl⟩
  obtain ⟨B, HBd⟩ : ∃ B, Hid (B = shC R R (dmF n)) := ⟨_, rfl⟩
  have hR2 : Int.tdiv (R : Int) 2 = (n : Int) := by rw [HR0.out, Int.tdiv_eq_ediv_of_nonneg (by omega)]; omega
  have hn4 : ¬ (n : Int) = 4 := by omega
  have hR8 : R ≤ 6 := by rw [HR0.out]; omega
  have HH := hid_w (And.intro h1 h3)
  have HTl := hid_w hT
  have HBb := hid_w hb
  have HOk := hid_w hok
  have HNn := hid_w hN0
  have HDd := hid_w hd
  have hm0 : W0.cell? ⟨0, 0, none⟩ = some (.int .i64 m) := by
    rw [HW0.out, World.cell?_alloc_past _ _ _ (World.block_lt_of_cell? w ⟨0, 0, none⟩ hm)]; exact hm
  have HCr := hid_w (readT_at s m W0 hm0)
  clear hm hm0 hT hb hok hN0 hd h1
  go_enter Tryd.func49, Tryd.ntmps49
  go_upto_region 1 with fail
  rw [← HQ.out, ← HW0.out]
  go_upto_region 2 with (first | (go_at_call 40; with_reducible (refine HCr.out.mono ?_); rintro e W1 ⟨v, rfl, HR, HB1⟩; obtain ⟨Y, er, rfl, HY6, HYr⟩ := HR.out.parts) | (refine wpList_store66 rfl (.tmp 5) (.tmp 12) rfl W1.heap.size Y Z rfl rfl (heap_alloc_last _ _) HY6.out HZ6.out ?_))
  try simp only [Act.put]
  obtain ⟨T, HT⟩ : ∃ T, Hid (T = W1.heap.size) := ⟨_, rfl⟩
  obtain ⟨W3, HW3⟩ : ∃ W3, Hid (W3 = (W1.alloc (.cells Z 62)).setRow W1.heap.size Y) := ⟨_, rfl⟩
  rw [← HW3.out, ← HT.out]
  have HB13 : Hid (Below W1.heap.size W1 W3) := by
    rw [HW3.out]; exact below_setRowN ((Below.refl _ _).alloc (Nat.le_refl _) _) _ (Nat.le_refl _) _
  have HB3 : Hid (Below W0.heap.size W0 W3) := HB1.out.trans (HB13.out.mono HB1.out.size)
  have HT3 : Hid (W3.heap[T]? = some (.cells Y 62 (0, 0))) := by
    show _ = _
    rw [HW3.out, HT.out]; exact setRow_heap _ _ _ _ _ _ (heap_alloc_last _ _)
  obtain ⟨f, HF⟩ : ∃ f, Hid (f = cef (pz s.data.toList)) := ⟨_, rfl⟩
  have hYr : er = 0 ∧ Y = shC R R f := by
    rcases HYr.out with ⟨h0, r, c, htl, hY⟩ | ⟨_, _, hno⟩
    · obtain ⟨rfl, rfl⟩ := til_eqB HTl.out htl
      exact ⟨h0, by rw [hY, HR0.out, HF.out]⟩
    · exact absurd HTl.out (hno _ _)
  obtain ⟨rfl, hY⟩ := hYr
  have HYf : Hid (Y = shC R R f) := hY
  have HTf : Hid (∀ W, Below W3.heap.size W3 W → W.heap[T]? = some (.cells (shC R R f) 62 (0, 0))) := fun W hW => by rw [hW.block T (lt_someN HT3.out), ← HYf.out]; exact HT3.out
  have s0 : W3.cell? ⟨T, 0, none⟩ = some (.int .i64 (R : Int)) := by rw [cell_of_row W3 T _ _ _ _ (HTf.out W3 (Below.refl _ _)), shC_get _ _ _ _ (by omega)]; rfl
  have HCb : Hid (Calls Tryd.prog 41 #[.pointer (some ⟨T, 0, none⟩)] W3 fun e w' => e = .returned (.agg B) ∧ Hid (Below W3.heap.size W3 w')) := by
    have h := dboard_at T R R f W3 (HTf.out W3 (Below.refl _ _)) (by omega) (by omega)
    rw [HBd.out, HR0.out, ← board_dm HH.out.1 (by have := HH.out.2; omega) HTl.out HBb.out, ← HR0.out, ← HF.out]; exact h
  have HCd : Hid (∀ W, Calls Tryd.prog 45 #[.int .i64 (n : Int)] W fun e w' => e = .returned (.agg B) ∧ Hid (Below W.heap.size W w')) := fun W => by
    rw [HBd.out, HR0.out]; exact diamond_at n W (by have := HH.out.2; omega)
  clear hY HYr HR
  go_upto_region 5 with fail
  clear s0
  go_upto_region 9 with (first | (go_at_call 41; with_reducible (refine HCb.out.mono ?_); rintro e W4 ⟨rfl, HB4⟩; have HCd4 := hid_w (HCd.out W4)) | (go_at_call 45; with_reducible (refine HCd4.out.mono ?_); rintro e W5 ⟨rfl, HB5⟩) | (refine wpList_neq66 rfl (.tmp 21) (.tmp 23) _ rfl B R R (dmF n) rfl rfl HBd.out (by omega) (by omega) ?_))
  have HB35 : Hid (Below W3.heap.size W3 W5) := HB4.out.trans (HB5.out.mono HB4.out.size)
  obtain ⟨S, HS⟩ : ∃ S, Hid (S = shC d d N0) := ⟨_, rfl⟩
  have HS6 : Hid (C66 S) := by rw [HS.out]; exact shC_66 _ _ _
  have HCs : Hid (Calls Tryd.prog 63 #[.pointer (some ⟨T, 0, none⟩), .int .i64 (n : Int)] W5 fun e w' => e = .returned (.agg S) ∧ Hid (Below W5.heap.size W5 w')) := by
    have h := dspread_at T R R n f W5 (HTf.out W5 HB35.out) hR8 hR8 HH.out.1 HH.out.2
    rw [HS.out, HDd.out, HNn.out, ← HF.out, ← HR0.out]; exact h
  clear HCb HCd HCd4
  go_upto_region 10 with (first | (go_at_call 63; with_reducible (refine HCs.out.mono ?_); rintro e W6 ⟨rfl, HB6⟩) | (refine wpList_store66 rfl (.tmp 8) (.tmp 30) rfl W6.heap.size S Z rfl rfl (heap_alloc_last _ _) HS6.out HZ6.out ?_))
  try simp only [Act.put]
  obtain ⟨U, HU⟩ : ∃ U, Hid (U = W6.heap.size) := ⟨_, rfl⟩
  obtain ⟨W7, HW7⟩ : ∃ W7, Hid (W7 = (W6.alloc (.cells Z 62)).setRow W6.heap.size S) := ⟨_, rfl⟩
  rw [← HW7.out, ← HU.out]
  have HB67 : Hid (Below W6.heap.size W6 W7) := by
    rw [HW7.out]; exact below_setRowN ((Below.refl _ _).alloc (Nat.le_refl _) _) _ (Nat.le_refl _) _
  have HB06 : Hid (Below W0.heap.size W0 W6) := (HB3.out.trans (HB35.out.mono HB3.out.size)).trans (HB6.out.mono (HB3.out.trans (HB35.out.mono HB3.out.size)).size)
  have HB07 : Hid (Below W0.heap.size W0 W7) := HB06.out.trans (HB67.out.mono HB06.out.size)
  have HU7 : Hid (W7.heap[U]? = some (.cells (shC d d N0) 62 (0, 0))) := by
    show _ = _
    rw [HW7.out, HU.out, ← HS.out]; exact setRow_heap _ _ _ _ _ _ (heap_alloc_last _ _)
  have HQ7 : Hid (W7.heap[Q]? = some (.cells Z 62 (0, 0))) := by
    show _ = _
    rw [HB07.out.block Q (lt_someN HQ0.out)]; exact HQ0.out
  have HQU : Hid (Q ≠ U ∧ Q < W0.heap.size ∧ W0.heap.size ≤ U) := ⟨by have a := lt_someN HQ0.out; have b := HB06.out.size; have c := HU.out; omega, lt_someN HQ0.out, by rw [HU.out]; exact HB06.out.size⟩
  clear HCs
  have HU7d : Hid (W7.drew.heap[U]? = some (.cells S 62 (0, 0))) := by show _ = _; rw [HS.out]; exact HU7.out
  have HBd : Hid (Below W0.heap.size W0 W7.drew) := below_drewN HB07.out _
  obtain ⟨l, HL⟩ : ∃ l, Hid (l = (cbA d N0 d 0).2) := ⟨_, rfl⟩
  obtain ⟨N1, HN1⟩ : ∃ N1, Hid (N1 = (cbA d N0 d 0).1) := ⟨_, rfl⟩
  have HCk : Hid (Calls Tryd.prog 64 #[.pointer (some ⟨U, 0, none⟩)] W7.drew fun e w' => ∃ v, e = .returned v ∧ Hid (OwPt w' W7.drew.heap.size v l) ∧ Hid (w'.heap[U]? = some (.cells (shC d d N1) 62 (0, 0))) ∧ Hid (KpT W7.drew U w')) := by
    rw [HL.out, HN1.out]
    exact dblocks_at U d d N0 W7.drew HU7.out (by rw [HDd.out]; have := HH.out.2; omega) (by rw [HDd.out]; have := HH.out.2; omega) HOk.out
  refine wp_region_any (by kernel_rfl) ?_
  change wpAny _ _ _ _ _ _ _ (World.drew _)
  refine wpAny_ready (rs := [0, 1]) (by kernel_rfl) (by simp) ?_
  refine AllReady.cons rfl (fun K hK => ?_) (AllReady.cons rfl (fun K hK => ?_) AllReady.nil)
  · refine wp_load_row 62 (.tmp 8) rfl U rfl 62 S (0, 0) _ HU7d.out Tryd.underlying62 rfl (by rw [infoS, HS6.out.1]) ?_
    refine hK _ _ ?_
    clear hK K
    refine wpAny_ready (rs := [1]) (by kernel_rfl) (by simp) ?_
    refine AllReady.cons rfl (fun K hK => ?_) AllReady.nil
    go_simp
    go_wp2_with (go_at_call 64; with_reducible (refine HCk.out.mono ?_); rintro e w8 ⟨v8, rfl, HO8, HU8, HK8⟩)
    have HQ8 : Hid (w8.heap[Q]? = some (.cells Z 62 (0, 0))) := (HK8.out.2.2 Q (lt_someN HQ7.out) HQU.out.1).trans HQ7.out
    have HB8 : Hid (Below w.heap.size w (w8.setRow Q S)) := shuf_below HB0.out HBd.out HK8.out HQ.out HQU.out.2.2 _
    have HR8 : Hid ((w8.setRow Q S).heap[Q]? = some (.cells S 62 (0, 0))) := setRow_heap _ _ _ _ _ _ HQ8.out
    have HLd : Hid ((loadVar 62 ⟨Q, 0, none⟩).run Tryd.prog (w8.setRow Q S) = .ok (.agg S) (w8.setRow Q S)) := load_66 _ _ _ HS6.out HR8.out
    have HO9 : Hid (OwPt (w8.setRow Q S) w.heap.size v8 l) := shuf_own HO8.out (Below.size HBd.out) HB0.out.size HQU.out.2.1 _
    refine wpAny_ready (rs := [2]) (by kernel_rfl) (by simp) ?_
    refine AllReady.cons rfl (fun K hK => ?_) AllReady.nil
    refine wp_store_row 62 (.tmp 2) (.tmp 31) rfl Q S rfl rfl 62 Z HQ8.out (by rw [infoS, HS6.out.1]) (by rw [HS6.out.1, HZ6.out.1]) HS6.out.2 ?_
    refine hK _ _ ?_
    clear hK K
    refine wpAny_ready (rs := [3]) (by kernel_rfl) (by simp) ?_
    refine AllReady.cons rfl (fun K hK => ?_) AllReady.nil
    go_simp
    refine hK _ _ ?_
    clear hK K
    refine wpAny_ready (rs := [4]) (by kernel_rfl) (by simp) ?_
    refine AllReady.cons rfl (fun K hK => ?_) AllReady.nil
    go_simp
    refine hK _ _ ?_
    clear hK K
    refine wpAny_done (by kernel_rfl) ?_ _
    go_wp2_with fail
    refine bodyPost_ret (v := .tuple #[.agg S, v8, .int .i64 0]) ?_ rfl ⟨N0, v8, by rw [HS.out], Or.inl rfl, by rw [← HL.out]; exact HO9.out, HB8⟩
    rw [results_three rfl]
    show ((asAddr (.pointer (some ⟨Q, 0, none⟩))).run Tryd.prog (w8.setRow Q S)).andThen _ = _
    simp [asAddr, Result.andThen, HLd.out]
  · go_simp
    go_wp2_with (go_at_call 64; with_reducible (refine HCk.out.mono ?_); rintro e w8 ⟨v8, rfl, HO8, HU8, HK8⟩)
    have HQ8 : Hid (w8.heap[Q]? = some (.cells Z 62 (0, 0))) := (HK8.out.2.2 Q (lt_someN HQ7.out) HQU.out.1).trans HQ7.out
    obtain ⟨S1, HS1⟩ : ∃ S1, Hid (S1 = shC d d N1) := ⟨_, rfl⟩
    have HS16 : Hid (C66 S1) := by rw [HS1.out]; exact shC_66 _ _ _
    have HU9 : Hid (w8.heap[U]? = some (.cells S1 62 (0, 0))) := by show _ = _; rw [HS1.out]; exact HU8.out
    refine wpAny_ready (rs := [0]) (by kernel_rfl) (by simp) ?_
    refine AllReady.cons rfl (fun K hK => ?_) AllReady.nil
    refine wp_load_row 62 (.tmp 8) rfl U rfl 62 S1 (0, 0) _ HU9.out Tryd.underlying62 rfl (by rw [infoS, HS16.out.1]) ?_
    refine hK _ _ ?_
    clear hK K
    have HB8 : Hid (Below w.heap.size w (w8.setRow Q S1)) := shuf_below HB0.out HBd.out HK8.out HQ.out HQU.out.2.2 _
    have HR8 : Hid ((w8.setRow Q S1).heap[Q]? = some (.cells S1 62 (0, 0))) := setRow_heap _ _ _ _ _ _ HQ8.out
    have HLd : Hid ((loadVar 62 ⟨Q, 0, none⟩).run Tryd.prog (w8.setRow Q S1) = .ok (.agg S1) (w8.setRow Q S1)) := load_66 _ _ _ HS16.out HR8.out
    have HO9 : Hid (OwPt (w8.setRow Q S1) w.heap.size v8 l) := shuf_own HO8.out (Below.size HBd.out) HB0.out.size HQU.out.2.1 _
    refine wpAny_ready (rs := [2]) (by kernel_rfl) (by simp) ?_
    refine AllReady.cons rfl (fun K hK => ?_) AllReady.nil
    refine wp_store_row 62 (.tmp 2) (.tmp 31) rfl Q S1 rfl rfl 62 Z HQ8.out (by rw [infoS, HS16.out.1]) (by rw [HS16.out.1, HZ6.out.1]) HS16.out.2 ?_
    refine hK _ _ ?_
    clear hK K
    refine wpAny_ready (rs := [3]) (by kernel_rfl) (by simp) ?_
    refine AllReady.cons rfl (fun K hK => ?_) AllReady.nil
    go_simp
    refine hK _ _ ?_
    clear hK K
    refine wpAny_ready (rs := [4]) (by kernel_rfl) (by simp) ?_
    refine AllReady.cons rfl (fun K hK => ?_) AllReady.nil
    go_simp
    refine hK _ _ ?_
    clear hK K
    refine wpAny_done (by kernel_rfl) ?_ _
    go_wp2_with fail
    refine bodyPost_ret (v := .tuple #[.agg S1, v8, .int .i64 0]) ?_ rfl ⟨N1, v8, by rw [HS1.out], Or.inr HN1.out, by rw [← HL.out]; exact HO9.out, HB8⟩
    rw [results_three rfl]
    show ((asAddr (.pointer (some ⟨Q, 0, none⟩))).run Tryd.prog (w8.setRow Q S1)).andThen _ = _
    simp [asAddr, Result.andThen, HLd.out]

end Go.Proofs.YtcnmndbckjmliaaDoor
