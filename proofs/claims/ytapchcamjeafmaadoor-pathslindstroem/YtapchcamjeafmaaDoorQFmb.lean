/-
  paths.families: its look is made, in whatever order.
-/
import Derived.Test.YtapchcamjeafmaaDoorQFmc
namespace Go.Proofs.YtapchcamjeafmaaDoor
open Go.RowKit

theorem heap_alloc_old (w : World) (o : Obj) (k : Nat) (h : k < w.heap.size) : (w.alloc o).heap[k]? = w.heap[k]? := by
  show (w.heap.push o)[k]? = _
  rw [Array.getElem?_push, if_neg (by omega)]
/-- What families has made ahead of looking. -/
def MadeL (A wx : World) (G T : Nat) (L M : Array Value) : Prop := wx.heap[G]? = some (.cells L 63 (0, 0)) ∧ wx.heap[T]? = some (.cells M 70 (0, 0)) ∧ wx.heap.size = A.heap.size + 2 ∧ (∀ k, k < A.heap.size → wx.heap[k]? = A.heap[k]?) ∧ (G = A.heap.size ∧ T = A.heap.size + 1 ∨ T = A.heap.size ∧ G = A.heap.size + 1) ∧ SmO A wx
theorem made_gt (A : World) (L M Z : Array Value) (Y : World) (h : Y.heap = ((A.alloc (.cells Z 63)).alloc (.cells M 70)).heap) (hso : SmO A Y) : MadeL A (Y.setRow A.heap.size L) A.heap.size (A.heap.size + 1) L M := by
  have hs1 : (A.alloc (.cells Z 63)).heap.size = A.heap.size + 1 := by simp
  have g0 : Y.heap[A.heap.size]? = some (.cells Z 63 (0, 0)) := by rw [h, heap_alloc_old _ _ _ (by omega)]; exact heap_alloc_last A _
  have t0 : Y.heap[A.heap.size + 1]? = some (.cells M 70 (0, 0)) := by rw [h, ← hs1]; exact heap_alloc_last _ _
  refine ⟨setRow_heap _ _ _ _ _ _ g0, by rw [setRow_other _ _ _ _ (by omega)]; exact t0, ?_, fun k hk => ?_, Or.inl ⟨rfl, rfl⟩, hso.trans ⟨rfl, rfl, rfl⟩⟩
  · simp only [World.setRow, Array.size_modify]; rw [h]; simp
  · rw [setRow_other _ _ _ _ (by omega), h, heap_alloc_old _ _ _ (by omega), heap_alloc_old _ _ _ hk]
theorem made_tg (A : World) (L M Z : Array Value) (Y : World) (h : Y.heap = ((A.alloc (.cells M 70)).alloc (.cells Z 63)).heap) (hso : SmO A Y) : MadeL A (Y.setRow (A.heap.size + 1) L) (A.heap.size + 1) A.heap.size L M := by
  have hs1 : (A.alloc (.cells M 70)).heap.size = A.heap.size + 1 := by simp
  have t0 : Y.heap[A.heap.size]? = some (.cells M 70 (0, 0)) := by rw [h, heap_alloc_old _ _ _ (by omega)]; exact heap_alloc_last A _
  have g0 : Y.heap[A.heap.size + 1]? = some (.cells Z 63 (0, 0)) := by rw [h, ← hs1]; exact heap_alloc_last _ _
  refine ⟨setRow_heap _ _ _ _ _ _ g0, by rw [setRow_other _ _ _ _ (by omega)]; exact t0, ?_, fun k hk => ?_, Or.inr ⟨rfl, rfl⟩, hso.trans ⟨rfl, rfl, rfl⟩⟩
  · simp only [World.setRow, Array.size_modify]; rw [h]; simp
  · rw [setRow_other _ _ _ _ (by omega), h, heap_alloc_old _ _ _ (by omega), heap_alloc_old _ _ _ hk]

set_option maxHeartbeats 16000000 in
set_option maxRecDepth 100000 in
theorem families_at {Φ : Type} {R : World → (Nat → Prop) → Φ → Prop} (hR : StaR R) {lv : Φ → Prop} {fnd : Φ → List (List UInt8) → Bool × Φ} (XF : Nat → Prop) (φ : Φ) (cl : Nat → Bool) (sa ea : Option Addr) (sc ec n fn : Nat) (caps : Array Value) (w : World) (S E : List (Nat × Nat)) (hn : n ≤ 4) (hSn : S.length = n) (hEn : E.length = n) (h8 : ∀ i, i < n → (ptD S i).1 < 8 ∧ (ptD S i).2 < 8 ∧ (ptD E i).1 < 8 ∧ (ptD E i).2 < 8)
    (hXF : ∀ q, XF q → q < w.heap.size) (hrep : R w (fun k => w.heap.size ≤ k) φ) (hlv : lv φ) (hPS : PSh w (fun q => q < w.heap.size ∧ ¬ XF q) (.slice sa n sc) S) (hPE : PSh w (fun q => q < w.heap.size ∧ ¬ XF q) (.slice ea n ec) E)
    (hEnd : ∀ V : Env, V.ok → V.XF = XF → V.fv = .func (.func fn) #[] caps → EndC V R lv fnd) (r : Bool × Nat × Φ) (hr : r = if n = 0 then ((fnd φ []).1, 0, (fnd φ []).2) else goF S E fnd 64 0 (ptD S 0) cl (List.replicate n []) 0 φ) :
    Calls Tryd.prog 17 #[.agg (mkC cl), .slice sa n sc, .slice ea n ec, .func (.func fn) #[] caps] w fun e w' => e = .returned (.int .i64 (if 1000000 < r.2.1 then 2 else 0)) ∧ ∃ B, Hid (R w' B r.2.2) ∧ Hid (w.heap.size ≤ w'.heap.size ∧ (∀ k, k < w.heap.size → ¬ XF k → w'.heap[k]? = w.heap[k]?) ∧ SmO w w') := by
  obtain ⟨C, HC⟩ : ∃ C, Hid (C = mkC cl) := ⟨_, rfl⟩
  obtain ⟨Z, HZ⟩ : ∃ Z, Hid (Z = lkC (.slice none 0 0) (.slice none 0 0) (fun _ => false) (.slice none 0 0) 0 .nilFunc) := ⟨_, rfl⟩
  have hz : ∀ W : World, (zeroValue 63).run Tryd.prog W = .ok (.agg Z) W := fun W => by rw [HZ.out]; exact (zero_of_info zeroL).1 W
  obtain ⟨M, HM⟩ : ∃ M, Hid (M = madeCells #[Value.slice none 0 0] n) := ⟨_, rfl⟩
  have hmR : ∀ W, (Instr.makeSlice 54 (.int .i64 (n : Int)) (.int .i64 (n : Int))).run Tryd.prog W = .ok (.slice (some ⟨W.heap.size, 0, none⟩) n n) (W.alloc (.cells M 70)) := fun W => by
    rw [HM.out]
    exact run_make_row' (P := Tryd.prog) 54 70 (.slice none 0 0) 24 Tryd.underlying54 (by kernel_rfl) rfl .i64 .i64 n (by omega) (by omega) W
  obtain ⟨H, HH⟩ : ∃ H, Hid (H = w.heap.size) := ⟨_, rfl⟩
  obtain ⟨A, HA⟩ : ∃ A, Hid (A = w.alloc (.cells C 42)) := ⟨_, rfl⟩
  have hAs : A.heap.size = H + 1 := by rw [HA.out, HH.out]; simp
  have b0 : A.heap[H]? = some (.cells C 42 (0, 0)) := by rw [HA.out, HH.out]; exact heap_alloc_last w _
  have HB : Hid (∀ Y : World, Y.heap = A.heap ∨ Y.heap = (A.alloc (.cells M 70)).heap ∨ Y.heap = (A.alloc (.cells Z 63)).heap ∨ Y.heap = ((A.alloc (.cells M 70)).alloc (.cells Z 63)).heap ∨ Y.heap = ((A.alloc (.cells Z 63)).alloc (.cells M 70)).heap → Y.heap[H]? = some (.cells C 42 (0, 0))) := by
    have h1 : ∀ o, (A.alloc o).heap[H]? = some (.cells C 42 (0, 0)) := fun o => by rw [heap_alloc_old A o H (by omega)]; exact b0
    have h2 : ∀ o o', ((A.alloc o).alloc o').heap[H]? = some (.cells C 42 (0, 0)) := fun o o' => by rw [heap_alloc_old _ o' H (by simp; omega)]; exact h1 o
    rintro Y (h | h | h | h | h)
    · rw [h]; exact b0
    · rw [h]; exact h1 _
    · rw [h]; exact h1 _
    · rw [h]; exact h2 _ _
    · rw [h]; exact h2 _ _
  have HBu : Hid (∀ ta : Option Addr, Tryd.prog.built 63 [(0, .slice sa n sc), (1, .slice ea n ec), (2, .agg C), (3, .slice ta n n), (5, .func (.func fn) #[] caps)] = some (lkC (.slice sa n sc) (.slice ea n ec) cl (.slice ta n n) 0 (.func (.func fn) #[] caps))) := fun ta => by rw [HC.out]; exact built_look sa ea ta n sc n ec n n cl fn caps
  have HCs : Hid (C.size = 64) := by show _ = _; rw [HC.out]; exact mkC_size cl
  have HZs : Hid (Z.size = 69) := by show _ = _; rw [HZ.out]; exact lkC_size _ _ _ _ _ _
  have HG1 : Hid (((A.alloc (.cells Z 63)).alloc (.cells M 70)).drew.heap[A.heap.size]? = some (.cells Z 63 (0, 0))) := by
    show ((A.alloc (.cells Z 63)).alloc (.cells M 70)).heap[A.heap.size]? = _
    rw [heap_alloc_old _ _ _ (by simp)]; exact heap_alloc_last A _
  have HG2 : Hid (((A.alloc (.cells M 70)).alloc (.cells Z 63)).drew.heap[A.heap.size + 1]? = some (.cells Z 63 (0, 0))) := by
    show ((A.alloc (.cells M 70)).alloc (.cells Z 63)).heap[A.heap.size + 1]? = _
    have hs : (A.alloc (.cells M 70)).heap.size = A.heap.size + 1 := by simp
    rw [← hs]; exact heap_alloc_last _ _
  rw [← HC.out]
  clear hAs b0
  go_enter Tryd.func17, Tryd.ntmps17
  go_upto_region 1 with fail
  rw [← HH.out, ← HA.out]
  go_cut [9] (fun s9 wx => ∃ G T, s9 = .pointer (some ⟨G, 0, none⟩) ∧ Hid (MadeL A wx G T (lkC (.slice sa n sc) (.slice ea n ec) cl (.slice (some ⟨T, 0, none⟩) n n) 0 (.func (.func fn) #[] caps)) M))
  case first =>
    refine wp_region_any (by kernel_rfl) ?_
    change wpAny _ _ _ _ _ _ _ (World.drew _)
    refine wpAny_take (i := 0) (v := .slice sa n sc) rfl (by kernel_rfl) (by kernel_rfl) (by kernel_rfl) (fun _ _ _ h => h) (Or.inl ⟨by rfl, fun w => by first | (go_simp; done) | (go_simp; with_reducible rfl)⟩) ?_
    refine wpAny_take (i := 1) (v := .slice ea n ec) rfl (by kernel_rfl) (by kernel_rfl) (by kernel_rfl) (fun _ _ _ h => h) (Or.inl ⟨by rfl, fun w => by first | (go_simp; done) | (go_simp; with_reducible rfl)⟩) ?_
    refine wpAny_take (i := 3) (v := .slice sa n sc) rfl (by kernel_rfl) (by kernel_rfl) (by kernel_rfl) (fun _ _ _ h => h) (Or.inl ⟨by rfl, fun w => by first | (go_simp; done) | (go_simp; with_reducible rfl)⟩) ?_
    refine wpAny_take (i := 4) (v := .int .i64 (n : Int)) rfl (by kernel_rfl) (by kernel_rfl) (by kernel_rfl) (fun _ _ _ h => h) (Or.inl ⟨by rfl, fun w => by first | (go_simp; done) | (go_simp; with_reducible rfl)⟩) ?_
    refine wpAny_take (i := 6) (v := .func (.func fn) #[] caps) rfl (by kernel_rfl) (by kernel_rfl) (by kernel_rfl) (fun _ _ _ h => h) (Or.inl ⟨by rfl, fun w => by first | (go_simp; done) | (go_simp; with_reducible rfl)⟩) ?_
    refine wpAny_ready (rs := [2, 5, 8]) (by kernel_rfl) (by simp) ?_
    refine AllReady.cons rfl (fun K hK => ?_) ?_
    · refine step_loadmark rfl (.tmp 4) rfl H (by first | rfl | (simp [Act.eval]; done)) C (HB.out _ (by first | exact Or.inl rfl | exact Or.inr (Or.inl rfl) | exact Or.inr (Or.inr (Or.inl rfl)) | exact Or.inr (Or.inr (Or.inr (Or.inl rfl))) | exact Or.inr (Or.inr (Or.inr (Or.inr rfl))))) HCs.out ?_
      try go_simp
      refine hK _ _ ?_
      clear hK K
      refine wpAny_ready (rs := [5, 8]) (by kernel_rfl) (by simp) ?_
      refine AllReady.cons rfl (fun K hK => ?_) ?_
      · go_simp
        refine hK _ _ ?_
        clear hK K
        refine wpAny_ready (rs := [7, 8]) (by kernel_rfl) (by simp) ?_
        refine AllReady.cons rfl (fun K hK => ?_) ?_
        · refine step_buildlook rfl _ rfl _ (by first | kernel_rfl | (simp [Act.eval]; done)) _ (HBu.out (some ⟨A.heap.size, 0, none⟩)) ?_
          try go_simp
          refine hK _ _ ?_
          clear hK K
          refine wpAny_ready (rs := [8]) (by kernel_rfl) (by simp) ?_
          refine AllReady.cons rfl (fun K hK => ?_) ?_
          · go_simp
            refine hK _ _ ?_
            clear hK K
            refine wpAny_ready (rs := [9]) (by kernel_rfl) (by simp) ?_
            refine AllReady.cons rfl (fun K hK => ?_) ?_
            · refine step_storelook rfl _ _ rfl _ _ Z rfl rfl (by first | exact HG1.out | exact HG2.out) (lkC_size _ _ _ _ _ _) HZs.out (lkC_one _ _ _ _ _ _ _ _ _ _ _ _ _) ?_
              try go_simp
              refine hK _ _ ?_
              clear hK K
              refine wpAny_done (by kernel_rfl) ?_ _
              go_wp2_with fail
              go_meet
              first
              | exact ⟨_, _, rfl, made_gt A _ M Z _ rfl ⟨rfl, rfl, rfl⟩⟩
              | exact ⟨_, _, rfl, made_tg A _ M Z _ rfl ⟨rfl, rfl, rfl⟩⟩
            exact AllReady.nil
          exact AllReady.nil
        refine AllReady.cons rfl (fun K hK => ?_) ?_
        · go_simp
          refine hK _ _ ?_
          clear hK K
          refine wpAny_ready (rs := [7]) (by kernel_rfl) (by simp) ?_
          refine AllReady.cons rfl (fun K hK => ?_) ?_
          · refine step_buildlook rfl _ rfl _ (by first | kernel_rfl | (simp [Act.eval]; done)) _ (HBu.out (some ⟨A.heap.size, 0, none⟩)) ?_
            try go_simp
            refine hK _ _ ?_
            clear hK K
            refine wpAny_ready (rs := [9]) (by kernel_rfl) (by simp) ?_
            refine AllReady.cons rfl (fun K hK => ?_) ?_
            · refine step_storelook rfl _ _ rfl _ _ Z rfl rfl (by first | exact HG1.out | exact HG2.out) (lkC_size _ _ _ _ _ _) HZs.out (lkC_one _ _ _ _ _ _ _ _ _ _ _ _ _) ?_
              try go_simp
              refine hK _ _ ?_
              clear hK K
              refine wpAny_done (by kernel_rfl) ?_ _
              go_wp2_with fail
              go_meet
              first
              | exact ⟨_, _, rfl, made_gt A _ M Z _ rfl ⟨rfl, rfl, rfl⟩⟩
              | exact ⟨_, _, rfl, made_tg A _ M Z _ rfl ⟨rfl, rfl, rfl⟩⟩
            exact AllReady.nil
          exact AllReady.nil
        exact AllReady.nil
      refine AllReady.cons rfl (fun K hK => ?_) ?_
      · go_simp
        refine hK _ _ ?_
        clear hK K
        refine wpAny_ready (rs := [5]) (by kernel_rfl) (by simp) ?_
        refine AllReady.cons rfl (fun K hK => ?_) ?_
        · go_simp
          refine hK _ _ ?_
          clear hK K
          refine wpAny_ready (rs := [7]) (by kernel_rfl) (by simp) ?_
          refine AllReady.cons rfl (fun K hK => ?_) ?_
          · refine step_buildlook rfl _ rfl _ (by first | kernel_rfl | (simp [Act.eval]; done)) _ (HBu.out (some ⟨A.heap.size + 1, 0, none⟩)) ?_
            try go_simp
            refine hK _ _ ?_
            clear hK K
            refine wpAny_ready (rs := [9]) (by kernel_rfl) (by simp) ?_
            refine AllReady.cons rfl (fun K hK => ?_) ?_
            · refine step_storelook rfl _ _ rfl _ _ Z rfl rfl (by first | exact HG1.out | exact HG2.out) (lkC_size _ _ _ _ _ _) HZs.out (lkC_one _ _ _ _ _ _ _ _ _ _ _ _ _) ?_
              try go_simp
              refine hK _ _ ?_
              clear hK K
              refine wpAny_done (by kernel_rfl) ?_ _
              go_wp2_with fail
              go_meet
              first
              | exact ⟨_, _, rfl, made_gt A _ M Z _ rfl ⟨rfl, rfl, rfl⟩⟩
              | exact ⟨_, _, rfl, made_tg A _ M Z _ rfl ⟨rfl, rfl, rfl⟩⟩
            exact AllReady.nil
          exact AllReady.nil
        exact AllReady.nil
      exact AllReady.nil
    refine AllReady.cons rfl (fun K hK => ?_) ?_
    · go_simp
      refine hK _ _ ?_
      clear hK K
      refine wpAny_ready (rs := [2, 8]) (by kernel_rfl) (by simp) ?_
      refine AllReady.cons rfl (fun K hK => ?_) ?_
      · refine step_loadmark rfl (.tmp 4) rfl H (by first | rfl | (simp [Act.eval]; done)) C (HB.out _ (by first | exact Or.inl rfl | exact Or.inr (Or.inl rfl) | exact Or.inr (Or.inr (Or.inl rfl)) | exact Or.inr (Or.inr (Or.inr (Or.inl rfl))) | exact Or.inr (Or.inr (Or.inr (Or.inr rfl))))) HCs.out ?_
        try go_simp
        refine hK _ _ ?_
        clear hK K
        refine wpAny_ready (rs := [7, 8]) (by kernel_rfl) (by simp) ?_
        refine AllReady.cons rfl (fun K hK => ?_) ?_
        · refine step_buildlook rfl _ rfl _ (by first | kernel_rfl | (simp [Act.eval]; done)) _ (HBu.out (some ⟨A.heap.size, 0, none⟩)) ?_
          try go_simp
          refine hK _ _ ?_
          clear hK K
          refine wpAny_ready (rs := [8]) (by kernel_rfl) (by simp) ?_
          refine AllReady.cons rfl (fun K hK => ?_) ?_
          · go_simp
            refine hK _ _ ?_
            clear hK K
            refine wpAny_ready (rs := [9]) (by kernel_rfl) (by simp) ?_
            refine AllReady.cons rfl (fun K hK => ?_) ?_
            · refine step_storelook rfl _ _ rfl _ _ Z rfl rfl (by first | exact HG1.out | exact HG2.out) (lkC_size _ _ _ _ _ _) HZs.out (lkC_one _ _ _ _ _ _ _ _ _ _ _ _ _) ?_
              try go_simp
              refine hK _ _ ?_
              clear hK K
              refine wpAny_done (by kernel_rfl) ?_ _
              go_wp2_with fail
              go_meet
              first
              | exact ⟨_, _, rfl, made_gt A _ M Z _ rfl ⟨rfl, rfl, rfl⟩⟩
              | exact ⟨_, _, rfl, made_tg A _ M Z _ rfl ⟨rfl, rfl, rfl⟩⟩
            exact AllReady.nil
          exact AllReady.nil
        refine AllReady.cons rfl (fun K hK => ?_) ?_
        · go_simp
          refine hK _ _ ?_
          clear hK K
          refine wpAny_ready (rs := [7]) (by kernel_rfl) (by simp) ?_
          refine AllReady.cons rfl (fun K hK => ?_) ?_
          · refine step_buildlook rfl _ rfl _ (by first | kernel_rfl | (simp [Act.eval]; done)) _ (HBu.out (some ⟨A.heap.size, 0, none⟩)) ?_
            try go_simp
            refine hK _ _ ?_
            clear hK K
            refine wpAny_ready (rs := [9]) (by kernel_rfl) (by simp) ?_
            refine AllReady.cons rfl (fun K hK => ?_) ?_
            · refine step_storelook rfl _ _ rfl _ _ Z rfl rfl (by first | exact HG1.out | exact HG2.out) (lkC_size _ _ _ _ _ _) HZs.out (lkC_one _ _ _ _ _ _ _ _ _ _ _ _ _) ?_
              try go_simp
              refine hK _ _ ?_
              clear hK K
              refine wpAny_done (by kernel_rfl) ?_ _
              go_wp2_with fail
              go_meet
              first
              | exact ⟨_, _, rfl, made_gt A _ M Z _ rfl ⟨rfl, rfl, rfl⟩⟩
              | exact ⟨_, _, rfl, made_tg A _ M Z _ rfl ⟨rfl, rfl, rfl⟩⟩
            exact AllReady.nil
          exact AllReady.nil
        exact AllReady.nil
      refine AllReady.cons rfl (fun K hK => ?_) ?_
      · go_simp
        refine hK _ _ ?_
        clear hK K
        refine wpAny_ready (rs := [2]) (by kernel_rfl) (by simp) ?_
        refine AllReady.cons rfl (fun K hK => ?_) ?_
        · refine step_loadmark rfl (.tmp 4) rfl H (by first | rfl | (simp [Act.eval]; done)) C (HB.out _ (by first | exact Or.inl rfl | exact Or.inr (Or.inl rfl) | exact Or.inr (Or.inr (Or.inl rfl)) | exact Or.inr (Or.inr (Or.inr (Or.inl rfl))) | exact Or.inr (Or.inr (Or.inr (Or.inr rfl))))) HCs.out ?_
          try go_simp
          refine hK _ _ ?_
          clear hK K
          refine wpAny_ready (rs := [7]) (by kernel_rfl) (by simp) ?_
          refine AllReady.cons rfl (fun K hK => ?_) ?_
          · refine step_buildlook rfl _ rfl _ (by first | kernel_rfl | (simp [Act.eval]; done)) _ (HBu.out (some ⟨A.heap.size, 0, none⟩)) ?_
            try go_simp
            refine hK _ _ ?_
            clear hK K
            refine wpAny_ready (rs := [9]) (by kernel_rfl) (by simp) ?_
            refine AllReady.cons rfl (fun K hK => ?_) ?_
            · refine step_storelook rfl _ _ rfl _ _ Z rfl rfl (by first | exact HG1.out | exact HG2.out) (lkC_size _ _ _ _ _ _) HZs.out (lkC_one _ _ _ _ _ _ _ _ _ _ _ _ _) ?_
              try go_simp
              refine hK _ _ ?_
              clear hK K
              refine wpAny_done (by kernel_rfl) ?_ _
              go_wp2_with fail
              go_meet
              first
              | exact ⟨_, _, rfl, made_gt A _ M Z _ rfl ⟨rfl, rfl, rfl⟩⟩
              | exact ⟨_, _, rfl, made_tg A _ M Z _ rfl ⟨rfl, rfl, rfl⟩⟩
            exact AllReady.nil
          exact AllReady.nil
        exact AllReady.nil
      exact AllReady.nil
    refine AllReady.cons rfl (fun K hK => ?_) ?_
    · go_simp
      refine hK _ _ ?_
      clear hK K
      refine wpAny_ready (rs := [2, 5]) (by kernel_rfl) (by simp) ?_
      refine AllReady.cons rfl (fun K hK => ?_) ?_
      · refine step_loadmark rfl (.tmp 4) rfl H (by first | rfl | (simp [Act.eval]; done)) C (HB.out _ (by first | exact Or.inl rfl | exact Or.inr (Or.inl rfl) | exact Or.inr (Or.inr (Or.inl rfl)) | exact Or.inr (Or.inr (Or.inr (Or.inl rfl))) | exact Or.inr (Or.inr (Or.inr (Or.inr rfl))))) HCs.out ?_
        try go_simp
        refine hK _ _ ?_
        clear hK K
        refine wpAny_ready (rs := [5]) (by kernel_rfl) (by simp) ?_
        refine AllReady.cons rfl (fun K hK => ?_) ?_
        · go_simp
          refine hK _ _ ?_
          clear hK K
          refine wpAny_ready (rs := [7]) (by kernel_rfl) (by simp) ?_
          refine AllReady.cons rfl (fun K hK => ?_) ?_
          · refine step_buildlook rfl _ rfl _ (by first | kernel_rfl | (simp [Act.eval]; done)) _ (HBu.out (some ⟨A.heap.size + 1, 0, none⟩)) ?_
            try go_simp
            refine hK _ _ ?_
            clear hK K
            refine wpAny_ready (rs := [9]) (by kernel_rfl) (by simp) ?_
            refine AllReady.cons rfl (fun K hK => ?_) ?_
            · refine step_storelook rfl _ _ rfl _ _ Z rfl rfl (by first | exact HG1.out | exact HG2.out) (lkC_size _ _ _ _ _ _) HZs.out (lkC_one _ _ _ _ _ _ _ _ _ _ _ _ _) ?_
              try go_simp
              refine hK _ _ ?_
              clear hK K
              refine wpAny_done (by kernel_rfl) ?_ _
              go_wp2_with fail
              go_meet
              first
              | exact ⟨_, _, rfl, made_gt A _ M Z _ rfl ⟨rfl, rfl, rfl⟩⟩
              | exact ⟨_, _, rfl, made_tg A _ M Z _ rfl ⟨rfl, rfl, rfl⟩⟩
            exact AllReady.nil
          exact AllReady.nil
        exact AllReady.nil
      refine AllReady.cons rfl (fun K hK => ?_) ?_
      · go_simp
        refine hK _ _ ?_
        clear hK K
        refine wpAny_ready (rs := [2]) (by kernel_rfl) (by simp) ?_
        refine AllReady.cons rfl (fun K hK => ?_) ?_
        · refine step_loadmark rfl (.tmp 4) rfl H (by first | rfl | (simp [Act.eval]; done)) C (HB.out _ (by first | exact Or.inl rfl | exact Or.inr (Or.inl rfl) | exact Or.inr (Or.inr (Or.inl rfl)) | exact Or.inr (Or.inr (Or.inr (Or.inl rfl))) | exact Or.inr (Or.inr (Or.inr (Or.inr rfl))))) HCs.out ?_
          try go_simp
          refine hK _ _ ?_
          clear hK K
          refine wpAny_ready (rs := [7]) (by kernel_rfl) (by simp) ?_
          refine AllReady.cons rfl (fun K hK => ?_) ?_
          · refine step_buildlook rfl _ rfl _ (by first | kernel_rfl | (simp [Act.eval]; done)) _ (HBu.out (some ⟨A.heap.size + 1, 0, none⟩)) ?_
            try go_simp
            refine hK _ _ ?_
            clear hK K
            refine wpAny_ready (rs := [9]) (by kernel_rfl) (by simp) ?_
            refine AllReady.cons rfl (fun K hK => ?_) ?_
            · refine step_storelook rfl _ _ rfl _ _ Z rfl rfl (by first | exact HG1.out | exact HG2.out) (lkC_size _ _ _ _ _ _) HZs.out (lkC_one _ _ _ _ _ _ _ _ _ _ _ _ _) ?_
              try go_simp
              refine hK _ _ ?_
              clear hK K
              refine wpAny_done (by kernel_rfl) ?_ _
              go_wp2_with fail
              go_meet
              first
              | exact ⟨_, _, rfl, made_gt A _ M Z _ rfl ⟨rfl, rfl, rfl⟩⟩
              | exact ⟨_, _, rfl, made_tg A _ M Z _ rfl ⟨rfl, rfl, rfl⟩⟩
            exact AllReady.nil
          exact AllReady.nil
        exact AllReady.nil
      exact AllReady.nil
    exact AllReady.nil
  obtain ⟨G, T, rfl, HMd⟩ := hcut
  clear hz hmR HB HBu HCs HG1 HG2 HZs
  obtain ⟨V, HVd⟩ : ∃ V : Env, Hid (V = ⟨fun q => q < w.heap.size ∧ ¬ XF q, XF, wc.heap.size, G, T, .slice sa n sc, .slice ea n ec, .func (.func fn) #[] caps, S, E⟩) := ⟨_, rfl⟩
  have HAw : Hid (A.heap.size = w.heap.size + 1 ∧ ∀ k, k < w.heap.size → A.heap[k]? = w.heap[k]?) := ⟨by rw [HA.out]; simp, fun k hk => by rw [HA.out]; exact heap_alloc_old w _ k hk⟩
  have HGT : Hid (w.heap.size < G ∧ w.heap.size < T ∧ G ≠ T ∧ G < wc.heap.size ∧ T < wc.heap.size ∧ w.heap.size ≤ wc.heap.size) := by
    obtain ⟨m1, m2, m3, m4, m5, -⟩ := HMd.out
    have := HAw.out.1
    refine ⟨?_, ?_, ?_, ?_, ?_, ?_⟩ <;> rcases m5 with ⟨q1, q2⟩ | ⟨q1, q2⟩ <;> omega
  have HFr : Hid (∀ k, k < w.heap.size → wc.heap[k]? = w.heap[k]?) := fun k hk => by
    rw [HMd.out.2.2.2.1 k (by have := HAw.out.1; omega)]; exact HAw.out.2 k hk
  have HVok : Hid V.ok := by
    rw [HVd.out]
    refine ⟨fun q hq => hq.2, fun q hq => ?_, by rw [hSn, hEn], by show S.length ≤ 4; rw [hSn]; exact hn, fun i hi => h8 i (by rw [← hSn]; exact hi)⟩
    have h1 := hXF q hq
    have h2 := HGT.out
    show q < wc.heap.size ∧ q ≠ G ∧ q ≠ T
    refine ⟨?_, ?_, ?_⟩ <;> omega
  have HIn : Hid (InV V R wc cl (List.replicate n (.slice none 0 0)) (List.replicate n []) 0 φ) := by
    rw [HVd.out]
    have hg := HGT.out
    have hF : FrF (fun q => q < w.heap.size ∧ ¬ XF q) w wc := ⟨hg.2.2.2.2.2, fun k hk => HFr.out k hk.1⟩
    refine ⟨⟨by show wc.heap[G]? = some (.cells (lkC (.slice sa n sc) (.slice ea n ec) cl (.slice (some ⟨T, 0, none⟩) S.length S.length) 0 (.func (.func fn) #[] caps)) 63 (0, 0)); rw [hSn]; exact HMd.out.1, txv_new HM.out HMd.out.2.1 hg.2.2.2.2.1, by show (List.replicate n ([] : List UInt8)).length = S.length; rw [List.length_replicate, hSn], hg.2.2.1, hg.2.2.2.1, Nat.le_refl _, ?_, fun q hq => ?_⟩, hPS.frame hF, hPE.frame hF⟩
    · refine hR w wc _ _ φ hrep hg.2.2.2.2.2 (fun k hk _ => HFr.out k hk) (fun k hk => Or.inl ?_)
      show w.heap.size ≤ k
      rcases bk_new hk with q | q
      · have : k = G := q
        omega
      · have : k = T := q
        omega
    · have h1 := hq.1
      show q < wc.heap.size ∧ q ≠ G ∧ q ≠ T
      refine ⟨?_, ?_, ?_⟩ <;> omega
  have HC0 : Hid (Calls Tryd.prog 23 #[.pointer (some ⟨G, 0, none⟩), .int .i64 0] wc (AnsV V R lv r wc (List.replicate n (.slice none 0 0)) cl (List.replicate n []))) := by
    have hE := hEnd V HVok.out (by rw [HVd.out]) (by rw [HVd.out])
    have hVG : V.G = G := by rw [HVd.out]
    have hVS : V.S = S := by rw [HVd.out]
    have hVE : V.E = E := by rw [HVd.out]
    by_cases h0 : n = 0
    · have h := hE wc cl (List.replicate n (.slice none 0 0)) (List.replicate n []) 0 φ HIn.out hlv
      rw [hVG, hVS, hSn, h0] at h
      rw [hr, if_pos h0, h0]
      exact h
    · have h := begin_at HVok.out (hid_w (enter_all HVok.out hR (hid_w hE) 64)) 0 wc cl (List.replicate n (.slice none 0 0)) (List.replicate n []) 0 φ HIn.out hlv (by rw [hVS, hSn]; omega) (by omega) (by
        rw [hVS, hVE]
        have := fuS_le S E (by omega) (fun i hi => (h8 i (by rw [← hSn]; exact hi)).2.2) S.length 0 (by omega)
        omega) (fun j => by
          have e : (List.replicate n ([] : List UInt8)).getD j [] = [] := by
            simp only [List.getD, List.getElem?_replicate]
            split <;> rfl
          rw [e]; simp)
      rw [hVG, hVS, hVE] at h
      rw [hr, if_neg h0]
      exact h
  clear hEnd hr hrep hlv hPS hPE h8
  go_wp2_with fail
  refine HC0.out.mono ?_
  rintro e w3 ⟨rfl, vs3, HI3, HF3, HL3⟩
  obtain ⟨rb, s3, φ3⟩ := r
  have hVG : V.G = G := by rw [HVd.out]
  have c7 : w3.cell? ⟨G, 67, none⟩ = some (.int .i64 (s3 : Int)) := by
    have h := HI3.out.1.cell 67 (by omega)
    rw [hVG] at h; exact h
  have HEx : Hid (∃ B, Hid (R w3 B φ3) ∧ Hid (w.heap.size ≤ w3.heap.size ∧ (∀ k, k < w.heap.size → ¬ XF k → w3.heap[k]? = w.heap[k]?) ∧ SmO w w3)) := by
    refine ⟨_, HI3.out.1.rep, ?_, fun k hk hx => ?_, ((show SmO w A by rw [HA.out]; exact ⟨rfl, rfl, rfl⟩).trans HMd.out.2.2.2.2.2).trans HF3.out.smo⟩
    · exact Nat.le_trans HGT.out.2.2.2.2.2 HF3.out.size
    · rw [HF3.out.block k (Nat.lt_of_lt_of_le hk HGT.out.2.2.2.2.2) (fun q => ?_) (by rw [HVd.out]; exact hx)]
      · exact HFr.out k hk
      · have hVT : V.T = T := by rw [HVd.out]
        rw [hVG, hVT] at q
        have := HGT.out
        rcases bk_new q with q1 | q1 <;> omega
  clear hVG HI3 HF3 HC0 HIn
  by_cases h6 : 1000000 < s3
  · have h6' : (s3 : Int) > 1000000 := by omega
    go_wp2
    go_ret
    obtain ⟨B, g1, g2⟩ := HEx.out
    first
    | exact ⟨rfl, ⟨B, g1⟩, g2⟩
    | exact ⟨by rw [if_pos h6]; rfl, ⟨B, g1⟩, g2⟩
    | exact ⟨by simp [h6], ⟨B, g1⟩, g2⟩
  · have h6' : ¬ (s3 : Int) > 1000000 := by omega
    go_wp2
    go_ret
    obtain ⟨B, g1, g2⟩ := HEx.out
    first
    | exact ⟨rfl, ⟨B, g1⟩, g2⟩
    | exact ⟨by rw [if_neg h6]; rfl, ⟨B, g1⟩, g2⟩
    | exact ⟨by simp [h6], ⟨B, g1⟩, g2⟩

end Go.Proofs.YtapchcamjeafmaaDoor
