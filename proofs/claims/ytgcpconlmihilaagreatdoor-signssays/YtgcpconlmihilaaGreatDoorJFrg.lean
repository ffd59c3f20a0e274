/-
  The contract of ferref.AllSigns.
-/
import Derived.Test.YtgcpconlmihilaaGreatDoorJFrc
import Derived.Test.YtgcpconlmihilaaGreatDoorRxD
import Derived.Test.YtgcpconlmihilaaGreatDoorRyE
import Derived.Laws.EntriesVeiled
namespace Go.Proofs.YtgcpconlmihilaaGreatDoor
open Go.RowKit Go.Shelf Go.Sort

theorem fstF_succ (n : Nat) : fstF (n + 1) = fstF n ++ [(n : Int) + 1] := by unfold fstF; rw [List.range_succ, List.map_append]; rfl
theorem fstF_len (n : Nat) : (fstF n).length = n := by simp [fstF]
set_option maxHeartbeats 2000000 in
theorem FirstF_at (n : Nat) (w : World) (hn : n ≤ 1000) : Calls Tryz.prog 30 #[.int .i64 n] w fun e w' => ∃ v, e = .returned v ∧ Owns w' w.heap.size v (fstF n) ∧ Below w.heap.size w w' := by
  go_enter Tryz.func30, Tryz.ntmps30
  go_wp2
  go_loopw [3, 4] (fun v i wr => ∃ k : Nat, k ≤ n ∧ i = .int .i64 ((k : Int) + 1) ∧ Hid (Owns wr w.heap.size v (fstF k)) ∧ Hid (Below w.heap.size w wr)) (fun _ i _ => n + 1 - (intOf i).toNat)
  case atStart => exact ⟨0, Nat.zero_le _, rfl, World.ownsRow_nil _ _ _ _, Below.refl _ _⟩
  case round =>
    obtain ⟨k, hk, rfl, HO, HB⟩ := hrel
    by_cases hlt : k < n
    · have hle : (k : Int) + 1 ≤ (n : Int) := by omega
      have HLn : Hid ((fstF k).length ≤ 1000) := by show _ ≤ _; rw [fstF_len]; omega
      go_wp2_with (at_builtin; refine append_int (x := (k : Int) + 1) rfl _ _ rfl rfl HO.out rfl ?c1 ?c2 ?_)
      case c1 => have := HLn.out; omega
      case c2 => exact HB.out.size
      intro v' w2 hO' hb'
      have HO2 : Hid (Owns w2 w.heap.size v' (fstF (k + 1))) := by show Owns _ _ _ _; rw [fstF_succ]; exact hO'
      have HB2 : Hid (Below w.heap.size w w2) := HB.out.trans hb'
      clear hO' hb'
      go_wp2
      go_roundw
      case rel => exact ⟨k + 1, by omega, by go_num, HO2, HB2⟩
      case measure => simp [intOf]; omega
    · obtain rfl : k = n := by omega
      have hle : ¬ (k : Int) + 1 ≤ (k : Int) := by omega
      go_wp2
      go_ret
      exact ⟨_, rfl, HO.out, HB.out⟩

theorem step_fst {w : World} {x : Value} {P : Value → World → Prop} {ops : Array Oper} {o : Oper} {a : Act} {K : Act → World → Prop} {Q : Exit → Act → World → Prop} {EE : Prop} (hgd : o.guard = none) (y : Operand)
    (ho : o.op = .call { callee := .value (.func 30), args := #[y], argTypes := #[3] }) (hx : a.eval y = x) (hc : Calls Tryz.prog 30 #[x] w fun e w' => ∃ v, e = .returned v ∧ P v w') (h : ∀ v w', P v w' → K (a.put o.dst v) w') :
    if Region.wanted o (yielded ops a.tmps) = true then Oper.wp Tryz.prog o a w K Q else EE := by
  have hw : Region.wanted o (yielded ops a.tmps) = true := by simp [Region.wanted, hgd]
  rw [if_pos hw]
  unfold Oper.wp
  simp [execOp, ho, resolve, invoke, hx]
  simp [Act.eval, Deferred.ofValue, callFunc, Tryz.func30]
  refine hc.mono ?_
  rintro e w' ⟨v, rfl, hP⟩
  exact h v w' hP

theorem frF_len : ∀ (d : Nat) (ls l : List (List Int)), l ∈ frF d ls → l.length = ls.length + d
  | 0, ls, l, h => by rw [frF, List.mem_singleton] at h; rw [h]; rfl
  | d + 1, ls, l, h => by
    rw [frF, List.mem_flatMap] at h
    obtain ⟨q, _, hq⟩ := h
    rw [frF_len d _ _ hq, List.length_cons]; omega
theorem outF_mx {n : Nat} (n1 : 1 ≤ n) : (frF (n - 1) [fstF n]).map mxF = outF n := by
  unfold outF
  refine List.map_congr_left fun l hl => ?_
  have h := frF_len _ _ _ hl
  have e : l.length = n := by rw [h]; simp; omega
  show tz l.length l.length (otr l) = _
  rw [e]
theorem tz_flat (r c : Nat) (P : Nat → Nat → Int) : (tz r c P).map List.length = List.replicate r c := by
  rw [List.eq_replicate_iff]
  refine ⟨by rw [List.length_map, tz_len], fun b hb => ?_⟩
  obtain ⟨l, hl, rfl⟩ := List.mem_map.1 hb
  unfold tz at hl
  obtain ⟨i, _, rfl⟩ := List.mem_map.1 hl
  exact tab_length _ _
theorem outF_bd {n : Nat} (n5 : n ≤ 5) {s : List (List Int)} (h : s ∈ outF n) : s.length = n ∧ s.map List.length = List.replicate n n ∧ s.flatten.length ≤ 1000000 ∧ ∀ z ∈ s.flatten, -9223372036854775808 ≤ z ∧ z ≤ 9223372036854775807 := by
  unfold outF at h
  obtain ⟨l, _, rfl⟩ := List.mem_map.1 h
  refine ⟨tz_len _ _ _, tz_flat _ _ _, ?_, fun z hz => ?_⟩
  · rw [List.length_flatten, tz_flat, List.sum_replicate_nat]
    have := Nat.mul_le_mul n5 n5
    omega
  · obtain ⟨r, hr, hz⟩ := List.mem_flatten.1 hz
    exact (otr_wf l (by omega) r hr).2 z hz

/-- what AllSigns answers -/
def AsR (n : Nat) (B : Nat) (v : Value) (w' : World) : Prop := ∃ us, Cub (fun k => k = B) w' (B + 2) v us (srF n)

set_option maxHeartbeats 8000000 in
set_option maxRecDepth 100000 in
theorem AllSigns_at {ρ : Go.Shelf.Ren} (LL : SlLaysF.n6 Tryz.prog ρ) (hρ : ρ.f 6 = 31) (n : Nat) (w : World) (n1 : 1 ≤ n) (n5 : n ≤ 5) :
    Calls Tryz.prog 10 #[.int .i64 (n : Int)] w fun e w' => ∃ v, e = .returned v ∧ Hid (AsR n w.heap.size v w') ∧ Hid (Below w.heap.size w w') := by
  obtain ⟨B, HB⟩ : ∃ B, Hid (B = w.heap.size) := ⟨_, rfl⟩
  obtain ⟨W2, HW2⟩ : ∃ W2, Hid (W2 = (w.alloc (.cells #[.slice none 0 0] 29)).alloc (.cells #[frV B (B + 1)] 58)) := ⟨_, rfl⟩
  have hs2 : W2.heap.size = B + 2 := by rw [HW2.out, HB.out]; simp
  have hc0 : W2.heap[B]? = some (.cells #[.slice none 0 0] 29 (0, 0)) := by
    rw [HW2.out, HB.out, Below.heap_alloc _ _ _ (by simp)]; exact heap_alloc_new _ _
  have hc1 : W2.heap[B + 1]? = some (.cells #[frV B (B + 1)] 58 (0, 0)) := by
    have h := heap_alloc_new (w.alloc (.cells #[.slice none 0 0] 29)) (.cells #[frV B (B + 1)] 58)
    rw [HW2.out, HB.out]
    rw [HB.out] at h
    simpa using h
  have hbw : Below B w W2 := by rw [HW2.out, HB.out]; exact ((Below.refl _ _).alloc (Nat.le_refl _) _).alloc (by simp) _
  have HF : Hid (∀ W, Below (B + 2) W2 W → Calls Tryz.prog 30 #[.int .i64 (n : Int)] W fun e w' => ∃ v, e = .returned v ∧ ∃ a m k, v = .slice a m k ∧ w'.cell? ⟨B + 1, 0, none⟩ = some (frV B (B + 1)) ∧ (w'.alloc (.cells #[.slice a m k] 36)).cell? ⟨B + 1, 0, none⟩ = some (frV B (B + 1)) ∧ Hid (Below (B + 2) W2 w' ∧ Owns w' (B + 2) (.slice a m k) (fstF n))) := fun W hW => by
    refine (FirstF_at n W (by omega)).mono ?_
    rintro e w' ⟨v, rfl, hO, hb⟩
    have hsz := hW.size
    have hb2 := hW.trans (hb.mono (by omega))
    have h1 : w'.heap[B + 1]? = some (.cells #[frV B (B + 1)] 58 (0, 0)) := by rw [hb2.block _ (by omega)]; exact hc1
    obtain ⟨a, k, e⟩ := hO.shape
    subst e
    refine ⟨_, rfl, a, _, k, rfl, (cell_oneS h1).1, ?_, hb2, hO.mono (by omega)⟩
    rw [World.cell?_of_block (Below.heap_alloc w' _ (B + 1) (by have := hb2.size; omega))]
    exact (cell_oneS h1).1
  have HCl : Hid (∀ W w' v, (Below (B + 2) W2 W ∧ Owns W (B + 2) v (fstF n)) → w'.heap = (W.alloc (.cells #[v] 36)).heap → (w'.os = W.os ∧ w'.tape = W.tape ∧ w'.output = W.output) → Calls Tryz.prog 28 #[.slice (some ⟨W.heap.size, 0, none⟩) 1 1, bxS B, bxS (B + 1)] w' fun e w4 => e = .returned (.tuple #[]) ∧ ∃ v2, w4.cell? ⟨B, 0, none⟩ = some v2 ∧ Hid (Calls Tryz.prog 31 #[v2, .func (.func 32) #[] #[]] w4 fun e w5 => e = .returned (.tuple #[]) ∧ w5.cell? ⟨B, 0, none⟩ = some v2 ∧ Hid (AsR n B v2 w5) ∧ Hid (Below B w w5))) := fun W w' v ⟨hb, hO⟩ hh hio => by
    have hsz := hb.size
    have hs' : w'.heap.size = W.heap.size + 1 := by rw [hh]; simp
    have hold : ∀ k, k < W.heap.size → w'.heap[k]? = W.heap[k]? := fun k hk => by rw [hh]; exact Below.heap_alloc _ _ _ hk
    have h0 : w'.heap[B]? = some (.cells #[.slice none 0 0] 29 (0, 0)) := by rw [hold _ (by omega), hb.block _ (by omega)]; exact hc0
    have h1 : w'.heap[B + 1]? = some (.cells #[frV B (B + 1)] 58 (0, 0)) := by rw [hold _ (by omega), hb.block _ (by omega)]; exact hc1
    have hX : FX w' B (B + 1) (B + 2) (.slice none 0 0) [] [] := ⟨h0, h1, ⟨World.ownsRow_nil _ _ _ _, rfl, fun k hk => absurd hk (by simp)⟩, by omega, by omega, by omega, by omega⟩
    have hT : TW w' B (.slice none 0 0) (.slice (some ⟨W.heap.size, 0, none⟩) 1 1) [v] [fstF n] := by
      have hn : ∀ k, (Value.slice none 0 0).ownBlock ≠ some k := fun k e => by simp [Value.ownBlock] at e
      refine ⟨⟨by simp, Or.inr ⟨W.heap.size, 1, #[v], rfl, Nat.zero_le _, by rw [hh]; exact heap_alloc_new _ _, Nat.le_refl _, by unfold maxLen; omega, rfl, rfl⟩⟩, rfl, fun i hi => ?_, fun k e => ⟨?_, hn k⟩, fun i hi k e => ⟨?_, hn k⟩⟩
      · obtain rfl : i = 0 := by simpa using hi
        exact ownsRow_blocks (hO.mono (Nat.zero_le _)) (fun k e => hold k (hO.lt e).2)
      · simp only [Value.ownBlock, Option.some.injEq] at e
        omega
      · obtain rfl : i = 0 := by simpa using hi
        have := (hO.lt e).1
        omega
    have hBd : BdF [fstF n] := fun l hl => by
      rw [List.mem_singleton] at hl
      subst hl
      refine ⟨by rw [fstF_len]; exact n5, fun z hz => ?_⟩
      unfold fstF at hz
      obtain ⟨i, hi, rfl⟩ := List.mem_map.1 hz
      have := List.mem_range.1 hi
      omega
    have hall : ∀ d, FrC B (B + 1) (B + 2) d := fun d => by
      induction d with
      | zero => exact frC_zero _ _ _
      | succ d ih => exact frC_succ ih
    have hlen : (outF n).length ≤ 1000000 := by
      rw [(perm_F n1 n5).length_eq]
      unfold srF
      rw [List.length_map, asm_list n (by omega) n1]
      rcases (show n = 1 ∨ n = 2 ∨ n = 3 ∨ n = 4 ∨ n = 5 by omega) with rfl | rfl | rfl | rfl | rfl <;> decide
    refine (hall (n - 1) [fstF n] w' _ _ [] [v] [] hX hT hBd (by simp) (by simp; omega) (by show (fstF n).length = _; rw [fstF_len]; omega) (by rw [List.nil_append, outF_mx n1]; exact hlen)).mono ?_
    rintro e w4 ⟨rfl, vl, us, x1, x2⟩
    rw [List.nil_append, outF_mx n1] at x1
    have hb4 : Below B w w4 := by
      have hb5 := hbw.trans (hb.mono (by omega))
      have hz := x2.size
      refine ⟨x2.io.1.trans (hio.1.trans hb5.os), x2.io.2.1.trans (hio.2.1.trans hb5.tape), x2.io.2.2.trans (hio.2.2.trans hb5.output), by have := hb5.size; omega, fun k hk => ?_⟩
      rw [x2.block k (by omega) (by omega) (fun e => by simp [Value.ownBlock] at e), hold k (by omega), hb5.block k hk]
    refine ⟨rfl, vl, (cell_oneS x1.lb).1, ?_⟩
    obtain ⟨q1, q2, q3, q4⟩ := x1.lt
    refine (SortCube_at LL hρ 32 (enters_of Tryz.func32 (by kernel_rfl) rfl) vl us _ w4 x1.cu (by omega) q4 (fun W2 a1 b1 ca1 cb1 s t hs ht hTs hTt => ?_)).mono ?_
    · have g1 := outF_bd n5 hs
      have g2 := outF_bd n5 ht
      exact RLess_d a1 b1 ca1 cb1 _ _ W2 hTs hTt (by omega) (by omega) g1.2.2.1 g2.2.2.1 g1.2.2.2 g2.2.2.2
    · rintro e w5 ⟨rfl, us', ts', hp, hs, hc, hb5, -⟩
      have e1 : ts' = srF n := by
        refine sorted_same (hp.trans (perm_F n1 n5)) hs (srF_sorted n1 n5) (fun s hs t ht => ?_)
        rw [(outF_bd n5 (hp.mem_iff.1 hs)).2.1, (outF_bd n5 (hp.mem_iff.1 ht)).2.1]
      rw [e1] at hc
      refine ⟨rfl, ?_, ⟨us', hc⟩, hb4.trans (hb5.mono (by omega))⟩
      have h5 : w5.heap[B]? = some (.cells #[vl] 29 (0, 0)) := by rw [hb5.block _ (by omega)]; exact x1.lb
      exact (cell_oneS h5).1
  have hcf : W2.cell? ⟨B + 1, 0, none⟩ = some (frV B (B + 1)) := (cell_oneS hc1).1
  clear LL hρ n1 n5 hs2 hc0 hc1 hbw
  go_enter Tryz.func10, Tryz.ntmps10
  go_upto_region 4 with fail
  rw [← HB.out, ← HW2.out]
  go_region_law (first | (refine step_fst (x := .int .i64 (n : Int)) rfl (.tmp 7) rfl (by first | (simp [Act.eval]; done) | (simp [Act.eval, Act.put]; done)) (HF.out _ (by first | exact Below.refl _ _ | exact below_drewN (Below.refl _ _) 1)) ?_; rintro v1 w1 ⟨a1, m1, k1, rfl, g1, g2, g3⟩) | (refine step_frc (l0 := B) (bF := B + 1) (x := .slice (some ⟨w1.heap.size, 0, none⟩) 1 1) rfl (.tmp 6) (.tmp 9) rfl (by first | (simp [Act.eval]; done) | (simp [Act.eval, Act.put]; done)) (by first | (simp [Act.eval]; done) | (simp [Act.eval, Act.put]; done)) (HCl.out w1 _ _ g3.out (by rfl) (by exact ⟨rfl, rfl, rfl⟩)) ?_; rintro w4 ⟨v2, g4, HSo⟩))
  all_goals go_wp2_with fail
  all_goals (refine HSo.out.mono ?_; rintro e w5 ⟨rfl, g5, HA5, HB5⟩)
  all_goals go_wp2
  all_goals go_ret
  all_goals exact ⟨v2, rfl, by rw [← HB.out]; exact HA5, by rw [← HB.out]; exact HB5⟩
end Go.Proofs.YtgcpconlmihilaaGreatDoor
