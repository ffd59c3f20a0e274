/-
  The contract of wide's product of groups.
-/
import Derived.Test.YtfdhbnbmobmlpaaDoorWGrp
import Derived.Laws.NewBlocks
import Derived.Deep.OwnRows
namespace Go.Proofs.YtfdhbnbmobmlpaaDoor
open Go.RowKit

theorem Tryd.underG : Tryd.prog.underlying 47 = some (.slice 57) := by kernel_rfl
/-- A row of a product, at its end. -/
theorem mul_row {f v : Nat → Nat} {n i m c g A : Nat} (hk : i + m < n) (h0 : f (i + m) = 0) (h : valF f n + c * 1000000000 ^ (i + m) = A + g * 1000000000 ^ i * valF v m) : valF (upN f (i + m) c) n = A + g * 1000000000 ^ i * valF v m := by
  have h1 := valF_up f (i + m) c n hk
  rw [h0, Nat.zero_mul, Nat.add_zero] at h1
  omega

set_option maxHeartbeats 8000000 in
set_option maxRecDepth 100000 in
theorem gtimes_at (v1 v2 : Value) (n m : Nat) (f k : Nat → Nat) (w : World) {l1 l2 : Nat} (h1 : GrV w l1 v1 n f) (h2 : GrV w l2 v2 m k) (hf : ∀ j, j < n → f j < 1000000000) (hk : ∀ j, j < m → k j < 1000000000) (hn : n ≤ 100000) (hm : m ≤ 100000) :
    Calls Tryd.prog 30 #[v1, v2] w fun e w' => ∃ v, e = .returned v ∧ GrC w' w.heap.size v (valF f n * valF k m) (n + m) ∧ Below w.heap.size w w' := by
  obtain ⟨a1, c1, rfl, h1⟩ := h1
  obtain ⟨a2, c2, rfl, h2⟩ := h2
  have H1 : Hid (∀ W j, Below w.heap.size w W → j < n → ∃ g, a1 = some ⟨g, 0, none⟩ ∧ W.cell? ⟨g, j, none⟩ = some (.int .u64 (f j : Int))) := fun W j hW hj => by
    obtain ⟨g, e, -, hg, hc⟩ := h1 (by omega)
    exact ⟨g, e, (hW.cell (p := ⟨g, j, none⟩) hg).trans (hc j hj)⟩
  have H2 : Hid (∀ W j, Below w.heap.size w W → j < m → ∃ g, a2 = some ⟨g, 0, none⟩ ∧ W.cell? ⟨g, j, none⟩ = some (.int .u64 (k j : Int))) := fun W j hW hj => by
    obtain ⟨g, e, -, hg, hc⟩ := h2 (by omega)
    exact ⟨g, e, (hW.cell (p := ⟨g, j, none⟩) hg).trans (hc j hj)⟩
  have HF : Hid (∀ j, j < n → f j < 1000000000) := hf
  have HK : Hid (∀ j, j < m → k j < 1000000000) := hk
  clear h1 h2 hf hk
  obtain ⟨N, HN⟩ : ∃ N, Hid (N = n + m) := ⟨_, rfl⟩
  have hN : (n : Int) + (m : Int) = (N : Int) := by rw [HN.out]; omega
  have hNb : N ≤ 200000 := by rw [HN.out]; omega
  have hNw : IntKind.i64.wrap (N : Int) = (N : Int) := by rw [IntKind.wrap_i64]; omega
  have hmP : ∀ W, (Instr.makeSlice 47 (.int .i64 (N : Int)) (.int .i64 (N : Int))).run Tryd.prog W = .ok (.slice (some ⟨W.heap.size, 0, none⟩) N N) (W.alloc (.cells (madeCells #[Value.int .u64 0] N) 57)) := fun W =>
    run_make_row' (P := Tryd.prog) 47 57 (.int .u64 0) 8 Tryd.underG Tryd.infoV rfl .i64 .i64 N (by omega) (by omega) W
  have HO0 : Hid (OwnsV (w.alloc (.cells (madeCells #[Value.int .u64 0] N) 57)) w.heap.size (.slice (some ⟨w.heap.size, 0, none⟩) N N) N (fun _ => 0)) := by
    refine ownsV_made ⟨by rw [toList_madeCells_one]; simp, Or.inr ⟨w.heap.size, N, madeCells #[Value.int .u64 0] N, rfl, Nat.le_refl _, heap_alloc_new _ _, Nat.le_refl _, by unfold maxLen; omega, by rw [← Array.length_toList, toList_madeCells_one]; simp, ?_⟩⟩
    rw [Nat.mul_one, List.take_of_length_le (by rw [toList_madeCells_one]; simp)]
  have HB0 : Hid (Below w.heap.size w (w.alloc (.cells (madeCells #[Value.int .u64 0] N) 57))) := (Below.refl _ _).alloc (Nat.le_refl _) _
  go_enter Tryd.func30, Tryd.ntmps30
  go_wp2_with fail
  clear hmP
  go_loopw [19] (fun iv wr => ∃ (i : Nat) (r : Nat → Nat), i ≤ n ∧ iv = .int .i64 (i : Int) ∧ Hid (OwnsV wr w.heap.size (.slice (some ⟨w.heap.size, 0, none⟩) N N) N r) ∧ Hid (valF r N = valF f i * valF k m ∧ (∀ j, j < N → r j < 1000000000) ∧ ∀ j, i + m ≤ j → r j = 0) ∧ Hid (Below w.heap.size w wr)) (fun iv _ => n - (intOf iv).toNat)
  case atStart => exact ⟨0, _, Nat.zero_le _, rfl, HO0, by
    show _ ∧ _
    refine ⟨?_, fun j _ => by omega, fun _ _ => rfl⟩
    rw [valF, Nat.zero_mul]
    have : ∀ q, valF (fun _ => 0) q = 0 := fun q => by induction q with
      | zero => rfl
      | succ q ih => rw [valF, ih]; simp
    exact this N, HB0⟩
  case round =>
    clear HO0 HB0
    obtain ⟨i, r, hi, rfl, HO, HV, HB⟩ := hrel
    by_cases hlt : i < n
    · have hlt' : (i : Int) < (n : Int) := by omega
      obtain ⟨g1, ha1, hc1⟩ := H1.out wr i HB.out hlt
      subst ha1
      obtain ⟨gu, HGu⟩ : ∃ gu, Hid (gu = f i) := ⟨_, rfl⟩
      have hgu : gu < 1000000000 := by rw [HGu.out]; exact HF.out i hlt
      rw [← HGu.out] at hc1
      go_wp2_with fail
      go_loopw [8, 26] (fun cv jv wr => ∃ (j c : Nat) (s : Nat → Nat), j ≤ m ∧ c < 1000000000 ∧ jv = .int .i64 (j : Int) ∧ cv = .int .u64 (c : Int) ∧ Hid (OwnsV wr w.heap.size (.slice (some ⟨w.heap.size, 0, none⟩) N N) N s) ∧ Hid (valF s N + c * 1000000000 ^ (i + j) = valF f i * valF k m + gu * 1000000000 ^ i * valF k j ∧ (∀ j, j < N → s j < 1000000000) ∧ ∀ j, i + m ≤ j → s j = 0) ∧ Hid (Below w.heap.size w wr)) (fun _ jv _ => m - (intOf jv).toNat)
      case atStart => exact ⟨0, 0, r, Nat.zero_le _, by omega, rfl, rfl, HO, by
        show _ ∧ _
        exact ⟨by rw [HV.out.1]; simp [valF], HV.out.2⟩, HB⟩
      case round =>
        clear HO HV HB hc1
        obtain ⟨j, c, s, hj, hc, rfl, rfl, HO, HV, HB⟩ := hrel
        by_cases hltj : j < m
        · have hltj' : (j : Int) < (m : Int) := by omega
          obtain ⟨g2, ha2, hc2⟩ := H2.out wr j HB.out hltj
          subst ha2
          obtain ⟨o, HOo⟩ : ∃ o, Hid (o = k j) := ⟨_, rfl⟩
          have ho : o < 1000000000 := by rw [HOo.out]; exact HK.out j hltj
          rw [← HOo.out] at hc2
          obtain ⟨p, HP⟩ : ∃ p, Hid (p = i + j) := ⟨_, rfl⟩
          have hp : (i : Int) + (j : Int) = (p : Int) := by rw [HP.out]; omega
          have hpN : p < N := by rw [HP.out, HN.out]; omega
          have hpN' : (p : Int) < (N : Int) := by omega
          obtain ⟨hfr, hcp⟩ := HO.out.at hpN
          obtain ⟨sp, HSp⟩ : ∃ sp, Hid (sp = s p) := ⟨_, rfl⟩
          rw [← HSp.out] at hcp
          have hsp : sp < 1000000000 := by rw [HSp.out]; exact HV.out.2.1 p hpN
          obtain ⟨go, HGo⟩ : ∃ go, Hid (go = gu * o) := ⟨_, rfl⟩
          obtain ⟨su, HSu⟩ : ∃ su, Hid (su = sp + go) := ⟨_, rfl⟩
          obtain ⟨x, HX⟩ : ∃ x, Hid (x = c + su) := ⟨_, rfl⟩
          have hgo : go ≤ 999999999 * 999999999 := by rw [HGo.out]; exact Nat.mul_le_mul (by omega) (by omega)
          have hx : x < 1000000000 * 1000000000 := by rw [HX.out, HSu.out]; omega
          have hmul : IntKind.u64.wrap ((gu : Int) * (o : Int)) = (go : Int) := by rw [IntKind.wrap_u64, ← Int.natCast_mul, ← HGo.out]; omega
          have hadd1 : IntKind.u64.wrap ((sp : Int) + (go : Int)) = (su : Int) := by rw [IntKind.wrap_u64, HSu.out]; omega
          have hadd2 : IntKind.u64.wrap ((c : Int) + (su : Int)) = (x : Int) := by rw [IntKind.wrap_u64, HX.out, HSu.out]; omega
          obtain ⟨xm, HXm⟩ : ∃ xm, Hid (xm = x % 1000000000) := ⟨_, rfl⟩
          obtain ⟨xd, HXd⟩ : ∃ xd, Hid (xd = x / 1000000000) := ⟨_, rfl⟩
          have hxm : xm < 1000000000 := by rw [HXm.out]; exact Nat.mod_lt _ (by omega)
          have hxd : xd < 1000000000 := by rw [HXd.out]; exact Nat.div_lt_of_lt_mul (by omega)
          have htm : Int.tmod (x : Int) 1000000000 = (xm : Int) := by rw [HXm.out]; rfl
          have htd : Int.tdiv (x : Int) 1000000000 = (xd : Int) := by rw [HXd.out]; rfl
          have hwd : IntKind.u64.wrap (xd : Int) = (xd : Int) := by rw [IntKind.wrap_u64]; omega
          have HO3 : Hid (OwnsV (wr.setCell ⟨w.heap.size, p, none⟩ (.int .u64 (xm : Int))) w.heap.size (.slice (some ⟨w.heap.size, 0, none⟩) N N) N (upN s p xm)) := HO.out.store p xm
          have HB3 : Hid (Below w.heap.size w (wr.setCell ⟨w.heap.size, p, none⟩ (.int .u64 (xm : Int)))) := HB.out.setCell (p := ⟨w.heap.size, p, none⟩) (Nat.le_refl _) _
          have HV3 : Hid (valF (upN s p xm) N + xd * 1000000000 ^ (i + (j + 1)) = valF f i * valF k m + gu * 1000000000 ^ i * valF k (j + 1) ∧ (∀ j, j < N → upN s p xm j < 1000000000) ∧ ∀ j, i + m ≤ j → upN s p xm j = 0) := by
            have hv := HV.out
            have hst := mul_step (f := s) (n := N) (i := i) (j := j) (c := c) (g := gu) (o := o) (x := x) (by rw [← HP.out]; exact hpN) (by rw [HX.out, HSu.out, HGo.out, HSp.out, HP.out]) hv.1
            rw [← HP.out, ← HXm.out, ← HXd.out] at hst
            refine ⟨?_, fun q hq => ?_, fun q hq => ?_⟩
            · rw [hst, valF, HP.out, ← HOo.out, Nat.mul_add, Nat.add_assoc, Nat.pow_add]
              congr 2
              ac_rfl
            · by_cases e : q = p
              · subst e; rw [upN_self]; exact hxm
              · rw [upN_ne s e]; exact hv.2.1 q hq
            · rw [upN_ne s (by rw [HP.out]; omega)]; exact hv.2.2 q hq
          clear HO HV HB
          go_wp2
          go_roundw
          case rel => exact ⟨j + 1, xd, _, by omega, hxd, by go_num, by first | rfl | (simp [htd]; done), HO3, HV3, HB3⟩
          case measure => simp [intOf]; omega
        · obtain rfl : j = m := by omega
          have hnlt : ¬ ((j : Int) < (j : Int)) := by omega
          obtain ⟨p, HP⟩ : ∃ p, Hid (p = i + j) := ⟨_, rfl⟩
          have hp : (i : Int) + (j : Int) = (p : Int) := by rw [HP.out]; omega
          have hpN : p < N := by rw [HP.out, HN.out]; omega
          have hpN' : (p : Int) < (N : Int) := by omega
          obtain ⟨hfr, hcp⟩ := HO.out.at hpN
          have HO3 : Hid (OwnsV (wr.setCell ⟨w.heap.size, p, none⟩ (.int .u64 (c : Int))) w.heap.size (.slice (some ⟨w.heap.size, 0, none⟩) N N) N (upN s p c)) := HO.out.store p c
          have HB3 : Hid (Below w.heap.size w (wr.setCell ⟨w.heap.size, p, none⟩ (.int .u64 (c : Int)))) := HB.out.setCell (p := ⟨w.heap.size, p, none⟩) (Nat.le_refl _) _
          have HV3 : Hid (valF (upN s p c) N = valF f (i + 1) * valF k j ∧ (∀ j, j < N → upN s p c j < 1000000000) ∧ ∀ q, i + 1 + j ≤ q → upN s p c q = 0) := by
            have hv := HV.out
            have hst := mul_row (f := s) (v := k) (n := N) (i := i) (m := j) (c := c) (g := gu) (A := valF f i * valF k j) (by rw [← HP.out]; exact hpN) (hv.2.2 _ (Nat.le_refl _)) hv.1
            rw [← HP.out] at hst
            refine ⟨?_, fun q hq => ?_, fun q hq => ?_⟩
            · rw [hst, valF, Nat.add_mul, HGu.out]
            · by_cases e : q = p
              · subst e; rw [upN_self]; exact hc
              · rw [upN_ne s e]; exact hv.2.1 q hq
            · rw [upN_ne s (by rw [HP.out]; omega)]; exact hv.2.2 q (by omega)
          clear HO HV HB
          go_wp2
          go_roundw
          case rel => exact ⟨i + 1, _, by omega, by go_num, HO3, HV3, HB3⟩
          case measure => simp [intOf]; omega
    · obtain rfl : i = n := by omega
      have hnlt : ¬ ((i : Int) < (i : Int)) := by omega
      have HT := hid_w (trimmed_at w.heap.size N N r wr (fun j hj => (HO.out.at hj).2) (by omega) (Nat.le_refl _))
      have HG : Hid (GrC wr w.heap.size (.slice (some ⟨w.heap.size, 0, none⟩) (tlG r N) N) (valF f i * valF k m) (i + m)) := by
        refine ⟨tlG r N, r, ⟨_, N, rfl, fun hp => ⟨w.heap.size, rfl, Nat.le_refl _, (World.ownsRow.lt HO.out w.heap.size rfl).2, fun j hj => (HO.out.at (by have := tlG_le r N; omega)).2⟩⟩, ?_, by rw [← HN.out]; exact tlG_le r N⟩
        rw [← HV.out.1]
        exact can_tl HV.out.2.1
      clear HO HV
      go_wp2_with fail
      refine HT.out.mono ?_
      rintro e w9 ⟨rfl, hw9⟩
      obtain rfl := hw9
      go_wp2
      go_ret
      exact ⟨_, rfl, HG.out, HB.out⟩

end Go.Proofs.YtfdhbnbmobmlpaaDoor
