/-
  paths.determinant: along the first row.
-/
import Derived.Test.YtapchcamjeafmaaDoorQWit
namespace Go.Proofs.YtapchcamjeafmaaDoor
open Go.RowKit

set_option maxHeartbeats 8000000 in
set_option maxRecDepth 100000 in
theorem det_at : ∀ (n : Nat), n ≤ 4 → ∀ (a : Option Addr) (c : Nat) (rows : List (List Int)) (w : World), TbL w a rows → Sqr n n rows → n ≤ c → ∀ d, d = dtN n rows →
    Calls Tryd.prog 13 #[.slice a n c] w fun e w' => e = .returned (.int .i64 d) ∧ Hid (Below w.heap.size w w')
  | 0, _, a, c, rows, w, _, _, _, d, hd => by
    obtain rfl : d = 1 := hd
    go_enter Tryd.func13, Tryd.ntmps13
    go_wp2_with fail
    go_ret
    exact ⟨rfl, hid_w (Below.refl _ _)⟩
  | n + 1, h4, a, c, rows, w, hT, hq, hc, d, hd => by
    have ih := hid_w (det_at n (by omega))
    have HT : Hid (TbL w a rows) := hT
    have HQ : Hid (Sqr (n + 1) (n + 1) rows) := hq
    have HD : Hid (d = dtS n rows (n + 1)) := hd
    have hr0 := hq.at (i := 0) (by omega)
    obtain ⟨b, off, b2, o2, ci, h1, h2, h3, -, h5, h6⟩ := hT 0 (by rw [hq.1]; omega)
    subst h1
    rw [Nat.add_zero] at h3
    rw [hr0.1] at h3 h6
    obtain ⟨N, HN⟩ : ∃ N, Hid (N = n + 1) := ⟨_, rfl⟩
    have hN : N = n + 1 := HN.out
    rw [← hN] at h3 h4 hc ⊢
    have HB2 : Hid (b2 < w.heap.size) := h5
    have HC : Hid (∀ q, q < N → w.cell? ⟨b2, o2 + q, none⟩ = some (.int .i64 ((rows.getD 0 []).getD q 0))) := fun q hq' => h6 q (by omega)
    have hN0 : ¬ N = 0 := by omega
    have hN0' : ((N : Int) == 0) = false := by simp; omega
    have HQt : Hid (∀ k, k < N → Sqr n n (rows.tail.map (woR k))) := fun k hk => HQ.out.wo (by omega)
    have HQl : Hid (Sqr n (n + 1) rows.tail) := ⟨by rw [List.length_tail, HQ.out.1]; rfl, fun r hr => HQ.out.2 r (List.mem_of_mem_tail hr)⟩
    have HTt : Hid (∀ W : World, Below w.heap.size w W → TbL W (some ⟨b, off + 1, none⟩) rows.tail) := fun W hW => (HT.out.below hW).tail
    have HTe : Hid (c = 1 → ∀ (W : World) (a : Option Addr), TbL W a rows.tail) := fun hc1 W a => by
      have e : rows.tail = [] := List.eq_nil_of_length_eq_zero (by rw [HQl.out.1]; omega)
      rw [e]; exact TbL.nil W a
    clear hT hq hd hr0 h5 h6 hN
    go_enter Tryd.func13, Tryd.ntmps13
    go_wp2_with fail
    go_loopw [14, 3, 4] (fun kv sv gv wr => ∃ (k : Nat) (s g : Int), k ≤ N ∧ kv = .int .i64 (k : Int) ∧ sv = .int .i64 s ∧ gv = .int .i64 g ∧ Hid (s = dtS n rows k) ∧ Hid (g = sgI k) ∧ Hid (Below w.heap.size w wr)) (fun kv _ _ _ => N - (intOf kv).toNat)
    case atStart => exact ⟨0, 0, 1, Nat.zero_le _, rfl, rfl, rfl, rfl, rfl, hid_w (Below.refl _ _)⟩
    case round =>
      obtain ⟨k, s, g, hk, rfl, rfl, rfl, HS, HG, HB⟩ := hrel
      by_cases hlt : k < N
      · have hlt' : (k : Int) < (N : Int) := by omega
        obtain ⟨x, HX⟩ : ∃ x : Int, Hid (x = (rows.getD 0 []).getD k 0) := ⟨_, rfl⟩
        obtain ⟨dk, HDk⟩ : ∃ dk : Int, Hid (dk = dtN n (rows.tail.map (woR k))) := ⟨_, rfl⟩
        obtain ⟨p, HP⟩ : ∃ p : Int, Hid (p = g * x) := ⟨_, rfl⟩
        obtain ⟨q, HQq⟩ : ∃ q : Int, Hid (q = p * dk) := ⟨_, rfl⟩
        obtain ⟨s', HS'⟩ : ∃ s' : Int, Hid (s' = s + q) := ⟨_, rfl⟩
        obtain ⟨g', HG'⟩ : ∃ g' : Int, Hid (g' = - g) := ⟨_, rfl⟩
        have hnn : n ≤ 3 := by have := HN.out; omega
        have hbn := bnN_le (n := n + 1) (by omega)
        have hbn2 : (n + 1) * (16384 * bnN n) = bnN (n + 1) := rfl
        have hbd := dtN_bd n _ (HQt.out k hlt)
        rw [← HDk.out] at hbd
        have hxb := HQ.out.val (i := 0) (j := k) (by omega) (by have := HN.out; omega)
        rw [← HX.out] at hxb
        have hgb := sgI_abs k
        rw [← HG.out] at hgb
        have hpb := abs_mul g x 1 16384 hgb (by omega)
        rw [← HP.out] at hpb
        have hqb := abs_mul p dk (1 * 16384) (bnN n) hpb hbd
        rw [← HQq.out] at hqb
        have hs2 := dtS_bd n rows HQ.out (k + 1) (by have := HN.out; omega)
        have hs1 := dtS_bd n rows HQ.out k (by have := HN.out; omega)
        have hse : s' = dtS n rows (k + 1) := by rw [HS'.out, HQq.out, HP.out, HG.out, HX.out, HDk.out, HS.out, dtS_succ]
        have hk1 : (k + 1) * (16384 * bnN n) ≤ (n + 1) * (16384 * bnN n) := Nat.mul_le_mul_right _ (by have := HN.out; omega)
        rw [← hse] at hs2
        have hX : 16384 * bnN n ≤ (n + 1) * (16384 * bnN n) := Nat.le_mul_of_pos_left _ (by omega)
        rw [Nat.one_mul] at hqb hpb
        have w1 : IntKind.i64.wrap (g * x) = p := by rw [← HP.out, IntKind.wrap_i64]; omega
        have w2 : IntKind.i64.wrap (p * dk) = q := by rw [← HQq.out, IntKind.wrap_i64]; omega
        have w3 : IntKind.i64.wrap (s + q) = s' := by rw [← HS'.out, IntKind.wrap_i64]; omega
        have w4 : IntKind.i64.wrap (-g) = g' := by rw [IntKind.wrap_i64, HG'.out]; omega
        have hxc : wr.cell? ⟨b2, o2 + k, none⟩ = some (.int .i64 x) := by rw [HB.out.cell (p := ⟨b2, o2 + k, none⟩) HB2.out, HX.out]; exact HC.out k hlt
        have HSe : Hid (s' = dtS n rows (k + 1)) := hse
        have HGe : Hid (g' = sgI (k + 1)) := by show _ = _; rw [HG'.out, sgI_succ, HG.out]
        clear hX hbn hbn2 hbd hxb hgb hpb hqb hs1 hs2 hse hk1
        have HCw : Hid (∀ (a1 : Option Addr) (c1 : Nat), TbL wr a1 rows.tail → Calls Tryd.prog 20 #[.slice a1 n c1, .int .i64 (k : Int)] wr fun e w' => ∃ a', e = .returned (.slice a' n n) ∧ Hid (TbL w' a' (rows.tail.map (woR k))) ∧ Hid (Below wr.heap.size wr w')) := fun a1 c1 h => without_at a1 n n c1 k rows.tail wr h HQl.out (by omega) (by omega) (by have := HN.out; omega) (by omega)
        have HCd : Hid (∀ (W : World) (a1 : Option Addr), TbL W a1 (rows.tail.map (woR k)) → Calls Tryd.prog 13 #[.slice a1 n n] W fun e w' => e = .returned (.int .i64 dk) ∧ Hid (Below W.heap.size W w')) := fun W a1 h => ih.out a1 n _ W h (HQt.out k hlt) (Nat.le_refl _) dk HDk.out
        have hNn : N - 1 = n := by have := HN.out; omega
        have h1N : 1 ≤ N := by omega
        have h1c : 1 ≤ c := by omega
        by_cases hc1 : c = 1
        · have hT1 := HTe.out hc1 wr
          have HC1 := hid_w (HCw.out (some ⟨b, off, none⟩) 0 (hT1 _))
          have hn0 : n = 0 := by have := HN.out; omega
          subst hn0 hc1
          clear hT1
          go_wp2_with (first
            | (go_at_call 20; with_reducible (refine HC1.out.mono ?_); rintro e W1 ⟨a', rfl, HT1, HB1⟩)
            | (go_at_call 13; with_reducible (refine (HCd.out _ _ HT1.out).mono ?_); rintro e W2 ⟨rfl, HB2'⟩))
          have HB3 : Hid (Below w.heap.size w W2) := (HB.out.trans (HB1.out.mono HB.out.size)).trans (HB2'.out.mono (Nat.le_trans HB.out.size HB1.out.size))
          go_roundw
          case rel => exact ⟨k + 1, s', g', by omega, by go_num, rfl, rfl, HSe, HGe, HB3⟩
          case measure => simp [intOf]; omega
        · have hT1 := HTt.out wr HB.out
          have HC1 := hid_w (HCw.out (some ⟨b, off + 1, none⟩) (c - 1) hT1)
          clear hT1
          go_wp2_with (first
            | (go_at_call 20; with_reducible (refine HC1.out.mono ?_); rintro e W1 ⟨a', rfl, HT1, HB1⟩)
            | (go_at_call 13; with_reducible (refine (HCd.out _ _ HT1.out).mono ?_); rintro e W2 ⟨rfl, HB2'⟩))
          have HB3 : Hid (Below w.heap.size w W2) := (HB.out.trans (HB1.out.mono HB.out.size)).trans (HB2'.out.mono (Nat.le_trans HB.out.size HB1.out.size))
          go_roundw
          case rel => exact ⟨k + 1, s', g', by omega, by go_num, rfl, rfl, HSe, HGe, HB3⟩
          case measure => simp [intOf]; omega
      · obtain rfl : k = N := by omega
        have hlt' : ¬ (k : Int) < (k : Int) := by omega
        have hds : s = d := by rw [HS.out, HD.out, HN.out]
        subst hds
        go_wp2_with fail
        go_ret
        exact ⟨rfl, HB⟩
end Go.Proofs.YtapchcamjeafmaaDoor
