/-
  domino.First: the very text.
-/
import Derived.Test.YtcnmndbckjmliaaDoorNCnt
import Derived.Test.YtcnmndbckjmliaaDoorNFg
import Derived.Test.YtcnmndbckjmliaaDoorNFst
import Derived.Test.YtcnmndbckjmliaaDoorNFl
namespace Go.Proofs.YtcnmndbckjmliaaDoor
open Go.RowKit

/-- What domino.First answers. -/
def FiX (s : List UInt8) (v : Value) (er : Int) : Prop :=
  (∃ r c x, Shz bdL r c (pz s) ∧ OutP r c (cef (pz s)) r 0 x ∧ ((er = 0 ∧ 0 < cntC x ∧ v = .string ⟨(tx r c (fstG 64 x (cef (pz s)))).toArray⟩) ∨ (er = 5 ∧ cntC x = 0 ∧ v = .string ⟨#[]⟩))) ∨ (er = 1 ∧ v = .string ⟨#[]⟩ ∧ ∀ r c, ¬ Shz bdL r c (pz s))
set_option maxHeartbeats 4000000 in
set_option maxRecDepth 100000 in
theorem FirstX_at (s : ByteArray) (m : Int) (w : World) (hm : w.cell? ⟨0, 0, none⟩ = some (.int .i64 m)) (hT : TabAt 1 Lib.deBruijn64tab w) :
    Calls Tryd.prog 9 #[.string s] w fun e w' => ∃ (v : Value) (er : Int), e = .returned (.tuple #[v, .int .i64 er]) ∧ Hid (FiX s.data.toList v er) ∧ Hid (Below w.heap.size w w') := by
  obtain ⟨Z, HZ⟩ : ∃ Z, Hid (Z = shC 0 0 fun _ => 0) := ⟨_, rfl⟩
  have hz : ∀ W : World, (zeroValue 62).run Tryd.prog W = .ok (.agg Z) W := fun W => by rw [HZ.out]; exact (zero_of_info zeroS).1 W
  have HZ6 : Hid (C66 Z) := by rw [HZ.out]; exact shC_66 _ _ _
  have HCr := hid_w (readB_at s m w hm)
  have HTb := hid_w (tab_all hT (by decide))
  clear hm hT
  go_enter Tryd.func9, Tryd.ntmps9
  go_upto_region 2 with (first | (go_at_call 31; with_reducible (refine HCr.out.mono ?_); rintro e W1 ⟨v, rfl, HR, HB1⟩; obtain ⟨Y, er, rfl, HY6, HYr⟩ := HR.out.parts) | (refine wpList_store66 rfl (.tmp 4) (.tmp 15) rfl W1.heap.size Y Z rfl rfl (heap_alloc_last _ _) HY6.out HZ6.out ?_))
  try simp only [Act.put]
  obtain ⟨T, HT⟩ : ∃ T, Hid (T = W1.heap.size) := ⟨_, rfl⟩
  obtain ⟨W3, HW3⟩ : ∃ W3, Hid (W3 = (W1.alloc (.cells Z 62)).setRow W1.heap.size Y) := ⟨_, rfl⟩
  rw [← HW3.out, ← HT.out]
  have HB3 : Hid (Below w.heap.size w W3) := by
    rw [HW3.out]; exact below_setRowN (HB1.out.alloc HB1.out.size _) _ HB1.out.size _
  have HT3 : Hid (W3.heap[T]? = some (.cells Y 62 (0, 0))) := by
    show _ = _
    rw [HW3.out, HT.out]; exact setRow_heap _ _ _ _ _ _ (heap_alloc_last _ _)
  have HTw : Hid (w.heap.size ≤ T) := by rw [HT.out]; exact HB1.out.size
  rcases HYr.out with ⟨rfl, r, c, hsz, hY⟩ | ⟨rfl, hY, hno⟩
  case inr =>
    have HP : Hid (FiX s.data.toList (.string ⟨#[]⟩) 1) := Or.inr ⟨rfl, rfl, hno⟩
    clear hno hY HYr HR
    go_wp2_with fail
    go_ret2
    exact ⟨_, 1, rfl, HP, HB3⟩
  obtain ⟨g, HF⟩ : ∃ g, Hid (g = cef (pz s.data.toList)) := ⟨_, rfl⟩
  rw [← HF.out] at hY
  have HSz : Hid (Shz bdL r c (pz s.data.toList)) := hsz
  have hr8 : r ≤ 8 := hsz.2.2.1
  have hc8 : c ≤ 8 := hsz.2.2.2.2.1
  obtain ⟨b, HBb⟩ : ∃ b, Hid (b = W3.heap.size) := ⟨_, rfl⟩
  obtain ⟨W4, HW4⟩ : ∃ W4, Hid (W4 = W3.alloc (.map #[] 0)) := ⟨_, rfl⟩
  have HB4 : Hid (Below w.heap.size w W4) := by rw [HW4.out]; exact HB3.out.alloc HB3.out.size _
  have HTf : Hid (W4.heap[T]? = some (.cells (shC r c g) 62 (0, 0))) := by
    show _ = _
    rw [← hY, HW4.out, ((Below.refl W3.heap.size W3).alloc (Nat.le_refl _) _).block T (lt_someN HT3.out)]; exact HT3.out
  have HK4 : Hid (Knows W4 b 0) := by rw [HW4.out, HBb.out]; exact knows_made W3
  have HOc := hid_w (outside_at T r c g W4 HTf.out hr8 hc8)
  have HTb2 : Hid (T ≠ b ∧ w.heap.size ≤ b) := ⟨by have := lt_someN HT3.out; rw [HBb.out]; omega, by rw [HBb.out]; exact HB3.out.size⟩
  have HLc : Hid (∀ (W : World) (x n q : Nat), Hid (x ≤ allC) → Hid (Below w.heap.size w W) → Hid (Knows W b n) → n + 8589934592 ≤ 1000000000000 → Hid (q = cntC x) → Calls Tryd.prog 32 #[.map (some b), .int .u64 (x : Int)] W fun e w' => e = .returned (.int .i64 (q : Int)) ∧ Hid (Knows w' b (n + 8589934591)) ∧ Hid (W.grownBy w' (some b)) ∧ Hid (Below w.heap.size w w')) := fun W x n q hx hB hK hn hq => by
    refine (left_at w.heap.size 32 x hx.out (free_le x) W b n hK HTb2.out.2 (fun V hV => HTb.out V (hB.out.trans hV)) hn).mono ?_
    rintro e w' ⟨rfl, hk, hg⟩
    exact ⟨by rw [hq.out], hk, hg, hB.out.grown hg.out hB.out.size (fun k hk => by cases hk; exact HTb2.out.2)⟩
  clear hY hsz HYr HR
  go_wp2_with fail
  rw [run_makeMap, ← HBb.out, ← HW4.out]
  go_upto_region 6 with (go_at_call 33; with_reducible (refine HOc.out.mono ?_); rintro e v1 ⟨x0, rfl, HOx, rfl⟩)
  obtain ⟨q0, Hq0⟩ : ∃ q0 : Nat, Hid (q0 = cntC x0) := ⟨_, rfl⟩
  have HL1 := hid_w (HLc.out v1 x0 0 q0 HOx.out.1 HB4 HK4 (by omega) Hq0)
  by_cases hq0 : q0 = 0
  · have HP : Hid (FiX s.data.toList (.string ⟨#[]⟩) 5) := Or.inl ⟨r, c, x0, HSz.out, by rw [← HF.out]; exact HOx.out, Or.inr ⟨rfl, by rw [← Hq0.out]; exact hq0, rfl⟩⟩
    clear Hq0
    subst hq0
    go_wp2_with (go_at_call 32; with_reducible (refine HL1.out.mono ?_); rintro e W5 ⟨rfl, HK5, HG5, HB5⟩)
    go_ret2
    exact ⟨_, 5, rfl, HP, HB5⟩
  have hq0b : ((q0 : Int) == 0) = false := by simp; omega
  have HQp : Hid (0 < cntC x0) := by show _ < _; rw [← Hq0.out]; omega
  have HIn : Hid (Inv r c g g x0 ∧ FG x0 g x0 g) := ⟨inv_start HOx.out, FG.start x0 g⟩
  clear hq0
  go_wp2_with (go_at_call 32; with_reducible (refine HL1.out.mono ?_); rintro e W5 ⟨rfl, HK5, HG5, HB5⟩)
  have HT5 : Hid (W5.heap[T]? = some (.cells (shC r c g) 62 (0, 0))) := by
    show _ = _
    rw [HG5.out.block T (lt_someN HTf.out) (fun e => HTb2.out.1 (by simpa using e))]; exact HTf.out
  have HN5 : Hid (0 + 8589934591 + 8589934592 * freeC x0 ≤ 8589934592 * 65) := by show _ ≤ _; have := free_le x0; omega
  go_loopw [7] (fun cv wr => ∃ (k n : Nat) (f : Nat → UInt8), cv = .int .u64 (k : Int) ∧ Hid (Inv r c g f k ∧ FG x0 g k f) ∧ Hid (0 < cntC k) ∧ Hid (wr.heap[T]? = some (.cells (shC r c f) 62 (0, 0))) ∧ Hid (Knows wr b n) ∧ Hid (n + 8589934592 * freeC k ≤ 8589934592 * 65) ∧ Hid (Below w.heap.size w wr)) (fun cv _ => freeC (intOf cv).toNat)
  case atStart => exact ⟨x0, _, g, rfl, HIn, HQp, HT5, HK5, HN5, HB5⟩
  case round =>
    clear HIn HQp HT5 HK5 HN5 HB5
    obtain ⟨k, n, f, rfl, HIn, HQp, HTk, HKk, HNk, HBk⟩ := hrel
    rcases Nat.lt_or_ge k allC with hlt | hge
    case inr =>
      have hall : k = allC := by have := HIn.out.1.le; omega
      subst hall
      have HP : Hid (FiX s.data.toList (.string ⟨(tx r c f).toArray⟩) 0) := Or.inl ⟨r, c, x0, HSz.out, by rw [← HF.out]; exact HOx.out, Or.inl ⟨rfl, by rw [← Hq0.out]; simp at hq0b; omega, by rw [← HF.out, ← HIn.out.2.done]⟩⟩
      obtain ⟨t, HTt⟩ : ∃ t : ByteArray, Hid (t = ⟨(tx r c f).toArray⟩) := ⟨_, rfl⟩
      rw [← HTt.out] at HP
      have HX := hid_w (dtext_at T r c f wr HTk.out hr8 hc8)
      rw [← HTt.out] at HX
      have hca : ((allC : Nat) : Int) = 18446744073709551615 := rfl
      go_wp2_with (go_at_call 39; with_reducible (refine HX.out.mono ?_); rintro e W9 ⟨rfl, HB9⟩)
      have HBe : Hid (Below w.heap.size w W9) := HBk.out.trans (HB9.out.mono HBk.out.size)
      go_ret2
      exact ⟨_, 0, rfl, HP, HBe⟩
    have hkb : ((k : Int) != 18446744073709551615) = true := by unfold allC at hlt; simp; omega
    have hkd : (k : Int) ≠ 18446744073709551615 := by unfold allC at hlt; omega
    have HTa := hid_w (HTb.out wr HBk.out)
    obtain ⟨p, HPp⟩ : ∃ p, Hid (p = fstC k) := ⟨_, rfl⟩
    have hp64 : p < 64 := by rw [HPp.out]; exact (fst_spec hlt).1
    have HFc := hid_w (firstFree_at k p wr hlt HPp.out HTa.out)
    obtain ⟨a, ha⟩ : ∃ a, a = p / 8 := ⟨_, rfl⟩
    obtain ⟨d, hd⟩ : ∃ d, d = p % 8 := ⟨_, rfl⟩
    rw [← ha, ← hd] at HFc
    obtain ⟨l1, Hl1⟩ : ∃ l1, Hid (l1 = lieC k) := ⟨_, rfl⟩
    obtain ⟨s1, Hs1⟩ : ∃ s1, Hid (s1 = staC k) := ⟨_, rfl⟩
    have HStep := hid_w (cntC_step hlt)
    have HStand : Hid (¬ (mayL k = true ∧ 0 < cntC (lieC k)) → mayS k = true ∧ 0 < cntC (staC k)) := fun hno => by
      have h0 := HQp.out
      rw [HStep.out] at h0
      have hz : (if mayL k = true then cntC (lieC k) else 0) = 0 := by
        by_cases h : mayL k = true
        · rw [if_pos h]
          rcases Nat.eq_zero_or_pos (cntC (lieC k)) with e | e
          · exact e
          · exact absurd ⟨h, e⟩ hno
        · rw [if_neg h]
      rw [hz, Nat.zero_add] at h0
      by_cases h : mayS k = true
      · rw [if_pos h] at h0; exact ⟨h, h0⟩
      · rw [if_neg h] at h0; omega
    have HClt : Hid (mayL k = true → Calls Tryd.prog 35 #[.int .u64 (k : Int)] wr fun e w' => e = .returned (.tuple #[.int .u64 (l1 : Int), .bool true]) ∧ w' = wr) := fun h => by
      refine (clie_at k wr hlt HTa.out true h.symm).mono ?_
      rintro e w' ⟨d, rfl, hd, rfl⟩
      exact ⟨by rw [hd.out rfl, Hl1.out], rfl⟩
    have HClf : Hid (mayL k = false → Calls Tryd.prog 35 #[.int .u64 (k : Int)] wr fun e w' => ∃ d : Nat, e = .returned (.tuple #[.int .u64 (d : Int), .bool false]) ∧ w' = wr) := fun h => by
      refine (clie_at k wr hlt HTa.out false h.symm).mono ?_
      rintro e w' ⟨d, rfl, hd, rfl⟩
      exact ⟨d, rfl, rfl⟩
    have HCs : Hid (∀ W, Hid (Below w.heap.size w W) → mayS k = true → Calls Tryd.prog 37 #[.int .u64 (k : Int)] W fun e w' => e = .returned (.tuple #[.int .u64 (s1 : Int), .bool true]) ∧ w' = W) := fun W hW h => by
      refine (cstand_at k W hlt (HTb.out W hW.out) true h.symm).mono ?_
      rintro e w' ⟨d, rfl, hd, rfl⟩
      exact ⟨by rw [hd.out rfl, Hs1.out], rfl⟩
    have HRoom : Hid (n + 8589934592 ≤ 1000000000000) := by show _ ≤ _; have := HNk.out; have := free_pos hlt; omega
    cases hL : mayL k with
    | true =>
      by_cases hc0 : 0 < cntC (lieC k)
      ·
        have HCl := hid_w (HClt.out hL)
        obtain ⟨q1, Hq1⟩ : ∃ q1 : Nat, Hid (q1 = cntC l1) := ⟨_, rfl⟩
        have HL2 := hid_w (HLc.out wr l1 n q1 (by rw [Hl1.out]; exact lie_le hlt hL) HBk HKk HRoom.out Hq1)
        have hq1 : (q1 : Int) > 0 := by have := Hq1.out; rw [Hl1.out] at this; omega
        have h7 : d + 1 < 8 := by
          have := hL
          unfold mayL at this
          simp only [Bool.and_eq_true, decide_eq_true_eq] at this
          rw [← HPp.out] at this; omega
        have HDl : Hid (∀ W : World, Hid (W.heap[T]? = some (.cells (shC r c f) 62 (0, 0))) → Calls Tryd.prog 36 #[.pointer (some ⟨T, 0, none⟩), .int .i64 (a : Int), .int .i64 (d : Int)] W fun e w' => e = .returned (.tuple #[]) ∧ Hid (w'.heap[T]? = some (.cells (shC r c (up2 f (fstC k) 108 (fstC k + 1) 114)) 62 (0, 0))) ∧ Hid (W.grownBy w' (some T))) := fun W hW => by
          refine (dlie_at T r c f a d W hW.out (by omega) h7).mono ?_
          rintro e w' ⟨rfl, h1, h2⟩
          refine ⟨rfl, ?_, grown_of h2.out⟩
          have := h1.out
          rw [show a * 8 + d = fstC k by rw [← HPp.out]; omega, show a * 8 + (d + 1) = fstC k + 1 by rw [← HPp.out]; omega] at this
          exact this
        have HIn2 : Hid (Inv r c g (up2 f (fstC k) 108 (fstC k + 1) 114) l1 ∧ FG x0 g l1 (up2 f (fstC k) 108 (fstC k + 1) 114)) := by rw [Hl1.out]; exact ⟨inv_lie HIn.out.1 hlt hL, HIn.out.2.lie hlt hL hc0⟩
        have HFr : Hid (freeC l1 + 2 ≤ freeC k) := by rw [Hl1.out]; exact free_lie hlt hL
        have HQ2 : Hid (0 < cntC l1) := by show _ < _; rw [← Hq1.out]; omega
        clear ha hd
        go_wp2_with (first | (go_at_call 34; with_reducible (refine HFc.out.mono ?_); rintro e v2 ⟨rfl, hv2⟩; subst hv2) | (go_at_call 35; with_reducible (refine HCl.out.mono ?_); rintro e v3 ⟨rfl, hv3⟩; subst hv3) | (go_at_call 32; with_reducible (refine HL2.out.mono ?_); rintro e W6 ⟨rfl, HK6, HG6, HB6⟩))
        have HT6 : Hid (W6.heap[T]? = some (.cells (shC r c f) 62 (0, 0))) := by
          show _ = _
          rw [HG6.out.block T (lt_someN HTk.out) (fun e => HTb2.out.1 (by simpa using e))]; exact HTk.out
        have HDc := hid_w (HDl.out W6 HT6)
        go_wp2_with (go_at_call 36; with_reducible (refine HDc.out.mono ?_); rintro e W7 ⟨rfl, HT7, HG7⟩)
        have HK7 : Hid (Knows W7 b (n + 8589934591)) := HK6.out.kept HG7.out (fun e => HTb2.out.1 (by simpa using e.symm))
        have HB7 : Hid (Below w.heap.size w W7) := HB6.out.grown HG7.out HB6.out.size (fun j hj => by cases hj; exact HTw.out)
        have HN7 : Hid (n + 8589934591 + 8589934592 * freeC l1 ≤ 8589934592 * 65) := by show _ ≤ _; have := HNk.out; have := HFr.out; omega
        go_roundw
        case rel => exact ⟨l1, _, _, rfl, HIn2, HQ2, HT7, HK7, HN7, HB7⟩
        case measure => have := HFr.out; simp [intOf]; omega
      · have hno : ¬ (mayL k = true ∧ 0 < cntC (lieC k)) := fun q => hc0 q.2
        have HCl := hid_w (HClt.out hL)
        obtain ⟨q1, Hq1⟩ : ∃ q1 : Nat, Hid (q1 = cntC l1) := ⟨_, rfl⟩
        have HL2 := hid_w (HLc.out wr l1 n q1 (by rw [Hl1.out]; exact lie_le hlt hL) HBk HKk HRoom.out Hq1)
        obtain ⟨hS, hcS⟩ := HStand.out hno
        have h7 : a + 1 < 8 := by
          have := hS
          unfold mayS at this
          simp only [Bool.and_eq_true, decide_eq_true_eq] at this
          rw [← HPp.out] at this; omega
        have hd8 : d < 8 := by omega
        have HDl : Hid (∀ W : World, Hid (W.heap[T]? = some (.cells (shC r c f) 62 (0, 0))) → Calls Tryd.prog 38 #[.pointer (some ⟨T, 0, none⟩), .int .i64 (a : Int), .int .i64 (d : Int)] W fun e w' => e = .returned (.tuple #[]) ∧ Hid (w'.heap[T]? = some (.cells (shC r c (up2 f (fstC k) 117 (fstC k + 8) 100)) 62 (0, 0))) ∧ Hid (W.grownBy w' (some T))) := fun W hW => by
          refine (dstand_at T r c f a d W hW.out h7 hd8).mono ?_
          rintro e w' ⟨rfl, h1, h2⟩
          refine ⟨rfl, ?_, grown_of h2.out⟩
          have := h1.out
          rw [show a * 8 + d = fstC k by rw [← HPp.out]; omega, show (a + 1) * 8 + d = fstC k + 8 by rw [← HPp.out]; omega] at this
          exact this
        have HIn2 : Hid (Inv r c g (up2 f (fstC k) 117 (fstC k + 8) 100) s1 ∧ FG x0 g s1 (up2 f (fstC k) 117 (fstC k + 8) 100)) := by rw [Hs1.out]; exact ⟨inv_sta HIn.out.1 hlt hS, HIn.out.2.sta hlt hno hS⟩
        have HFr : Hid (freeC s1 + 2 ≤ freeC k) := by rw [Hs1.out]; exact free_sta hlt hS
        have HQ2 : Hid (0 < cntC s1) := by show _ < _; rw [Hs1.out]; exact hcS
        clear ha hd
        have hq1 : q1 = 0 := by
          have := Hq1.out
          rw [Hl1.out] at this
          rcases Nat.eq_zero_or_pos (cntC (lieC k)) with e | e
          · omega
          · exact absurd ⟨hL, e⟩ hno
        clear Hq1
        subst hq1
        go_wp2_with (first | (go_at_call 34; with_reducible (refine HFc.out.mono ?_); rintro e v2 ⟨rfl, hv2⟩; subst hv2) | (go_at_call 35; with_reducible (refine HCl.out.mono ?_); rintro e v3 ⟨rfl, hv3⟩; subst hv3) | (go_at_call 32; with_reducible (refine HL2.out.mono ?_); rintro e W6 ⟨rfl, HK6, HG6, HB6⟩))
        have HT6 : Hid (W6.heap[T]? = some (.cells (shC r c f) 62 (0, 0))) := by
          show _ = _
          rw [HG6.out.block T (lt_someN HTk.out) (fun e => HTb2.out.1 (by simpa using e))]; exact HTk.out
        have HSc := hid_w (HCs.out W6 HB6 hS)
        have HDc := hid_w (HDl.out W6 HT6)
        go_wp2_with (first | (go_at_call 37; with_reducible (refine HSc.out.mono ?_); rintro e v4 ⟨rfl, hv4⟩; subst hv4) | (go_at_call 38; with_reducible (refine HDc.out.mono ?_); rintro e W7 ⟨rfl, HT7, HG7⟩))
        have HK7 : Hid (Knows W7 b (n + 8589934591)) := HK6.out.kept HG7.out (fun e => HTb2.out.1 (by simpa using e.symm))
        have HB7 : Hid (Below w.heap.size w W7) := HB6.out.grown HG7.out HB6.out.size (fun j hj => by cases hj; exact HTw.out)
        have HN7 : Hid (n + 8589934591 + 8589934592 * freeC s1 ≤ 8589934592 * 65) := by show _ ≤ _; have := HNk.out; have := HFr.out; omega
        go_roundw
        case rel => exact ⟨s1, _, _, rfl, HIn2, HQ2, HT7, HK7, HN7, HB7⟩
        case measure => have := HFr.out; simp [intOf]; omega
    | false =>
      have hno : ¬ (mayL k = true ∧ 0 < cntC (lieC k)) := fun q => by rw [hL] at q; cases q.1
      obtain ⟨hS, hcS⟩ := HStand.out hno
      have h7 : a + 1 < 8 := by
        have := hS
        unfold mayS at this
        simp only [Bool.and_eq_true, decide_eq_true_eq] at this
        rw [← HPp.out] at this; omega
      have hd8 : d < 8 := by omega
      have HDl : Hid (∀ W : World, Hid (W.heap[T]? = some (.cells (shC r c f) 62 (0, 0))) → Calls Tryd.prog 38 #[.pointer (some ⟨T, 0, none⟩), .int .i64 (a : Int), .int .i64 (d : Int)] W fun e w' => e = .returned (.tuple #[]) ∧ Hid (w'.heap[T]? = some (.cells (shC r c (up2 f (fstC k) 117 (fstC k + 8) 100)) 62 (0, 0))) ∧ Hid (W.grownBy w' (some T))) := fun W hW => by
        refine (dstand_at T r c f a d W hW.out h7 hd8).mono ?_
        rintro e w' ⟨rfl, h1, h2⟩
        refine ⟨rfl, ?_, grown_of h2.out⟩
        have := h1.out
        rw [show a * 8 + d = fstC k by rw [← HPp.out]; omega, show (a + 1) * 8 + d = fstC k + 8 by rw [← HPp.out]; omega] at this
        exact this
      have HIn2 : Hid (Inv r c g (up2 f (fstC k) 117 (fstC k + 8) 100) s1 ∧ FG x0 g s1 (up2 f (fstC k) 117 (fstC k + 8) 100)) := by rw [Hs1.out]; exact ⟨inv_sta HIn.out.1 hlt hS, HIn.out.2.sta hlt hno hS⟩
      have HFr : Hid (freeC s1 + 2 ≤ freeC k) := by rw [Hs1.out]; exact free_sta hlt hS
      have HQ2 : Hid (0 < cntC s1) := by show _ < _; rw [Hs1.out]; exact hcS
      clear ha hd
      have HCl := hid_w (HClf.out hL)
      have HSc := hid_w (HCs.out wr HBk hS)
      have HDc := hid_w (HDl.out wr HTk)
      go_wp2_with (first | (go_at_call 34; with_reducible (refine HFc.out.mono ?_); rintro e v2 ⟨rfl, hv2⟩; subst hv2) | (go_at_call 35; with_reducible (refine HCl.out.mono ?_); rintro e v3 ⟨dd, rfl, hv3⟩; subst hv3) | (go_at_call 37; with_reducible (refine HSc.out.mono ?_); rintro e v4 ⟨rfl, hv4⟩; subst hv4) | (go_at_call 38; with_reducible (refine HDc.out.mono ?_); rintro e W7 ⟨rfl, HT7, HG7⟩))
      have HK7 : Hid (Knows W7 b (n + 8589934591)) := (HKk.out.kept HG7.out (fun e => HTb2.out.1 (by simpa using e.symm))).mono (by omega)
      have HB7 : Hid (Below w.heap.size w W7) := HBk.out.grown HG7.out HBk.out.size (fun j hj => by cases hj; exact HTw.out)
      have HN7 : Hid (n + 8589934591 + 8589934592 * freeC s1 ≤ 8589934592 * 65) := by show _ ≤ _; have := HNk.out; have := HFr.out; omega
      go_roundw
      case rel => exact ⟨s1, _, _, rfl, HIn2, HQ2, HT7, HK7, HN7, HB7⟩
      case measure => have := HFr.out; simp [intOf]; omega

end Go.Proofs.YtcnmndbckjmliaaDoor
