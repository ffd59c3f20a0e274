/-
  The contract of ferref.Lists, its walk.
-/
import Derived.Test.YtlghldfolfmoeaaDoorZLst
namespace Go.Proofs.YtlghldfolfmoeaaDoor
open Go.RowKit

theorem dec_len_le {x : Nat} (h : x < 10 ^ 200) : (dig x).length ≤ 1000000 := by
  have key : ∀ k x, x < 10 ^ k → (dig x).length ≤ k := by
    intro k
    induction k with
    | zero => intro x hx; have : x = 0 := by omega
              subst this; simp [dig]
    | succ k ih =>
      intro x hx
      rcases Nat.eq_zero_or_pos x with rfl | h0
      · simp [dig]
      · rw [dig_step h0, List.length_append, List.length_singleton]
        have := ih (x / 10) (by rw [Nat.div_lt_iff_lt_mul (by omega), ← Nat.pow_succ]; exact hx)
        omega
  have := key 200 x h
  omega

set_option maxHeartbeats 8000000 in
set_option maxRecDepth 100000 in
theorem Lists_at (n : Nat) (w : World) (hn : n ≤ 60) :
    Calls Tryd.prog 10 #[.int .i64 (n : Int)] w fun e w' => e = .returned (.string ⟨(Lib.decDigits (pw n)).toArray⟩) ∧ Hid (Below w.heap.size w w') := by
  obtain ⟨B, HB0⟩ : ∃ B, Hid (B = w.heap.size) := ⟨_, rfl⟩
  obtain ⟨s, HS⟩ : ∃ s : ByteArray, Hid (s = ⟨(Lib.decDigits (pw n)).toArray⟩) := ⟨_, rfl⟩
  rw [← HS.out, ← HB0.out]
  have HN1 : Hid (Calls Tryd.prog 19 #[.int .i64 1] w fun e w' => e = .returned (.pointer (some ⟨B, 0, none⟩)) ∧ Hid (Bz w' B B 1) ∧ Hid (Below B w w')) := by
    rw [HB0.out]; exact bzNew (x := 1) (by omega)
  have HNew : Hid (∀ (W : World) (x : Nat), x ≤ 1000 → B ≤ W.heap.size → Calls Tryd.prog 19 #[.int .i64 (x : Int)] W fun e w' => e = .returned (.pointer (some ⟨W.heap.size, 0, none⟩)) ∧ Hid (Bz w' B W.heap.size x) ∧ Hid (Below W.heap.size W w')) := fun W x hx hB => by
    refine (bzNew (W := W) (x := x) (by omega)).mono ?_
    rintro e w' ⟨rfl, h1, h2⟩
    exact ⟨rfl, h1.out.mono hB, h2⟩
  go_enter Tryd.func10, Tryd.ntmps10
  go_wp2_with fail
  refine HN1.out.mono ?_
  rintro e w1 ⟨rfl, HR1, HB1⟩
  clear HN1
  have HsB1 : Hid (B ≤ w1.heap.size) := by have := HB1.out.size; rw [← HB0.out] at this; exact this
  have HB2 : Hid (Below B w (w1.alloc (.cells #[ptV B] 42))) := HB1.out.alloc HsB1.out _
  have HL2 : Hid (NumsL (w1.alloc (.cells #[ptV B] 42)) B (w1.heap.size + 1) (.slice (some ⟨w1.heap.size, 0, none⟩) 1 1) [B] pw) := by
    refine ⟨⟨by simp, Or.inr ⟨w1.heap.size, 1, #[ptV B], rfl, HsB1.out, heap_alloc_new _ _, Nat.le_refl _, by unfold maxLen; omega, rfl, rfl⟩⟩, fun i hi => ?_, fun i hi => ?_⟩
    · obtain rfl : i = 0 := by simpa using hi
      exact HR1.out.below ((Below.refl _ _).alloc (Nat.le_refl _) _)
    · obtain rfl : i = 0 := by simpa using hi
      have := HR1.out.lt
      show B < _
      omega
  clear HR1 HB1
  go_wp2
  go_loopw [3, 4] (fun v q wr => ∃ m M : Nat, M ≤ n + 1 ∧ q = .int .i64 (M : Int) ∧ Hid (M = m + 1) ∧ ∃ ps, Hid (ps.length = M) ∧ Hid (NumsL wr B wr.heap.size v ps pw) ∧ Hid (Below B w wr)) (fun _ q _ => n + 1 - (intOf q).toNat)
  case atStart => exact ⟨0, 1, by omega, rfl, rfl, [B], rfl, HL2.out.up (by simp), HB2⟩
  case round =>
    clear HL2 HB2
    obtain ⟨m, M, hM, rfl, HM, ps, HPl, HL, HB⟩ := hrel
    have HsB : Hid (B ≤ wr.heap.size) := by have := HB.out.size; rw [← HB0.out] at this; exact this
    by_cases hMn : M ≤ n
    · have hMn' : (M : Int) ≤ (n : Int) := by omega
      have hm60 : m < 60 := by have := HM.out; omega
      have hM1 : (M : Int) - 1 = (m : Int) := by have := HM.out; omega
      obtain ⟨S, HS9⟩ : ∃ S, Hid (S = wr.heap.size) := ⟨_, rfl⟩
      have HA : Hid (Below wr.heap.size wr (wr.alloc (.cells #[.bool false, .slice none 0 0] 47))) := (Below.refl _ _).alloc (Nat.le_refl _) _
      have HL1 : Hid (NumsL (wr.alloc (.cells #[.bool false, .slice none 0 0] 47)) B S u3 ps pw) := by rw [HS9.out]; exact HL.out.below HA.out
      have HZ1 : Hid (Bz (wr.alloc (.cells #[.bool false, .slice none 0 0] 47)) B S (smL m 0)) := by rw [HS9.out]; exact bzZero wr B HsB.out
      have HBA : Hid (Below B w (wr.alloc (.cells #[.bool false, .slice none 0 0] 47))) := HB.out.trans (HA.out.mono HsB.out)
      have hps : 0 < ps.length := by rw [HPl.out, HM.out]; omega
      obtain ⟨g, cap, hv, -⟩ := HL.out.at hps
      rw [HPl.out] at hv
      subst hv
      clear hps HL HA HB
      go_wp2
      rw [← HS9.out]
      go_loopw [6] (fun q wq => ∃ k : Nat, k ≤ M ∧ q = .int .i64 (k : Int) ∧ Hid (Bz wq B S (smL m k)) ∧ Hid (NumsL wq B S (.slice (some ⟨g, 0, none⟩) M cap) ps pw) ∧ Hid (Below B w wq)) (fun q _ => M - (intOf q).toNat)
      case atStart => exact ⟨0, Nat.zero_le _, rfl, HZ1, HL1, HBA⟩
      case round =>
        clear HZ1 HL1 HBA HsB HS9
        obtain ⟨k, hk, rfl, HZ, HL, HB⟩ := hrel
        have HsB : Hid (B ≤ wr.heap.size) := by have := HB.out.size; rw [← HB0.out] at this; exact this
        by_cases hkM : k < M
        · have hkM' : (k : Int) < (M : Int) := by omega
          have hkm : k ≤ m := by have := HM.out; omega
          obtain ⟨X, HX9⟩ : ∃ X, Hid (X = wr.heap.size) := ⟨_, rfl⟩
          have HSX : Hid (S < X) := by rw [HX9.out]; exact HZ.out.lt
          have HA : Hid (Below wr.heap.size wr (wr.alloc (.cells #[.bool false, .slice none 0 0] 47))) := (Below.refl _ _).alloc (Nat.le_refl _) _
          have HC1 : Hid (Calls Tryd.prog 20 #[.pointer (some ⟨X, 0, none⟩), .int .i64 (m : Int), .int .i64 (k : Int)] (wr.alloc (.cells #[.bool false, .slice none 0 0] 47)) fun e w' => e = .returned (.pointer (some ⟨X, 0, none⟩)) ∧ Hid (LsR w B S X (.slice (some ⟨g, 0, none⟩) M cap) ps (smL m k) (binG m k) w')) := by
            have hrow : (wr.alloc (.cells #[.bool false, .slice none 0 0] 47)).heap[X]? = some (.cells #[.bool false, .slice none 0 0] 47 (0, 0)) := by rw [HX9.out]; exact heap_alloc_new _ _
            refine (binLoop_at X B false (.slice none 0 0) m k _ _ hrow (by rw [HX9.out]; exact HsB.out) (by have := HA.out.size; have := HsB.out; omega) (by omega) hkm rfl).mono ?_
            rintro e w' ⟨rfl, h1, h2⟩
            have hSX := HSX.out
            exact ⟨rfl, (HZ.out.below HA.out).put h2.out hrow (by omega), h1.out, (HL.out.below HA.out).put h2.out hrow (by omega), (HB.out.trans (HA.out.mono HsB.out)).trans h2.out.below, hSX⟩
          obtain ⟨K, HK⟩ : ∃ K : Nat, Hid (K = k + 1) := ⟨_, rfl⟩
          have hK : (k : Int) + 1 = (K : Int) := by rw [HK.out]; omega
          have hK60 : K ≤ 61 := by rw [HK.out]; omega
          have hkps : k < ps.length := by rw [HPl.out]; exact hkM
          obtain ⟨d, HD⟩ : ∃ d : Nat, Hid (d = m - k) := ⟨_, rfl⟩
          have hd : (m : Int) - (k : Int) = (d : Int) := by rw [HD.out]; omega
          have hdps : d < ps.length := by rw [HPl.out, HD.out]; have := HM.out; omega
          have hdM : d < M := by rw [HPl.out] at hdps; exact hdps
          have hdM' : (d : Int) < (M : Int) := by omega
          have HCell : Hid (∀ i W, i < M → NumsL W B S (.slice (some ⟨g, 0, none⟩) M cap) ps pw → W.cell? ⟨g, i, none⟩ = some (ptV (ps.getD i 0))) := fun i W hi hW => by
            obtain ⟨g2, c2, e2, hc2⟩ := hW.at (i := i) (by rw [HPl.out]; exact hi)
            rw [HPl.out] at e2
            simp only [Value.slice.injEq, Option.some.injEq, Addr.mk.injEq, and_true, true_and] at e2
            rw [e2.1]; exact hc2
          clear HZ HL HB HA
          go_wp2_with fail
          rw [← HX9.out]
          refine HC1.out.mono ?_
          rintro e w2 ⟨rfl, H2⟩
          clear HC1
          have hs2 : B ≤ w2.heap.size := by have := H2.out.bel.size; rw [← HB0.out] at this; exact this
          have HC2 := HNew.out w2 K (by omega) hs2
          go_wp2_with fail
          refine HC2.mono ?_
          rintro e w3 ⟨rfl, HY3, HB3⟩
          clear HC2
          have H3 : Hid (LsR w B S X (.slice (some ⟨g, 0, none⟩) M cap) ps (smL m k) (binG m k) w3) := H2.out.below HB3.out hs2
          have HC3 := bzMul H3.out.pro HY3.out (bin_lt hm60 hkm) (lt_200 (by omega))
          go_wp2_with fail
          refine HC3.mono ?_
          rintro e w4 ⟨rfl, HX4, HP4⟩
          clear HC3
          have H4 : Hid (LsR w B S X (.slice (some ⟨g, 0, none⟩) M cap) ps (smL m k) (binG m k * K) w4) := H3.out.mul HP4.out HX4.out
          obtain ⟨pk, Hpk⟩ : ∃ pk, Hid (pk = ps.getD k 0) := ⟨_, rfl⟩
          have hc4 := HCell.out k w4 hkM H4.out.old
          have hn4 := H4.out.old.num k hkps
          rw [← Hpk.out] at hc4 hn4
          have HC4 := bzMul H4.out.pro hn4 (by rw [HK.out]; exact one_lt hm60 hkm) (pw_200 (by omega))
          clear H2 H3 HY3 HB3 HX4 HP4 hn4
          unfold ptV at hc4
          go_wp2_with fail
          refine HC4.mono ?_
          rintro e w5 ⟨rfl, HX5, HP5⟩
          clear HC4 hc4
          have H5 : Hid (LsR w B S X (.slice (some ⟨g, 0, none⟩) M cap) ps (smL m k) (binG m k * K * pw k) w5) := H4.out.mul HP5.out HX5.out
          obtain ⟨pd, Hpd⟩ : ∃ pd, Hid (pd = ps.getD d 0) := ⟨_, rfl⟩
          have hc5 := HCell.out d w5 hdM H5.out.old
          have hn5 := H5.out.old.num d hdps
          rw [← Hpd.out] at hc5 hn5
          have HC5 := bzMul H5.out.pro hn5 (by rw [HK.out]; exact two_lt hm60 hkm) (pw_200 (by rw [HD.out]; omega))
          clear H4 HX5 HP5 hn5
          unfold ptV at hc5
          go_wp2_with fail
          refine HC5.mono ?_
          rintro e w6 ⟨rfl, HX6, HP6⟩
          clear HC5 hc5
          have H6 : Hid (LsR w B S X (.slice (some ⟨g, 0, none⟩) M cap) ps (smL m k) (trm m k) w6) := by
            have := H5.out.mul HP6.out HX6.out
            rw [HK.out, HD.out] at this; exact this
          have HC6 := bzAdd H6.out.sum H6.out.pro (smL_lt hm60 (by omega)) (trm_lt hm60 hkm)
          clear H5 HX6 HP6
          go_wp2_with fail
          refine HC6.mono ?_
          rintro e w7 ⟨rfl, HX7, HP7⟩
          clear HC6
          have H7 : Hid (LsR w B S X (.slice (some ⟨g, 0, none⟩) M cap) ps (smL m (k + 1)) (trm m k) w7) := H6.out.add HP7.out HX7.out
          clear H6 HX7 HP7
          go_wp2
          go_roundw
          case rel => exact ⟨k + 1, by omega, by go_num, H7.out.sum, H7.out.old, H7.out.bel⟩
          case measure => simp [intOf]; omega
        · obtain rfl : k = M := by omega
          have hkM' : ¬ (k : Int) < (k : Int) := by omega
          have HZe : Hid (Bz wr B S (pw k)) := by
            have h1 := HZ.out
            rw [HM.out, (pw_ok hm60).1, ← HM.out] at h1; exact h1
          have HOw : Hid (wr.ownsRow B 42 1 (.slice (some ⟨g, 0, none⟩) k cap) (ps.map ptV).length (ps.map ptV)) := by rw [List.length_map]; exact HL.out.own
          clear HZ
          go_wp2_with (at_builtin; refine append_one elem_bp (N := wr.heap.size) (x := .pointer (some ⟨S, 0, none⟩)) rfl _ _ rfl rfl rfl rfl HOw.out rfl ?c1 ?c2 ?c3 ?_)
          case c1 => have h9 := HPl.out; unfold maxLen; omega
          case c2 => have h9 := HPl.out; omega
          case c3 => exact HsB.out
          intro v' w8 hO8 hb8 hk8
          have HB8 : Hid (Below B w w8) := HB.out.trans hb8
          have HkB : Hid (∀ b c fr, b < wr.heap.size → wr.heap[b]? = some (.cells c 74 fr) ∨ wr.heap[b]? = some (.cells c 47 fr) → w8.heap[b]? = wr.heap[b]?) := fun b c fr hb hbt => by
            refine hk8.block b hb (fun e => ?_)
            rcases HOw.out.2 with ⟨e1, _⟩ | ⟨g2, c2, cur, e1, _, hh, _⟩
            · cases e1
            · rw [e1] at e
              have hg2 : g2 = b := by simpa [Value.ownBlock] using e
              subst hg2
              rcases hbt with hbt | hbt <;> (rw [hh] at hbt; simp at hbt)
          have hkeep : ∀ p x, Bz wr B p x → Bz w8 B p x := fun p x hp => by
            have hlt := hp.lt
            obtain ⟨⟨v2, us, h1⟩, h2⟩ := hp
            refine ⟨⟨v2, us, by rw [HkB.out p _ _ hlt (Or.inr h1.row)]; exact h1.row, ⟨h1.own.own.blocks fun b hb => ?_, h1.own.num, h1.own.room⟩⟩, h2⟩
            rcases h1.own.own.2 with ⟨e1, _⟩ | ⟨g2, c2, cur, e1, _, hh, _⟩
            · rw [e1] at hb; cases hb
            · rw [e1] at hb
              have hg2 : g2 = b := by simpa [Value.ownBlock] using hb
              subst hg2
              exact HkB.out g2 _ _ (Array.getElem?_eq_some_iff.1 hh).1 (Or.inl hh)
          have HL8 : Hid (NumsL w8 B w8.heap.size v' (ps ++ [S]) pw) := by
            have hsz := hk8.size
            refine ⟨?_, fun i hi => ?_, fun i hi => ?_⟩
            · have h1 := hO8
              rw [List.length_append, List.map_append]; exact h1
            · rw [List.length_append, List.length_singleton, HPl.out] at hi
              by_cases e : i = k
              · subst e
                have : (ps ++ [S]).getD i 0 = S := by rw [← HPl.out]; simp [List.getD]
                rw [this]; exact hkeep _ _ HZe.out
              · have hi2 : i < ps.length := by rw [HPl.out]; omega
                have : (ps ++ [S]).getD i 0 = ps.getD i 0 := by simp [List.getD, List.getElem?_append_left hi2]
                rw [this]; exact hkeep _ _ (HL.out.num i hi2)
            · rw [List.length_append, List.length_singleton, HPl.out] at hi
              by_cases e : i = k
              · subst e
                have : (ps ++ [S]).getD i 0 = S := by rw [← HPl.out]; simp [List.getD]
                rw [this]; have := HZe.out.lt; omega
              · have hi2 : i < ps.length := by rw [HPl.out]; omega
                have : (ps ++ [S]).getD i 0 = ps.getD i 0 := by simp [List.getD, List.getElem?_append_left hi2]
                rw [this]; have h3 := HL.out.top i hi2; have := HZe.out.lt; omega
          have HPl8 : Hid ((ps ++ [S]).length = k + 1) := by show _ = _; rw [List.length_append, HPl.out]; rfl
          clear hkeep hO8 hb8 hk8
          go_wp2
          go_roundw
          case rel => exact ⟨k, k + 1, by omega, by go_num, rfl, ps ++ [S], HPl8, HL8, HB8⟩
          case measure => simp [intOf]; omega
    · obtain rfl : M = n + 1 := by omega
      obtain rfl : m = n := by have := HM.out; omega
      have hMn' : ¬ ((m + 1 : Nat) : Int) ≤ (m : Int) := by omega
      have hps : m < ps.length := by rw [HPl.out]; omega
      obtain ⟨g, cap, hv, hc9⟩ := HL.out.at hps
      rw [HPl.out] at hv
      subst hv
      obtain ⟨pk, Hpk⟩ : ∃ pk, Hid (pk = ps.getD m 0) := ⟨_, rfl⟩
      have hn9 := HL.out.num m hps
      rw [← Hpk.out] at hc9 hn9
      unfold ptV at hc9
      have hmi : (m : Int) < ((m + 1 : Nat) : Int) := by omega
      have HC := bzStr hn9 (pw_200 hn) (dec_len_le (pw_200 hn))
      rw [← HS.out] at HC
      clear hn9 hMn hps HL hM
      go_wp2_with fail
      refine HC.mono ?_
      rintro e w9 ⟨rfl, HB9⟩
      go_wp2
      go_ret
      exact ⟨rfl, HB.out.trans (HB9.out.mono HsB.out)⟩
end Go.Proofs.YtlghldfolfmoeaaDoor
