/-
  The contract of ferrersbig.sub.
  The contracts of ferrersbig's sum where a number is taken away, and of Sub.
-/
import Derived.Test.YthfbkangjpcpgaaDoorAAdd
import Derived.Test.YthfbkangjpcpgaaDoorABig
import Derived.Test.YthfbkangjpcpgaaDoorARgt
import Derived.Deep.RegionHeld3
namespace Go.Proofs.YthfbkangjpcpgaaDoor
open Go.RowKit

/-- A word less what was borrowed, less another one, as the machine has it. -/
theorem sub_word2 {z lo d : Nat} (hz : z < 4294967296) (hl : lo < 4294967296) (hd : d ≤ 1) :
    ∃ T1 T r e : Nat, IntKind.u64.wrap ((z : Int) - (d : Int)) = (T1 : Int) ∧ IntKind.u64.wrap ((T1 : Int) - (lo : Int)) = (T : Int) ∧ T1 < 18446744073709551616 ∧ T < 18446744073709551616 ∧ (T : Int) % 4294967296 = (r : Int) ∧ (T : Int) / 9223372036854775808 = (e : Int) ∧ r < 4294967296 ∧ e ≤ 1 ∧ z + e * 4294967296 = r + lo + d := by
  rcases Nat.lt_or_ge z d with h | h
  · refine ⟨18446744073709551615, 18446744073709551615 - lo, 4294967295 - lo, 1, ?_, ?_, by omega, by omega, by omega, by omega, by omega, by omega, by omega⟩
    · rw [IntKind.wrap_u64]; omega
    · rw [IntKind.wrap_u64]; omega
  · rcases Nat.lt_or_ge z (lo + d) with h2 | h2
    · refine ⟨z - d, 18446744073709551616 + z - d - lo, 4294967296 + z - d - lo, 1, ?_, ?_, by omega, by omega, by omega, by omega, by omega, by omega, by omega⟩
      · rw [IntKind.wrap_u64]; omega
      · rw [IntKind.wrap_u64]; omega
    · refine ⟨z - d, z - d - lo, z - d - lo, 0, ?_, ?_, by omega, by omega, by omega, by omega, by omega, by omega, by omega⟩
      · rw [IntKind.wrap_u64]; omega
      · rw [IntKind.wrap_u64]; omega
theorem sub_step {R X Y c P u v r d : Nat} (h : X + c * P = R + Y) (h2 : u + d * 4294967296 = r + v + c) : (X + P * u) + d * (P * 4294967296) = (R + P * r) + (Y + P * v) := by
  have h3 : P * (u + d * 4294967296) = P * (r + v + c) := by rw [h2]
  have e1 : d * (P * 4294967296) = P * (d * 4294967296) := Nat.mul_left_comm _ _ _
  rw [Nat.mul_add, Nat.mul_add, Nat.mul_add] at h3
  rw [e1]
  rw [Nat.mul_comm c P] at h
  omega

set_option maxHeartbeats 4000000 in
set_option maxRecDepth 100000 in
theorem bsub_at (a b : Option Addr) (ca cb n m : Nat) (xs ys : List Nat) (w : World) (ha : ShowsW w a ca xs) (hb : ShowsW w b cb ys) (hn : n = xs.length) (hm : m = ys.length) (hnm : m ≤ n) (h0 : 0 < n) (hf : n ≤ 900000) (hxw : Wd xs) (hle : val ys ≤ val xs) :
    Calls Tryd.prog 59 #[.slice a n ca, .slice b m cb] w fun e w' => ∃ v us, e = .returned v ∧ OwnsN w' w.heap.size v us (val xs - val ys) ∧ us.length ≤ n ∧ Below w.heap.size w w' := by
  have HX : Hid (n = xs.length) := hn
  have HY : Hid (m = ys.length) := hm
  have HLe : Hid (val ys ≤ val xs ∧ Wd xs) := ⟨hle, hxw⟩
  have hm6 : m ≤ 1000000 := by rw [hm]; exact hb.few
  have HSx : Hid (ShowsW w a ca xs) := ha
  have HSy : Hid (ShowsW w b cb ys) := hb
  clear hn hm ha hb hle hxw
  obtain ⟨i0, hi, hz0, hz1, hz2⟩ := info_parts Tryd.infoW
  go_enter Tryd.func59, Tryd.ntmps59
  go_wp2_with (at_make; refine wpList_make_full _ rfl _ _ 42 rfl w.heap.size 83 i0 (.int .u32 0) 1 Tryd.underlying42 hi hz0 hz1 _ _ _ _ n rfl rfl rfl rfl ?b1 ?b2 ?b3 ?_)
  case b1 => first | omega | (rw [hz2]; omega)
  case b2 => first | omega | (unfold maxLen; omega)
  try (case b3 => exact Nat.le_refl _)
  intro w1 hown hgrow
  have HB1 : Hid (Below w.heap.size w w1) := (Below.refl _ _).grown hgrow (Nat.le_refl _) (fun k h => by cases h)
  have HO1 : Hid (OwnsW w1 w.heap.size (.slice (some ⟨w.heap.size, 0, none⟩) n n) (part [] (n - 0))) := ownsW_made (by simpa [Value.cells] using hown)
  clear hown hgrow
  go_wp2
  go_loopw [6, 7] (fun c i wr => ∃ (k cc : Nat) (rs : List Nat), k ≤ n ∧ cc ≤ 1 ∧ i = .int .i64 k ∧ c = .int .u64 cc ∧ Hid (rs.length = k) ∧ Hid (Wd rs) ∧ Hid (val (xs.take k) + cc * 4294967296 ^ k = val rs + val (ys.take k)) ∧ Hid (OwnsW wr w.heap.size (.slice (some ⟨w.heap.size, 0, none⟩) n n) (part rs (n - k))) ∧ Hid (Below w.heap.size w wr)) (fun _ i _ => n - (intOf i).toNat)
  case atStart => exact ⟨0, 0, [], Nat.zero_le _, by omega, rfl, rfl, rfl, fun _ h => by simp at h, by simp [Hid, val], HO1, HB1⟩
  case round =>
    obtain ⟨k, cc, rs, hk, hcc, rfl, rfl, HRl, HRw, HV, HO, HB⟩ := hrel
    have HPl : Hid (n = (part rs (n - k)).length) := by show _ = _; rw [part_len, HRl.out]; omega
    by_cases hkn : k < n
    · have hkn' : (k : Int) < (n : Int) := by omega
      have HKx : Hid (k < xs.length) := by rw [← HX.out]; exact hkn
      obtain ⟨bx, ox, u, hax, HU, hu, -, hcx⟩ := (HSx.out.below HB.out).elem HKx.out
      have hst := HO.out.at HPl.out (j := k) (by rw [← HPl.out]; exact hkn)
      obtain ⟨hfz, hcz⟩ := hst
      subst hax
      unfold wv at hcz
      by_cases hkm : k < m
      · have hkm' : (k : Int) < (m : Int) := by omega
        have HKy : Hid (k < ys.length) := by rw [← HY.out]; exact hkm
        obtain ⟨by_, oy, v, hay, HVv, hv, -, hcy⟩ := (HSy.out.below HB.out).elem HKy.out
        subst hay
        obtain ⟨T1, T, r, e, hT1, hT, hT1b, hTb, hr, he, hrb, heb, hzz⟩ := sub_word2 hu hv hcc
        have HNv : Hid (val (xs.take (k + 1)) + e * 4294967296 ^ (k + 1) = val (rs ++ [r]) + val (ys.take (k + 1))) := by
          show _ = _
          rw [val_snoc, HRl.out, val_take HKx.out, val_take HKy.out, ← HU.out, ← HVv.out, Nat.pow_succ]
          exact sub_step HV.out hzz
        have HRl2 : Hid ((rs ++ [r]).length = k + 1) := by show _ = _; rw [List.length_append, HRl.out]; rfl
        have HRw2 : Hid (Wd (rs ++ [r])) := fun z hz => by
          rw [List.mem_append, List.mem_singleton] at hz
          rcases hz with hz | rfl
          · exact HRw.out z hz
          · exact hrb
        have HO2 : Hid (OwnsW (wr.setCell ⟨w.heap.size, k, none⟩ (.int .u32 (r : Int))) w.heap.size (.slice (some ⟨w.heap.size, 0, none⟩) n n) (part (rs ++ [r]) (n - (k + 1)))) := by
          have h1 := HO.out.store HPl.out k r
          have e : n - k = (n - (k + 1)) + 1 := by omega
          rw [e, ← HRl.out, part_set, HRl.out] at h1
          exact h1
        have HB2 : Hid (Below w.heap.size w (wr.setCell ⟨w.heap.size, k, none⟩ (.int .u32 (r : Int)))) := HB.out.setCell (p := ⟨w.heap.size, k, none⟩) (Nat.le_refl _) _
        clear hzz
        go_wp2
        go_roundw
        case rel => exact ⟨k + 1, e, rs ++ [r], by omega, heb, by go_num, rfl, HRl2, HRw2, HNv, HO2, HB2⟩
        case measure => simp [intOf]; omega
      · have hkm' : ¬ (k : Int) < (m : Int) := by omega
        obtain ⟨T1, T, r, e, hT1, hT, hT1b, hTb, hr, he, hrb, heb, hzz⟩ := sub_word2 hu (by omega : 0 < 4294967296) hcc
        have hTT : T = T1 := by
          have h0 : IntKind.u64.wrap ((T1 : Int) - ((0 : Nat) : Int)) = (T1 : Int) := by rw [IntKind.wrap_u64]; omega
          rw [h0] at hT; omega
        subst hTT
        have HNv : Hid (val (xs.take (k + 1)) + e * 4294967296 ^ (k + 1) = val (rs ++ [r]) + val (ys.take (k + 1))) := by
          show _ = _
          have h1 := sub_step HV.out hzz
          rw [val_snoc, HRl.out, val_take HKx.out, ← HU.out, Nat.pow_succ, List.take_of_length_le (show ys.length ≤ k + 1 by rw [← HY.out]; omega)]
          rw [List.take_of_length_le (show ys.length ≤ k by rw [← HY.out]; omega), Nat.mul_zero, Nat.add_zero] at h1
          exact h1
        have HRl2 : Hid ((rs ++ [r]).length = k + 1) := by show _ = _; rw [List.length_append, HRl.out]; rfl
        have HRw2 : Hid (Wd (rs ++ [r])) := fun z hz => by
          rw [List.mem_append, List.mem_singleton] at hz
          rcases hz with hz | rfl
          · exact HRw.out z hz
          · exact hrb
        have HO2 : Hid (OwnsW (wr.setCell ⟨w.heap.size, k, none⟩ (.int .u32 (r : Int))) w.heap.size (.slice (some ⟨w.heap.size, 0, none⟩) n n) (part (rs ++ [r]) (n - (k + 1)))) := by
          have h1 := HO.out.store HPl.out k r
          have e : n - k = (n - (k + 1)) + 1 := by omega
          rw [e, ← HRl.out, part_set, HRl.out] at h1
          exact h1
        have HB2 : Hid (Below w.heap.size w (wr.setCell ⟨w.heap.size, k, none⟩ (.int .u32 (r : Int)))) := HB.out.setCell (p := ⟨w.heap.size, k, none⟩) (Nat.le_refl _) _
        clear hzz hT
        go_wp2
        go_roundw
        case rel => exact ⟨k + 1, e, rs ++ [r], by omega, heb, by go_num, rfl, HRl2, HRw2, HNv, HO2, HB2⟩
        case measure => simp [intOf]; omega
    · obtain rfl : n = k := by omega
      have HOw : Hid (OwnsW wr w.heap.size (.slice (some ⟨w.heap.size, 0, none⟩) n n) rs) := by
        have h1 := HO.out
        rw [Nat.sub_self] at h1
        have h2 : part rs 0 = rs := by simp [part]
        rw [h2] at h1
        exact h1
      have HVl : Hid (val rs = val xs - val ys) := by
        show _ = _
        have h1 := HV.out
        rw [HX.out, List.take_length, List.take_of_length_le (by rw [← HY.out, ← HX.out]; exact hnm)] at h1
        have h2 := val_lt rs HRw.out
        rw [HRl.out, HX.out] at h2
        have h3 := HLe.out.1
        rcases Nat.eq_zero_or_pos cc with e | e
        · rw [e, Nat.zero_mul] at h1; omega
        · have e1 : cc = 1 := by omega
          rw [e1, Nat.one_mul] at h1; omega
      go_wp2_with fail
      obtain ⟨a3, c3, hv3, hS3⟩ := HOw.out.shows (by rw [HRl.out]; omega) HRw.out (fun a5 n5 cap5 h _ => by simp only [Value.slice.injEq] at h; have := h.2.2; omega)
      simp only [Value.slice.injEq] at hv3
      obtain ⟨rfl, -, rfl⟩ := hv3
      have HT3 := ownsN_trim HOw.out HRw.out h0
      rw [HVl.out] at HT3
      have HT4 : Hid (OwnsN wr w.heap.size (.slice (some ⟨w.heap.size, 0, none⟩) (norm rs).length n) (norm rs) (val xs - val ys)) := HT3
      have HL4 : Hid ((norm rs).length ≤ n) := by show _ ≤ _; have := norm_len rs; rw [HRl.out] at this; exact this
      clear HT3
      refine (trim_at _ _ _ _ _ hS3 HRl.out.symm).mono ?_
      rintro e w' ⟨rfl, rfl⟩
      go_wp2
      go_ret
      exact ⟨_, _, rfl, HT4.out, HL4.out, HB.out⟩
end Go.Proofs.YthfbkangjpcpgaaDoor

namespace Go.Proofs.YthfbkangjpcpgaaDoor
open Go.RowKit

set_option maxHeartbeats 2000000 in
theorem dif_at (a b : Option Addr) (ca cb n m : Nat) (xs ys : List Nat) (x y : Nat) (w : World) (ha : ShowsW w a ca xs) (hb : ShowsW w b cb ys) (hn : n = xs.length) (hm : m = ys.length) (hx : Num xs x) (hy : Num ys y) (hle : y ≤ x) (h0 : 0 < x) (hf : n ≤ 900000) :
    Calls Tryd.prog 43 #[.bool false, .slice a n ca, .bool true, .slice b m cb] w fun e w' => ∃ v us, e = .returned (.tuple #[.bool false, v]) ∧ OwnsN w' w.heap.size v us (x - y) ∧ us.length ≤ n ∧ Below w.heap.size w w' := by
  have HA : Hid (ShowsW w a ca xs) := ha
  have HB : Hid (ShowsW w b cb ys) := hb
  have HN : Hid (n = xs.length) := hn
  have HM : Hid (m = ys.length) := hm
  have HX : Hid (Num xs x) := hx
  have HY : Hid (Num ys y) := hy
  have hmn : m ≤ n := by
    rcases Nat.lt_or_ge xs.length ys.length with h | h
    · have := num_len_lt hx hy h; omega
    · omega
  have hn0 : 0 < n := by
    rcases Nat.eq_zero_or_pos xs.length with e | e
    · have := (num_zero hx).1 (List.eq_nil_of_length_eq_zero e); omega
    · omega
  obtain ⟨c, HC⟩ : ∃ c, Hid (c = cmN x y) := ⟨_, rfl⟩
  have hc : 0 ≤ c := by
    rw [HC.out]; unfold cmN
    rw [if_neg (by omega)]
    split <;> omega
  have HCc := hid_w (bcmp_at a b ca cb n m xs ys x y w ha hb hn hm hx hy)
  have HCs : Hid (∀ d, Calls Tryd.prog 59 #[.slice a n ca, .slice b m cb] (w.drewN d) fun e w' => ∃ v us, e = .returned v ∧ OwnsN w' w.heap.size v us (x - y) ∧ us.length ≤ n ∧ Below w.heap.size w w') := fun d => by
    have hd : Below w.heap.size w (w.drewN d) := below_drewN (Below.refl _ _) d
    have h := bsub_at a b ca cb n m xs ys (w.drewN d) (ha.below hd) (hb.below hd) hn hm hmn hn0 hf hx.wd (by rw [hx.eq, hy.eq]; exact hle)
    rw [hx.eq, hy.eq] at h
    refine h.mono ?_
    rintro e w' ⟨v, us, h1, h2, h3, h4⟩
    exact ⟨v, us, h1, h2, h3, hd.trans h4⟩
  rw [← HC.out] at HCc
  clear ha hb hn hm hx hy
  go_enter Tryd.func43, Tryd.ntmps43
  go_wp2_with (first
    | (go_at_call 58; refine HCc.out.mono ?_; rintro e w' ⟨rfl, d, rfl⟩)
    | (go_at_call 59; refine (HCs.out d).mono ?_; rintro e w2 ⟨v, us, rfl, h1, h2, h3⟩; have H1 : Hid (OwnsN w2 w.heap.size v us (x - y) ∧ us.length ≤ n ∧ Below w.heap.size w w2) := ⟨h1, h2, h3⟩; clear h1 h2 h3))
  go_ret2
  exact ⟨_, _, rfl, H1.out⟩

set_option maxHeartbeats 8000000 in
set_option maxRecDepth 100000 in
theorem BSub_at (pz px py lo lz : Nat) (b : Bool) (v0 vx vy : Value) (xs ys : List Nat) (x y : Nat) (w : World) (hx : IntAt w lo px vx xs x) (hy : IntAt w lo py vy ys y) (hz : w.heap[pz]? = some (.cells #[.bool b, v0] 44 (0, 0))) (hlz : lz ≤ pz) (hf : xs.length + ys.length ≤ 900000) (hle : y ≤ x) (h0 : 0 < x) :
    Calls Tryd.prog 44 #[.pointer (some ⟨pz, 0, none⟩), .pointer (some ⟨px, 0, none⟩), .pointer (some ⟨py, 0, none⟩)] w fun e w' => ∃ v us, e = .returned (.pointer (some ⟨pz, 0, none⟩)) ∧ w'.heap[pz]? = some (.cells #[.bool false, v] 44 (0, 0)) ∧ OwnsN w' w.heap.size v us (x - y) ∧ Put w w' lz pz := by
  have hx0 := hx.cell0
  have hx1 := hx.cell1
  have hy0 := hy.cell0
  have hy1 := hy.cell1
  obtain ⟨ax, cx, rfl, hSx⟩ := hx.own.shows (by omega)
  obtain ⟨ay, cy, rfl, hSy⟩ := hy.own.shows (by omega)
  obtain ⟨n, HN⟩ : ∃ n, Hid (n = xs.length) := ⟨_, rfl⟩
  obtain ⟨m, HM⟩ : ∃ m, Hid (m = ys.length) := ⟨_, rfl⟩
  rw [← HN.out] at hx1 hf
  rw [← HM.out] at hy1 hf
  have HX : Hid (Num xs x) := hx.own.num
  have HY : Hid (Num ys y) := hy.own.num
  have HSx : Hid (ShowsW w ax cx xs) := hSx
  have HSy : Hid (ShowsW w ay cy ys) := hSy
  have HZ : Hid (w.heap[pz]? = some (.cells #[.bool b, v0] 44 (0, 0))) := hz
  have HZl : Hid (pz < w.heap.size) := (Array.getElem?_eq_some_iff.1 hz).1
  have HC : Hid (∀ w', Below w.heap.size w w' → Calls Tryd.prog 43 #[.bool false, .slice ax n cx, .bool true, .slice ay m cy] w' fun e w2 => ∃ a3 n3 c3 us, e = .returned (.tuple #[.bool false, .slice a3 n3 c3]) ∧ OwnsN w2 w.heap.size (.slice a3 n3 c3) us (x - y) ∧ Below w.heap.size w w2) := fun w' hb => by
    refine (dif_at _ _ _ _ _ _ _ _ _ _ _ (HSx.out.below hb) (HSy.out.below hb) HN.out HM.out HX.out HY.out hle h0 (by omega)).mono ?_
    rintro e w2 ⟨v, us, rfl, h1, h2, h3⟩
    obtain ⟨a3, c3, rfl, _⟩ := h1.shows (by omega)
    exact ⟨_, _, _, us, rfl, h1.mono hb.size, hb.trans (h3.mono hb.size)⟩
  have HG : Hid (∀ W, Below w.heap.size w W → ∀ a n c, Calls Tryd.prog 42 #[.pointer (some ⟨pz, 0, none⟩), .bool false, .slice a n c] W fun e w' => e = .returned (.pointer (some ⟨pz, 0, none⟩)) ∧ w'.heap[pz]? = some (.cells #[.bool false, .slice a n c] 44 (0, 0)) ∧ w'.heap.size = W.heap.size ∧ Put W w' lz pz) := fun W hb a n c =>
    give_at pz lz b v0 a n c W ((hb.block pz HZl.out).trans HZ.out) hlz
  have HB0 : Hid (Below w.heap.size w w.drew) := below_drewN (Below.refl _ _) 1
  clear hx hy hSx hSy hz
  go_enter Tryd.func44, Tryd.ntmps44
  go_wp2_with fail
  go_region_with (first | (go_at_call 43; with_reducible (refine (HC.out _ HB0.out).mono ?_); rintro e W1 ⟨a3, n3, c3, us, rfl, h1, h2⟩) | (go_at_call 42; with_reducible (refine (HG.out _ h2 a3 n3 c3).mono ?_); rintro e W2 ⟨rfl, h3, h4, h5⟩))
  all_goals (
    have hT : ∃ v us, W2.heap[pz]? = some (.cells #[.bool false, v] 44 (0, 0)) ∧ OwnsN W2 w.heap.size v us (x - y) ∧ Put w W2 lz pz := by
      refine ⟨_, us, h3, ⟨h1.own.blocks (fun k e => h5.block k (h1.own.lt e).2 (fun e2 => ?_)), h1.num, h1.room⟩, ?_, fun k hk hne => ?_⟩
      · have := (h1.own.lt e).1; have := HZl.out; omega
      · exact (h2.mono (by have := HZl.out; omega)).trans h5.below
      · rw [h5.block k (by have := h2.size; omega) hne, h2.block k hk]
    have HT : Hid (∃ v us, W2.heap[pz]? = some (.cells #[.bool false, v] 44 (0, 0)) ∧ OwnsN W2 w.heap.size v us (x - y) ∧ Put w W2 lz pz) := hT
    clear hT h1 h2 h3 h4 h5
    go_wp2
    go_ret
    obtain ⟨v, us, q1, q2, q3⟩ := HT.out
    exact ⟨v, us, rfl, q1, q2, q3⟩)

end Go.Proofs.YthfbkangjpcpgaaDoor
