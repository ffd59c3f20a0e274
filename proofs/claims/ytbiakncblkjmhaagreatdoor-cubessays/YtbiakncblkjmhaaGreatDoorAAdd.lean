/-
  The contract of ferrersbig.add.
-/
import Derived.Test.YtbiakncblkjmhaaGreatDoorATrm
namespace Go.Proofs.YtbiakncblkjmhaaGreatDoor
open Go.RowKit

theorem OwnsW.at {w : World} {base g cap n : Nat} {us : List Nat} (h : OwnsW w base (.slice (some ⟨g, 0, none⟩) n cap) us) (hn : n = us.length) {j : Nat} (hj : j < us.length) :
    w.frozen? ⟨g, j, none⟩ = false ∧ w.cell? ⟨g, j, none⟩ = some (wv (us.getD j 0)) := by
  subst hn
  unfold OwnsW at h
  refine ⟨World.ownsRow.frozenAt h j, ?_⟩
  rw [World.ownsRow.cellAt h j (by omega)]
  simp [List.getD, List.getElem?_eq_getElem hj]
theorem OwnsW.store {w : World} {base g cap n : Nat} {us : List Nat} (h : OwnsW w base (.slice (some ⟨g, 0, none⟩) n cap) us) (hn : n = us.length) (j x : Nat) :
    OwnsW (w.setCell ⟨g, j, none⟩ (wv x)) base (.slice (some ⟨g, 0, none⟩) n cap) (us.set j x) := by
  subst hn
  have h := (World.ownsRow.stored (h : w.ownsRow base 124 1 _ _ _) j (wv x)).1
  unfold OwnsW
  simp only [List.length_set, List.map_set]
  exact h
theorem ownsW_made {w : World} {base g n : Nat} (h : w.ownsRow base 124 1 (.slice (some ⟨g, 0, none⟩) n n) n (madeCells #[Value.int .u32 0] n).toList) : OwnsW w base (.slice (some ⟨g, 0, none⟩) n n) (List.replicate n 0) := by
  unfold OwnsW
  rw [toList_madeCells_one] at h
  simpa [wv] using h
/-- The words so far, noughts behind. -/
def part (rs : List Nat) (n : Nat) : List Nat := rs ++ List.replicate n 0
theorem part_len (rs : List Nat) (n : Nat) : (part rs n).length = rs.length + n := by simp [part]
theorem part_set (rs : List Nat) (n x : Nat) : (part rs (n + 1)).set rs.length x = part (rs ++ [x]) n := by
  induction rs with
  | nil => rfl
  | cons y rs ih =>
    have : (part (y :: rs) (n + 1)) = y :: part rs (n + 1) := rfl
    rw [this, List.length_cons, List.set_cons_succ, ih]; rfl

set_option maxHeartbeats 4000000 in
set_option maxRecDepth 100000 in
theorem add_ge (a b : Option Addr) (ca cb n m : Nat) (xs ys : List Nat) (w : World) (ha : ShowsW w a ca xs) (hb : ShowsW w b cb ys) (hn : n = xs.length) (hm : m = ys.length) (hnm : ¬ n < m) (hf : n + m ≤ 900000) :
    Calls Tryz.prog 77 #[.slice a n ca, .slice b m cb] w fun e w' => ∃ v us, e = .returned v ∧ OwnsN w' w.heap.size v us (val xs + val ys) ∧ us.length ≤ n + 1 ∧ Below w.heap.size w w' := by
  have HX : Hid (n = xs.length) := hn
  have HY : Hid (m = ys.length) := hm
  have hn6 : n ≤ 1000000 := by rw [hn]; exact ha.few
  have hm6 : m ≤ 1000000 := by rw [hm]; exact hb.few
  have hmn : m ≤ n := by omega
  have HSx : Hid (ShowsW w a ca xs) := ha
  have HSy : Hid (ShowsW w b cb ys) := hb
  have hlt : ¬ (n : Int) < (m : Int) := by omega
  obtain ⟨N, hN⟩ : ∃ N, N = n + 1 := ⟨_, rfl⟩
  have hN1 : (n : Int) + 1 = (N : Int) := by omega
  have hnN : (n : Int) < (N : Int) := by omega
  have HN : Hid (N = n + 1) := hN
  clear hn hm hnm ha hb hN
  obtain ⟨i0, hi, hz0, hz1, hz2⟩ := info_parts Tryz.infoW
  go_enter Tryz.func77, Tryz.ntmps77
  go_wp2_with (at_make; refine wpList_make_full _ rfl _ _ 65 rfl w.heap.size 124 i0 (.int .u32 0) 1 Tryz.underlying65 hi hz0 hz1 _ _ _ _ N rfl rfl rfl rfl ?b1 ?b2 ?b3 ?_)
  case b1 => have := HN.out; first | omega | (rw [hz2]; omega)
  case b2 => have := HN.out; first | omega | (unfold maxLen; omega)
  try (case b3 => exact Nat.le_refl _)
  intro w1 hown hgrow
  have HB1 : Hid (Below w.heap.size w w1) := (Below.refl _ _).grown hgrow (Nat.le_refl _) (fun k h => by cases h)
  have HO1 : Hid (OwnsW w1 w.heap.size (.slice (some ⟨w.heap.size, 0, none⟩) N N) (part [] (N - 0))) := ownsW_made (by simpa [Value.cells] using hown)
  clear hown hgrow
  go_wp2
  go_loopw [6, 7] (fun c i wr => ∃ (k cc : Nat) (rs : List Nat), k ≤ n ∧ cc ≤ 1 ∧ i = .int .i64 k ∧ c = .int .u64 cc ∧ Hid (rs.length = k) ∧ Hid (Wd rs) ∧ Hid (val rs + cc * 4294967296 ^ k = val (xs.take k) + val (ys.take k)) ∧ Hid (OwnsW wr w.heap.size (.slice (some ⟨w.heap.size, 0, none⟩) N N) (part rs (N - k))) ∧ Hid (Below w.heap.size w wr)) (fun _ i _ => n - (intOf i).toNat)
  case atStart => exact ⟨0, 0, [], Nat.zero_le _, by omega, rfl, rfl, rfl, fun _ h => by simp at h, by simp [Hid, val], HO1, HB1⟩
  case round =>
    obtain ⟨k, cc, rs, hk, hcc, rfl, rfl, HRl, HRw, HV, HO, HB⟩ := hrel
    have HPl : Hid (N = (part rs (N - k)).length) := by show _ = _; rw [part_len, HRl.out]; have := HN.out; omega
    by_cases hkn : k < n
    · have hkn' : (k : Int) < (n : Int) := by omega
      have hkN : (k : Int) < (N : Int) := by omega
      have HKx : Hid (k < xs.length) := by rw [← HX.out]; exact hkn
      obtain ⟨bx, ox, u, hax, HU, hu, -, hcx⟩ := (HSx.out.below HB.out).elem HKx.out
      have hst := HO.out.at HPl.out (j := k) (by rw [← HPl.out]; have := HN.out; omega)
      obtain ⟨hfz, hcz⟩ := hst
      subst hax
      by_cases hkm : k < m
      · have hkm' : (k : Int) < (m : Int) := by omega
        have HKy : Hid (k < ys.length) := by rw [← HY.out]; exact hkm
        obtain ⟨by_, oy, v, hay, HVv, hv, -, hcy⟩ := (HSy.out.below HB.out).elem HKy.out
        subst hay
        obtain ⟨r, hr⟩ : ∃ r, r = (cc + u + v) % 4294967296 := ⟨_, rfl⟩
        obtain ⟨d, hd⟩ : ∃ d, d = (cc + u + v) / 4294967296 := ⟨_, rfl⟩
        have hstep := add_step (a := 0) (b := 0) HV.out hu hv hcc hr hd rfl rfl
        have HNv : Hid (val (rs ++ [r]) + d * 4294967296 ^ (k + 1) = val (xs.take (k + 1)) + val (ys.take (k + 1))) := by
          show _ = _
          rw [val_snoc, HRl.out, val_take HKx.out, val_take HKy.out, ← HU.out, ← HVv.out, Nat.pow_succ]; exact hstep.1
        have hd1 : d ≤ 1 := hstep.2
        have HR : Hid (((cc : Int) + (u : Int) + (v : Int)) % 4294967296 = (r : Int)) := by show _ = _; omega
        have HD : Hid (((cc : Int) + (u : Int) + (v : Int)) / 4294967296 = (d : Int)) := by show _ = _; omega
        have hr2 : r < 4294967296 := by omega
        clear hr hd hstep
        have HRl2 : Hid ((rs ++ [r]).length = k + 1) := by show _ = _; rw [List.length_append, HRl.out]; rfl
        have HRw2 : Hid (Wd (rs ++ [r])) := fun z hz => by
          rw [List.mem_append, List.mem_singleton] at hz
          rcases hz with hz | rfl
          · exact HRw.out z hz
          · exact hr2
        have HO2 : Hid (OwnsW (wr.setCell ⟨w.heap.size, k, none⟩ (.int .u32 (r : Int))) w.heap.size (.slice (some ⟨w.heap.size, 0, none⟩) N N) (part (rs ++ [r]) (N - (k + 1)))) := by
          have h1 := HO.out.store HPl.out k r
          have e : N - k = (N - (k + 1)) + 1 := by have := HN.out; omega
          rw [e, ← HRl.out, part_set, HRl.out] at h1
          exact h1
        have HB2 : Hid (Below w.heap.size w (wr.setCell ⟨w.heap.size, k, none⟩ (.int .u32 (r : Int)))) := HB.out.setCell (p := ⟨w.heap.size, k, none⟩) (Nat.le_refl _) _
        unfold wv at hcz
        go_wp2
        rw [HR.out, HD.out]
        go_roundw
        case rel => exact ⟨k + 1, d, rs ++ [r], by omega, hd1, by go_num, rfl, HRl2, HRw2, HNv, HO2, HB2⟩
        case measure => simp [intOf]; omega
      · have hkm' : ¬ (k : Int) < (m : Int) := by omega
        obtain ⟨r, hr⟩ : ∃ r, r = (cc + u + 0) % 4294967296 := ⟨_, rfl⟩
        obtain ⟨d, hd⟩ : ∃ d, d = (cc + u + 0) / 4294967296 := ⟨_, rfl⟩
        have hstep := add_step (a := 0) (b := 0) HV.out hu (by omega : 0 < 4294967296) hcc hr hd rfl rfl
        have HNv : Hid (val (rs ++ [r]) + d * 4294967296 ^ (k + 1) = val (xs.take (k + 1)) + val (ys.take (k + 1))) := by
          show _ = _
          rw [val_snoc, HRl.out, val_take HKx.out, ← HU.out, Nat.pow_succ, List.take_of_length_le (show ys.length ≤ k + 1 by rw [← HY.out]; omega)]
          have h1 := hstep.1
          rw [List.take_of_length_le (show ys.length ≤ k by rw [← HY.out]; omega), Nat.mul_zero, Nat.add_zero] at h1
          exact h1
        have hd1 : d ≤ 1 := hstep.2
        have HR : Hid (((cc : Int) + (u : Int)) % 4294967296 = (r : Int)) := by show _ = _; omega
        have HD : Hid (((cc : Int) + (u : Int)) / 4294967296 = (d : Int)) := by show _ = _; omega
        have hr2 : r < 4294967296 := by omega
        clear hr hd hstep
        have HRl2 : Hid ((rs ++ [r]).length = k + 1) := by show _ = _; rw [List.length_append, HRl.out]; rfl
        have HRw2 : Hid (Wd (rs ++ [r])) := fun z hz => by
          rw [List.mem_append, List.mem_singleton] at hz
          rcases hz with hz | rfl
          · exact HRw.out z hz
          · exact hr2
        have HO2 : Hid (OwnsW (wr.setCell ⟨w.heap.size, k, none⟩ (.int .u32 (r : Int))) w.heap.size (.slice (some ⟨w.heap.size, 0, none⟩) N N) (part (rs ++ [r]) (N - (k + 1)))) := by
          have h1 := HO.out.store HPl.out k r
          have e : N - k = (N - (k + 1)) + 1 := by have := HN.out; omega
          rw [e, ← HRl.out, part_set, HRl.out] at h1
          exact h1
        have HB2 : Hid (Below w.heap.size w (wr.setCell ⟨w.heap.size, k, none⟩ (.int .u32 (r : Int)))) := HB.out.setCell (p := ⟨w.heap.size, k, none⟩) (Nat.le_refl _) _
        unfold wv at hcz
        go_wp2
        rw [HR.out, HD.out]
        go_roundw
        case rel => exact ⟨k + 1, d, rs ++ [r], by omega, hd1, by go_num, rfl, HRl2, HRw2, HNv, HO2, HB2⟩
        case measure => simp [intOf]; omega
    · obtain rfl : n = k := by omega
      have hst := HO.out.at HPl.out (j := n) (by rw [← HPl.out]; have := HN.out; omega)
      obtain ⟨hfz, hcz⟩ := hst
      have hc0 : (cc : Int) % 4294967296 = (cc : Int) := by omega
      have HOw : Hid (OwnsW (wr.setCell ⟨w.heap.size, n, none⟩ (.int .u32 (cc : Int))) w.heap.size (.slice (some ⟨w.heap.size, 0, none⟩) N N) (rs ++ [cc])) := by
        have h1 := HO.out.store HPl.out n cc
        have e : N - n = 0 + 1 := by have := HN.out; omega
        rw [e, ← HRl.out, part_set, HRl.out] at h1
        have e2 : part (rs ++ [cc]) 0 = rs ++ [cc] := by simp [part]
        rw [e2] at h1
        exact h1
      have HWd : Hid (Wd (rs ++ [cc])) := fun z hz => by
        rw [List.mem_append, List.mem_singleton] at hz
        rcases hz with hz | rfl
        · exact HRw.out z hz
        · omega
      have HVl : Hid (val (rs ++ [cc]) = val xs + val ys) := by
        show _ = _
        rw [val_snoc, HRl.out]
        have h1 := HV.out
        rw [Nat.mul_comm] at h1
        rw [h1, HX.out, List.take_length, List.take_of_length_le (by rw [← HY.out, ← HX.out]; exact hmn)]
      have HBe : Hid (Below w.heap.size w (wr.setCell ⟨w.heap.size, n, none⟩ (.int .u32 (cc : Int)))) := HB.out.setCell (p := ⟨w.heap.size, n, none⟩) (Nat.le_refl _) _
      have HLe : Hid ((rs ++ [cc]).length = N) := by show _ = _; rw [List.length_append, HRl.out, HN.out]; rfl
      unfold wv at hcz
      go_wp2_with fail
      obtain ⟨a3, c3, hv3, hS3⟩ := HOw.out.shows (by rw [HLe.out, HN.out]; omega) HWd.out (fun a5 n5 cap5 h _ => by simp only [Value.slice.injEq] at h; have := HN.out; have := h.2.2; omega)
      simp only [Value.slice.injEq] at hv3
      obtain ⟨rfl, -, rfl⟩ := hv3
      have HT3 := ownsN_trim HOw.out HWd.out (by have := HN.out; omega)
      rw [HVl.out] at HT3
      have HT4 : Hid (OwnsN (wr.setCell ⟨w.heap.size, n, none⟩ (.int .u32 (cc : Int))) w.heap.size (.slice (some ⟨w.heap.size, 0, none⟩) (norm (rs ++ [cc])).length N) (norm (rs ++ [cc])) (val xs + val ys)) := HT3
      have HL4 : Hid ((norm (rs ++ [cc])).length ≤ n + 1) := by show _ ≤ _; have := norm_len (rs ++ [cc]); rw [HLe.out, HN.out] at this; exact this
      clear HT3
      refine (trim_at _ _ _ _ _ hS3 HLe.out.symm).mono ?_
      rintro e w' ⟨rfl, rfl⟩
      go_wp2
      go_ret
      exact ⟨_, _, rfl, HT4.out, HL4.out, HBe.out⟩

set_option maxHeartbeats 4000000 in
set_option maxRecDepth 100000 in
theorem add_lt (a b : Option Addr) (ca cb n m : Nat) (xs ys : List Nat) (w : World) (ha : ShowsW w a ca xs) (hb : ShowsW w b cb ys) (hn : n = xs.length) (hm : m = ys.length) (hnm : n < m) (hf : n + m ≤ 900000) :
    Calls Tryz.prog 77 #[.slice a n ca, .slice b m cb] w fun e w' => ∃ v us, e = .returned v ∧ OwnsN w' w.heap.size v us (val xs + val ys) ∧ us.length ≤ m + 1 ∧ Below w.heap.size w w' := by
  have HX : Hid (m = ys.length) := hm
  have HY : Hid (n = xs.length) := hn
  have hn6 : n ≤ 1000000 := by rw [hn]; exact ha.few
  have hm6 : m ≤ 1000000 := by rw [hm]; exact hb.few
  have hmn : n ≤ m := by omega
  have HSx : Hid (ShowsW w b cb ys) := hb
  have HSy : Hid (ShowsW w a ca xs) := ha
  have hlt : (n : Int) < (m : Int) := by omega
  obtain ⟨N, hN⟩ : ∃ N, N = m + 1 := ⟨_, rfl⟩
  have hN1 : (m : Int) + 1 = (N : Int) := by omega
  have hnN : (m : Int) < (N : Int) := by omega
  have HN : Hid (N = m + 1) := hN
  clear hn hm hnm ha hb hN
  obtain ⟨i0, hi, hz0, hz1, hz2⟩ := info_parts Tryz.infoW
  go_enter Tryz.func77, Tryz.ntmps77
  go_wp2_with (at_make; refine wpList_make_full _ rfl _ _ 65 rfl w.heap.size 124 i0 (.int .u32 0) 1 Tryz.underlying65 hi hz0 hz1 _ _ _ _ N rfl rfl rfl rfl ?b1 ?b2 ?b3 ?_)
  case b1 => have := HN.out; first | omega | (rw [hz2]; omega)
  case b2 => have := HN.out; first | omega | (unfold maxLen; omega)
  try (case b3 => exact Nat.le_refl _)
  intro w1 hown hgrow
  have HB1 : Hid (Below w.heap.size w w1) := (Below.refl _ _).grown hgrow (Nat.le_refl _) (fun k h => by cases h)
  have HO1 : Hid (OwnsW w1 w.heap.size (.slice (some ⟨w.heap.size, 0, none⟩) N N) (part [] (N - 0))) := ownsW_made (by simpa [Value.cells] using hown)
  clear hown hgrow
  go_wp2
  go_loopw [6, 7] (fun c i wr => ∃ (k cc : Nat) (rs : List Nat), k ≤ m ∧ cc ≤ 1 ∧ i = .int .i64 k ∧ c = .int .u64 cc ∧ Hid (rs.length = k) ∧ Hid (Wd rs) ∧ Hid (val rs + cc * 4294967296 ^ k = val (ys.take k) + val (xs.take k)) ∧ Hid (OwnsW wr w.heap.size (.slice (some ⟨w.heap.size, 0, none⟩) N N) (part rs (N - k))) ∧ Hid (Below w.heap.size w wr)) (fun _ i _ => m - (intOf i).toNat)
  case atStart => exact ⟨0, 0, [], Nat.zero_le _, by omega, rfl, rfl, rfl, fun _ h => by simp at h, by simp [Hid, val], HO1, HB1⟩
  case round =>
    obtain ⟨k, cc, rs, hk, hcc, rfl, rfl, HRl, HRw, HV, HO, HB⟩ := hrel
    have HPl : Hid (N = (part rs (N - k)).length) := by show _ = _; rw [part_len, HRl.out]; have := HN.out; omega
    by_cases hkn : k < m
    · have hkn' : (k : Int) < (m : Int) := by omega
      have hkN : (k : Int) < (N : Int) := by omega
      have HKx : Hid (k < ys.length) := by rw [← HX.out]; exact hkn
      obtain ⟨bx, ox, u, hax, HU, hu, -, hcx⟩ := (HSx.out.below HB.out).elem HKx.out
      have hst := HO.out.at HPl.out (j := k) (by rw [← HPl.out]; have := HN.out; omega)
      obtain ⟨hfz, hcz⟩ := hst
      subst hax
      by_cases hkm : k < n
      · have hkm' : (k : Int) < (n : Int) := by omega
        have HKy : Hid (k < xs.length) := by rw [← HY.out]; exact hkm
        obtain ⟨by_, oy, v, hay, HVv, hv, -, hcy⟩ := (HSy.out.below HB.out).elem HKy.out
        subst hay
        obtain ⟨r, hr⟩ : ∃ r, r = (cc + u + v) % 4294967296 := ⟨_, rfl⟩
        obtain ⟨d, hd⟩ : ∃ d, d = (cc + u + v) / 4294967296 := ⟨_, rfl⟩
        have hstep := add_step (a := 0) (b := 0) HV.out hu hv hcc hr hd rfl rfl
        have HNv : Hid (val (rs ++ [r]) + d * 4294967296 ^ (k + 1) = val (ys.take (k + 1)) + val (xs.take (k + 1))) := by
          show _ = _
          rw [val_snoc, HRl.out, val_take HKx.out, val_take HKy.out, ← HU.out, ← HVv.out, Nat.pow_succ]; exact hstep.1
        have hd1 : d ≤ 1 := hstep.2
        have HR : Hid (((cc : Int) + (u : Int) + (v : Int)) % 4294967296 = (r : Int)) := by show _ = _; omega
        have HD : Hid (((cc : Int) + (u : Int) + (v : Int)) / 4294967296 = (d : Int)) := by show _ = _; omega
        have hr2 : r < 4294967296 := by omega
        clear hr hd hstep
        have HRl2 : Hid ((rs ++ [r]).length = k + 1) := by show _ = _; rw [List.length_append, HRl.out]; rfl
        have HRw2 : Hid (Wd (rs ++ [r])) := fun z hz => by
          rw [List.mem_append, List.mem_singleton] at hz
          rcases hz with hz | rfl
          · exact HRw.out z hz
          · exact hr2
        have HO2 : Hid (OwnsW (wr.setCell ⟨w.heap.size, k, none⟩ (.int .u32 (r : Int))) w.heap.size (.slice (some ⟨w.heap.size, 0, none⟩) N N) (part (rs ++ [r]) (N - (k + 1)))) := by
          have h1 := HO.out.store HPl.out k r
          have e : N - k = (N - (k + 1)) + 1 := by have := HN.out; omega
          rw [e, ← HRl.out, part_set, HRl.out] at h1
          exact h1
        have HB2 : Hid (Below w.heap.size w (wr.setCell ⟨w.heap.size, k, none⟩ (.int .u32 (r : Int)))) := HB.out.setCell (p := ⟨w.heap.size, k, none⟩) (Nat.le_refl _) _
        unfold wv at hcz
        go_wp2
        rw [HR.out, HD.out]
        go_roundw
        case rel => exact ⟨k + 1, d, rs ++ [r], by omega, hd1, by go_num, rfl, HRl2, HRw2, HNv, HO2, HB2⟩
        case measure => simp [intOf]; omega
      · have hkm' : ¬ (k : Int) < (n : Int) := by omega
        obtain ⟨r, hr⟩ : ∃ r, r = (cc + u + 0) % 4294967296 := ⟨_, rfl⟩
        obtain ⟨d, hd⟩ : ∃ d, d = (cc + u + 0) / 4294967296 := ⟨_, rfl⟩
        have hstep := add_step (a := 0) (b := 0) HV.out hu (by omega : 0 < 4294967296) hcc hr hd rfl rfl
        have HNv : Hid (val (rs ++ [r]) + d * 4294967296 ^ (k + 1) = val (ys.take (k + 1)) + val (xs.take (k + 1))) := by
          show _ = _
          rw [val_snoc, HRl.out, val_take HKx.out, ← HU.out, Nat.pow_succ, List.take_of_length_le (show xs.length ≤ k + 1 by rw [← HY.out]; omega)]
          have h1 := hstep.1
          rw [List.take_of_length_le (show xs.length ≤ k by rw [← HY.out]; omega), Nat.mul_zero, Nat.add_zero] at h1
          exact h1
        have hd1 : d ≤ 1 := hstep.2
        have HR : Hid (((cc : Int) + (u : Int)) % 4294967296 = (r : Int)) := by show _ = _; omega
        have HD : Hid (((cc : Int) + (u : Int)) / 4294967296 = (d : Int)) := by show _ = _; omega
        have hr2 : r < 4294967296 := by omega
        clear hr hd hstep
        have HRl2 : Hid ((rs ++ [r]).length = k + 1) := by show _ = _; rw [List.length_append, HRl.out]; rfl
        have HRw2 : Hid (Wd (rs ++ [r])) := fun z hz => by
          rw [List.mem_append, List.mem_singleton] at hz
          rcases hz with hz | rfl
          · exact HRw.out z hz
          · exact hr2
        have HO2 : Hid (OwnsW (wr.setCell ⟨w.heap.size, k, none⟩ (.int .u32 (r : Int))) w.heap.size (.slice (some ⟨w.heap.size, 0, none⟩) N N) (part (rs ++ [r]) (N - (k + 1)))) := by
          have h1 := HO.out.store HPl.out k r
          have e : N - k = (N - (k + 1)) + 1 := by have := HN.out; omega
          rw [e, ← HRl.out, part_set, HRl.out] at h1
          exact h1
        have HB2 : Hid (Below w.heap.size w (wr.setCell ⟨w.heap.size, k, none⟩ (.int .u32 (r : Int)))) := HB.out.setCell (p := ⟨w.heap.size, k, none⟩) (Nat.le_refl _) _
        unfold wv at hcz
        go_wp2
        rw [HR.out, HD.out]
        go_roundw
        case rel => exact ⟨k + 1, d, rs ++ [r], by omega, hd1, by go_num, rfl, HRl2, HRw2, HNv, HO2, HB2⟩
        case measure => simp [intOf]; omega
    · obtain rfl : m = k := by omega
      have hst := HO.out.at HPl.out (j := m) (by rw [← HPl.out]; have := HN.out; omega)
      obtain ⟨hfz, hcz⟩ := hst
      have hc0 : (cc : Int) % 4294967296 = (cc : Int) := by omega
      have HOw : Hid (OwnsW (wr.setCell ⟨w.heap.size, m, none⟩ (.int .u32 (cc : Int))) w.heap.size (.slice (some ⟨w.heap.size, 0, none⟩) N N) (rs ++ [cc])) := by
        have h1 := HO.out.store HPl.out m cc
        have e : N - m = 0 + 1 := by have := HN.out; omega
        rw [e, ← HRl.out, part_set, HRl.out] at h1
        have e2 : part (rs ++ [cc]) 0 = rs ++ [cc] := by simp [part]
        rw [e2] at h1
        exact h1
      have HWd : Hid (Wd (rs ++ [cc])) := fun z hz => by
        rw [List.mem_append, List.mem_singleton] at hz
        rcases hz with hz | rfl
        · exact HRw.out z hz
        · omega
      have HVl : Hid (val (rs ++ [cc]) = val xs + val ys) := by
        show _ = _
        rw [val_snoc, HRl.out]
        have h1 := HV.out
        rw [Nat.mul_comm] at h1
        rw [h1, HX.out, List.take_length, List.take_of_length_le (by rw [← HY.out, ← HX.out]; exact hmn)]
        omega
      have HBe : Hid (Below w.heap.size w (wr.setCell ⟨w.heap.size, m, none⟩ (.int .u32 (cc : Int)))) := HB.out.setCell (p := ⟨w.heap.size, m, none⟩) (Nat.le_refl _) _
      have HLe : Hid ((rs ++ [cc]).length = N) := by show _ = _; rw [List.length_append, HRl.out, HN.out]; rfl
      unfold wv at hcz
      go_wp2_with fail
      obtain ⟨a3, c3, hv3, hS3⟩ := HOw.out.shows (by rw [HLe.out, HN.out]; omega) HWd.out (fun a5 n5 cap5 h _ => by simp only [Value.slice.injEq] at h; have := HN.out; have := h.2.2; omega)
      simp only [Value.slice.injEq] at hv3
      obtain ⟨rfl, -, rfl⟩ := hv3
      have HT3 := ownsN_trim HOw.out HWd.out (by have := HN.out; omega)
      rw [HVl.out] at HT3
      have HT4 : Hid (OwnsN (wr.setCell ⟨w.heap.size, m, none⟩ (.int .u32 (cc : Int))) w.heap.size (.slice (some ⟨w.heap.size, 0, none⟩) (norm (rs ++ [cc])).length N) (norm (rs ++ [cc])) (val xs + val ys)) := HT3
      have HL4 : Hid ((norm (rs ++ [cc])).length ≤ m + 1) := by show _ ≤ _; have := norm_len (rs ++ [cc]); rw [HLe.out, HN.out] at this; exact this
      clear HT3
      refine (trim_at _ _ _ _ _ hS3 HLe.out.symm).mono ?_
      rintro e w' ⟨rfl, rfl⟩
      go_wp2
      go_ret
      exact ⟨_, _, rfl, HT4.out, HL4.out, HBe.out⟩

theorem add_at (a b : Option Addr) (ca cb n m : Nat) (xs ys : List Nat) (x y : Nat) (w : World) (ha : ShowsW w a ca xs) (hb : ShowsW w b cb ys) (hn : n = xs.length) (hm : m = ys.length) (hx : Num xs x) (hy : Num ys y) (hf : n + m ≤ 900000) :
    Calls Tryz.prog 77 #[.slice a n ca, .slice b m cb] w fun e w' => ∃ v us, e = .returned v ∧ OwnsN w' w.heap.size v us (x + y) ∧ us.length ≤ n + m + 1 ∧ Below w.heap.size w w' := by
  rw [← hx.eq, ← hy.eq]
  by_cases h : n < m
  · exact (add_lt a b ca cb n m xs ys w ha hb hn hm h hf).mono fun e w' ⟨v, us, h1, h2, h3, h4⟩ => ⟨v, us, h1, h2, by omega, h4⟩
  · exact (add_ge a b ca cb n m xs ys w ha hb hn hm h hf).mono fun e w' ⟨v, us, h1, h2, h3, h4⟩ => ⟨v, us, h1, h2, by omega, h4⟩

end Go.Proofs.YtbiakncblkjmhaaGreatDoor
