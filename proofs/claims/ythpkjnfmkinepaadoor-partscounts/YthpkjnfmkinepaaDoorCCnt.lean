/-
  Tables of uint64 of the call's own; the contract of parts.Count, given strconv.FormatUint's.
-/
import Derived.Test.YthpkjnfmkinepaaDoorTTab
import Derived.Test.YthpkjnfmkinepaaDoorCPack
import Derived.Lib.ItoaNum
namespace Go.Proofs.YthpkjnfmkinepaaDoor
open Go.RowKit

theorem Tryd.infoV : (Tryd.prog.info? 33).map (fun i => (i.zero, i.size, i.bytes)) = some (some (.int .u64 0), 1, 8) := by kernel_rfl
/-- v owns the numbers f 0, .. , f (n - 1). -/
def OwnsV (w : World) (base : Nat) (v : Value) (n : Nat) (f : Nat → Nat) : Prop := w.ownsRow base 33 1 v n ((List.range n).map fun j => Value.int .u64 (f j : Int))
theorem OwnsV.at {w : World} {base g cap n : Nat} {f : Nat → Nat} (h : OwnsV w base (.slice (some ⟨g, 0, none⟩) n cap) n f) {j : Nat} (hj : j < n) :
    w.frozen? ⟨g, j, none⟩ = false ∧ w.cell? ⟨g, j, none⟩ = some (.int .u64 (f j : Int)) := by
  refine ⟨World.ownsRow.frozenAt h j, ?_⟩
  rw [World.ownsRow.cellAt h j (by omega)]
  simp [hj]
theorem OwnsV.congr {w : World} {base n : Nat} {v : Value} {f g : Nat → Nat} (h : OwnsV w base v n f) (he : ∀ j, j < n → f j = g j) : OwnsV w base v n g := by
  unfold OwnsV
  rw [← List.map_congr_left (f := fun j => Value.int .u64 (f j : Int)) (fun j hj => by rw [he j (List.mem_range.1 hj)])]; exact h
theorem OwnsV.store {w : World} {base g cap n : Nat} {f : Nat → Nat} (h : OwnsV w base (.slice (some ⟨g, 0, none⟩) n cap) n f) (j x : Nat) :
    OwnsV (w.setCell ⟨g, j, none⟩ (.int .u64 (x : Int))) base (.slice (some ⟨g, 0, none⟩) n cap) n (fun i => if i = j then x else f i) := by
  unfold OwnsV at h ⊢
  have h := (World.ownsRow.stored h j (.int .u64 (x : Int))).1
  have e : (List.range n).map (fun i => Value.int .u64 ((if i = j then x else f i : Nat) : Int)) = ((List.range n).map fun i => Value.int .u64 (f i : Int)).set j (.int .u64 (x : Int)) := by
    apply List.ext_getElem
    · simp
    · intro i h1 h2
      simp only [List.getElem_map, List.getElem_range, List.getElem_set]
      by_cases e : j = i
      · simp [e]
      · simp [e, Ne.symm e]
  rw [e]; exact h
theorem ownsV_made {w : World} {base g n : Nat} (h : w.ownsRow base 33 1 (.slice (some ⟨g, 0, none⟩) n n) n (madeCells #[Value.int .u64 0] n).toList) : OwnsV w base (.slice (some ⟨g, 0, none⟩) n n) n (fun _ => 0) := by
  unfold OwnsV
  have e : (List.range n).map (fun _ => Value.int .u64 ((0 : Nat) : Int)) = (madeCells #[Value.int .u64 0] n).toList := by
    rw [toList_madeCells_one, List.eq_replicate_iff]
    refine ⟨by simp, fun v hv => ?_⟩
    obtain ⟨j, _, rfl⟩ := List.mem_map.1 hv
    rfl
  rw [e]; exact h

/-- The table in the midst of part p + 1. -/
def mid (p s j : Nat) : Nat := if j < s then dp (p + 1) j else dp p j
theorem mid_start (p j : Nat) : mid p (p + 1) j = dp p j := by
  unfold mid
  by_cases h : j < p + 1
  · rw [if_pos h, dp_low h]
  · rw [if_neg h]
theorem mid_bd {p s j : Nat} (hp : p + 1 ≤ 400) (hj : j ≤ 400) : mid p s j < 9223372036854775808 := by
  have h := last_lt
  unfold mid
  split
  · have := dp_le (k := p + 1) (s := j) hp hj; omega
  · have := dp_le (k := p) (s := j) (by omega) hj; omega
theorem mid_step {p s j : Nat} (hs : p + 1 ≤ s) : (if j = s then mid p s s + mid p s (s - (p + 1)) else mid p s j) = mid p (s + 1) j := by
  by_cases e : j = s
  · subst e
    rw [if_pos rfl]
    unfold mid
    rw [if_neg (by omega), if_pos (by omega), if_pos (by omega)]
    exact (dp_high (k := p) (s := j) (by omega)).symm
  · rw [if_neg e]
    unfold mid
    by_cases h : j < s
    · rw [if_pos h, if_pos (by omega)]
    · rw [if_neg h, if_neg (by omega)]

set_option maxHeartbeats 4000000 in
set_option maxRecDepth 100000 in
theorem Count_ok (n : Nat) (w : World) (hn : n ≤ 400) (HF : Hid (∀ (x : Nat) (W : World), x < 9223372036854775808 → Below w.heap.size w W → Calls Tryd.prog 9 #[.int .u64 (x : Int), .int .i64 10] W fun e w' => e = .returned (.string ⟨(Lib.decDigits x).toArray⟩) ∧ Below W.heap.size W w')) :
    Calls Tryd.prog 4 #[.int .i64 (n : Int)] w fun e w' => e = .returned (.tuple #[.string ⟨(Lib.decDigits (dp n n)).toArray⟩, .int .i64 0]) ∧ Below w.heap.size w w' := by
  obtain ⟨N, hN⟩ : ∃ N, N = n + 1 := ⟨_, rfl⟩
  have hN1 : (n : Int) + 1 = (N : Int) := by omega
  have HN : Hid (N = n + 1) := hN
  have h0N : (0 : Int) < (N : Int) := by omega
  have g0 : decide ((n : Int) < 0) = false := decide_eq_false (by omega)
  have g1 : decide ((n : Int) > 400) = false := decide_eq_false (by omega)
  clear hN
  obtain ⟨i0, hi, hz0, hz1, hz2⟩ := info_parts Tryd.infoV
  go_enter Tryd.func4, Tryd.ntmps4
  go_wp2_with (at_make; refine wpList_make_full _ rfl _ _ 32 rfl w.heap.size 33 i0 (.int .u64 0) 1 Tryd.underlying32 hi hz0 hz1 _ _ _ _ N rfl rfl rfl rfl ?b1 ?b2 ?b3 ?_)
  case b1 => have := HN.out; first | omega | (rw [hz2]; omega)
  case b2 => have := HN.out; first | omega | (unfold maxLen; omega)
  try (case b3 => exact Nat.le_refl _)
  intro w1 hown hgrow
  have HB1 : Hid (Below w.heap.size w w1) := (Below.refl _ _).grown hgrow (Nat.le_refl _) (fun k h => by cases h)
  have hO1 : OwnsV w1 w.heap.size (.slice (some ⟨w.heap.size, 0, none⟩) N N) N (fun _ => 0) := ownsV_made (by simpa [Value.cells] using hown)
  obtain ⟨hfz, hcz⟩ := hO1.at (j := 0) (by have := HN.out; omega)
  have HO2 : Hid (OwnsV (w1.setCell ⟨w.heap.size, 0, none⟩ (.int .u64 1)) w.heap.size (.slice (some ⟨w.heap.size, 0, none⟩) N N) N (dp 0)) := (hO1.store 0 1).congr (fun j _ => rfl)
  have HB2 : Hid (Below w.heap.size w (w1.setCell ⟨w.heap.size, 0, none⟩ (.int .u64 1))) := HB1.out.setCell (p := ⟨w.heap.size, 0, none⟩) (Nat.le_refl _) _
  clear hown hgrow hO1
  go_wp2
  go_loopw [5] (fun i wr => ∃ p : Nat, p ≤ n ∧ i = .int .i64 ((p : Int) + 1) ∧ Hid (OwnsV wr w.heap.size (.slice (some ⟨w.heap.size, 0, none⟩) N N) N (dp p)) ∧ Hid (Below w.heap.size w wr)) (fun i _ => n + 1 - (intOf i).toNat)
  case atStart => exact ⟨0, Nat.zero_le _, rfl, HO2, HB2⟩
  case round =>
    obtain ⟨p, hp, rfl, HO, HB⟩ := hrel
    by_cases hpn : p < n
    · obtain ⟨k, hk⟩ : ∃ k, k = p + 1 := ⟨_, rfl⟩
      have hk1 : (p : Int) + 1 = (k : Int) := by omega
      have HK : Hid (k = p + 1) := hk
      have hkn : (k : Int) ≤ (n : Int) := by omega
      have HOm : Hid (OwnsV wr w.heap.size (.slice (some ⟨w.heap.size, 0, none⟩) N N) N (mid p k)) := HO.out.congr (fun j _ => by rw [hk, mid_start])
      have hkn2 : k ≤ n := by omega
      rw [hk1]
      clear hk hk1
      go_wp2
      go_loopw [6] (fun i wr => ∃ s : Nat, k ≤ s ∧ s ≤ N ∧ i = .int .i64 s ∧ Hid (OwnsV wr w.heap.size (.slice (some ⟨w.heap.size, 0, none⟩) N N) N (mid p s)) ∧ Hid (Below w.heap.size w wr)) (fun i _ => N - (intOf i).toNat)
      case atStart => exact ⟨k, Nat.le_refl _, by have := HN.out; omega, rfl, HOm, HB⟩
      case round =>
        obtain ⟨s, hks, hsN, rfl, HOs, HBs⟩ := hrel
        by_cases hsn : s ≤ n
        · have hsn' : (s : Int) ≤ (n : Int) := by omega
          have hsN2 : (s : Int) < (N : Int) := by have := HN.out; omega
          obtain ⟨t, ht⟩ : ∃ t, t = s - k := ⟨_, rfl⟩
          have ht1 : (s : Int) - (k : Int) = (t : Int) := by omega
          have htN : (t : Int) < (N : Int) := by omega
          obtain ⟨hfs, hcs⟩ := HOs.out.at (j := s) (by have := HN.out; omega)
          obtain ⟨-, hct⟩ := HOs.out.at (j := t) (by have := HN.out; omega)
          have hb1 := mid_bd (p := p) (s := s) (j := s) (by omega) (by omega)
          have hb2 := mid_bd (p := p) (s := s) (j := t) (by omega) (by omega)
          have HSt := HOs.out.store s (mid p s s + mid p s t)
          have HO3 : Hid (OwnsV (wr.setCell ⟨w.heap.size, s, none⟩ (.int .u64 ((mid p s s + mid p s t : Nat) : Int))) w.heap.size (.slice (some ⟨w.heap.size, 0, none⟩) N N) N (mid p (s + 1))) := HSt.congr (fun j _ => by
            rw [ht, HK.out]; exact mid_step (by have := HK.out; omega))
          obtain ⟨x, HX⟩ : ∃ x, Hid (x = mid p s s) := ⟨_, rfl⟩
          obtain ⟨y, HY⟩ : ∃ y, Hid (y = mid p s t) := ⟨_, rfl⟩
          rw [← HX.out] at hcs hb1
          rw [← HY.out] at hct hb2
          have HO4 : Hid (OwnsV (wr.setCell ⟨w.heap.size, s, none⟩ (.int .u64 ((x : Int) + (y : Int)))) w.heap.size (.slice (some ⟨w.heap.size, 0, none⟩) N N) N (mid p (s + 1))) := by
            have := HO3.out
            rw [← HX.out, ← HY.out] at this
            have e : ((x + y : Nat) : Int) = (x : Int) + (y : Int) := by omega
            rw [e] at this; exact this
          have HB4 : Hid (Below w.heap.size w (wr.setCell ⟨w.heap.size, s, none⟩ (.int .u64 ((x : Int) + (y : Int))))) := HBs.out.setCell (p := ⟨w.heap.size, s, none⟩) (Nat.le_refl _) _
          clear HSt HO3 ht
          go_wp2_with fail
          go_region
          go_wp2
          go_roundw
          case rel => exact ⟨s + 1, by omega, by have := HN.out; omega, by go_num, HO4, HB4.out.drew⟩
          case measure => have := HN.out; simp [intOf]; omega
        · have hsn' : ¬ (s : Int) ≤ (n : Int) := by omega
          obtain rfl : s = N := by have := HN.out; omega
          have HE : Hid (OwnsV wr w.heap.size (.slice (some ⟨w.heap.size, 0, none⟩) s s) s (dp k)) := HOs.out.congr (fun j hj => by unfold mid; rw [if_pos hj, HK.out])
          go_wp2
          go_roundw
          case rel => exact ⟨k, by omega, by go_num, HE, HBs⟩
          case measure => have := HK.out; simp [intOf]; omega
    · obtain rfl : p = n := by omega
      have hpn' : ¬ (p : Int) + 1 ≤ (p : Int) := by omega
      have hpN : (p : Int) < (N : Int) := by have := HN.out; omega
      obtain ⟨hfz, hcz⟩ := HO.out.at (j := p) (by have := HN.out; omega)
      have hb := dp_le (k := p) (s := p) hn hn
      have hl := last_lt
      obtain ⟨x, HX⟩ : ∃ x, Hid (x = dp p p) := ⟨_, rfl⟩
      rw [← HX.out] at hcz hb
      have hx : x < 9223372036854775808 := by omega
      clear hb hl
      go_wp2_with fail
      refine (HF.out x _ hx HB.out).mono ?_
      rintro e w5 ⟨rfl, hb5⟩
      have HB5 : Hid (Below w.heap.size w w5) := HB.out.trans (hb5.mono HB.out.size)
      clear hb5
      go_wp2
      go_ret2
      exact ⟨by rw [← HX.out]; rfl, HB5.out⟩

end Go.Proofs.YthpkjnfmkinepaaDoor
