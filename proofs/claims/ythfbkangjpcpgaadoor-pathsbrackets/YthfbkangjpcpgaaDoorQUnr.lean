/-
  paths.Unrank.
-/
import Derived.Test.YthfbkangjpcpgaaDoorQAll
import Derived.Test.YthfbkangjpcpgaaDoorQStr
import Derived.Test.YthfbkangjpcpgaaDoorQByt
import Derived.Deep.DeepCutAuto
namespace Go.Proofs.YthfbkangjpcpgaaDoor
open Go.RowKit

/-- v owns the bytes us, and lies in a block. -/
def OwnsU (w : World) (base : Nat) (v : Value) (us : List UInt8) : Prop := w.ownsRow base 5 1 v (us.map uv).length (us.map uv) ∧ ∃ g c, v = .slice (some ⟨g, 0, none⟩) us.length c
theorem ownsU_push {w' : World} {base : Nat} {v' : Value} {us : List UInt8} {b : UInt8} (h : w'.ownsRow base 5 1 v' (us.map uv ++ [uv b]).length (us.map uv ++ [uv b])) : OwnsU w' base v' (us ++ [b]) := by
  have e : (us ++ [b]).map uv = us.map uv ++ [uv b] := by simp
  refine ⟨by rw [e]; exact h, ?_⟩
  rcases h.2 with ⟨hv, hn⟩ | ⟨g, cap, cur, hv, _⟩
  · simp at hn
  · exact ⟨g, cap, by rw [hv]; simp⟩

theorem Unrank_out (n k : Int) (h : n < 0 ∨ 30 < n) (w : World) :
    Calls Tryd.prog 6 #[.int .i64 n, .int .i64 k] w fun e w' => e = .returned (.tuple #[.string ⟨#[]⟩, .int .i64 1]) ∧ w' = w := by
  by_cases h1 : n < 0
  · go_enter Tryd.func6, Tryd.ntmps6
    go_wp2
    go_ret2
    exact ⟨rfl, rfl⟩
  · have h2 : n > 30 := by omega
    go_enter Tryd.func6, Tryd.ntmps6
    go_wp2
    go_ret2
    exact ⟨rfl, rfl⟩

set_option maxHeartbeats 4000000 in
set_option maxRecDepth 100000 in
theorem Unrank_none (p : Nat) (k : Int) (hp : p ≤ 30) (h : k < 0 ∨ (eW (2 * p) 0 : Int) ≤ k) (w : World) :
    Calls Tryd.prog 6 #[.int .i64 (p : Int), .int .i64 k] w fun e w' => e = .returned (.tuple #[.string ⟨#[]⟩, .int .i64 1]) ∧ Hid (Below w.heap.size w w') := by
  have hidE := hid_w (allEndings_at w)
  have h0 : ¬ ((p : Int) < 0) := by omega
  have h30 : ¬ ((p : Int) > 30) := by omega
  go_enter Tryd.func6, Tryd.ntmps6
  go_wp2_with fail
  refine hidE.out.mono ?_
  rintro e w2 ⟨rfl, HA, HB⟩
  clear hidE
  obtain ⟨g, HG⟩ : ∃ g, Hid (g = w.heap.size) := ⟨_, rfl⟩
  rw [← HG.out] at HA ⊢
  obtain ⟨x, HX⟩ : ∃ x, Hid (x = eW (2 * p) 0) := ⟨_, rfl⟩
  rw [← HX.out] at h
  have hc : w2.cell? ⟨g, 2 * p * 62, none⟩ = some (.int .i64 (x : Int)) := by
    have := HA.out.cell (j := 2 * p * 62 + 0) (by omega)
    rw [tF_at (by omega), ← HX.out] at this
    exact this
  by_cases h1 : k < 0
  · go_wp2
    go_ret2
    exact ⟨rfl, HB⟩
  · have h2 : k ≥ (x : Int) := by omega
    go_wp2
    go_ret2
    exact ⟨rfl, HB⟩

set_option maxHeartbeats 4000000 in
set_option maxRecDepth 100000 in
theorem Unrank_ok (p k : Nat) (hp : p ≤ 30) (h : k < eW (2 * p) 0) (w : World) :
    Calls Tryd.prog 6 #[.int .i64 (p : Int), .int .i64 (k : Int)] w fun e w' => e = .returned (.tuple #[.string ⟨(ur (2 * p) 0 k).toArray⟩, .int .i64 0]) ∧ Hid (Below w.heap.size w w') := by
  have hidE := hid_w (allEndings_at w)
  have h0 : ¬ ((p : Int) < 0) := by omega
  have h30 : ¬ ((p : Int) > 30) := by omega
  obtain ⟨T, HTt⟩ : ∃ T, Hid (T = ur (2 * p) 0 k) := ⟨_, rfl⟩
  rw [← HTt.out]
  have HTl : Hid (T.length = 2 * p) := by rw [HTt.out]; exact ur_len _ _ _
  obtain ⟨x, HX⟩ : ∃ x, Hid (x = eW (2 * p) 0) := ⟨_, rfl⟩
  have HK : Hid (k < eW (2 * p) 0) := h
  have hx60 : x ≤ 1152921504606846976 := by
    rw [HX.out]
    exact Nat.le_trans (eW_le (2 * p) 0) (Nat.pow_le_pow_right (by omega) (by omega : 2 * p ≤ 60))
  rw [← HX.out] at h
  have hk0 : ¬ ((k : Int) < 0) := by omega
  have hk1 : ¬ ((k : Int) ≥ (x : Int)) := by omega
  have hmM : ∀ W, (Instr.makeSlice 49 (.int .i64 0) (.int .i64 (2 * (p : Int)))).run Tryd.prog W = .ok (.slice (some ⟨W.heap.size, 0, none⟩) 0 (2 * p)) (W.alloc (.cells (madeCells #[.int .u8 0] (2 * p)) 5)) := fun W => by
    obtain ⟨i0, hi, hz0, hz1, hz2⟩ := info_parts Tryd.infoB
    have hr := run_make (P := Tryd.prog) W 49 5 i0 (.int .u8 0) Tryd.underlying49 hi hz0 .i64 .i64 0 (2 * (p : Int)) (by omega) (by omega) (by rw [hz2]; omega) (by omega)
    have e1 : (2 * (p : Int)).toNat = 2 * p := by omega
    rw [e1, hz1, Nat.mul_one] at hr
    exact hr
  go_enter Tryd.func6, Tryd.ntmps6
  go_wp2_with fail
  refine hidE.out.mono ?_
  rintro e w2 ⟨rfl, HA, HB⟩
  clear hidE
  obtain ⟨g, HG⟩ : ∃ g, Hid (g = w.heap.size) := ⟨_, rfl⟩
  rw [← HG.out] at HA ⊢
  have hc : w2.cell? ⟨g, 2 * p * 62, none⟩ = some (.int .i64 (x : Int)) := by
    have := HA.out.cell (j := 2 * p * 62 + 0) (by omega)
    rw [tF_at (by omega), ← HX.out] at this
    exact this
  go_upto_region 4 with fail
  go_cut [30] (fun s30 wx => s30 = .bool false ∧ Hid (wx = w2))
  case first =>
    go_wp2_with fail
    go_meet
    exact ⟨by rw [decide_eq_false (by omega), decide_eq_false (by omega)]; rfl, rfl⟩
  obtain ⟨rfl, HW⟩ := hcut
  obtain rfl : w2 = wc := HW.out.symm
  clear HW hk0 hk1
  have HO0 : Hid (OwnsU (w2.alloc (.cells (madeCells #[.int .u8 0] (2 * p)) 5)) w2.heap.size (.slice (some ⟨w2.heap.size, 0, none⟩) 0 (2 * p)) []) := by
    refine ⟨⟨rfl, Or.inr ⟨w2.heap.size, 2 * p, madeCells #[.int .u8 0] (2 * p), rfl, Nat.le_refl _, heap_alloc_new _ _, Nat.zero_le _, by unfold maxLen; omega, by rw [← Array.length_toList, toList_madeCells_one]; simp, by simp⟩⟩, ⟨_, _, rfl⟩⟩
  have HB0 : Hid (Below w2.heap.size w2 (w2.alloc (.cells (madeCells #[.int .u8 0] (2 * p)) 5))) := (Below.refl _ _).alloc (Nat.le_refl _) _
  go_wp2_with fail
  clear hc hmM
  go_loopw [1, 7, 8, 9] (fun rv tv v lv wr => ∃ (l o r : Nat) (us : List UInt8), l ≤ 2 * p ∧ o + l ≤ 2 * p ∧ r ≤ x ∧ rv = .int .i64 (r : Int) ∧ v = .int .i64 (o : Int) ∧ lv = .int .i64 ((l : Int) - 1) ∧ Hid (us.length + l = 2 * p) ∧ Hid (us ++ ur l o r = T) ∧ Hid (r < eW l o) ∧ Hid (OwnsU wr w2.heap.size tv us) ∧ Hid (Below w2.heap.size w2 wr)) (fun _ _ _ lv _ => ((intOf lv) + 1).toNat)
  case atStart => exact ⟨2 * p, 0, k, [], Nat.le_refl _, by omega, by omega, rfl, rfl, rfl, by show _ = _; simp, by show _ = _; rw [HTt.out]; rfl, HK, HO0, HB0⟩
  case round =>
    clear HO0 HB0
    obtain ⟨l, o, r, us, hl, ho, hrx, rfl, rfl, rfl, HL, HU, HR, HO, HBr⟩ := hrel
    have HAr : Hid (ArrE wr g tF) := HA.out.same (HBr.out.block g HA.out.lt)
    by_cases hl0 : l = 0
    · subst hl0
      have hU : us = T := by have := HU.out; rw [ur, List.append_nil] at this; exact this
      subst hU
      obtain ⟨g9, c9, rfl⟩ := HO.out.2
      have hcl : ∀ j (hj : j < us.length), wr.cell? ((⟨g9, 0, none⟩ : Addr).add j) = some (.int .u8 (us[j].toNat : Int)) := fun j hj => by
        have h1 := HO.out.1
        rcases h1.2 with ⟨hv, hn⟩ | ⟨g8, cap8, cur, hv, hg, hh, hn8, _, hcs, htk⟩
        · rw [List.length_map] at hn; omega
        · simp only [Value.slice.injEq, Option.some.injEq, Addr.mk.injEq, and_true] at hv
          obtain ⟨rfl, -, rfl⟩ := hv
          rw [Addr.add_lit, Nat.zero_add, cell_of_row wr g9 j _ _ _ hh]
          have h2 : (cur.toList.take ((us.map uv).length * 1))[j]? = some (uv us[j]) := by rw [htk, List.getElem?_map, List.getElem?_eq_getElem hj]; rfl
          rw [List.getElem?_take_of_lt (by simpa using hj)] at h2
          simpa [uv] using h2
      have hrun := run_convert_bytes_back (P := Tryd.prog) wr 49 9 5 ⟨g9, 0, none⟩ c9 us Tryd.underlying49 Tryd.underlying5 Tryd.underlying9 hcl
      have HBe : Hid (Below w.heap.size w wr) := HB.out.trans (HBr.out.mono HB.out.size)
      clear hcl
      go_wp2
      go_ret2
      exact ⟨rfl, HBe⟩
    · obtain ⟨q, rfl⟩ : ∃ q, l = q + 1 := ⟨l - 1, by omega⟩
      obtain ⟨a, HAa⟩ : ∃ a, Hid (a = eW q (o + 1)) := ⟨_, rfl⟩
      have ha60 : a ≤ 1152921504606846976 := by
        rw [HAa.out]
        exact Nat.le_trans (eW_le q (o + 1)) (Nat.pow_le_pow_right (by omega) (by omega : q ≤ 60))
      have hq1 : (((q + 1 : Nat) : Int) - 1) = (q : Int) := by omega
      rw [hq1]
      have hc : wr.cell? ⟨g, q * 62 + (o + 1), none⟩ = some (.int .i64 (a : Int)) := by
        rw [HAr.out.cell (by omega), tF_at (by omega), HAa.out]
      have HLu : Hid ((us.map uv).length ≤ 60) := by show _ ≤ _; rw [List.length_map]; have := HL.out; omega
      by_cases hra : r < a
      · have hra' : (r : Int) < (a : Int) := by omega
        have HU2 : Hid ((us ++ [40]) ++ ur q (o + 1) r = T) := by
          show _ = _
          rw [← HU.out, ur, if_pos (by rw [← HAa.out]; exact hra)]; simp
        have HR2 : Hid (r < eW q (o + 1)) := by show _ < _; rw [← HAa.out]; exact hra
        go_wp2_with (at_builtin; refine append_one elem_byte (x := .int .u8 40) rfl _ _ rfl rfl rfl rfl HO.out.1 rfl ?c3 ?c4 ?c5 ?_)
        case c3 => have := HLu.out; rw [List.length_map] at this; (try rw [List.length_map]); unfold maxLen; omega
        case c4 => have := HLu.out; rw [List.length_map] at this; (try rw [List.length_map]); omega
        case c5 => exact HBr.out.size
        intro v' w3 hO3 hb3 hk3
        have HO3 : Hid (OwnsU w3 w2.heap.size v' (us ++ [40])) := ownsU_push (b := 40) (by rw [List.length_append, List.length_map]; exact hO3)
        have HB3 : Hid (Below w2.heap.size w2 w3) := HBr.out.trans hb3
        have HL2 : Hid ((us ++ [40]).length + q = 2 * p) := by show _ = _; rw [List.length_append]; have := HL.out; simp; omega
        clear hO3 hb3 hk3 hc
        go_wp2
        go_roundw
        case rel => exact ⟨q, o + 1, r, us ++ [40], by omega, by omega, hrx, rfl, by go_num, by go_num, HL2, HU2, HR2, HO3, HB3⟩
        case measure => simp [intOf]
      · have hra' : ¬ (r : Int) < (a : Int) := by omega
        have hs := HR.out
        rw [eW_step, ← HAa.out] at hs
        have ho0 : 0 < o := by
          rcases Nat.lt_or_ge 0 o with h1 | h1
          · exact h1
          · rw [if_neg (by omega)] at hs; omega
        rw [if_pos ho0] at hs
        obtain ⟨j, rfl⟩ : ∃ j, o = j + 1 := ⟨o - 1, by omega⟩
        obtain ⟨r2, hr2⟩ : ∃ r2, r = a + r2 := ⟨r - a, by omega⟩
        have HU2 : Hid ((us ++ [41]) ++ ur q j r2 = T) := by
          show _ = _
          rw [← HU.out, ur, if_neg (by rw [← HAa.out]; exact hra), ← HAa.out, hr2]; simp
        have HR2 : Hid (r2 < eW q j) := by show _ < _; rw [Nat.add_sub_cancel] at hs; omega
        subst hr2
        have hsb : ((a + r2 : Nat) : Int) - (a : Int) = (r2 : Int) := by omega
        clear hs
        go_wp2_with (at_builtin; refine append_one elem_byte (x := .int .u8 41) rfl _ _ rfl rfl rfl rfl HO.out.1 rfl ?c3 ?c4 ?c5 ?_)
        case c3 => have := HLu.out; rw [List.length_map] at this; (try rw [List.length_map]); unfold maxLen; omega
        case c4 => have := HLu.out; rw [List.length_map] at this; (try rw [List.length_map]); omega
        case c5 => exact HBr.out.size
        intro v' w3 hO3 hb3 hk3
        have HO3 : Hid (OwnsU w3 w2.heap.size v' (us ++ [41])) := ownsU_push (b := 41) (by rw [List.length_append, List.length_map]; exact hO3)
        have HB3 : Hid (Below w2.heap.size w2 w3) := HBr.out.trans hb3
        have HL2 : Hid ((us ++ [41]).length + q = 2 * p) := by show _ = _; rw [List.length_append]; have := HL.out; simp; omega
        clear hO3 hb3 hk3 hc
        go_wp2
        go_roundw
        case rel => exact ⟨q, j, r2, us ++ [41], by omega, by omega, by omega, by go_num, by go_num, by go_num, HL2, HU2, HR2, HO3, HB3⟩
        case measure => simp [intOf]

end Go.Proofs.YthfbkangjpcpgaaDoor
