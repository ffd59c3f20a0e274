/-
  The contract of ferref.OfCorners, of numbers from 0 to 7.
-/
import Derived.Test.YtfpbccahmipliaaJRco
import Derived.Deep.RegionHeld3
namespace Go.Proofs.Ytfpbccahmipliaa
open Go.RowKit

theorem Shows.boxAt {w : World} {b off c : Nat} {f : Nat → Int} (h : Shows w (some ⟨b, off, none⟩) (tab c f)) {j : Nat} (hj : j < c) : w.cell? ⟨b, off + j, none⟩ = some (.int .i64 (f j)) := by
  obtain ⟨b1, o1, e, hc, _, _⟩ := h.boxZ hj
  simp only [Option.some.injEq, Addr.mk.injEq, and_true] at e
  obtain ⟨rfl, rfl⟩ := e
  exact hc

set_option maxHeartbeats 8000000 in
set_option maxRecDepth 100000 in
theorem OfCorners_ok (a : Option Addr) (n N m cap : Nat) (C : Nat → Nat → Int) (w : World) (hs : Table w a (tz N N C)) (hm : m = N) (hN : N = n + 1) (n1 : 1 ≤ n) (n7 : n ≤ 7) (hC : ∀ i, i ≤ n → ∀ j, j ≤ n → 0 ≤ C i j ∧ C i j ≤ 7) :
    Calls Try.prog 18 #[.slice a m cap] w fun e w' => ∃ v, e = .returned v ∧ Hid (Tbl w' w.heap.size v (tz n n (dif C))) ∧ Hid (Below w.heap.size w w') := by
  subst hm
  have HS : Hid (Table w a (tz m m C)) := hs
  have HN : Hid (m = n + 1) := hN
  have HC : Hid (∀ i, i < m → ∀ j, j < m → 0 ≤ C i j ∧ C i j ≤ 7) := fun i hi j hj => hC i (by omega) j (by omega)
  have hm2 : ¬ (m : Int) < 2 := by omega
  have hm8 : m ≤ 8 := by omega
  have hm8' : ¬ (8 : Int) < (m : Int) := by omega
  clear hs hN hC
  go_enter Try.func18, Try.ntmps18
  go_wp2
  go_loopw [3] (fun q wr => ∃ i : Nat, i ≤ m ∧ q = .int .i64 i ∧ w = wr) (fun q _ => m - (intOf q).toNat)
  case atStart => exact ⟨0, Nat.zero_le _, rfl, rfl⟩
  case round =>
    obtain ⟨i, hi, rfl, rfl⟩ := hrel
    by_cases hil : i < m
    · have hil' : (i : Int) < (m : Int) := by omega
      obtain ⟨b, off, ai, ci, rfl, HCi, HSi⟩ := HS.out.rowZ (i := i) hil
      have hci := HCi.out w (Below.refl _ _)
      have hne : ((m : Int) != (m : Int)) = false := by simp
      go_wp2
      go_loopw [4] (fun q wr2 => ∃ j : Nat, j ≤ m ∧ q = .int .i64 j ∧ w = wr2) (fun q _ => m - (intOf q).toNat)
      case atStart => exact ⟨0, Nat.zero_le _, rfl, rfl⟩
      case round =>
        obtain ⟨j, hj, rfl, rfl⟩ := hrel
        by_cases hjl : j < m
        · have hjl' : (j : Int) < (m : Int) := by omega
          obtain ⟨b1, o1, e1, cA, -, -⟩ := (HSi.out _ (Below.refl _ _)).boxZ hjl
          subst e1
          obtain ⟨x, HX⟩ : ∃ x, Hid (x = C i j) := ⟨_, rfl⟩
          rw [← HX.out] at cA
          have hx := HC.out i hil j hjl
          rw [← HX.out] at hx
          have hx1 : ¬ x < 0 := by omega
          have hx2 : ¬ 7 < x := by omega
          go_wp2
          go_roundw
          case rel => exact ⟨j + 1, by omega, by go_num, trivial⟩
          case measure => simp [intOf]; omega
        · obtain rfl : j = m := by omega
          go_wp2
          go_roundw
          case rel => exact ⟨i + 1, by omega, by go_num, trivial⟩
          case measure => simp [intOf]; omega
    · obtain rfl : i = m := by omega
      go_wp2
      go_loopw [5, 6] (fun v q wr => ∃ k k1 : Nat, k ≤ n ∧ Hid (k1 = k + 1) ∧ q = .int .i64 k1 ∧ Hid (Tbl wr w.heap.size v ((tz n n (dif C)).take k)) ∧ Hid (Below w.heap.size w wr)) (fun _ q _ => n + 1 - (intOf q).toNat)
      case atStart => exact ⟨0, 1, Nat.zero_le _, rfl, rfl, by rw [List.take_zero]; exact Tbl.nil _ _, Below.refl _ _⟩
      case round =>
        obtain ⟨k, k1, hk, Hk1, rfl, HT, HB⟩ := hrel
        by_cases hkl : k < n
        · have hk1m : k1 < i := by have := Hk1.out; have := HN.out; omega
          have hkm : k < i := by have := HN.out; omega
          have hk1m' : (k1 : Int) < (i : Int) := by omega
          have hkm' : (k : Int) < (i : Int) := by omega
          have hwk : IntKind.i64.wrap ((k1 : Int) - 1) = (k : Int) := by rw [IntKind.wrap_i64, Hk1.out]; omega
          obtain ⟨vs, hV⟩ := HT.out
          have HV0 : Hid (TblV wr w.heap.size u5 vs ((tz n n (dif C)).take k)) := hV
          have HLv : Hid (vs.length = k) := by show _ = _; rw [hV.len, List.length_take, tz_len]; omega
          clear hV HT
          obtain ⟨b, off, ai, ci, rfl, HCi, HSi⟩ := HS.out.rowZ (i := k) hkm
          obtain ⟨b9, off9, ai1, ci1, e9, HCi1, HSi1⟩ := HS.out.rowZ (i := k1) hk1m
          simp only [Option.some.injEq, Addr.mk.injEq, and_true] at e9
          obtain ⟨rfl, rfl⟩ := e9
          go_wp2
          obtain ⟨wj, HWj⟩ : ∃ wj, Hid (wj = wr) := ⟨_, rfl⟩
          rw [← HWj.out] at HB HV0
          have HB0 : Hid (Below wj.heap.size wj wr) := by rw [HWj.out]; exact Below.refl _ _
          go_loopw [7, 8] (fun v q wq => ∃ j j1 : Nat, j ≤ n ∧ Hid (j1 = j + 1) ∧ q = .int .i64 j1 ∧ Hid (Owns wq wj.heap.size v (tab j (dif C k))) ∧ Hid (Below wj.heap.size wj wq)) (fun _ q _ => n + 1 - (intOf q).toNat)
          case atStart => exact ⟨0, 1, Nat.zero_le _, rfl, rfl, World.ownsRow_nil _ _ _ _, HB0⟩
          case round =>
            clear HB0 HWj
            obtain ⟨j, j1, hj, Hj1, rfl, HR, HBi⟩ := hrel
            by_cases hjl : j < n
            · have hj1m : j1 < i := by have := Hj1.out; have := HN.out; omega
              have hjm : j < i := by have := HN.out; omega
              have hj1m' : (j1 : Int) < (i : Int) := by omega
              have hjm' : (j : Int) < (i : Int) := by omega
              have hwj : IntKind.i64.wrap ((j1 : Int) - 1) = (j : Int) := by rw [IntKind.wrap_i64, Hj1.out]; omega
              have HBw : Hid (Below w.heap.size w wr) := HB.out.trans (HBi.out.mono HB.out.size)
              have c0 := HCi.out wr HBw.out
              have c1 := HCi1.out wr HBw.out
              obtain ⟨b1, o1, e1, cA, -, -⟩ := (HSi.out wr HBw.out).boxZ hj1m
              subst e1
              obtain ⟨b2, o2, e2, cC, -, -⟩ := (HSi.out wr HBw.out).boxZ hjm
              simp only [Option.some.injEq, Addr.mk.injEq, and_true] at e2
              obtain ⟨rfl, rfl⟩ := e2
              obtain ⟨b3, o3, e3, cB, -, -⟩ := (HSi1.out wr HBw.out).boxZ hjm
              subst e3
              obtain ⟨b4, o4, e4, cE, -, -⟩ := (HSi1.out wr HBw.out).boxZ hj1m
              simp only [Option.some.injEq, Addr.mk.injEq, and_true] at e4
              obtain ⟨rfl, rfl⟩ := e4
              obtain ⟨x1, HX1⟩ : ∃ z, Hid (z = C k j1) := ⟨_, rfl⟩
              obtain ⟨x2, HX2⟩ : ∃ z, Hid (z = C k1 j) := ⟨_, rfl⟩
              obtain ⟨x3, HX3⟩ : ∃ z, Hid (z = C k j) := ⟨_, rfl⟩
              obtain ⟨x0, HX0⟩ : ∃ z, Hid (z = C k1 j1) := ⟨_, rfl⟩
              rw [← HX1.out] at cA
              rw [← HX2.out] at cB
              rw [← HX3.out] at cC
              rw [← HX0.out] at cE
              have d1 := HC.out k hkm j1 hj1m
              have d2 := HC.out k1 hk1m j hjm
              have d3 := HC.out k hkm j hjm
              have d0 := HC.out k1 hk1m j1 hj1m
              rw [← HX1.out] at d1
              rw [← HX2.out] at d2
              rw [← HX3.out] at d3
              rw [← HX0.out] at d0
              have ew1 : IntKind.i64.wrap (x0 - x1) = x0 - x1 := by rw [IntKind.wrap_i64]; omega
              have ew2 : IntKind.i64.wrap (x0 - x1 - x2) = x0 - x1 - x2 := by rw [IntKind.wrap_i64]; omega
              have ew3 : IntKind.i64.wrap (x0 - x1 - x2 + x3) = x0 - x1 - x2 + x3 := by rw [IntKind.wrap_i64]; omega
              have HY : Hid (x0 - x1 - x2 + x3 = dif C k j) := by
                show _ = _
                unfold dif
                rw [← Hk1.out, ← Hj1.out, ← HX1.out, ← HX2.out, ← HX3.out, ← HX0.out]
              have HCl : Hid (∀ W, Below w.heap.size w W → W.cell? ⟨b, off + k, none⟩ = some (.slice (some ⟨b1, o1, none⟩) i ci) ∧ W.cell? ⟨b, off + k1, none⟩ = some (.slice (some ⟨b3, o3, none⟩) i ci1) ∧ W.cell? ⟨b1, o1 + j1, none⟩ = some (.int .i64 x1) ∧ W.cell? ⟨b1, o1 + j, none⟩ = some (.int .i64 x3) ∧ W.cell? ⟨b3, o3 + j, none⟩ = some (.int .i64 x2) ∧ W.cell? ⟨b3, o3 + j1, none⟩ = some (.int .i64 x0)) := fun W hW => by
                rw [HX1.out, HX2.out, HX3.out, HX0.out]
                exact ⟨HCi.out W hW, HCi1.out W hW, (HSi.out W hW).boxAt hj1m, (HSi.out W hW).boxAt hjm, (HSi1.out W hW).boxAt hjm, (HSi1.out W hW).boxAt hj1m⟩
              have HR0 : Hid (Owns wr.drew wj.heap.size u7 (tab j (dif C k))) := HR.out.below (below_drewN (Below.refl _ _) 1 : Below wr.heap.size wr wr.drew)
              go_wp2_with fail
              go_region_held3 (fun W => W.cell? ⟨b, off + k, none⟩ = some (.slice (some ⟨b1, o1, none⟩) i ci) ∧ W.cell? ⟨b, off + k1, none⟩ = some (.slice (some ⟨b3, o3, none⟩) i ci1) ∧ W.cell? ⟨b1, o1 + j1, none⟩ = some (.int .i64 x1) ∧ W.cell? ⟨b1, o1 + j, none⟩ = some (.int .i64 x3) ∧ W.cell? ⟨b3, o3 + j, none⟩ = some (.int .i64 x2) ∧ W.cell? ⟨b3, o3 + j1, none⟩ = some (.int .i64 x0)) (go_keep) (first | (refine step_one elem_int (w := wr.drew) (N := wr.heap.size) (x := .int .i64 (x0 - x1 - x2 + x3)) rfl (.tmp 67) (.tmp 103) rfl (by first | (simp [Act.eval]; done) | (simp [Act.eval, Act.put]; done)) (by first | (simp [Act.eval]; done) | (simp [Act.eval, Act.put]; done)) rfl (vals_of_owns HR0.out) rfl (by rw [List.length_map, tab_length]; unfold maxLen; omega) (by rw [List.length_map, tab_length]; omega) (by exact HBi.out.size) ?_; intro v' w3 hO3 hb3 hk3; have HB3 : Hid (Below wj.heap.size wj w3) := HBi.out.drew.trans hb3; obtain ⟨z1, z2, z3, z4, z5, z6⟩ := HCl.out w3 (HB.out.trans (HB3.out.mono HB.out.size))))
              have HO3 : Hid (Owns w3 wj.heap.size v' (tab (j + 1) (dif C k))) := by
                have := owns_of_vals hO3
                show Owns _ _ _ _
                rw [tab_succ, ← HY.out]; exact this
              have HB3 : Hid (Below wj.heap.size wj w3) := HBi.out.drew.trans hb3
              clear hO3 hb3 hk3
              go_wp2
              go_roundw
              case rel => exact ⟨j + 1, j1 + 1, by omega, by show _ = _; rw [Hj1.out], by go_num, HO3, HB3⟩
              case measure => have := Hj1.out; simp [intOf]; omega
            · obtain rfl : j = n := by omega
              have hj1m' : ¬ (j1 : Int) < (i : Int) := by have := Hj1.out; have := HN.out; omega
              obtain ⟨au, cu, hsu⟩ := HR.out.shape
              rw [tab_length] at hsu
              subst hsu
              have HV2 : Hid (TblV wr w.heap.size u5 vs ((tz j j (dif C)).take k)) := HV0.out.same (fun q _ hq => HBi.out.block q hq)
              go_wp2_with (at_builtin; refine append_one elem_row (x := .slice au j cu) rfl _ _ rfl rfl rfl rfl HV2.out.own rfl ?c3 ?c4 ?c5 ?_)
              case c3 => have := HLv.out; unfold maxLen; omega
              case c4 => have := HLv.out; omega
              case c5 => exact Nat.le_trans HB.out.size HBi.out.size
              intro v' w3 hO3 hb3 hk3
              have hO3' : w3.ownsRow w.heap.size 29 1 v' (vs ++ [Value.slice au j cu]).length (vs ++ [Value.slice au j cu]) := by simpa using hO3
              have HT3 : Hid (Tbl w3 w.heap.size v' ((tz j j (dif C)).take (k + 1))) := by
                show Tbl _ _ _ _
                rw [tz_take hkl]
                exact Tbl.push HV0.out HV2.out (Nat.le_refl _) HB.out.size HR.out hO3' hk3
              have HB3 : Hid (Below w.heap.size w w3) := (HB.out.trans (HBi.out.mono HB.out.size)).trans hb3
              clear hO3 hO3' hb3 hk3
              go_wp2
              go_roundw
              case rel => exact ⟨k + 1, k1 + 1, by omega, by show _ = _; rw [Hk1.out], by go_num, HT3, HB3⟩
              case measure => have := Hk1.out; simp [intOf]; omega
        · obtain rfl : k = n := by omega
          have hk1m' : ¬ (k1 : Int) < (i : Int) := by have := Hk1.out; have := HN.out; omega
          have HE : Hid (Tbl wr w.heap.size u5 (tz k k (dif C))) := by have := HT.out; rw [tz_takeAll] at this; exact this
          go_wp2
          go_ret
          exact ⟨_, rfl, HE, HB⟩

end Go.Proofs.Ytfpbccahmipliaa
