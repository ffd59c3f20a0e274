/-
  The contract of ferref.OfTriangle.
-/
import Derived.Test.YtgcpconlmihilaaGreatDoorJCkc
import Derived.Test.YtgcpconlmihilaaGreatDoorQCnI
import Derived.Deep.RegionHeld3
namespace Go.Proofs.YtgcpconlmihilaaGreatDoor
open Go.RowKit

/-- what the reference makes of rows -/
def mmb (l : List Int) (j : Nat) : Int := if (j : Int) + 1 ∈ l then 1 else 0
def otr (ls : List (List Int)) (i j : Nat) : Int := mmb (row ls i) j - (if i = 0 then 0 else mmb (row ls (i - 1)) j)
theorem mmb_bd (l : List Int) (j : Nat) : 0 ≤ mmb l j ∧ mmb l j ≤ 1 := by unfold mmb; split <;> omega
theorem otr_bd (ls : List (List Int)) (i j : Nat) : -1 ≤ otr ls i j ∧ otr ls i j ≤ 1 := by
  have h1 := mmb_bd (row ls i) j
  have h2 := mmb_bd (row ls (i - 1)) j
  unfold otr
  split <;> omega

theorem Table.rowG {w : World} {a : Option Addr} {ls : List (List Int)} (h : Table w a ls) {i : Nat} (hi : i < ls.length) :
    ∃ b off ai m ci, a = some ⟨b, off, none⟩ ∧ Hid (∀ W, Below w.heap.size w W → W.cell? ⟨b, off + i, none⟩ = some (.slice ai m ci)) ∧ Hid (∀ W, Below w.heap.size w W → Shows W ai (ls.getD i [])) ∧ Hid (m = (ls.getD i []).length) := by
  obtain ⟨b, off, ai, ci, h1, h2, h3, h4, _⟩ := h i hi
  exact ⟨b, off, ai, _, ci, h1, fun W hW => (hW.cell (p := ⟨b, off + i, none⟩) h2).trans h3, fun W hW => h4.below hW, rfl⟩
theorem Contains_is (a : Option Addr) (n cap : Nat) (zs : List Int) (x : Int) (w : World) (t : Bool) (hs : Shows w a zs) (hn : n = zs.length) (Ht : Hid (decide (x ∈ zs) = t)) :
    Calls Tryz.prog 48 #[.slice a n cap, .int .i64 x] w fun e w' => e = .returned (.bool t) ∧ w' = w := by
  subst hn; rw [← Ht.out]; exact Contains_any a cap zs x w hs

set_option maxHeartbeats 8000000 in
set_option maxRecDepth 100000 in
theorem OfTriangle_at (a : Option Addr) (n cap : Nat) (ls : List (List Int)) (w : World) (hs : Table w a ls) (hn : n = ls.length) (n1 : 1 ≤ n) (n7 : n ≤ 7) :
    Calls Tryz.prog 29 #[.slice a n cap] w fun e w' => ∃ v, e = .returned v ∧ Hid (Tbl w' w.heap.size v (tz n n (otr ls))) ∧ Hid (Below w.heap.size w w') := by
  have HS : Hid (Table w a ls) := hs
  have HN : Hid (n = ls.length) := hn
  clear hs hn
  have HmP : Hid (∀ W, (Instr.makeSlice 36 (.int .i64 (n : Int)) (.int .i64 (n : Int))).run Tryz.prog W = .ok (.slice (some ⟨W.heap.size, 0, none⟩) n n) (W.alloc (.cells (madeCells #[Value.int .i64 0] n) 3))) := fun W =>
        run_make_row' (P := Tryz.prog) 36 3 (.int .i64 0) 8 Tryz.underlying36 (by kernel_rfl) rfl .i64 .i64 n (by omega) (by omega) W
  go_enter Tryz.func29, Tryz.ntmps29
  go_wp2
  go_loopw [3, 4] (fun v q wr => ∃ i : Nat, i ≤ n ∧ q = .int .i64 i ∧ Hid (Tbl wr w.heap.size v ((tz n n (otr ls)).take i)) ∧ Hid (Below w.heap.size w wr)) (fun _ q _ => n - (intOf q).toNat)
  case atStart => exact ⟨0, Nat.zero_le _, rfl, by rw [List.take_zero]; exact Tbl.nil _ _, Below.refl _ _⟩
  case round =>
    obtain ⟨i, hi, rfl, HT, HB⟩ := hrel
    by_cases hil : i < n
    · have hil' : (i : Int) < (n : Int) := by omega
      obtain ⟨vs, hV⟩ := HT.out
      have HV0 : Hid (TblV wr w.heap.size u3 vs ((tz n n (otr ls)).take i)) := hV
      have HLv : Hid (vs.length = i) := by show _ = _; rw [hV.len, List.length_take, tz_len]; omega
      have HIl : Hid (i < ls.length) := by show _ < _; rw [← HN.out]; exact hil
      clear hV HT
      have hmP := HmP.out
      have HR0 : Hid (Roz (wr.alloc (.cells (madeCells #[Value.int .i64 0] n) 3)) wr.heap.size n fun b => if b < 0 then otr ls i b else 0) := (roz_made (w := wr) (n := n) (by omega)).congr (fun b _ => by rw [if_neg (by omega)])
      have HB0 : Hid (Below wr.heap.size wr (wr.alloc (.cells (madeCells #[Value.int .i64 0] n) 3))) := (Below.refl _ _).alloc (Nat.le_refl _) _
      go_wp2_with fail
      clear hmP
      obtain ⟨wj, HWj⟩ : ∃ wj, Hid (wj = wr) := ⟨_, rfl⟩
      obtain ⟨X, HX⟩ : ∃ X, Hid (X = wr.heap.size) := ⟨_, rfl⟩
      rw [← HX.out] at HR0 HB0 ⊢
      rw [← HWj.out] at HB HV0
      have HX2 : Hid (X = wj.heap.size) := by rw [HWj.out]; exact HX
      rw [show Below X wr = Below X wj by rw [HWj.out]] at HB0
      clear HX
      go_loopw [6] (fun q wq => ∃ j j1 : Nat, j ≤ n ∧ Hid (j1 = j + 1) ∧ q = .int .i64 j1 ∧ Hid (Roz wq X n fun b => if b < j then otr ls i b else 0) ∧ Hid (Below X wj wq)) (fun q _ => n + 1 - (intOf q).toNat)
      case atStart => exact ⟨0, 1, Nat.zero_le _, rfl, rfl, HR0, HB0⟩
      case round =>
        clear HR0 HB0 HWj
        obtain ⟨j, j1, hj, Hj1, rfl, HR, HBi⟩ := hrel
        by_cases hjl : j < n
        · have hjl' : (j1 : Int) ≤ (n : Int) := by have := Hj1.out; omega
          have hjn' : (j : Int) < (n : Int) := by omega
          have hwj : IntKind.i64.wrap ((j1 : Int) - 1) = (j : Int) := by rw [IntKind.wrap_i64, Hj1.out]; omega
          have HBw : Hid (Below w.heap.size w wr) := by
            have h2 := HBi.out; rw [HX2.out] at h2
            exact HB.out.trans (h2.mono HB.out.size)
          obtain ⟨b1, off1, a1, m1, c1, rfl, HC01, HS01, HM1⟩ := HS.out.rowG HIl.out
          have hc1 := HC01.out wr HBw.out
          have HS1 : Hid (Shows wr a1 (ls.getD i [])) := HS01.out wr HBw.out
          obtain ⟨cX, fX, hXs⟩ := HR.out.cell hjl
          rw [if_neg (by omega)] at cX
          obtain ⟨t1, Ht1⟩ : ∃ t, Hid (decide ((j1 : Int) ∈ ls.getD i []) = t) := ⟨_, rfl⟩
          have HC1 : Hid (Calls Tryz.prog 48 #[.slice a1 m1 c1, .int .i64 (j1 : Int)] wr fun e w' => e = .returned (.bool t1) ∧ w' = wr) := Contains_is _ _ _ _ _ _ t1 HS1.out HM1.out Ht1
          have Hm1 : Hid (mmb (row ls i) j = if t1 = true then 1 else 0) := by
            show _ = _
            unfold mmb
            have e1 : ((j : Int) + 1 ∈ row ls i) ↔ t1 = true := by
              rw [← Ht1.out, decide_eq_true_eq, Hj1.out]
              exact Iff.rfl
            by_cases h : t1 = true
            · rw [if_pos (e1.2 h), if_pos h]
            · rw [if_neg (fun q => h (e1.1 q)), if_neg h]
          have HSt : Hid (∀ W : World, W.heap = wr.heap → ∀ y : Int, y = otr ls i j → Roz (W.setCell ⟨X, j, none⟩ (.int .i64 y)) X n fun b => if b < j + 1 then otr ls i b else 0) := fun W hW y hy => by
            refine (HR.out.set j y hW).congr (fun b _ => ?_)
            by_cases e : b = j
            · subst e; rw [if_pos rfl, if_pos (by omega), hy]
            · rw [if_neg e]
              by_cases h : b < j
              · rw [if_pos h, if_pos (by omega)]
              · rw [if_neg h, if_neg (by omega)]
          have HNs : Hid (otr ls i j = 0 → Roz wr X n fun b => if b < j + 1 then otr ls i b else 0) := fun h0 => HR.out.congr (fun b _ => by
            by_cases e : b = j
            · subst e; rw [if_neg (by omega), if_pos (by omega), h0]
            · by_cases h : b < j
              · rw [if_pos h, if_pos (by omega)]
              · rw [if_neg h, if_neg (by omega)])
          have ew1 : IntKind.i64.wrap ((0 : Int) + 1) = 1 := by decide
          have ew2 : IntKind.i64.wrap ((0 : Int) - 1) = -1 := by decide
          have ew3 : IntKind.i64.wrap ((1 : Int) - 1) = 0 := by decide
          by_cases hi0 : i = 0
          · have hi0' : ¬ (0 : Int) < (i : Int) := by omega
            have HO : Hid (otr ls i j = if t1 = true then 1 else 0) := by show _ = _; unfold otr; rw [if_pos hi0, Hm1.out]; omega
            have HI0 : Hid (i = 0) := hi0
            clear hi0
            cases t1 with
            | true =>
              have HR4 := hid_w (HSt.out wr rfl 1 (by rw [HO.out]; rfl))
              go_wp2_with (go_at_call 48; refine HC1.out.mono ?_; rintro e wr ⟨rfl, rfl⟩)
              go_roundw
              case rel => exact ⟨j + 1, j1 + 1, by omega, by show _ = _; rw [Hj1.out], by go_num, HR4, HBi.out.setCell (p := ⟨X, j, none⟩) (Nat.le_refl _) _⟩
              case measure => have := Hj1.out; simp [intOf]; omega
            | false =>
              have HR4 := hid_w (HNs.out (by rw [HO.out]; rfl))
              go_wp2_with (go_at_call 48; refine HC1.out.mono ?_; rintro e wr ⟨rfl, rfl⟩)
              go_roundw
              case rel => exact ⟨j + 1, j1 + 1, by omega, by show _ = _; rw [Hj1.out], by go_num, HR4, HBi⟩
              case measure => have := Hj1.out; simp [intOf]; omega
          · obtain ⟨i0, Hi0⟩ : ∃ i0, Hid (i = i0 + 1) := ⟨i - 1, by show _ = _; omega⟩
            have hi0' : (0 : Int) < (i : Int) := by omega
            have hi0n : 0 < i := by omega
            have hwi : IntKind.i64.wrap ((i : Int) - 1) = (i0 : Int) := by have h9 := Hi0.out; rw [IntKind.wrap_i64]; omega
            have hi0m : (i0 : Int) < (n : Int) := by have := Hi0.out; omega
            have HI0l : Hid (i0 < ls.length) := by show _ < _; have := Hi0.out; have := HIl.out; omega
            obtain ⟨b2, off2, a2, m2, c2, e2, HC02, HS02, HM2⟩ := HS.out.rowG HI0l.out
            simp only [Option.some.injEq, Addr.mk.injEq, and_true] at e2
            obtain ⟨rfl, rfl⟩ := e2
            obtain ⟨t2, Ht2⟩ : ∃ t, Hid (decide ((j1 : Int) ∈ ls.getD i0 []) = t) := ⟨_, rfl⟩
            have HC2 : Hid (∀ W, Below w.heap.size w W → Calls Tryz.prog 48 #[.slice a2 m2 c2, .int .i64 (j1 : Int)] W fun e w' => e = .returned (.bool t2) ∧ w' = W) := fun W hW => Contains_is _ _ _ _ _ _ t2 (HS02.out W hW) HM2.out Ht2
            have Hm2 : Hid (mmb (row ls i0) j = if t2 = true then 1 else 0) := by
              show _ = _
              unfold mmb
              have e1 : ((j : Int) + 1 ∈ row ls i0) ↔ t2 = true := by
                rw [← Ht2.out, decide_eq_true_eq, Hj1.out]
                exact Iff.rfl
              by_cases h : t2 = true
              · rw [if_pos (e1.2 h), if_pos h]
              · rw [if_neg (fun q => h (e1.1 q)), if_neg h]
            have HO : Hid (otr ls i j = (if t1 = true then 1 else 0) - (if t2 = true then 1 else 0)) := by
              show _ = _
              unfold otr
              rw [if_neg hi0, Hm1.out, show i - 1 = i0 by have := Hi0.out; omega, Hm2.out]
            have HBs : Hid (∀ v, Below w.heap.size w (wr.setCell ⟨X, j, none⟩ v)) := fun v => HBw.out.setCell (p := ⟨X, j, none⟩) (by rw [HX2.out]; exact HB.out.size) _
            have hc2 := HC02.out wr HBw.out
            have HSt2 : Hid (∀ y : Int, y = otr ls i j → Roz ((wr.setCell ⟨X, j, none⟩ (.int .i64 1)).setCell ⟨X, j, none⟩ (.int .i64 y)) X n fun b => if b < j + 1 then otr ls i b else 0) := fun y hy => by
              refine ((HR.out.set j 1 rfl).set j y rfl).congr (fun b _ => ?_)
              by_cases e : b = j
              · subst e; rw [if_pos rfl, if_pos (by omega), hy]
              · rw [if_neg e, if_neg e]
                by_cases h : b < j
                · rw [if_pos h, if_pos (by omega)]
                · rw [if_neg h, if_neg (by omega)]
            clear hi0 HS01 HC01
            cases t1 with
            | true =>
              have hc2s := HC02.out _ (HBs.out (.int .i64 1))
              have HC2s := hid_w (HC2.out _ (HBs.out (.int .i64 1)))
              have cX1 : (wr.setCell ⟨X, j, none⟩ (.int .i64 1)).cell? ⟨X, j, none⟩ = some (.int .i64 1) := by
                have := ((HR.out.set j 1 rfl).cell hjl).1
                rw [if_pos rfl] at this; exact this
              have fX1 : (wr.setCell ⟨X, j, none⟩ (.int .i64 1)).frozen? ⟨X, j, none⟩ = false := ((HR.out.set j 1 rfl).cell hjl).2.1
              cases t2 with
              | true =>
                have HR4 := hid_w (HSt2.out 0 (by rw [HO.out]; rfl))
                have HR5 := hid_w (HSt.out wr rfl 0 (by rw [HO.out]; rfl))
                go_wp2_with (go_at_call 48; first | (refine HC1.out.mono ?_; rintro e wr ⟨rfl, rfl⟩) | (refine HC2s.out.mono ?_; rintro e wq ⟨rfl, rfl⟩))
                go_roundw
                case rel => exact ⟨j + 1, j1 + 1, by omega, by show _ = _; rw [Hj1.out], by go_num, by first | exact HR4 | exact HR5, by first | exact (HBi.out.setCell (p := ⟨X, j, none⟩) (Nat.le_refl _) _).setCell (p := ⟨X, j, none⟩) (Nat.le_refl _) _ | exact HBi.out.setCell (p := ⟨X, j, none⟩) (Nat.le_refl _) _⟩
                case measure => have := Hj1.out; simp [intOf]; omega
              | false =>
                have HR4 := hid_w (HSt.out wr rfl 1 (by rw [HO.out]; rfl))
                go_wp2_with (go_at_call 48; first | (refine HC1.out.mono ?_; rintro e wr ⟨rfl, rfl⟩) | (refine HC2s.out.mono ?_; rintro e wq ⟨rfl, rfl⟩))
                go_roundw
                case rel => exact ⟨j + 1, j1 + 1, by omega, by show _ = _; rw [Hj1.out], by go_num, HR4, HBi.out.setCell (p := ⟨X, j, none⟩) (Nat.le_refl _) _⟩
                case measure => have := Hj1.out; simp [intOf]; omega
            | false =>
              have HC2s := hid_w (HC2.out wr HBw.out)
              cases t2 with
              | true =>
                have HR4 := hid_w (HSt.out wr rfl (-1) (by rw [HO.out]; rfl))
                go_wp2_with (go_at_call 48; first | (refine HC1.out.mono ?_; rintro e wr ⟨rfl, rfl⟩) | (refine HC2s.out.mono ?_; rintro e wr ⟨rfl, rfl⟩))
                go_roundw
                case rel => exact ⟨j + 1, j1 + 1, by omega, by show _ = _; rw [Hj1.out], by go_num, HR4, HBi.out.setCell (p := ⟨X, j, none⟩) (Nat.le_refl _) _⟩
                case measure => have := Hj1.out; simp [intOf]; omega
              | false =>
                have HR4 := hid_w (HNs.out (by rw [HO.out]; rfl))
                go_wp2_with (go_at_call 48; first | (refine HC1.out.mono ?_; rintro e wr ⟨rfl, rfl⟩) | (refine HC2s.out.mono ?_; rintro e wr ⟨rfl, rfl⟩))
                go_roundw
                case rel => exact ⟨j + 1, j1 + 1, by omega, by show _ = _; rw [Hj1.out], by go_num, HR4, HBi⟩
                case measure => have := Hj1.out; simp [intOf]; omega
        · obtain rfl : j = n := by omega
          have hjl' : ¬ (j1 : Int) ≤ (j : Int) := by have := Hj1.out; omega
          have HRe : Hid (Owns wr X (.slice (some ⟨X, 0, none⟩) j j) (tab j (otr ls i))) := HR.out.congr (fun b hb => by rw [if_pos hb])
          have HBj : Hid (Below wj.heap.size wj wr) := by rw [← HX2.out]; exact HBi
          have HV2 : Hid (TblV wr w.heap.size u3 vs ((tz j j (otr ls)).take i)) := HV0.out.same (fun q _ hq => HBj.out.block q hq)
          go_wp2_with (at_builtin; refine append_one elem_row (x := .slice (some ⟨X, 0, none⟩) j j) rfl _ _ rfl rfl rfl rfl HV2.out.own rfl ?c3 ?c4 ?c5 ?_)
          case c3 => have := HLv.out; unfold maxLen; omega
          case c4 => have := HLv.out; omega
          case c5 => exact Nat.le_trans HB.out.size HBj.out.size
          intro v' w3 hO3 hb3 hk3
          have hO3' : w3.ownsRow w.heap.size 36 1 v' (vs ++ [Value.slice (some ⟨X, 0, none⟩) j j]).length (vs ++ [Value.slice (some ⟨X, 0, none⟩) j j]) := by simpa using hO3
          have HT3 : Hid (Tbl w3 w.heap.size v' ((tz j j (otr ls)).take (i + 1))) := by
            show Tbl _ _ _ _
            rw [tz_take hil]
            exact Tbl.push HV0.out HV2.out (by rw [HX2.out]; exact Nat.le_refl _) (by rw [HX2.out]; exact HB.out.size) HRe.out hO3' hk3
          have HB3 : Hid (Below w.heap.size w w3) := (HB.out.trans (HBj.out.mono HB.out.size)).trans hb3
          clear hO3 hO3' hb3 hk3
          go_wp2
          go_roundw
          case rel => exact ⟨i + 1, by omega, by go_num, HT3, HB3⟩
          case measure => simp [intOf]; omega
    · obtain rfl : i = n := by omega
      have HE : Hid (Tbl wr w.heap.size u3 (tz i i (otr ls))) := by have := HT.out; rw [tz_takeAll] at this; exact this
      go_wp2
      go_ret
      exact ⟨_, rfl, HE, HB⟩

end Go.Proofs.YtgcpconlmihilaaGreatDoor
