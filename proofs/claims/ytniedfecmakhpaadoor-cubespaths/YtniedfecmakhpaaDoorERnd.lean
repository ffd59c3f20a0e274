/-
  The contracts of ferref.Round, Across.
-/
import Derived.Test.YtniedfecmakhpaaDoorDLvl
namespace Go.Proofs.YtniedfecmakhpaaDoor
open Go.RowKit

theorem tb_take {r c : Nat} {P : Nat → Nat → Nat} {j : Nat} (hj : j < r) : (tb r c P).take (j + 1) = (tb r c P).take j ++ [tab c fun b => (P j b : Int)] := by
  rw [List.take_succ_eq_append_getElem (by rw [tb_len]; exact hj)]
  simp [tb]
theorem tb_takeAll (r c : Nat) (P : Nat → Nat → Nat) : (tb r c P).take r = tb r c P := List.take_of_length_le (by rw [tb_len]; exact Nat.le_refl _)

def rdq (P : Nat → Nat → Nat) (j i z b : Nat) : Nat := cn i (fun a => b < P a j) + ind (b < z)

set_option maxHeartbeats 4000000 in
theorem Round_at (a : Option Addr) (n cap r c k : Nat) (P : Nat → Nat → Nat) (w : World) (hs : Table w a (tb r c P)) (hn : n = r) (p : Pil r c k P) :
    Calls Tryd.prog 15 #[.slice a n cap, .int .i64 (k : Int)] w fun e w' => ∃ v, e = .returned v ∧ Hid (Tbl w' w.heap.size v (tb c k (trn r P))) ∧ Hid (Below w.heap.size w w') := by
  subst hn
  have HP : Hid (Pil n c k P) := p
  have HS : Hid (Table w a (tb n c P)) := hs
  have r1 := p.r1; have r8 := p.r8; have c1 := p.c1; have c8 := p.c8; have h1 := p.h1; have h8 := p.h8
  clear hs p
  have n0' : (0 : Int) < (n : Int) := by omega
  obtain ⟨b, off, ai0, ci0, rfl, HC0, -⟩ := HS.out.rowB (i := 0) (by omega)
  have HmP : Hid (∀ W, (Instr.makeSlice 33 (.int .i64 (k : Int)) (.int .i64 (k : Int))).run Tryd.prog W = .ok (.slice (some ⟨W.heap.size, 0, none⟩) k k) (W.alloc (.cells (madeCells #[Value.int .i64 0] k) 3))) := fun W =>
        run_make_row' (P := Tryd.prog) 33 3 (.int .i64 0) 8 Tryd.underlying33 (by kernel_rfl) rfl .i64 .i64 k (by omega) (by omega) W
  go_enter Tryd.func15, Tryd.ntmps15
  go_wp2
  go_loopw [5, 6] (fun v q wr => ∃ j : Nat, j ≤ c ∧ q = .int .i64 j ∧ Hid (Tbl wr w.heap.size v ((tb c k (trn n P)).take j)) ∧ Hid (Below w.heap.size w wr)) (fun _ q _ => c - (intOf q).toNat)
  case atStart => exact ⟨0, Nat.zero_le _, rfl, by rw [List.take_zero]; exact Tbl.nil _ _, Below.refl _ _⟩
  case round =>
    obtain ⟨j, hj, rfl, HT, HB⟩ := hrel
    have hc0 := HC0.out wr HB.out
    rw [Nat.add_zero] at hc0
    by_cases hjl : j < c
    · have hjl' : (j : Int) < (c : Int) := by omega
      have hmP := HmP.out
      have HB0 : Hid (Below wr.heap.size wr (wr.alloc (.cells (madeCells #[Value.int .i64 0] k) 3))) := (Below.refl _ _).alloc (Nat.le_refl _) _
      have HR0 : Hid (Row (wr.alloc (.cells (madeCells #[Value.int .i64 0] k) 3)) wr.heap.size k (rdq P j 0 0)) := (row_made (w := wr) (n := k) (by omega)).congr (fun i _ => by
        unfold rdq; rw [ind_neg (by omega)]; rfl)
      obtain ⟨vs, hV⟩ := HT.out
      have HV0 : Hid (TblV wr w.heap.size u5 vs ((tb c k (trn n P)).take j)) := hV
      have HLv : Hid (vs.length = j) := by show _ = _; rw [hV.len, List.length_take, tb_len]; omega
      clear hV HT
      go_wp2_with fail
      clear hmP hc0
      obtain ⟨wj, HWj⟩ : ∃ wj, Hid (wj = wr) := ⟨_, rfl⟩
      obtain ⟨X, HX⟩ : ∃ X, Hid (X = wr.heap.size) := ⟨_, rfl⟩
      rw [← HX.out] at HR0 HB0 ⊢
      rw [← HWj.out] at HB HV0
      have HX2 : Hid (X = wj.heap.size) := by rw [HWj.out]; exact HX
      rw [show Below X wr = Below X wj by rw [HWj.out]] at HB0
      clear HX
      go_loopw [8] (fun q wq => ∃ i : Nat, i ≤ n ∧ q = .int .i64 i ∧ Hid (Row wq X k (rdq P j i 0)) ∧ Hid (Below X wj wq)) (fun q _ => n - (intOf q).toNat)
      case atStart => exact ⟨0, Nat.zero_le _, rfl, HR0, HB0⟩
      case round =>
        clear HR0 HB0
        obtain ⟨i, hi, rfl, HR, HBi⟩ := hrel
        by_cases hil : i < n
        · have hil' : (i : Int) < (n : Int) := by omega
          obtain ⟨b9, off9, ai, ci, e9, HCi, HSi⟩ := HS.out.rowB (i := i) hil
          simp only [Option.some.injEq, Addr.mk.injEq, and_true] at e9
          obtain ⟨rfl, rfl⟩ := e9
          obtain ⟨x, HXx⟩ : ∃ x, Hid (x = P i j) := ⟨_, rfl⟩
          have hx8 : x ≤ k := by rw [HXx.out]; exact HP.out.le i hil j hjl
          have HCx : Hid (∀ W, Below X wj W → W.cell? ⟨b, off + i, none⟩ = some (.slice ai c ci) ∧ ∃ b1 o1, ai = some ⟨b1, o1, none⟩ ∧ W.cell? ⟨b1, o1 + j, none⟩ = some (.int .i64 (x : Int))) := fun W hW => by
            rw [HX2.out] at hW
            have hb := HB.out.trans (hW.mono HB.out.size)
            obtain ⟨b1, o1, q1, q2⟩ := (HSi.out W hb).boxP hjl
            rw [← HXx.out] at q2
            exact ⟨HCi.out W hb, b1, o1, q1, q2⟩
          go_wp2
          go_loopw [9] (fun q wq => ∃ z : Nat, z ≤ x ∧ q = .int .i64 z ∧ Hid (Row wq X k (rdq P j i z)) ∧ Hid (Below X wj wq)) (fun q _ => x - (intOf q).toNat)
          case atStart => exact ⟨0, Nat.zero_le _, rfl, HR, HBi⟩
          case round =>
            clear HR HBi
            obtain ⟨z, hz, rfl, HR, HBi⟩ := hrel
            obtain ⟨hci, b1, o1, hai, hcx⟩ := HCx.out _ HBi.out
            subst hai
            by_cases hzl : z < x
            · have hzl' : (z : Int) < (x : Int) := by omega
              have hzk' : (z : Int) < (k : Int) := by omega
              obtain ⟨cB, fB, hhi⟩ := HR.out.cell (i := z) (by omega)
              obtain ⟨y, HY⟩ : ∃ y, Hid (y = rdq P j i z z) := ⟨_, rfl⟩
              rw [← HY.out] at cB
              have hy : y ≤ 10 := by rw [HY.out]; unfold rdq; have := cn_le i (fun a => z < P a j); have := ind_le (z < z); omega
              have HR3 : Hid (∀ W : World, W.heap = wr.heap → Row (W.setCell ⟨X, z, none⟩ (.int .i64 ((y : Int) + 1))) X k (rdq P j i (z + 1))) := fun W hW => by
                have h2 := HR.out.set z (y + 1) hW
                rw [show ((y + 1 : Nat) : Int) = (y : Int) + 1 by omega] at h2
                refine h2.congr (fun a _ => ?_)
                by_cases e : a = z
                · subst e
                  rw [if_pos rfl, HY.out]; unfold rdq; rw [ind_neg (by omega), ind_pos (by omega)]
                · rw [if_neg e]; unfold rdq; congr 1; exact ind_iff (by omega)
              go_wp2
              go_roundw
              case rel => exact ⟨z + 1, by omega, by go_num, HR3.out _ rfl, HBi.out.setCell (p := ⟨X, z, none⟩) (Nat.le_refl _) _⟩
              case measure => simp [intOf]; omega
            · obtain rfl : z = x := by omega
              have HR4 : Hid (Row wr X k (rdq P j (i + 1) 0)) := HR.out.congr (fun a _ => by
                unfold rdq; rw [cn_succ, ind_neg (p := a < 0) (by omega), Nat.add_zero, HXx.out])
              go_wp2
              go_roundw
              case rel => exact ⟨i + 1, by omega, by go_num, HR4, HBi⟩
              case measure => simp [intOf]; omega
        · obtain rfl : i = n := by omega
          have HRe : Hid (Owns wr X (.slice (some ⟨X, 0, none⟩) k k) (tab k fun b => (trn i P j b : Int))) := HR.out.congr (fun a _ => by unfold rdq trn; rw [ind_neg (by omega), Nat.add_zero])
          have HBj : Hid (Below wj.heap.size wj wr) := by rw [← HX2.out]; exact HBi
          have HV2 : Hid (TblV wr w.heap.size u5 vs ((tb c k (trn i P)).take j)) := HV0.out.same (fun q _ hq => HBj.out.block q hq)
          go_wp2_with (at_builtin; refine append_one elem_row (x := .slice (some ⟨X, 0, none⟩) k k) rfl _ _ rfl rfl rfl rfl HV2.out.own rfl ?c3 ?c4 ?c5 ?_)
          case c3 => have := HLv.out; unfold maxLen; omega
          case c4 => have := HLv.out; omega
          case c5 => exact Nat.le_trans HB.out.size HBj.out.size
          intro v' w3 hO3 hb3 hk3
          have hO3' : w3.ownsRow w.heap.size 33 1 v' (vs ++ [Value.slice (some ⟨X, 0, none⟩) k k]).length (vs ++ [Value.slice (some ⟨X, 0, none⟩) k k]) := by simpa using hO3
          have HT3 : Hid (Tbl w3 w.heap.size v' ((tb c k (trn i P)).take (j + 1))) := by
            show Tbl _ _ _ _
            rw [tb_take hjl]
            exact Tbl.push HV0.out HV2.out (by rw [HX2.out]; exact Nat.le_refl _) (by rw [HX2.out]; exact HB.out.size) HRe.out hO3' hk3
          have HB3 : Hid (Below w.heap.size w w3) := (HB.out.trans (HBj.out.mono HB.out.size)).trans hb3
          clear hO3 hO3' hb3 hk3
          go_wp2
          go_roundw
          case rel => exact ⟨j + 1, by omega, by go_num, HT3, HB3⟩
          case measure => simp [intOf]; omega
    · obtain rfl : j = c := by omega
      have HE : Hid (Tbl wr w.heap.size u5 (tb j k (trn n P))) := by have := HT.out; rw [tb_takeAll] at this; exact this
      go_wp2
      go_ret
      exact ⟨_, rfl, HE, HB⟩

set_option maxHeartbeats 4000000 in
theorem Across_at (a : Option Addr) (n cap r c k : Nat) (P : Nat → Nat → Nat) (w : World) (hs : Table w a (tb r c P)) (hn : n = r) (p : Pil r c k P) :
    Calls Tryd.prog 16 #[.slice a n cap] w fun e w' => ∃ v, e = .returned v ∧ Hid (Tbl w' w.heap.size v (tb c r (mir P))) ∧ Hid (Below w.heap.size w w') := by
  subst hn
  have HS : Hid (Table w a (tb n c P)) := hs
  have r1 := p.r1; have r8 := p.r8; have c1 := p.c1; have c8 := p.c8
  have HPb : Hid (∀ i, i < n → ∀ j, j < c → P i j ≤ 8) := fun i hi j hj => Nat.le_trans (p.le i hi j hj) p.h8
  clear hs p
  have n0' : (0 : Int) < (n : Int) := by omega
  obtain ⟨b, off, ai0, ci0, rfl, HC0, -⟩ := HS.out.rowB (i := 0) (by omega)
  go_enter Tryd.func16, Tryd.ntmps16
  go_wp2
  go_loopw [3, 4] (fun v q wr => ∃ j : Nat, j ≤ c ∧ q = .int .i64 j ∧ Hid (Tbl wr w.heap.size v ((tb c n (mir P)).take j)) ∧ Hid (Below w.heap.size w wr)) (fun _ q _ => c - (intOf q).toNat)
  case atStart => exact ⟨0, Nat.zero_le _, rfl, by rw [List.take_zero]; exact Tbl.nil _ _, Below.refl _ _⟩
  case round =>
    obtain ⟨j, hj, rfl, HT, HB⟩ := hrel
    have hc0 := HC0.out wr HB.out
    rw [Nat.add_zero] at hc0
    by_cases hjl : j < c
    · have hjl' : (j : Int) < (c : Int) := by omega
      obtain ⟨vs, hV⟩ := HT.out
      have HV0 : Hid (TblV wr w.heap.size u3 vs ((tb c n (mir P)).take j)) := hV
      have HLv : Hid (vs.length = j) := by show _ = _; rw [hV.len, List.length_take, tb_len]; omega
      clear hV HT
      go_wp2_with fail
      clear hc0
      obtain ⟨wj, HWj⟩ : ∃ wj, Hid (wj = wr) := ⟨_, rfl⟩
      rw [← HWj.out] at HB HV0
      have HB0 : Hid (Below wj.heap.size wj wr) := by rw [HWj.out]; exact Below.refl _ _
      go_loopw [5, 6] (fun v q wq => ∃ i : Nat, i ≤ n ∧ q = .int .i64 i ∧ Hid (Owns wq wj.heap.size v (tab i fun i => (mir P j i : Int))) ∧ Hid (Below wj.heap.size wj wq)) (fun _ q _ => n - (intOf q).toNat)
      case atStart => exact ⟨0, Nat.zero_le _, rfl, World.ownsRow_nil _ _ _ _, HB0⟩
      case round =>
        clear HB0 HWj
        obtain ⟨i, hi, rfl, HR, HBi⟩ := hrel
        by_cases hil : i < n
        · have hil' : (i : Int) < (n : Int) := by omega
          obtain ⟨b9, off9, ai, ci, e9, HCi, HSi⟩ := HS.out.rowB (i := i) hil
          simp only [Option.some.injEq, Addr.mk.injEq, and_true] at e9
          obtain ⟨rfl, rfl⟩ := e9
          have HBw : Hid (Below w.heap.size w wr) := HB.out.trans (HBi.out.mono HB.out.size)
          have hci := HCi.out _ HBw.out
          obtain ⟨b1, o1, hai, hcx⟩ := (HSi.out _ HBw.out).boxP hjl
          subst hai
          obtain ⟨x, HXx⟩ : ∃ x, Hid (x = P i j) := ⟨_, rfl⟩
          rw [← HXx.out] at hcx
          have hjg : (c : Int) > (j : Int) := by omega
          go_wp2_with (at_builtin; refine append_int_at (N := wr.heap.size) (x := (x : Int)) rfl _ _ rfl rfl rfl rfl HR.out ?c1 ?c2 ?_)
          case c1 => rw [tab_length]; omega
          case c2 => exact HBi.out.size
          intro v' w3 hO3 hb3 _
          have HO3 : Hid (Owns w3 wj.heap.size v' (tab (i + 1) fun i => (mir P j i : Int))) := by
            show Owns _ _ _ _
            rw [tab_succ]; rw [HXx.out] at hO3; exact hO3
          have HB3 : Hid (Below wj.heap.size wj w3) := HBi.out.trans hb3
          clear hO3 hb3
          go_wp2
          go_roundw
          case rel => exact ⟨i + 1, by omega, by go_num, HO3, HB3⟩
          case measure => simp [intOf]; omega
        · obtain rfl : i = n := by omega
          obtain ⟨au, cu, hsu⟩ := HR.out.shape
          rw [tab_length] at hsu
          subst hsu
          have HV2 : Hid (TblV wr w.heap.size u3 vs ((tb c i (mir P)).take j)) := HV0.out.same (fun q _ hq => HBi.out.block q hq)
          go_wp2_with (at_builtin; refine append_one elem_row (x := .slice au i cu) rfl _ _ rfl rfl rfl rfl HV2.out.own rfl ?c3 ?c4 ?c5 ?_)
          case c3 => have := HLv.out; unfold maxLen; omega
          case c4 => have := HLv.out; omega
          case c5 => exact Nat.le_trans HB.out.size HBi.out.size
          intro v' w3 hO3 hb3 hk3
          have hO3' : w3.ownsRow w.heap.size 33 1 v' (vs ++ [Value.slice au i cu]).length (vs ++ [Value.slice au i cu]) := by simpa using hO3
          have HT3 : Hid (Tbl w3 w.heap.size v' ((tb c i (mir P)).take (j + 1))) := by
            show Tbl _ _ _ _
            rw [tb_take hjl]
            exact Tbl.push HV0.out HV2.out (Nat.le_refl _) HB.out.size HR.out hO3' hk3
          have HB3 : Hid (Below w.heap.size w w3) := (HB.out.trans (HBi.out.mono HB.out.size)).trans hb3
          clear hO3 hO3' hb3 hk3
          go_wp2
          go_roundw
          case rel => exact ⟨j + 1, by omega, by go_num, HT3, HB3⟩
          case measure => simp [intOf]; omega
    · obtain rfl : j = c := by omega
      have HE : Hid (Tbl wr w.heap.size u3 (tb j n (mir P))) := by have := HT.out; rw [tb_takeAll] at this; exact this
      go_wp2
      go_ret
      exact ⟨_, rfl, HE, HB⟩

end Go.Proofs.YtniedfecmakhpaaDoor
