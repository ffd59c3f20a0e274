/-
  The contracts of cubes.Turned, Mirrored, Rest, Volume.
-/
import Derived.Test.YtpdlhnniibjfaaiDoorDChc
namespace Go.Proofs.YtpdlhnniibjfaaiDoor
open Go.RowKit

theorem Check_yes (a : Option Addr) (n cap r c k : Nat) (P : Nat → Nat → Nat) (w : World) (hs : Table w a (tb r c P)) (hn : n = r) (p : Pil r c k P) :
    Calls Tryd.prog 24 #[.slice a n cap, .int .i64 (k : Int)] w fun e w' => e = .returned (.int .i64 0) ∧ Hid (Below w.heap.size w w') := by
  have := Check_at a n cap (tb r c P) k w (by have := p.h8; omega) hs (by rw [tb_len]; exact hn) (by rw [tb_len]; have := p.r8; omega)
  rw [pilC_yes (pil_list p)] at this
  exact this
theorem Check_no (a : Option Addr) (n cap : Nat) (ls : List (List Int)) (h : Int) (w : World) (hh : -9223372036854775808 ≤ h ∧ h ≤ 9223372036854775807) (hs : Table w a ls) (hn : n = ls.length) (hl : ls.length ≤ 17592186044416) (p : ¬ PileL ls h) :
    Calls Tryd.prog 24 #[.slice a n cap, .int .i64 h] w fun e w' => e = .returned (.int .i64 1) ∧ Hid (Below w.heap.size w w') := by
  have := Check_at a n cap ls h w hh hs hn hl
  rw [pilC_no p] at this
  exact this

/-- a row of a pile that came in -/
theorem Table.rowP {w : World} {a : Option Addr} {r c : Nat} {P : Nat → Nat → Nat} (h : Table w a (tb r c P)) {i : Nat} (hi : i < r) :
    ∃ b off ai ci, a = some ⟨b, off, none⟩ ∧ w.cell? ⟨b, off + i, none⟩ = some (.slice ai c ci) ∧ Hid (Shows w ai (tab c fun j => (P i j : Int))) := by
  obtain ⟨b, off, ai, ci, h1, _, h3, h4, _⟩ := h i (by rw [tb_len]; exact hi)
  rw [tb_get hi] at h3 h4
  rw [tab_length] at h3
  exact ⟨b, off, ai, ci, h1, h3, h4⟩
theorem Table.rowB {w : World} {a : Option Addr} {r c : Nat} {P : Nat → Nat → Nat} (h : Table w a (tb r c P)) {i : Nat} (hi : i < r) :
    ∃ b off ai ci, a = some ⟨b, off, none⟩ ∧ Hid (∀ W, Below w.heap.size w W → W.cell? ⟨b, off + i, none⟩ = some (.slice ai c ci)) ∧ Hid (∀ W, Below w.heap.size w W → Shows W ai (tab c fun j => (P i j : Int))) := by
  obtain ⟨b, off, ai, ci, h1, h2, h3, h4, _⟩ := h i (by rw [tb_len]; exact hi)
  rw [tb_get hi] at h3 h4
  rw [tab_length] at h3
  exact ⟨b, off, ai, ci, h1, fun W hW => (hW.cell (p := ⟨b, off + i, none⟩) h2).trans h3, fun W hW => h4.below hW⟩
theorem Shows.boxP {w : World} {a : Option Addr} {c : Nat} {f : Nat → Nat} (h : Shows w a (tab c fun j => (f j : Int))) {j : Nat} (hj : j < c) :
    ∃ b off, a = some ⟨b, off, none⟩ ∧ w.cell? ⟨b, off + j, none⟩ = some (.int .i64 (f j : Int)) := by
  obtain ⟨b, o, z, ha, HZ, _, _, hc⟩ := h.elem (k := j) (by rw [tab_length]; exact hj)
  have := HZ.out
  rw [tab_getD _ _ _ hj] at this
  subst this
  exact ⟨b, o, ha, hc⟩

def tq (P : Nat → Nat → Nat) (i j z a b : Nat) : Nat := cn i (fun k => b < P k a) + ind ((a < j ∧ b < P i a) ∨ (a = j ∧ b < z))
theorem tq_start (P : Nat → Nat → Nat) (a b : Nat) : tq P 0 0 0 a b = 0 := by
  unfold tq; rw [ind_neg (by omega)]; rfl
theorem tq_z {P : Nat → Nat → Nat} {i j z : Nat} (a b : Nat) : upd (tq P i j z) j z (tq P i j z j z + 1) a b = tq P i j (z + 1) a b := by
  unfold upd
  by_cases h : a = j ∧ b = z
  · obtain ⟨rfl, rfl⟩ := h
    rw [if_pos ⟨rfl, rfl⟩]
    unfold tq
    rw [ind_neg (by omega), ind_pos (by omega)]
  · rw [if_neg h]
    unfold tq
    congr 1
    exact ind_iff (by omega)
theorem tq_j {P : Nat → Nat → Nat} {i j : Nat} (a b : Nat) : tq P i j (P i j) a b = tq P i (j + 1) 0 a b := by
  unfold tq
  congr 1
  refine ind_iff ?_
  by_cases e : a = j
  · subst e; omega
  · omega
theorem tq_i {P : Nat → Nat → Nat} {i c : Nat} (a b : Nat) (ha : a < c) : tq P i c 0 a b = tq P (i + 1) 0 0 a b := by
  unfold tq
  rw [cn_succ, ind_neg (p := (a < 0 ∧ b < P (i + 1) a) ∨ (a = 0 ∧ b < 0)) (by omega), Nat.add_zero]
  congr 1
  exact ind_iff (by omega)
theorem tq_end {P : Nat → Nat → Nat} {r : Nat} (a b : Nat) : tq P r 0 0 a b = trn r P a b := by
  unfold tq trn
  rw [ind_neg (by omega), Nat.add_zero]
theorem tq_le (P : Nat → Nat → Nat) (i j z a b : Nat) : tq P i j z a b ≤ i + 1 := by
  unfold tq; have := cn_le i (fun k => b < P k a); have := ind_le ((a < j ∧ b < P i a) ∨ (a = j ∧ b < z)); omega

set_option maxHeartbeats 2000000 in
theorem Turned_ok (a : Option Addr) (n cap r c k : Nat) (P : Nat → Nat → Nat) (w : World) (hs : Table w a (tb r c P)) (hn : n = r) (p : Pil r c k P) :
    Calls Tryd.prog 6 #[.slice a n cap, .int .i64 (k : Int)] w fun e w' => ∃ v, e = .returned (.tuple #[v, .int .i64 0]) ∧ Hid (Tbl w' w.heap.size v (tb c k (trn r P))) ∧ Hid (Below w.heap.size w w') := by
  subst hn
  have HP : Hid (Pil n c k P) := p
  have HS : Hid (Table w a (tb n c P)) := hs
  have r1 := p.r1; have r8 := p.r8; have c1 := p.c1; have c8 := p.c8; have h1 := p.h1; have h8 := p.h8
  have HC : Hid (Calls Tryd.prog 24 #[.slice a n cap, .int .i64 (k : Int)] w fun e w' => e = .returned (.int .i64 0) ∧ Hid (Below w.heap.size w w')) := Check_yes a n cap n c k P w hs rfl p
  clear hs p
  have n0' : (0 : Int) < (n : Int) := by omega
  obtain ⟨b, off, ai, ci, rfl, -, -⟩ := HS.out.rowP (i := 0) (by omega)
  go_enter Tryd.func6, Tryd.ntmps6
  go_wp2_with fail
  refine HC.out.mono ?_
  rintro e w1 ⟨rfl, HB1⟩
  clear HC
  obtain ⟨b9, off9, ai0, ci0, e9, hc0, -⟩ := (HS.out.below HB1.out).rowP (i := 0) (by omega)
  simp only [Option.some.injEq, Addr.mk.injEq, and_true] at e9
  obtain ⟨rfl, rfl⟩ := e9
  rw [Nat.add_zero] at hc0
  go_wp2_with fail
  refine (empty_at c k w1 c1 (by omega) (by omega)).mono ?_
  rintro e w2 ⟨gs, rfl, HR, HB2⟩
  clear hc0
  obtain ⟨R, HRe⟩ : ∃ R, Hid (R = w1.heap.size) := ⟨_, rfl⟩
  have HR2 : Hid (Rec w2 R R c k gs (tq P 0 0 0)) := by rw [HRe.out]; exact HR.out.congr (fun i _ j _ => (tq_start P i j).symm)
  have HBw : Hid (Below w.heap.size w w2) := HB1.out.trans (HB2.out.mono HB1.out.size)
  have HRw : Hid (w.heap.size ≤ R) := by rw [HRe.out]; exact HB1.out.size
  rw [← HRe.out]
  clear HR HB2 HB1 HRe
  go_wp2
  go_loopw [27] (fun q wr => ∃ i : Nat, i ≤ n ∧ q = .int .i64 i ∧ Hid (Rec wr R R c k gs (tq P i 0 0)) ∧ Hid (Below w.heap.size w wr)) (fun q _ => n - (intOf q).toNat)
  case atStart => exact ⟨0, Nat.zero_le _, rfl, HR2, HBw⟩
  case round =>
    clear HR2 HBw
    obtain ⟨i, hi, rfl, HR, HB⟩ := hrel
    by_cases hil : i < n
    · have hil' : (i : Int) < (n : Int) := by omega
      obtain ⟨b9, off9, ai, ci, e9, HCi, HSi⟩ := HS.out.rowB (i := i) hil
      simp only [Option.some.injEq, Addr.mk.injEq, and_true] at e9
      obtain ⟨rfl, rfl⟩ := e9
      have hc := HCi.out wr HB.out
      go_wp2
      clear hc
      go_loopw [33] (fun q wr => ∃ j : Nat, j ≤ c ∧ q = .int .i64 j ∧ Hid (Rec wr R R c k gs (tq P i j 0)) ∧ Hid (Below w.heap.size w wr)) (fun q _ => c - (intOf q).toNat)
      case atStart => exact ⟨0, Nat.zero_le _, rfl, HR, HB⟩
      case round =>
        clear HR HB
        obtain ⟨j, hj, rfl, HR, HB⟩ := hrel
        by_cases hjl : j < c
        · have hjl' : (j : Int) < (c : Int) := by omega
          obtain ⟨b1, o1, ha, hcz⟩ := (HSi.out wr HB.out).boxP hjl
          subst ha
          obtain ⟨x, HX⟩ : ∃ x, Hid (x = P i j) := ⟨_, rfl⟩
          rw [← HX.out] at hcz
          have hx8 : x ≤ k := by rw [HX.out]; exact HP.out.le i hil j hjl
          go_wp2
          clear hcz
          go_loopw [39] (fun q wr => ∃ z : Nat, z ≤ x ∧ q = .int .i64 z ∧ Hid (Rec wr R R c k gs (tq P i j z)) ∧ Hid (Below w.heap.size w wr)) (fun q _ => x - (intOf q).toNat)
          case atStart => exact ⟨0, Nat.zero_le _, rfl, HR, HB⟩
          case round =>
            clear HR HB
            obtain ⟨z, hz, rfl, HR, HB⟩ := hrel
            by_cases hzl : z < x
            · have hzl' : (z : Int) < (x : Int) := by omega
              have hzk' : (z : Int) < (k : Int) := by omega
              have cR := HR.out.head (i := j) hjl
              obtain ⟨cB, fB, hlo, hhi⟩ := HR.out.box (i := j) (j := z) hjl (by omega)
              obtain ⟨y, HY⟩ : ∃ y, Hid (y = tq P i j z j z) := ⟨_, rfl⟩
              rw [← HY.out] at cB
              have hy : y ≤ 10 := by rw [HY.out]; have := tq_le P i j z j z; omega
              have HR3 : Hid (∀ W : World, W.heap = wr.heap → Rec (W.setCell ⟨gs j, z, none⟩ (.int .i64 ((y : Int) + 1))) R R c k gs (tq P i j (z + 1))) := fun W hW => by
                have h2 := HR.out.set (j := z) hjl (y + 1) hW
                rw [show ((y + 1 : Nat) : Int) = (y : Int) + 1 by omega] at h2
                refine h2.congr (fun a _ b _ => ?_)
                rw [HY.out]; exact tq_z a b
              have HQw : Hid (w.heap.size ≤ gs j) := by have := HRw.out; show _ ≤ _; omega
              obtain ⟨G, HG⟩ : ∃ G, Hid (G = gs j) := ⟨_, rfl⟩
              rw [← HG.out] at cR cB fB HR3 HQw hlo hhi
              go_wp2
              go_roundw
              case rel => exact ⟨z + 1, by omega, by go_num, HR3.out _ rfl, HB.out.setCell (p := ⟨G, z, none⟩) HQw.out _⟩
              case measure => simp [intOf]; omega
            · obtain rfl : z = x := by omega
              have HR4 : Hid (Rec wr R R c k gs (tq P i (j + 1) 0)) := HR.out.congr (fun a _ b _ => by rw [HX.out]; exact tq_j a b)
              go_wp2
              go_roundw
              case rel => exact ⟨j + 1, by omega, by go_num, HR4, HB⟩
              case measure => simp [intOf]; omega
        · obtain rfl : j = c := by omega
          have HR4 : Hid (Rec wr R R j k gs (tq P (i + 1) 0 0)) := HR.out.congr (fun a ha b _ => tq_i a b ha)
          go_wp2
          go_roundw
          case rel => exact ⟨i + 1, by omega, by go_num, HR4, HB⟩
          case measure => simp [intOf]; omega
    · obtain rfl : i = n := by omega
      have HT : Hid (Tbl wr w.heap.size (.slice (some ⟨R, 0, none⟩) c c) (tb c k (trn i P))) := (HR.out.congr (fun a _ b _ => tq_end a b)).tbl.mono HRw.out
      go_wp2
      go_ret2
      exact ⟨_, rfl, HT, HB⟩

def mq (P : Nat → Nat → Nat) (i j a b : Nat) : Nat := if b < i ∨ (b = i ∧ a < j) then P b a else 0
theorem mq_j {P : Nat → Nat → Nat} {i j : Nat} (a b : Nat) : upd (mq P i j) j i (P i j) a b = mq P i (j + 1) a b := by
  unfold upd mq
  by_cases h : a = j ∧ b = i
  · obtain ⟨rfl, rfl⟩ := h
    rw [if_pos ⟨rfl, rfl⟩, if_pos (by omega)]
  · rw [if_neg h]
    by_cases h2 : b < i ∨ (b = i ∧ a < j)
    · rw [if_pos h2, if_pos (by omega)]
    · rw [if_neg h2, if_neg (by omega)]
theorem mq_i {P : Nat → Nat → Nat} {i c : Nat} (a b : Nat) (ha : a < c) : mq P i c a b = mq P (i + 1) 0 a b := by
  unfold mq
  by_cases h2 : b < i ∨ (b = i ∧ a < c)
  · rw [if_pos h2, if_pos (by omega)]
  · rw [if_neg h2, if_neg (by omega)]
theorem mq_start (P : Nat → Nat → Nat) (a b : Nat) : mq P 0 0 a b = 0 := if_neg (by omega)
theorem mq_end {P : Nat → Nat → Nat} {r : Nat} (a b : Nat) (hb : b < r) : mq P r 0 a b = mir P a b := if_pos (Or.inl hb)

set_option maxHeartbeats 2000000 in
theorem Mirrored_ok (a : Option Addr) (n cap r c k : Nat) (P : Nat → Nat → Nat) (w : World) (hs : Table w a (tb r c P)) (hn : n = r) (p : Pil r c k P) :
    Calls Tryd.prog 7 #[.slice a n cap, .int .i64 (k : Int)] w fun e w' => ∃ v, e = .returned (.tuple #[v, .int .i64 0]) ∧ Hid (Tbl w' w.heap.size v (tb c r (mir P))) ∧ Hid (Below w.heap.size w w') := by
  subst hn
  have HP : Hid (Pil n c k P) := p
  have HS : Hid (Table w a (tb n c P)) := hs
  have r1 := p.r1; have r8 := p.r8; have c1 := p.c1; have c8 := p.c8; have h1 := p.h1; have h8 := p.h8
  have HC : Hid (Calls Tryd.prog 24 #[.slice a n cap, .int .i64 (k : Int)] w fun e w' => e = .returned (.int .i64 0) ∧ Hid (Below w.heap.size w w')) := Check_yes a n cap n c k P w hs rfl p
  clear hs p
  have n0' : (0 : Int) < (n : Int) := by omega
  obtain ⟨b, off, ai, ci, rfl, -, -⟩ := HS.out.rowP (i := 0) (by omega)
  go_enter Tryd.func7, Tryd.ntmps7
  go_wp2_with fail
  refine HC.out.mono ?_
  rintro e w1 ⟨rfl, HB1⟩
  clear HC
  obtain ⟨b9, off9, ai0, ci0, e9, hc0, -⟩ := (HS.out.below HB1.out).rowP (i := 0) (by omega)
  simp only [Option.some.injEq, Addr.mk.injEq, and_true] at e9
  obtain ⟨rfl, rfl⟩ := e9
  rw [Nat.add_zero] at hc0
  go_wp2_with fail
  refine (empty_at c n w1 c1 (by omega) (by omega)).mono ?_
  rintro e w2 ⟨gs, rfl, HR, HB2⟩
  clear hc0
  obtain ⟨R, HRe⟩ : ∃ R, Hid (R = w1.heap.size) := ⟨_, rfl⟩
  have HR2 : Hid (Rec w2 R R c n gs (mq P 0 0)) := by rw [HRe.out]; exact HR.out.congr (fun i _ j _ => (mq_start P i j).symm)
  have HBw : Hid (Below w.heap.size w w2) := HB1.out.trans (HB2.out.mono HB1.out.size)
  have HRw : Hid (w.heap.size ≤ R) := by rw [HRe.out]; exact HB1.out.size
  rw [← HRe.out]
  clear HR HB2 HB1 HRe
  go_wp2
  go_loopw [27] (fun q wr => ∃ i : Nat, i ≤ n ∧ q = .int .i64 i ∧ Hid (Rec wr R R c n gs (mq P i 0)) ∧ Hid (Below w.heap.size w wr)) (fun q _ => n - (intOf q).toNat)
  case atStart => exact ⟨0, Nat.zero_le _, rfl, HR2, HBw⟩
  case round =>
    clear HR2 HBw
    obtain ⟨i, hi, rfl, HR, HB⟩ := hrel
    by_cases hil : i < n
    · have hil' : (i : Int) < (n : Int) := by omega
      obtain ⟨b9, off9, ai, ci, e9, HCi, HSi⟩ := HS.out.rowB (i := i) hil
      simp only [Option.some.injEq, Addr.mk.injEq, and_true] at e9
      obtain ⟨rfl, rfl⟩ := e9
      have hc := HCi.out wr HB.out
      go_wp2
      clear hc
      go_loopw [34] (fun q wr => ∃ j : Nat, j ≤ c ∧ q = .int .i64 j ∧ Hid (Rec wr R R c n gs (mq P i j)) ∧ Hid (Below w.heap.size w wr)) (fun q _ => c - (intOf q).toNat)
      case atStart => exact ⟨0, Nat.zero_le _, rfl, HR, HB⟩
      case round =>
        clear HR HB
        obtain ⟨j, hj, rfl, HR, HB⟩ := hrel
        by_cases hjl : j < c
        · have hjl' : (j : Int) < (c : Int) := by omega
          obtain ⟨b1, o1, ha, hcz⟩ := (HSi.out wr HB.out).boxP hjl
          subst ha
          obtain ⟨x, HX⟩ : ∃ x, Hid (x = P i j) := ⟨_, rfl⟩
          rw [← HX.out] at hcz
          have cR := HR.out.head (i := j) hjl
          obtain ⟨cB, fB, hlo, hhi⟩ := HR.out.box (i := j) (j := i) hjl hil
          have HR3 : Hid (∀ W : World, W.heap = wr.heap → Rec (W.setCell ⟨gs j, i, none⟩ (.int .i64 (x : Int))) R R c n gs (mq P i (j + 1))) := fun W hW => by
            refine (HR.out.set (j := i) hjl x hW).congr (fun a _ b _ => ?_)
            rw [HX.out]; exact mq_j a b
          have HQw : Hid (w.heap.size ≤ gs j) := by have := HRw.out; show _ ≤ _; omega
          obtain ⟨G, HG⟩ : ∃ G, Hid (G = gs j) := ⟨_, rfl⟩
          rw [← HG.out] at cR cB fB HR3 HQw hlo hhi
          go_wp2
          go_roundw
          case rel => exact ⟨j + 1, by omega, by go_num, HR3.out _ rfl, HB.out.setCell (p := ⟨G, i, none⟩) HQw.out _⟩
          case measure => simp [intOf]; omega
        · obtain rfl : j = c := by omega
          have HR4 : Hid (Rec wr R R j n gs (mq P (i + 1) 0)) := HR.out.congr (fun a ha b _ => mq_i a b ha)
          go_wp2
          go_roundw
          case rel => exact ⟨i + 1, by omega, by go_num, HR4, HB⟩
          case measure => simp [intOf]; omega
    · obtain rfl : i = n := by omega
      have HT : Hid (Tbl wr w.heap.size (.slice (some ⟨R, 0, none⟩) c c) (tb c i (mir P))) := (HR.out.congr (fun a _ b hb => mq_end a b hb)).tbl.mono HRw.out
      go_wp2
      go_ret2
      exact ⟨_, rfl, HT, HB⟩

def rq (r c h : Nat) (P : Nat → Nat → Nat) (i j a b : Nat) : Nat := if r - 1 - a < i ∨ (r - 1 - a = i ∧ c - 1 - b < j) then rst r c h P a b else 0
theorem rq_j {r c h : Nat} {P : Nat → Nat → Nat} {i j : Nat} (hi : i < r) (hj : j < c) (a b : Nat) (ha : a < r) (hb : b < c) : upd (rq r c h P i j) (r - 1 - i) (c - 1 - j) (h - P i j) a b = rq r c h P i (j + 1) a b := by
  unfold upd rq
  by_cases hh : a = r - 1 - i ∧ b = c - 1 - j
  · obtain ⟨rfl, rfl⟩ := hh
    rw [if_pos ⟨rfl, rfl⟩, if_pos (by omega)]
    unfold rst
    rw [show r - 1 - (r - 1 - i) = i by omega, show c - 1 - (c - 1 - j) = j by omega]
  · rw [if_neg hh]
    by_cases h2 : r - 1 - a < i ∨ (r - 1 - a = i ∧ c - 1 - b < j)
    · rw [if_pos h2, if_pos (by omega)]
    · rw [if_neg h2, if_neg (by omega)]
theorem rq_i {r c h : Nat} {P : Nat → Nat → Nat} {i : Nat} (a b : Nat) (hb : b < c) : rq r c h P i c a b = rq r c h P (i + 1) 0 a b := by
  unfold rq
  by_cases h2 : r - 1 - a < i ∨ (r - 1 - a = i ∧ c - 1 - b < c)
  · rw [if_pos h2, if_pos (by omega)]
  · rw [if_neg h2, if_neg (by omega)]
theorem rq_start (r c h : Nat) (P : Nat → Nat → Nat) (a b : Nat) : rq r c h P 0 0 a b = 0 := if_neg (by omega)
theorem rq_end {r c h : Nat} {P : Nat → Nat → Nat} (a b : Nat) (ha : a < r) : rq r c h P r 0 a b = rst r c h P a b := if_pos (Or.inl (by omega))

set_option maxHeartbeats 2000000 in
theorem Rest_ok (a : Option Addr) (n cap r c k : Nat) (P : Nat → Nat → Nat) (w : World) (hs : Table w a (tb r c P)) (hn : n = r) (p : Pil r c k P) :
    Calls Tryd.prog 8 #[.slice a n cap, .int .i64 (k : Int)] w fun e w' => ∃ v, e = .returned (.tuple #[v, .int .i64 0]) ∧ Hid (Tbl w' w.heap.size v (tb r c (rst r c k P))) ∧ Hid (Below w.heap.size w w') := by
  subst hn
  have HP : Hid (Pil n c k P) := p
  have HS : Hid (Table w a (tb n c P)) := hs
  have r1 := p.r1; have r8 := p.r8; have c1 := p.c1; have c8 := p.c8; have h1 := p.h1; have h8 := p.h8
  have HC : Hid (Calls Tryd.prog 24 #[.slice a n cap, .int .i64 (k : Int)] w fun e w' => e = .returned (.int .i64 0) ∧ Hid (Below w.heap.size w w')) := Check_yes a n cap n c k P w hs rfl p
  clear hs p
  have n0' : (0 : Int) < (n : Int) := by omega
  obtain ⟨b, off, ai, ci, rfl, -, -⟩ := HS.out.rowP (i := 0) (by omega)
  go_enter Tryd.func8, Tryd.ntmps8
  go_wp2_with fail
  refine HC.out.mono ?_
  rintro e w1 ⟨rfl, HB1⟩
  clear HC
  obtain ⟨b9, off9, ai0, ci0, e9, hc0, -⟩ := (HS.out.below HB1.out).rowP (i := 0) (by omega)
  simp only [Option.some.injEq, Addr.mk.injEq, and_true] at e9
  obtain ⟨rfl, rfl⟩ := e9
  rw [Nat.add_zero] at hc0
  go_wp2_with fail
  refine (empty_at n c w1 r1 (by omega) (by omega)).mono ?_
  rintro e w2 ⟨gs, rfl, HR, HB2⟩
  clear hc0
  obtain ⟨R, HRe⟩ : ∃ R, Hid (R = w1.heap.size) := ⟨_, rfl⟩
  have HR2 : Hid (Rec w2 R R n c gs (rq n c k P 0 0)) := by rw [HRe.out]; exact HR.out.congr (fun i _ j _ => (rq_start _ _ _ P i j).symm)
  have HBw : Hid (Below w.heap.size w w2) := HB1.out.trans (HB2.out.mono HB1.out.size)
  have HRw : Hid (w.heap.size ≤ R) := by rw [HRe.out]; exact HB1.out.size
  rw [← HRe.out]
  clear HR HB2 HB1 HRe
  go_wp2
  go_loopw [27] (fun q wr => ∃ i : Nat, i ≤ n ∧ q = .int .i64 i ∧ Hid (Rec wr R R n c gs (rq n c k P i 0)) ∧ Hid (Below w.heap.size w wr)) (fun q _ => n - (intOf q).toNat)
  case atStart => exact ⟨0, Nat.zero_le _, rfl, HR2, HBw⟩
  case round =>
    clear HR2 HBw
    obtain ⟨i, hi, rfl, HR, HB⟩ := hrel
    by_cases hil : i < n
    · have hil' : (i : Int) < (n : Int) := by omega
      obtain ⟨b9, off9, ai, ci, e9, HCi, HSi⟩ := HS.out.rowB (i := i) hil
      simp only [Option.some.injEq, Addr.mk.injEq, and_true] at e9
      obtain ⟨rfl, rfl⟩ := e9
      have hc := HCi.out wr HB.out
      go_wp2
      clear hc
      go_loopw [34] (fun q wr => ∃ j : Nat, j ≤ c ∧ q = .int .i64 j ∧ Hid (Rec wr R R n c gs (rq n c k P i j)) ∧ Hid (Below w.heap.size w wr)) (fun q _ => c - (intOf q).toNat)
      case atStart => exact ⟨0, Nat.zero_le _, rfl, HR, HB⟩
      case round =>
        clear HR HB
        obtain ⟨j, hj, rfl, HR, HB⟩ := hrel
        by_cases hjl : j < c
        · have hjl' : (j : Int) < (c : Int) := by omega
          obtain ⟨b1, o1, ha, hcz⟩ := (HSi.out wr HB.out).boxP hjl
          subst ha
          obtain ⟨x, HX⟩ : ∃ x, Hid (x = P i j) := ⟨_, rfl⟩
          rw [← HX.out] at hcz
          have hx8 : x ≤ k := by rw [HX.out]; exact HP.out.le i hil j hjl
          obtain ⟨i2, HI2⟩ : ∃ i2, Hid (i2 = n - 1 - i) := ⟨_, rfl⟩
          obtain ⟨j2, HJ2⟩ : ∃ j2, Hid (j2 = c - 1 - j) := ⟨_, rfl⟩
          obtain ⟨y, HY⟩ : ∃ y, Hid (y = k - x) := ⟨_, rfl⟩
          have e1 : (n : Int) - 1 - (i : Int) = (i2 : Int) := by have := HI2.out; omega
          have e2 : (c : Int) - 1 - (j : Int) = (j2 : Int) := by have := HJ2.out; omega
          have e3 : (k : Int) - (x : Int) = (y : Int) := by have := HY.out; omega
          have hi2 : i2 < n := by have := HI2.out; omega
          have hj2 : j2 < c := by have := HJ2.out; omega
          have hi2' : (i2 : Int) < (n : Int) := by omega
          have hj2' : (j2 : Int) < (c : Int) := by omega
          have cR := HR.out.head (i := i2) hi2
          obtain ⟨cB, fB, hlo, hhi⟩ := HR.out.box (i := i2) (j := j2) hi2 hj2
          have HR3 : Hid (∀ W : World, W.heap = wr.heap → Rec (W.setCell ⟨gs i2, j2, none⟩ (.int .i64 (y : Int))) R R n c gs (rq n c k P i (j + 1))) := fun W hW => by
            refine (HR.out.set (j := j2) hi2 y hW).congr (fun a ha b hb => ?_)
            rw [HY.out, HX.out, HI2.out, HJ2.out]; exact rq_j hil hjl a b ha hb
          have HQw : Hid (w.heap.size ≤ gs i2) := by have := HRw.out; show _ ≤ _; omega
          obtain ⟨G, HG⟩ : ∃ G, Hid (G = gs i2) := ⟨_, rfl⟩
          rw [← HG.out] at cR cB fB HR3 HQw hlo hhi
          go_wp2
          go_roundw
          case rel => exact ⟨j + 1, by omega, by go_num, HR3.out _ rfl, HB.out.setCell (p := ⟨G, j2, none⟩) HQw.out _⟩
          case measure => simp [intOf]; omega
        · obtain rfl : j = c := by omega
          have HR4 : Hid (Rec wr R R n j gs (rq n j k P (i + 1) 0)) := HR.out.congr (fun a _ b hb => rq_i a b hb)
          go_wp2
          go_roundw
          case rel => exact ⟨i + 1, by omega, by go_num, HR4, HB⟩
          case measure => simp [intOf]; omega
    · obtain rfl : i = n := by omega
      have HT : Hid (Tbl wr w.heap.size (.slice (some ⟨R, 0, none⟩) i i) (tb i c (rst i c k P))) := (HR.out.congr (fun a ha b _ => rq_end a b ha)).tbl.mono HRw.out
      go_wp2
      go_ret2
      exact ⟨_, rfl, HT, HB⟩

end Go.Proofs.YtpdlhnniibjfaaiDoor
