/-
  The law ferkeep.CubesRound.
-/
import Derived.Test.YtniedfecmakhpaaDFrp
import Derived.Test.YtniedfecmakhpaaDPta
namespace Go.Proofs.Ytniedfecmakhpaa
open Go.RowKit

theorem fut_step {w w' : World} {Q : World → Prop} (h : ∀ W, Below w.heap.size w W → Q W) (hb : Below w.heap.size w w') : ∀ W, Below w'.heap.size w' W → Q W := fun W hW => h W (hb.trans (hW.mono hb.size))
theorem tbl_use {w : World} {lo : Nat} {v : Value} {r c B : Nat} {P : Nat → Nat → Nat} (h : Tbl w lo v (tb r c P)) (hc : c ≤ 1000) (hB : B ≤ 1000) (hP : ∀ i, i < r → ∀ j, j < c → P i j ≤ B) :
    ∃ a cap, v = .slice a r cap ∧ Hid (∀ W, Below w.heap.size w W → Table W a (tb r c P)) := by
  obtain ⟨a, n, cap, rfl, hT, hn⟩ := h.table (tb_wf hc hB hP)
  have e : n = r := by rw [hn.out, tb_len]
  subst e
  exact ⟨a, cap, rfl, fun W hW => hT.below hW⟩

/-- literals of one row, and of two -/
theorem lit_one (w : World) (x y : Int) (hx : -9223372036854775808 ≤ x ∧ x ≤ 9223372036854775807) (hy : -9223372036854775808 ≤ y ∧ y ≤ 9223372036854775807) :
    Table ((w.alloc (.cells #[.int .i64 x, .int .i64 y] 3)).alloc (.cells #[.slice (some ⟨w.heap.size, 0, none⟩) 2 2] 26)) (some ⟨w.heap.size + 1, 0, none⟩) [[x, y]] := by
  intro i hi
  obtain rfl : i = 0 := by simp at hi; omega
  have hS := shows_lit w [x, y] _ rfl (by simp) (by simp; omega)
  refine ⟨w.heap.size + 1, 0, some ⟨w.heap.size, 0, none⟩, 2, rfl, by simp, ?_, hS.below ((Below.refl _ _).alloc (Nat.le_refl _) _), fun h => by cases h⟩
  rw [World.cell?_alloc_at _ _ _ _ (by simp)]; rfl
theorem lit_two (w : World) (x y z u : Int) (hx : -9223372036854775808 ≤ x ∧ x ≤ 9223372036854775807) (hy : -9223372036854775808 ≤ y ∧ y ≤ 9223372036854775807) (hz : -9223372036854775808 ≤ z ∧ z ≤ 9223372036854775807) (hu : -9223372036854775808 ≤ u ∧ u ≤ 9223372036854775807) :
    Table (((w.alloc (.cells #[.int .i64 x, .int .i64 y] 3)).alloc (.cells #[.int .i64 z, .int .i64 u] 3)).alloc (.cells #[.slice (some ⟨w.heap.size, 0, none⟩) 2 2, .slice (some ⟨w.heap.size + 1, 0, none⟩) 2 2] 26)) (some ⟨w.heap.size + 2, 0, none⟩) [[x, y], [z, u]] := by
  have hS1 := shows_lit w [x, y] _ rfl (by simp) (by simp; omega)
  have hS2 := shows_lit (w.alloc (.cells #[.int .i64 x, .int .i64 y] 3)) [z, u] _ rfl (by simp) (by simp; omega)
  have hs : (w.alloc (.cells #[.int .i64 x, .int .i64 y] 3)).heap.size = w.heap.size + 1 := by simp
  rw [hs] at hS2
  intro i hi
  have hi2 : i = 0 ∨ i = 1 := by simp at hi; omega
  have b2 : Below ((w.alloc (.cells #[.int .i64 x, .int .i64 y] 3)).alloc (.cells #[.int .i64 z, .int .i64 u] 3)).heap.size ((w.alloc (.cells #[.int .i64 x, .int .i64 y] 3)).alloc (.cells #[.int .i64 z, .int .i64 u] 3)) (((w.alloc (.cells #[.int .i64 x, .int .i64 y] 3)).alloc (.cells #[.int .i64 z, .int .i64 u] 3)).alloc (.cells #[.slice (some ⟨w.heap.size, 0, none⟩) 2 2, .slice (some ⟨w.heap.size + 1, 0, none⟩) 2 2] 26)) := (Below.refl _ _).alloc (Nat.le_refl _) _
  have b1 : Below (w.alloc (.cells #[.int .i64 x, .int .i64 y] 3)).heap.size (w.alloc (.cells #[.int .i64 x, .int .i64 y] 3)) (((w.alloc (.cells #[.int .i64 x, .int .i64 y] 3)).alloc (.cells #[.int .i64 z, .int .i64 u] 3)).alloc (.cells #[.slice (some ⟨w.heap.size, 0, none⟩) 2 2, .slice (some ⟨w.heap.size + 1, 0, none⟩) 2 2] 26)) := ((Below.refl _ _).alloc (Nat.le_refl _) _).alloc (by simp) _
  rcases hi2 with rfl | rfl
  · refine ⟨w.heap.size + 2, 0, some ⟨w.heap.size, 0, none⟩, 2, rfl, by simp, ?_, hS1.below b1, fun h => by cases h⟩
    rw [World.cell?_alloc_at _ _ _ _ (by simp)]; rfl
  · refine ⟨w.heap.size + 2, 0, some ⟨w.heap.size + 1, 0, none⟩, 2, rfl, by simp, ?_, hS2.below b2, fun h => by cases h⟩
    rw [World.cell?_alloc_at _ _ _ _ (by simp)]; rfl

def P21 (_ j : Nat) : Nat := if j = 0 then 2 else 1
theorem tb21 : tb 1 2 P21 = [[2, 1]] := by decide
theorem pil21 : Pil 1 2 2 P21 := ⟨by decide, by decide, by decide, by decide, by decide, by decide, by decide, fun i hi j hj => by
  obtain rfl : j = 0 := by omega
  show P21 0 1 ≤ P21 0 0
  decide, fun i hi => by omega⟩
theorem trn21 : tb 2 2 (trn 1 P21) = [[1, 1], [1, 0]] := by decide

theorem SRow.txs {w : World} {X n : Nat} {f : Nat → ByteArray} (h : SRow w X n f) (hn : n ≤ 1000) (hf : ∀ i, i < n → (f i).size ≤ 1000) : Txs w (some ⟨X, 0, none⟩) ((List.range n).map f) :=
  ⟨by simp; omega, fun i hi => by
    rw [List.length_map, List.length_range] at hi
    obtain ⟨h1, _, h3⟩ := h.cell hi
    have e : ((List.range n).map f).getD i ⟨#[]⟩ = f i := by simp [List.getD, hi]
    rw [e]
    exact ⟨X, 0, rfl, h3, by rw [Nat.zero_add]; exact h1, Nat.le_trans (hf i hi) (by omega)⟩⟩

theorem ptx_list (r c h : Nat) (P : Nat → Nat → Nat) : byL ((List.range h).map (ptx r c P)) = pths r c h P := by
  unfold byL pths
  rw [List.map_map]
  exact List.map_congr_left (fun k _ => rfl)
theorem ptx_E {r c h : Nat} {P : Nat → Nat → Nat} (p : Pil r c h P) (k : Nat) : isE r c (ptx r c P k).data.toList := edg_isE (lvl_down p k) (fun _ _ => cn_le _ _)
theorem ptx_size {r c h : Nat} {P : Nat → Nat → Nat} (p : Pil r c h P) (k : Nat) : (ptx r c P k).size ≤ 1000 := by
  have h1 := (ptx_E p k).1
  rw [show (ptx r c P k).data.toList.length = (ptx r c P k).size from Array.length_toList] at h1
  have := p.r8; have := p.c8
  omega
theorem fp_ptx {r c h : Nat} {P : Nat → Nat → Nat} (p : Pil r c h P) : fpR ((List.range h).map (ptx r c P)) = r ∧ fpK ((List.range h).map (ptx r c P)) = c ∧ fpC ((List.range h).map (ptx r c P)) = 0 ∧ tb r c (fpP ((List.range h).map (ptx r c P))) = tb r c P := by
  have h1 := p.h1; have h8 := p.h8; have r1 := p.r1; have r8 := p.r8; have c1 := p.c1; have c8 := p.c8
  have e0 : ((List.range h).map (ptx r c P)).getD 0 ⟨#[]⟩ = ptx r c P 0 := by simp [List.getD, show 0 < h by omega]
  have eR : fpR ((List.range h).map (ptx r c P)) = r := by unfold fpR; rw [e0]; exact (ptx_E p 0).2.1
  have eK : fpK ((List.range h).map (ptx r c P)) = c := by unfold fpK; rw [e0]; exact (ptx_E p 0).2.2
  have hf := frm_pths p
  refine ⟨eR, eK, ?_, ?_⟩
  · unfold fpC
    rw [if_neg (not_not_intro ((sides1 _).2 (by simp; omega))), eR, eK, if_neg (not_not_intro ((sides2 _ _).2 (by omega))), ptx_list]
    exact hf.1
  · unfold fpP
    rw [eR, eK, ptx_list]
    exact hf.2

set_option maxHeartbeats 8000000 in
set_option maxRecDepth 100000 in
theorem cround_at (a : Option Addr) (n cap : Nat) (ls : List (List Int)) (h : Int) (w : World) (hh : -9223372036854775808 ≤ h ∧ h ≤ 9223372036854775807) (hs : Table w a ls) (hn : n = ls.length) (hl : ls.length ≤ 17592186044416) :
    Calls Try.prog 3 #[.slice a n cap, .int .i64 h] w fun e w' => e = .returned (.bool true) ∧ Below w.heap.size w w' := by
  have HS : Hid (Table w a ls) := hs
  have HH : Hid (-9223372036854775808 ≤ h ∧ h ≤ 9223372036854775807) := hh
  have HNl : Hid (n = ls.length) := hn
  have HLl : Hid (ls.length ≤ 17592186044416) := hl
  have hnb : n ≤ 17592186044416 := by omega
  clear hs hh hn hl
  have HBa : Hid (Below w.heap.size w ((w.alloc (.cells #[.int .i64 2, .int .i64 1] 3)).alloc (.cells #[.slice (some ⟨w.heap.size, 0, none⟩) 2 2] 26))) := ((Below.refl _ _).alloc (Nat.le_refl _) _).alloc (by simp) _
  have HC : Hid (Calls Try.prog 4 #[.slice (some ⟨w.heap.size + 1, 0, none⟩) 1 1, .int .i64 2] ((w.alloc (.cells #[.int .i64 2, .int .i64 1] 3)).alloc (.cells #[.slice (some ⟨w.heap.size, 0, none⟩) 2 2] 26)) fun e w' => ∃ v, e = .returned (.tuple #[v, .int .i64 0]) ∧ Hid (Tbl w' w.heap.size v [[1, 1], [1, 0]]) ∧ Hid (Below w.heap.size w w')) := by
    have hT := lit_one w 2 1 (by omega) (by omega)
    rw [← tb21] at hT
    refine (Turned_ok _ 1 1 1 2 2 P21 _ hT rfl pil21).mono ?_
    rintro e w' ⟨v, rfl, H1, H2⟩
    rw [trn21] at H1
    exact ⟨v, rfl, H1.out.mono HBa.out.size, HBa.out.trans (H2.out.mono HBa.out.size)⟩
  go_enter Try.func3, Try.ntmps3
  go_wp2_with fail
  refine HC.out.mono ?_
  rintro e w1 ⟨v1, rfl, HT1, HB1⟩
  clear HC HBa
  obtain ⟨a1, n1, c1, rfl, hT1, HN1⟩ := HT1.out.table (by decide)
  have hn1 : n1 = 2 := HN1.out
  subst hn1
  have HBb : Hid (Below w1.heap.size w1 (((w1.alloc (.cells #[.int .i64 1, .int .i64 1] 3)).alloc (.cells #[.int .i64 1, .int .i64 0] 3)).alloc (.cells #[.slice (some ⟨w1.heap.size, 0, none⟩) 2 2, .slice (some ⟨w1.heap.size + 1, 0, none⟩) 2 2] 26))) := (((Below.refl _ _).alloc (Nat.le_refl _) _).alloc (by simp) _).alloc (by simp; omega) _
  have HRw : Hid (Calls Try.prog 5 #[.slice a1 2 c1, .slice (some ⟨w1.heap.size + 2, 0, none⟩) 2 2] (((w1.alloc (.cells #[.int .i64 1, .int .i64 1] 3)).alloc (.cells #[.int .i64 1, .int .i64 0] 3)).alloc (.cells #[.slice (some ⟨w1.heap.size, 0, none⟩) 2 2, .slice (some ⟨w1.heap.size + 1, 0, none⟩) 2 2] 26)) fun e w' => e = .returned (.bool true) ∧ Hid (Below w.heap.size w w')) := by
    refine (RowsL_r _ _ _ _ _ _ [[1, 1], [1, 0]] _ (hT1.below HBb.out) (lit_two w1 1 1 1 0 (by omega) (by omega) (by omega) (by omega)) rfl rfl (by simp)).mono ?_
    rintro e w' ⟨rfl, m, rfl⟩
    exact ⟨rfl, below_drewN (HB1.out.trans (HBb.out.mono HB1.out.size)) m⟩
  clear hT1 HBb HT1 HN1
  go_wp2_with fail
  refine HRw.out.mono ?_
  rintro e w2 ⟨rfl, HB2⟩
  clear HRw HB1
  by_cases hP : PileL ls h
  · obtain ⟨r, c, k, P, rfl, rfl, p⟩ := hP.fn
    have hnr : n = r := by have := HNl.out; rw [tb_len] at this; exact this
    subst hnr
    have HP : Hid (Pil n c k P) := p
    have r1 := p.r1; have r8 := p.r8; have c1 := p.c1; have c8 := p.c8; have h1 := p.h1; have h8 := p.h8
    have HP1 : Hid (Pil c k n (trn n P)) := p.trn
    have HP2 : Hid (Pil k n c (trn c (trn n P))) := p.trn.trn
    have HPr : Hid (Pil n c k (rst n c k P)) := p.rst
    have HPm : Hid (Pil c n k (mir P)) := p.mir
    have HPmm : Hid (Pil n c k (mir (mir P))) := p.mir.mir
    have HP3 : Hid (Pil n c k (trn k (trn c (trn n P)))) := p.trn.trn.trn
    have HPrr : Hid (Pil n c k (rst n c k (rst n c k P))) := p.rst.rst
    clear p hP HNl HLl HH hnb
    obtain ⟨b0, off0, ai0, ci0, ha0, -, -⟩ := HS.out.rowP (i := 0) (by omega)
    subst ha0
    have F2p : Hid (∀ W, Below w2.heap.size w2 W → Table W (some ⟨b0, off0, none⟩) (tb n c P)) := fun W hW => HS.out.below (HB2.out.trans (hW.mono HB2.out.size))
    clear HS
    have HC : Hid (Calls Try.prog 4 #[.slice (some ⟨b0, off0, none⟩) n cap, .int .i64 (k : Int)] w2 fun e w' => ∃ v, e = .returned (.tuple #[v, .int .i64 0]) ∧ Hid (Tbl w' w2.heap.size v (tb c k (trn n P))) ∧ Hid (Below w2.heap.size w2 w')) := Turned_ok _ n _ n c k (P) w2 (F2p.out w2 (Below.refl _ _)) rfl HP.out
    go_wp2_with fail
    refine HC.out.mono ?_
    rintro e w3 ⟨va, rfl, HT, Hb⟩
    obtain ⟨aa, ca, rfl, F3a⟩ := tbl_use HT.out (by omega) (by omega : n ≤ 1000) HP1.out.le
    clear HC HT
    have F3p : Hid (∀ W, Below w3.heap.size w3 W → Table W (some ⟨b0, off0, none⟩) (tb n c P)) := fut_step F2p.out Hb.out
    have HB3 : Hid (Below w.heap.size w w3) := HB2.out.trans ((Hb.out).mono HB2.out.size)
    clear F2p HB2
    clear Hb
    obtain ⟨b9, off9, ai9, ci9, e9, hc0, -⟩ := (F3p.out w3 (Below.refl _ _)).rowP (i := 0) (by omega)
    simp only [Option.some.injEq, Addr.mk.injEq, and_true] at e9
    obtain ⟨rfl, rfl⟩ := e9
    rw [Nat.add_zero] at hc0
    have n0' : (0 : Int) < (n : Int) := by omega
    go_wp2_with fail
    go_quiet (fail)
    clear hc0
    obtain ⟨w4, HW4⟩ : ∃ w4, Hid (w4 = w3.drewN nq) := ⟨_, rfl⟩
    rw [← HW4.out]
    have Hb : Hid (Below w3.heap.size w3 w4) := by rw [HW4.out]; exact below_drewN (Below.refl _ _) nq
    clear HW4
    have F4p : Hid (∀ W, Below w4.heap.size w4 W → Table W (some ⟨b0, off0, none⟩) (tb n c P)) := fut_step F3p.out Hb.out
    have F4a : Hid (∀ W, Below w4.heap.size w4 W → Table W aa (tb c k (trn n P))) := fut_step F3a.out Hb.out
    have HB4 : Hid (Below w.heap.size w w4) := HB3.out.trans ((Hb.out).mono HB3.out.size)
    clear F3p F3a HB3
    clear Hb
    have HC : Hid (Calls Try.prog 4 #[.slice aa c ca, .int .i64 (n : Int)] w4 fun e w' => ∃ v, e = .returned (.tuple #[v, .int .i64 0]) ∧ Hid (Tbl w' w4.heap.size v (tb k n (trn c (trn n P)))) ∧ Hid (Below w4.heap.size w4 w')) := Turned_ok _ c _ c k n (trn n P) w4 (F4a.out w4 (Below.refl _ _)) rfl HP1.out
    go_wp2_with fail
    refine HC.out.mono ?_
    rintro e w5 ⟨vb, rfl, HT, Hb⟩
    obtain ⟨ab, cb, rfl, F5b⟩ := tbl_use HT.out (by omega) (by omega : c ≤ 1000) HP2.out.le
    clear HC HT
    have F5p : Hid (∀ W, Below w5.heap.size w5 W → Table W (some ⟨b0, off0, none⟩) (tb n c P)) := fut_step F4p.out Hb.out
    have F5a : Hid (∀ W, Below w5.heap.size w5 W → Table W aa (tb c k (trn n P))) := fut_step F4a.out Hb.out
    have HB5 : Hid (Below w.heap.size w w5) := HB4.out.trans ((Hb.out).mono HB4.out.size)
    clear F4p F4a HB4
    clear Hb
    have HC : Hid (Calls Try.prog 4 #[.slice ab k cb, .int .i64 (c : Int)] w5 fun e w' => ∃ v, e = .returned (.tuple #[v, .int .i64 0]) ∧ Hid (Tbl w' w5.heap.size v (tb n c (trn k (trn c (trn n P))))) ∧ Hid (Below w5.heap.size w5 w')) := Turned_ok _ k _ k n c (trn c (trn n P)) w5 (F5b.out w5 (Below.refl _ _)) rfl HP2.out
    go_wp2_with fail
    refine HC.out.mono ?_
    rintro e w6 ⟨vc, rfl, HT, Hb⟩
    obtain ⟨ac, cc, rfl, F6c⟩ := tbl_use HT.out (by omega) (by omega : k ≤ 1000) HP3.out.le
    clear HC HT
    have F6p : Hid (∀ W, Below w6.heap.size w6 W → Table W (some ⟨b0, off0, none⟩) (tb n c P)) := fut_step F5p.out Hb.out
    have F6a : Hid (∀ W, Below w6.heap.size w6 W → Table W aa (tb c k (trn n P))) := fut_step F5a.out Hb.out
    have F6b : Hid (∀ W, Below w6.heap.size w6 W → Table W ab (tb k n (trn c (trn n P)))) := fut_step F5b.out Hb.out
    have HB6 : Hid (Below w.heap.size w w6) := HB5.out.trans ((Hb.out).mono HB5.out.size)
    clear F5p F5a F5b HB5
    clear Hb
    have HC : Hid (Calls Try.prog 6 #[.slice (some ⟨b0, off0, none⟩) n cap, .int .i64 (k : Int)] w6 fun e w' => ∃ v, e = .returned (.tuple #[v, .int .i64 0]) ∧ Hid (Tbl w' w6.heap.size v (tb n c (rst n c k P))) ∧ Hid (Below w6.heap.size w6 w')) := Rest_ok _ n _ n c k (P) w6 (F6p.out w6 (Below.refl _ _)) rfl HP.out
    go_wp2_with fail
    refine HC.out.mono ?_
    rintro e w7 ⟨vd, rfl, HT, Hb⟩
    obtain ⟨ad, cd, rfl, F7d⟩ := tbl_use HT.out (by omega) (by omega : k ≤ 1000) HPr.out.le
    clear HC HT
    have F7p : Hid (∀ W, Below w7.heap.size w7 W → Table W (some ⟨b0, off0, none⟩) (tb n c P)) := fut_step F6p.out Hb.out
    have F7a : Hid (∀ W, Below w7.heap.size w7 W → Table W aa (tb c k (trn n P))) := fut_step F6a.out Hb.out
    have F7b : Hid (∀ W, Below w7.heap.size w7 W → Table W ab (tb k n (trn c (trn n P)))) := fut_step F6b.out Hb.out
    have F7c : Hid (∀ W, Below w7.heap.size w7 W → Table W ac (tb n c (trn k (trn c (trn n P))))) := fut_step F6c.out Hb.out
    have HB7 : Hid (Below w.heap.size w w7) := HB6.out.trans ((Hb.out).mono HB6.out.size)
    clear F6p F6a F6b F6c HB6
    clear Hb
    have HC : Hid (Calls Try.prog 6 #[.slice ad n cd, .int .i64 (k : Int)] w7 fun e w' => ∃ v, e = .returned (.tuple #[v, .int .i64 0]) ∧ Hid (Tbl w' w7.heap.size v (tb n c (rst n c k (rst n c k P)))) ∧ Hid (Below w7.heap.size w7 w')) := Rest_ok _ n _ n c k (rst n c k P) w7 (F7d.out w7 (Below.refl _ _)) rfl HPr.out
    go_wp2_with fail
    refine HC.out.mono ?_
    rintro e w8 ⟨vx, rfl, HT, Hb⟩
    obtain ⟨ax, cx, rfl, F8x⟩ := tbl_use HT.out (by omega) (by omega : k ≤ 1000) HPrr.out.le
    clear HC HT
    have F8p : Hid (∀ W, Below w8.heap.size w8 W → Table W (some ⟨b0, off0, none⟩) (tb n c P)) := fut_step F7p.out Hb.out
    have F8a : Hid (∀ W, Below w8.heap.size w8 W → Table W aa (tb c k (trn n P))) := fut_step F7a.out Hb.out
    have F8b : Hid (∀ W, Below w8.heap.size w8 W → Table W ab (tb k n (trn c (trn n P)))) := fut_step F7b.out Hb.out
    have F8c : Hid (∀ W, Below w8.heap.size w8 W → Table W ac (tb n c (trn k (trn c (trn n P))))) := fut_step F7c.out Hb.out
    have F8d : Hid (∀ W, Below w8.heap.size w8 W → Table W ad (tb n c (rst n c k P))) := fut_step F7d.out Hb.out
    have HB8 : Hid (Below w.heap.size w w8) := HB7.out.trans ((Hb.out).mono HB7.out.size)
    clear F7p F7a F7b F7c F7d HB7
    clear Hb
    have HC : Hid (Calls Try.prog 7 #[.slice (some ⟨b0, off0, none⟩) n cap, .int .i64 (k : Int)] w8 fun e w' => ∃ v, e = .returned (.tuple #[v, .int .i64 0]) ∧ Hid (Tbl w' w8.heap.size v (tb c n (mir P))) ∧ Hid (Below w8.heap.size w8 w')) := Mirrored_ok _ n _ n c k (P) w8 (F8p.out w8 (Below.refl _ _)) rfl HP.out
    go_wp2_with fail
    refine HC.out.mono ?_
    rintro e w9 ⟨vy, rfl, HT, Hb⟩
    obtain ⟨ay, cy, rfl, F9y⟩ := tbl_use HT.out (by omega) (by omega : k ≤ 1000) HPm.out.le
    clear HC HT
    have F9p : Hid (∀ W, Below w9.heap.size w9 W → Table W (some ⟨b0, off0, none⟩) (tb n c P)) := fut_step F8p.out Hb.out
    have F9a : Hid (∀ W, Below w9.heap.size w9 W → Table W aa (tb c k (trn n P))) := fut_step F8a.out Hb.out
    have F9b : Hid (∀ W, Below w9.heap.size w9 W → Table W ab (tb k n (trn c (trn n P)))) := fut_step F8b.out Hb.out
    have F9c : Hid (∀ W, Below w9.heap.size w9 W → Table W ac (tb n c (trn k (trn c (trn n P))))) := fut_step F8c.out Hb.out
    have F9d : Hid (∀ W, Below w9.heap.size w9 W → Table W ad (tb n c (rst n c k P))) := fut_step F8d.out Hb.out
    have F9x : Hid (∀ W, Below w9.heap.size w9 W → Table W ax (tb n c (rst n c k (rst n c k P)))) := fut_step F8x.out Hb.out
    have HB9 : Hid (Below w.heap.size w w9) := HB8.out.trans ((Hb.out).mono HB8.out.size)
    clear F8p F8a F8b F8c F8d F8x HB8
    clear Hb
    have HC : Hid (Calls Try.prog 7 #[.slice ay c cy, .int .i64 (k : Int)] w9 fun e w' => ∃ v, e = .returned (.tuple #[v, .int .i64 0]) ∧ Hid (Tbl w' w9.heap.size v (tb n c (mir (mir P)))) ∧ Hid (Below w9.heap.size w9 w')) := Mirrored_ok _ c _ c n k (mir P) w9 (F9y.out w9 (Below.refl _ _)) rfl HPm.out
    go_wp2_with fail
    refine HC.out.mono ?_
    rintro e w10 ⟨vz, rfl, HT, Hb⟩
    obtain ⟨az, cz, rfl, F10z⟩ := tbl_use HT.out (by omega) (by omega : k ≤ 1000) HPmm.out.le
    clear HC HT
    have F10p : Hid (∀ W, Below w10.heap.size w10 W → Table W (some ⟨b0, off0, none⟩) (tb n c P)) := fut_step F9p.out Hb.out
    have F10a : Hid (∀ W, Below w10.heap.size w10 W → Table W aa (tb c k (trn n P))) := fut_step F9a.out Hb.out
    have F10b : Hid (∀ W, Below w10.heap.size w10 W → Table W ab (tb k n (trn c (trn n P)))) := fut_step F9b.out Hb.out
    have F10c : Hid (∀ W, Below w10.heap.size w10 W → Table W ac (tb n c (trn k (trn c (trn n P))))) := fut_step F9c.out Hb.out
    have F10d : Hid (∀ W, Below w10.heap.size w10 W → Table W ad (tb n c (rst n c k P))) := fut_step F9d.out Hb.out
    have F10x : Hid (∀ W, Below w10.heap.size w10 W → Table W ax (tb n c (rst n c k (rst n c k P)))) := fut_step F9x.out Hb.out
    have F10y : Hid (∀ W, Below w10.heap.size w10 W → Table W ay (tb c n (mir P))) := fut_step F9y.out Hb.out
    have HB10 : Hid (Below w.heap.size w w10) := HB9.out.trans ((Hb.out).mono HB9.out.size)
    clear F9p F9a F9b F9c F9d F9x F9y HB9
    clear Hb
    have HC : Hid (Calls Try.prog 8 #[.slice (some ⟨b0, off0, none⟩) n cap, .int .i64 (k : Int)] w10 fun e w' => ∃ X, e = .returned (.tuple #[.slice (some ⟨X, 0, none⟩) k k, .int .i64 0]) ∧ Hid (SRow w' X k (ptx n c P)) ∧ Hid (Below w10.heap.size w10 w') ∧ Hid (w10.heap.size ≤ X)) := Paths_ok _ n cap n c k P w10 (F10p.out w10 (Below.refl _ _)) rfl HP.out
    go_wp2_with fail
    refine HC.out.mono ?_
    rintro e w11 ⟨X, rfl, HSr, Hb, -⟩
    clear HC
    have F11p : Hid (∀ W, Below w11.heap.size w11 W → Table W (some ⟨b0, off0, none⟩) (tb n c P)) := fut_step F10p.out Hb.out
    have F11a : Hid (∀ W, Below w11.heap.size w11 W → Table W aa (tb c k (trn n P))) := fut_step F10a.out Hb.out
    have F11b : Hid (∀ W, Below w11.heap.size w11 W → Table W ab (tb k n (trn c (trn n P)))) := fut_step F10b.out Hb.out
    have F11c : Hid (∀ W, Below w11.heap.size w11 W → Table W ac (tb n c (trn k (trn c (trn n P))))) := fut_step F10c.out Hb.out
    have F11d : Hid (∀ W, Below w11.heap.size w11 W → Table W ad (tb n c (rst n c k P))) := fut_step F10d.out Hb.out
    have F11x : Hid (∀ W, Below w11.heap.size w11 W → Table W ax (tb n c (rst n c k (rst n c k P)))) := fut_step F10x.out Hb.out
    have F11y : Hid (∀ W, Below w11.heap.size w11 W → Table W ay (tb c n (mir P))) := fut_step F10y.out Hb.out
    have F11z : Hid (∀ W, Below w11.heap.size w11 W → Table W az (tb n c (mir (mir P)))) := fut_step F10z.out Hb.out
    have HB11 : Hid (Below w.heap.size w w11) := HB10.out.trans ((Hb.out).mono HB10.out.size)
    clear F10p F10a F10b F10c F10d F10x F10y F10z HB10
    clear Hb
    have HC : Hid (Calls Try.prog 9 #[.slice (some ⟨X, 0, none⟩) k k] w11 fun e w' => ∃ v, e = .returned (.tuple #[v, .int .i64 0]) ∧ Hid (Tbl w' w11.heap.size v (tb n c P)) ∧ Hid (Below w11.heap.size w11 w')) := by
      obtain ⟨q1, q2, q3, q4⟩ := fp_ptx HP.out
      refine (FromPaths_at _ k k ((List.range k).map (ptx n c P)) w11 (HSr.out.txs (by omega) (fun i _ => ptx_size HP.out i)) (by simp)).mono ?_
      rintro e w' ⟨v, rfl, H1, -, H3⟩
      refine ⟨v, by rw [q3], ?_, H3⟩
      have h := H1.out q3
      rw [q1, q2, q4] at h
      exact h
    go_wp2_with fail
    refine HC.out.mono ?_
    rintro e w12 ⟨vq, rfl, HT, Hb⟩
    obtain ⟨aq, cq, rfl, F12q⟩ := tbl_use HT.out (by omega) (by omega : k ≤ 1000) HP.out.le
    clear HC HT HSr
    have F12p : Hid (∀ W, Below w12.heap.size w12 W → Table W (some ⟨b0, off0, none⟩) (tb n c P)) := fut_step F11p.out Hb.out
    have F12a : Hid (∀ W, Below w12.heap.size w12 W → Table W aa (tb c k (trn n P))) := fut_step F11a.out Hb.out
    have F12b : Hid (∀ W, Below w12.heap.size w12 W → Table W ab (tb k n (trn c (trn n P)))) := fut_step F11b.out Hb.out
    have F12c : Hid (∀ W, Below w12.heap.size w12 W → Table W ac (tb n c (trn k (trn c (trn n P))))) := fut_step F11c.out Hb.out
    have F12d : Hid (∀ W, Below w12.heap.size w12 W → Table W ad (tb n c (rst n c k P))) := fut_step F11d.out Hb.out
    have F12x : Hid (∀ W, Below w12.heap.size w12 W → Table W ax (tb n c (rst n c k (rst n c k P)))) := fut_step F11x.out Hb.out
    have F12y : Hid (∀ W, Below w12.heap.size w12 W → Table W ay (tb c n (mir P))) := fut_step F11y.out Hb.out
    have F12z : Hid (∀ W, Below w12.heap.size w12 W → Table W az (tb n c (mir (mir P)))) := fut_step F11z.out Hb.out
    have HB12 : Hid (Below w.heap.size w w12) := HB11.out.trans ((Hb.out).mono HB11.out.size)
    clear F11p F11a F11b F11c F11d F11x F11y F11z HB11
    clear Hb
    obtain ⟨u, HU⟩ : ∃ u, Hid (u = vol n c P) := ⟨_, rfl⟩
    obtain ⟨v, HV⟩ : ∃ v, Hid (v = vol c k (trn n P)) := ⟨_, rfl⟩
    obtain ⟨x, HX⟩ : ∃ x, Hid (x = vol n c (rst n c k P)) := ⟨_, rfl⟩
    have HC : Hid (Calls Try.prog 10 #[.slice (some ⟨b0, off0, none⟩) n cap, .int .i64 (k : Int)] w12 fun e w' => e = .returned (.tuple #[.int .i64 (u : Nat), .int .i64 0]) ∧ Hid (Below w12.heap.size w12 w')) := by rw [HU.out]; exact Volume_ok _ n _ n c k (P) w12 (F12p.out w12 (Below.refl _ _)) rfl HP.out
    go_wp2_with fail
    refine HC.out.mono ?_
    rintro e w13 ⟨rfl, Hb⟩
    clear HC
    have F13p : Hid (∀ W, Below w13.heap.size w13 W → Table W (some ⟨b0, off0, none⟩) (tb n c P)) := fut_step F12p.out Hb.out
    have F13a : Hid (∀ W, Below w13.heap.size w13 W → Table W aa (tb c k (trn n P))) := fut_step F12a.out Hb.out
    have F13b : Hid (∀ W, Below w13.heap.size w13 W → Table W ab (tb k n (trn c (trn n P)))) := fut_step F12b.out Hb.out
    have F13c : Hid (∀ W, Below w13.heap.size w13 W → Table W ac (tb n c (trn k (trn c (trn n P))))) := fut_step F12c.out Hb.out
    have F13d : Hid (∀ W, Below w13.heap.size w13 W → Table W ad (tb n c (rst n c k P))) := fut_step F12d.out Hb.out
    have F13x : Hid (∀ W, Below w13.heap.size w13 W → Table W ax (tb n c (rst n c k (rst n c k P)))) := fut_step F12x.out Hb.out
    have F13y : Hid (∀ W, Below w13.heap.size w13 W → Table W ay (tb c n (mir P))) := fut_step F12y.out Hb.out
    have F13z : Hid (∀ W, Below w13.heap.size w13 W → Table W az (tb n c (mir (mir P)))) := fut_step F12z.out Hb.out
    have F13q : Hid (∀ W, Below w13.heap.size w13 W → Table W aq (tb n c P)) := fut_step F12q.out Hb.out
    have HB13 : Hid (Below w.heap.size w w13) := HB12.out.trans ((Hb.out).mono HB12.out.size)
    clear F12p F12a F12b F12c F12d F12x F12y F12z F12q HB12
    clear Hb
    have HC : Hid (Calls Try.prog 10 #[.slice aa c ca, .int .i64 (n : Int)] w13 fun e w' => e = .returned (.tuple #[.int .i64 (v : Nat), .int .i64 0]) ∧ Hid (Below w13.heap.size w13 w')) := by rw [HV.out]; exact Volume_ok _ c _ c k n (trn n P) w13 (F13a.out w13 (Below.refl _ _)) rfl HP1.out
    go_wp2_with fail
    refine HC.out.mono ?_
    rintro e w14 ⟨rfl, Hb⟩
    clear HC
    have F14p : Hid (∀ W, Below w14.heap.size w14 W → Table W (some ⟨b0, off0, none⟩) (tb n c P)) := fut_step F13p.out Hb.out
    have F14a : Hid (∀ W, Below w14.heap.size w14 W → Table W aa (tb c k (trn n P))) := fut_step F13a.out Hb.out
    have F14b : Hid (∀ W, Below w14.heap.size w14 W → Table W ab (tb k n (trn c (trn n P)))) := fut_step F13b.out Hb.out
    have F14c : Hid (∀ W, Below w14.heap.size w14 W → Table W ac (tb n c (trn k (trn c (trn n P))))) := fut_step F13c.out Hb.out
    have F14d : Hid (∀ W, Below w14.heap.size w14 W → Table W ad (tb n c (rst n c k P))) := fut_step F13d.out Hb.out
    have F14x : Hid (∀ W, Below w14.heap.size w14 W → Table W ax (tb n c (rst n c k (rst n c k P)))) := fut_step F13x.out Hb.out
    have F14y : Hid (∀ W, Below w14.heap.size w14 W → Table W ay (tb c n (mir P))) := fut_step F13y.out Hb.out
    have F14z : Hid (∀ W, Below w14.heap.size w14 W → Table W az (tb n c (mir (mir P)))) := fut_step F13z.out Hb.out
    have F14q : Hid (∀ W, Below w14.heap.size w14 W → Table W aq (tb n c P)) := fut_step F13q.out Hb.out
    have HB14 : Hid (Below w.heap.size w w14) := HB13.out.trans ((Hb.out).mono HB13.out.size)
    clear F13p F13a F13b F13c F13d F13x F13y F13z F13q HB13
    clear Hb
    have HC : Hid (Calls Try.prog 10 #[.slice ad n cd, .int .i64 (k : Int)] w14 fun e w' => e = .returned (.tuple #[.int .i64 (x : Nat), .int .i64 0]) ∧ Hid (Below w14.heap.size w14 w')) := by rw [HX.out]; exact Volume_ok _ n _ n c k (rst n c k P) w14 (F14d.out w14 (Below.refl _ _)) rfl HPr.out
    go_wp2_with fail
    refine HC.out.mono ?_
    rintro e w15 ⟨rfl, Hb⟩
    clear HC
    have F15p : Hid (∀ W, Below w15.heap.size w15 W → Table W (some ⟨b0, off0, none⟩) (tb n c P)) := fut_step F14p.out Hb.out
    have F15a : Hid (∀ W, Below w15.heap.size w15 W → Table W aa (tb c k (trn n P))) := fut_step F14a.out Hb.out
    have F15b : Hid (∀ W, Below w15.heap.size w15 W → Table W ab (tb k n (trn c (trn n P)))) := fut_step F14b.out Hb.out
    have F15c : Hid (∀ W, Below w15.heap.size w15 W → Table W ac (tb n c (trn k (trn c (trn n P))))) := fut_step F14c.out Hb.out
    have F15d : Hid (∀ W, Below w15.heap.size w15 W → Table W ad (tb n c (rst n c k P))) := fut_step F14d.out Hb.out
    have F15x : Hid (∀ W, Below w15.heap.size w15 W → Table W ax (tb n c (rst n c k (rst n c k P)))) := fut_step F14x.out Hb.out
    have F15y : Hid (∀ W, Below w15.heap.size w15 W → Table W ay (tb c n (mir P))) := fut_step F14y.out Hb.out
    have F15z : Hid (∀ W, Below w15.heap.size w15 W → Table W az (tb n c (mir (mir P)))) := fut_step F14z.out Hb.out
    have F15q : Hid (∀ W, Below w15.heap.size w15 W → Table W aq (tb n c P)) := fut_step F14q.out Hb.out
    have HB15 : Hid (Below w.heap.size w w15) := HB14.out.trans ((Hb.out).mono HB14.out.size)
    clear F14p F14a F14b F14c F14d F14x F14y F14z F14q HB14
    clear Hb
    obtain rfl : v = u := by rw [HV.out, HU.out]; exact trn_vol HP.out
    have HUx : Hid (v + x = n * c * k) := by show _ = _; rw [HU.out, HX.out]; exact rst_vol HP.out
    obtain ⟨m1, HM1⟩ : ∃ m1, Hid (m1 = n * c) := ⟨_, rfl⟩
    obtain ⟨m2, HM2⟩ : ∃ m2, Hid (m2 = m1 * k) := ⟨_, rfl⟩
    have hm1 : m1 ≤ 64 := by rw [HM1.out]; exact Nat.mul_le_mul r8 c8
    have hm2 : m2 ≤ 512 := by rw [HM2.out]; exact Nat.mul_le_mul hm1 h8
    have e1 : (n : Int) * (c : Int) = (m1 : Int) := by rw [HM1.out, Int.natCast_mul]
    have e2 : (m1 : Int) * (k : Int) = (m2 : Int) := by rw [HM2.out, Int.natCast_mul]
    have e3 : v + x = m2 := by rw [HUx.out, HM2.out, HM1.out]
    have e4 : ((v : Int) + (x : Int) == (m2 : Int)) = true := by simp; omega
    have e5 : ((v : Int) == (v : Int)) = true := by simp
    have HC : Hid (Calls Try.prog 5 #[.slice ac n cc, .slice (some ⟨b0, off0, none⟩) n cap] w15 fun e w' => e = .returned (.bool true) ∧ Hid (Below w15.heap.size w15 w')) := by
      have ht := F15c.out w15 (Below.refl _ _)
      rw [show tb n c (trn k (trn c (trn n P))) = tb n c P from tb_congr (fun i hi j hj => trn_three HP.out hi hj)] at ht
      refine (RowsL_r _ _ _ _ _ _ (tb n c P) _ ht (F15p.out w15 (Below.refl _ _)) (by rw [tb_len]) (by rw [tb_len]) (by rw [tb_len]; omega)).mono ?_
      rintro e w' ⟨rfl, m, rfl⟩
      exact ⟨rfl, below_drewN (Below.refl _ _) m⟩
    go_wp2_with fail
    refine HC.out.mono ?_
    rintro e w16 ⟨rfl, Hb⟩
    clear HC
    have F16p : Hid (∀ W, Below w16.heap.size w16 W → Table W (some ⟨b0, off0, none⟩) (tb n c P)) := fut_step F15p.out Hb.out
    have F16a : Hid (∀ W, Below w16.heap.size w16 W → Table W aa (tb c k (trn n P))) := fut_step F15a.out Hb.out
    have F16b : Hid (∀ W, Below w16.heap.size w16 W → Table W ab (tb k n (trn c (trn n P)))) := fut_step F15b.out Hb.out
    have F16c : Hid (∀ W, Below w16.heap.size w16 W → Table W ac (tb n c (trn k (trn c (trn n P))))) := fut_step F15c.out Hb.out
    have F16d : Hid (∀ W, Below w16.heap.size w16 W → Table W ad (tb n c (rst n c k P))) := fut_step F15d.out Hb.out
    have F16x : Hid (∀ W, Below w16.heap.size w16 W → Table W ax (tb n c (rst n c k (rst n c k P)))) := fut_step F15x.out Hb.out
    have F16y : Hid (∀ W, Below w16.heap.size w16 W → Table W ay (tb c n (mir P))) := fut_step F15y.out Hb.out
    have F16z : Hid (∀ W, Below w16.heap.size w16 W → Table W az (tb n c (mir (mir P)))) := fut_step F15z.out Hb.out
    have F16q : Hid (∀ W, Below w16.heap.size w16 W → Table W aq (tb n c P)) := fut_step F15q.out Hb.out
    have HB16 : Hid (Below w.heap.size w w16) := HB15.out.trans ((Hb.out).mono HB15.out.size)
    clear F15p F15a F15b F15c F15d F15x F15y F15z F15q HB15
    clear Hb
    have HC : Hid (Calls Try.prog 5 #[.slice ax n cx, .slice (some ⟨b0, off0, none⟩) n cap] w16 fun e w' => e = .returned (.bool true) ∧ Hid (Below w16.heap.size w16 w')) := by
      have ht := F16x.out w16 (Below.refl _ _)
      rw [show tb n c (rst n c k (rst n c k P)) = tb n c P from tb_congr (fun i hi j hj => rst_two HP.out hi hj)] at ht
      refine (RowsL_r _ _ _ _ _ _ (tb n c P) _ ht (F16p.out w16 (Below.refl _ _)) (by rw [tb_len]) (by rw [tb_len]) (by rw [tb_len]; omega)).mono ?_
      rintro e w' ⟨rfl, m, rfl⟩
      exact ⟨rfl, below_drewN (Below.refl _ _) m⟩
    go_wp2_with fail
    refine HC.out.mono ?_
    rintro e w17 ⟨rfl, Hb⟩
    clear HC
    have F17p : Hid (∀ W, Below w17.heap.size w17 W → Table W (some ⟨b0, off0, none⟩) (tb n c P)) := fut_step F16p.out Hb.out
    have F17a : Hid (∀ W, Below w17.heap.size w17 W → Table W aa (tb c k (trn n P))) := fut_step F16a.out Hb.out
    have F17b : Hid (∀ W, Below w17.heap.size w17 W → Table W ab (tb k n (trn c (trn n P)))) := fut_step F16b.out Hb.out
    have F17c : Hid (∀ W, Below w17.heap.size w17 W → Table W ac (tb n c (trn k (trn c (trn n P))))) := fut_step F16c.out Hb.out
    have F17d : Hid (∀ W, Below w17.heap.size w17 W → Table W ad (tb n c (rst n c k P))) := fut_step F16d.out Hb.out
    have F17x : Hid (∀ W, Below w17.heap.size w17 W → Table W ax (tb n c (rst n c k (rst n c k P)))) := fut_step F16x.out Hb.out
    have F17y : Hid (∀ W, Below w17.heap.size w17 W → Table W ay (tb c n (mir P))) := fut_step F16y.out Hb.out
    have F17z : Hid (∀ W, Below w17.heap.size w17 W → Table W az (tb n c (mir (mir P)))) := fut_step F16z.out Hb.out
    have F17q : Hid (∀ W, Below w17.heap.size w17 W → Table W aq (tb n c P)) := fut_step F16q.out Hb.out
    have HB17 : Hid (Below w.heap.size w w17) := HB16.out.trans ((Hb.out).mono HB16.out.size)
    clear F16p F16a F16b F16c F16d F16x F16y F16z F16q HB16
    clear Hb
    have HC : Hid (Calls Try.prog 5 #[.slice az n cz, .slice (some ⟨b0, off0, none⟩) n cap] w17 fun e w' => e = .returned (.bool true) ∧ Hid (Below w17.heap.size w17 w')) := by
      have ht := F17z.out w17 (Below.refl _ _)
      rw [show tb n c (mir (mir P)) = tb n c P from rfl] at ht
      refine (RowsL_r _ _ _ _ _ _ (tb n c P) _ ht (F17p.out w17 (Below.refl _ _)) (by rw [tb_len]) (by rw [tb_len]) (by rw [tb_len]; omega)).mono ?_
      rintro e w' ⟨rfl, m, rfl⟩
      exact ⟨rfl, below_drewN (Below.refl _ _) m⟩
    go_wp2_with fail
    refine HC.out.mono ?_
    rintro e w18 ⟨rfl, Hb⟩
    clear HC
    have F18p : Hid (∀ W, Below w18.heap.size w18 W → Table W (some ⟨b0, off0, none⟩) (tb n c P)) := fut_step F17p.out Hb.out
    have F18a : Hid (∀ W, Below w18.heap.size w18 W → Table W aa (tb c k (trn n P))) := fut_step F17a.out Hb.out
    have F18b : Hid (∀ W, Below w18.heap.size w18 W → Table W ab (tb k n (trn c (trn n P)))) := fut_step F17b.out Hb.out
    have F18c : Hid (∀ W, Below w18.heap.size w18 W → Table W ac (tb n c (trn k (trn c (trn n P))))) := fut_step F17c.out Hb.out
    have F18d : Hid (∀ W, Below w18.heap.size w18 W → Table W ad (tb n c (rst n c k P))) := fut_step F17d.out Hb.out
    have F18x : Hid (∀ W, Below w18.heap.size w18 W → Table W ax (tb n c (rst n c k (rst n c k P)))) := fut_step F17x.out Hb.out
    have F18y : Hid (∀ W, Below w18.heap.size w18 W → Table W ay (tb c n (mir P))) := fut_step F17y.out Hb.out
    have F18z : Hid (∀ W, Below w18.heap.size w18 W → Table W az (tb n c (mir (mir P)))) := fut_step F17z.out Hb.out
    have F18q : Hid (∀ W, Below w18.heap.size w18 W → Table W aq (tb n c P)) := fut_step F17q.out Hb.out
    have HB18 : Hid (Below w.heap.size w w18) := HB17.out.trans ((Hb.out).mono HB17.out.size)
    clear F17p F17a F17b F17c F17d F17x F17y F17z F17q HB17
    clear Hb
    have HC : Hid (Calls Try.prog 5 #[.slice aq n cq, .slice (some ⟨b0, off0, none⟩) n cap] w18 fun e w' => e = .returned (.bool true) ∧ Hid (Below w18.heap.size w18 w')) := by
      have ht := F18q.out w18 (Below.refl _ _)
      rw [show tb n c P = tb n c P from rfl] at ht
      refine (RowsL_r _ _ _ _ _ _ (tb n c P) _ ht (F18p.out w18 (Below.refl _ _)) (by rw [tb_len]) (by rw [tb_len]) (by rw [tb_len]; omega)).mono ?_
      rintro e w' ⟨rfl, m, rfl⟩
      exact ⟨rfl, below_drewN (Below.refl _ _) m⟩
    go_wp2_with fail
    refine HC.out.mono ?_
    rintro e w19 ⟨rfl, Hb⟩
    clear HC
    have F19p : Hid (∀ W, Below w19.heap.size w19 W → Table W (some ⟨b0, off0, none⟩) (tb n c P)) := fut_step F18p.out Hb.out
    have F19a : Hid (∀ W, Below w19.heap.size w19 W → Table W aa (tb c k (trn n P))) := fut_step F18a.out Hb.out
    have F19b : Hid (∀ W, Below w19.heap.size w19 W → Table W ab (tb k n (trn c (trn n P)))) := fut_step F18b.out Hb.out
    have F19c : Hid (∀ W, Below w19.heap.size w19 W → Table W ac (tb n c (trn k (trn c (trn n P))))) := fut_step F18c.out Hb.out
    have F19d : Hid (∀ W, Below w19.heap.size w19 W → Table W ad (tb n c (rst n c k P))) := fut_step F18d.out Hb.out
    have F19x : Hid (∀ W, Below w19.heap.size w19 W → Table W ax (tb n c (rst n c k (rst n c k P)))) := fut_step F18x.out Hb.out
    have F19y : Hid (∀ W, Below w19.heap.size w19 W → Table W ay (tb c n (mir P))) := fut_step F18y.out Hb.out
    have F19z : Hid (∀ W, Below w19.heap.size w19 W → Table W az (tb n c (mir (mir P)))) := fut_step F18z.out Hb.out
    have F19q : Hid (∀ W, Below w19.heap.size w19 W → Table W aq (tb n c P)) := fut_step F18q.out Hb.out
    have HB19 : Hid (Below w.heap.size w w19) := HB18.out.trans ((Hb.out).mono HB18.out.size)
    clear F18p F18a F18b F18c F18d F18x F18y F18z F18q HB18
    clear Hb
    go_wp2
    go_ret
    exact ⟨rfl, HB19.out⟩
  · have HC : Hid (Calls Try.prog 4 #[.slice a n cap, .int .i64 h] w2 fun e w' => e = .returned (.tuple #[.slice none 0 0, .int .i64 1]) ∧ Hid (Below w2.heap.size w2 w')) := Turned_no a n cap ls h w2 HH.out (HS.out.below HB2.out) HNl.out HLl.out hP
    clear hP
    go_wp2_with fail
    refine HC.out.mono ?_
    rintro e w3 ⟨rfl, HB3⟩
    have HB4 : Hid (Below w.heap.size w w3) := HB2.out.trans (HB3.out.mono HB2.out.size)
    go_wp2
    go_ret
    exact ⟨rfl, HB4.out⟩

end Go.Proofs.Ytniedfecmakhpaa
