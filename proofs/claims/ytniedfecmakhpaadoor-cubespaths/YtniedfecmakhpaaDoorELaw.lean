/-
  The law ferlaw.CubesPaths, upon the contract of ferref.Pile.
-/
import Derived.Test.YtniedfecmakhpaaDoorETbl
import Derived.Test.YtniedfecmakhpaaDoorEOfe
import Derived.Test.YtniedfecmakhpaaDoorERnd
import Derived.Test.YtniedfecmakhpaaDoorRxE
import Derived.Deep.RegionWith
namespace Go.Proofs.YtniedfecmakhpaaDoor
open Go.RowKit

theorem fut_e {w w' : World} {Q : World → Prop} (h : ∀ W, Below w.heap.size w W → Q W) (hb : Below w.heap.size w w') : ∀ W, Below w'.heap.size w' W → Q W := fun W hW => h W (hb.trans (hW.mono hb.size))

open Classical in
set_option maxHeartbeats 20000000 in
set_option maxRecDepth 100000 in
theorem cpaths_c (a : Option Addr) (n cap : Nat) (ls : List (List Int)) (h : Int) (ae : Option Addr) (ne ce : Nat) (ss : List ByteArray) (m : Int) (w : World) (hh : -9223372036854775808 ≤ h ∧ h ≤ 9223372036854775807) (hs : Table w a ls) (hn : n = ls.length) (hl : ls.length ≤ 17592186044416)
    (ht : Txs w ae ss) (hne : ne = ss.length) (hm : 0 < w.heap.size ∧ w.cell? ⟨0, 0, none⟩ = some (.int .i64 m))
    (hpile : ∀ W, Below w.heap.size w W → Calls Tryd.prog 11 #[.slice a n cap, .int .i64 h] W fun e w' => e = .returned (.bool (decide (PileL ls h))) ∧ Hid (Below W.heap.size W w')) :
    Calls Tryd.prog 3 #[.slice a n cap, .int .i64 h, .slice ae ne ce] w fun e w' => e = .returned (.bool true) ∧ Below w.heap.size w w' := by
  have HS : Hid (Table w a ls) := hs
  have HT : Hid (Txs w ae ss) := ht
  have HM : Hid (0 < w.heap.size ∧ w.cell? ⟨0, 0, none⟩ = some (.int .i64 m)) := hm
  have HPile : Hid (∀ W, Below w.heap.size w W → Calls Tryd.prog 11 #[.slice a n cap, .int .i64 h] W fun e w' => e = .returned (.bool (decide (PileL ls h))) ∧ Hid (Below W.heap.size W w')) := hpile
  have HH : Hid (-9223372036854775808 ≤ h ∧ h ≤ 9223372036854775807) := hh
  have HNl : Hid (n = ls.length) := hn
  have HLl : Hid (ls.length ≤ 17592186044416) := hl
  have HNe : Hid (ne = ss.length) := hne
  obtain ⟨q, HQ⟩ : ∃ q, Hid (q = fpC ss) := ⟨_, rfl⟩
  clear hs hh hn hl ht hm hpile hne
  by_cases hP : PileL ls h
  · rw [decide_eq_true hP] at HPile
    obtain ⟨r, c, k, P, rfl, rfl, p⟩ := hP.fn
    have hnr : n = r := by have := HNl.out; rw [tb_len] at this; exact this
    subst hnr
    have HP : Hid (Pil n c k P) := p
    have r1 := p.r1; have r8 := p.r8; have c1 := p.c1; have c8 := p.c8; have h1 := p.h1; have h8 := p.h8
    have HP1 : Hid (Pil c k n (trn n P)) := p.trn
    have HPr : Hid (Pil n c k (rst n c k P)) := p.rst
    have HPm : Hid (Pil c n k (mir P)) := p.mir
    clear p hP HNl HLl HH
    obtain ⟨b0, off0, ai0, ci0, ha0, -, -⟩ := HS.out.rowP (i := 0) (by omega)
    subst ha0
    have F0p : Hid (∀ W, Below w.heap.size w W → Table W (some ⟨b0, off0, none⟩) (tb n c P)) := fun W hW => HS.out.below hW
    have F0t : Hid (∀ W, Below w.heap.size w W → Txs W ae ss) := fun W hW => HT.out.below hW
    have F0m : Hid (∀ W, Below w.heap.size w W → 0 < W.heap.size ∧ W.cell? ⟨0, 0, none⟩ = some (.int .i64 m)) := fun W hW => ⟨Nat.lt_of_lt_of_le HM.out.1 hW.size, (hW.cell (p := ⟨0, 0, none⟩) HM.out.1).trans HM.out.2⟩
    have HB0 : Hid (Below w.heap.size w w) := Below.refl _ _
    clear HS HT HM
    have HC : Hid (Calls Tryd.prog 4 #[.slice (some ⟨b0, off0, none⟩) n cap, .int .i64 (k : Int)] w fun e w' => ∃ X, e = .returned (.tuple #[.slice (some ⟨X, 0, none⟩) k k, .int .i64 0]) ∧ Hid (SRow w' X k (ptx n c P)) ∧ Hid (Below w.heap.size w w') ∧ Hid (w.heap.size ≤ X)) := Paths_ok _ n cap n c k P w (F0p.out w (Below.refl _ _)) rfl HP.out
    go_enter Tryd.func3, Tryd.ntmps3
    go_wp2_with fail
    refine HC.out.mono ?_
    rintro e w1 ⟨X, rfl, HSr, Hb, -⟩
    clear HC
    have F1s : Hid (∀ W, Below w1.heap.size w1 W → SRow W X k (ptx n c P)) := fun W hW => HSr.out.below hW
    clear HSr
    have F1p : Hid (∀ W, Below w1.heap.size w1 W → Table W (some ⟨b0, off0, none⟩) (tb n c P)) := fut_e F0p.out Hb.out
    have F1t : Hid (∀ W, Below w1.heap.size w1 W → Txs W ae ss) := fut_e F0t.out Hb.out
    have F1m : Hid (∀ W, Below w1.heap.size w1 W → 0 < W.heap.size ∧ W.cell? ⟨0, 0, none⟩ = some (.int .i64 m)) := fut_e F0m.out Hb.out
    have HB1 : Hid (Below w.heap.size w w1) := HB0.out.trans ((Hb.out).mono HB0.out.size)
    clear F0p F0t F0m HB0
    clear Hb
    have HC : Hid (Calls Tryd.prog 5 #[.slice (some ⟨b0, off0, none⟩) n cap, .int .i64 (k : Int)] w1 fun e w' => ∃ v, e = .returned (.tuple #[v, .int .i64 0]) ∧ Hid (Tbl w' w1.heap.size v (tb c k (trn n P))) ∧ Hid (Below w1.heap.size w1 w')) := Turned_ok _ n _ n c k P w1 (F1p.out w1 (Below.refl _ _)) rfl HP.out
    go_wp2_with fail
    refine HC.out.mono ?_
    rintro e w2 ⟨vb, rfl, HTb, Hb⟩
    clear HC
    have F2b : Hid (∀ W, Below w2.heap.size w2 W → Tbl W w1.heap.size vb (tb c k (trn n P))) := fun W hW => HTb.out.below hW
    clear HTb
    have F2p : Hid (∀ W, Below w2.heap.size w2 W → Table W (some ⟨b0, off0, none⟩) (tb n c P)) := fut_e F1p.out Hb.out
    have F2t : Hid (∀ W, Below w2.heap.size w2 W → Txs W ae ss) := fut_e F1t.out Hb.out
    have F2m : Hid (∀ W, Below w2.heap.size w2 W → 0 < W.heap.size ∧ W.cell? ⟨0, 0, none⟩ = some (.int .i64 m)) := fut_e F1m.out Hb.out
    have F2s : Hid (∀ W, Below w2.heap.size w2 W → SRow W X k (ptx n c P)) := fut_e F1s.out Hb.out
    have HB2 : Hid (Below w.heap.size w w2) := HB1.out.trans ((Hb.out).mono HB1.out.size)
    clear F1p F1t F1m F1s HB1
    clear Hb
    have HC : Hid (Calls Tryd.prog 6 #[.slice (some ⟨b0, off0, none⟩) n cap, .int .i64 (k : Int)] w2 fun e w' => ∃ v, e = .returned (.tuple #[v, .int .i64 0]) ∧ Hid (Tbl w' w2.heap.size v (tb c n (mir P))) ∧ Hid (Below w2.heap.size w2 w')) := Mirrored_ok _ n _ n c k P w2 (F2p.out w2 (Below.refl _ _)) rfl HP.out
    go_wp2_with fail
    refine HC.out.mono ?_
    rintro e w3 ⟨vc, rfl, HTb, Hb⟩
    clear HC
    have F3c : Hid (∀ W, Below w3.heap.size w3 W → Tbl W w2.heap.size vc (tb c n (mir P))) := fun W hW => HTb.out.below hW
    clear HTb
    have F3p : Hid (∀ W, Below w3.heap.size w3 W → Table W (some ⟨b0, off0, none⟩) (tb n c P)) := fut_e F2p.out Hb.out
    have F3t : Hid (∀ W, Below w3.heap.size w3 W → Txs W ae ss) := fut_e F2t.out Hb.out
    have F3m : Hid (∀ W, Below w3.heap.size w3 W → 0 < W.heap.size ∧ W.cell? ⟨0, 0, none⟩ = some (.int .i64 m)) := fut_e F2m.out Hb.out
    have F3s : Hid (∀ W, Below w3.heap.size w3 W → SRow W X k (ptx n c P)) := fut_e F2s.out Hb.out
    have F3b : Hid (∀ W, Below w3.heap.size w3 W → Tbl W w1.heap.size vb (tb c k (trn n P))) := fut_e F2b.out Hb.out
    have HB3 : Hid (Below w.heap.size w w3) := HB2.out.trans ((Hb.out).mono HB2.out.size)
    clear F2p F2t F2m F2s F2b HB2
    clear Hb
    have HC : Hid (Calls Tryd.prog 7 #[.slice (some ⟨b0, off0, none⟩) n cap, .int .i64 (k : Int)] w3 fun e w' => ∃ v, e = .returned (.tuple #[v, .int .i64 0]) ∧ Hid (Tbl w' w3.heap.size v (tb n c (rst n c k P))) ∧ Hid (Below w3.heap.size w3 w')) := Rest_ok _ n _ n c k P w3 (F3p.out w3 (Below.refl _ _)) rfl HP.out
    go_wp2_with fail
    refine HC.out.mono ?_
    rintro e w4 ⟨vd, rfl, HTb, Hb⟩
    clear HC
    have F4d : Hid (∀ W, Below w4.heap.size w4 W → Tbl W w3.heap.size vd (tb n c (rst n c k P))) := fun W hW => HTb.out.below hW
    clear HTb
    have F4p : Hid (∀ W, Below w4.heap.size w4 W → Table W (some ⟨b0, off0, none⟩) (tb n c P)) := fut_e F3p.out Hb.out
    have F4t : Hid (∀ W, Below w4.heap.size w4 W → Txs W ae ss) := fut_e F3t.out Hb.out
    have F4m : Hid (∀ W, Below w4.heap.size w4 W → 0 < W.heap.size ∧ W.cell? ⟨0, 0, none⟩ = some (.int .i64 m)) := fut_e F3m.out Hb.out
    have F4s : Hid (∀ W, Below w4.heap.size w4 W → SRow W X k (ptx n c P)) := fut_e F3s.out Hb.out
    have F4b : Hid (∀ W, Below w4.heap.size w4 W → Tbl W w1.heap.size vb (tb c k (trn n P))) := fut_e F3b.out Hb.out
    have F4c : Hid (∀ W, Below w4.heap.size w4 W → Tbl W w2.heap.size vc (tb c n (mir P))) := fut_e F3c.out Hb.out
    have HB4 : Hid (Below w.heap.size w w4) := HB3.out.trans ((Hb.out).mono HB3.out.size)
    clear F3p F3t F3m F3s F3b F3c HB3
    clear Hb
    have HC : Hid (Calls Tryd.prog 8 #[.slice ae ne ce] w4 fun e w' => ∃ v, e = .returned (.tuple #[v, .int .i64 q]) ∧ Hid (fpC ss = 0 → Tbl w' w4.heap.size v (tb (fpR ss) (fpK ss) (fpP ss))) ∧ Hid (fpC ss ≠ 0 → v = .slice none 0 0) ∧ Hid (Below w4.heap.size w4 w')) := by rw [HQ.out]; exact FromPaths_at ae ne ce ss w4 (F4t.out w4 (Below.refl _ _)) HNe.out
    go_wp2_with fail
    refine HC.out.mono ?_
    rintro e w5 ⟨vx, rfl, HTb, HNx, Hb⟩
    clear HC
    have F5x : Hid (∀ W, Below w5.heap.size w5 W → fpC ss = 0 → Tbl W w4.heap.size vx (tb (fpR ss) (fpK ss) (fpP ss))) := fun W hW h0 => (HTb.out h0).below hW
    clear HTb
    have F5p : Hid (∀ W, Below w5.heap.size w5 W → Table W (some ⟨b0, off0, none⟩) (tb n c P)) := fut_e F4p.out Hb.out
    have F5t : Hid (∀ W, Below w5.heap.size w5 W → Txs W ae ss) := fut_e F4t.out Hb.out
    have F5m : Hid (∀ W, Below w5.heap.size w5 W → 0 < W.heap.size ∧ W.cell? ⟨0, 0, none⟩ = some (.int .i64 m)) := fut_e F4m.out Hb.out
    have F5s : Hid (∀ W, Below w5.heap.size w5 W → SRow W X k (ptx n c P)) := fut_e F4s.out Hb.out
    have F5b : Hid (∀ W, Below w5.heap.size w5 W → Tbl W w1.heap.size vb (tb c k (trn n P))) := fut_e F4b.out Hb.out
    have F5c : Hid (∀ W, Below w5.heap.size w5 W → Tbl W w2.heap.size vc (tb c n (mir P))) := fut_e F4c.out Hb.out
    have F5d : Hid (∀ W, Below w5.heap.size w5 W → Tbl W w3.heap.size vd (tb n c (rst n c k P))) := fut_e F4d.out Hb.out
    have HB5 : Hid (Below w.heap.size w w5) := HB4.out.trans ((Hb.out).mono HB4.out.size)
    clear F4p F4t F4m F4s F4b F4c F4d HB4
    clear Hb
    have HC : Hid (Calls Tryd.prog 9 #[.slice ae ne ce] w5 fun e w' => ∃ v, e = .returned (.tuple #[v, .int .i64 q]) ∧ Hid (fpC ss = 0 → Tbl w' w5.heap.size v (tb (fpR ss) (fpK ss) (fpP ss))) ∧ Hid (fpC ss ≠ 0 → v = .slice none 0 0) ∧ Hid (Below w5.heap.size w5 w')) := by rw [HQ.out]; exact OfEdges_at ae ne ce ss m w5 (F5t.out w5 (Below.refl _ _)) HNe.out (F5m.out w5 (Below.refl _ _))
    go_wp2_with fail
    refine HC.out.mono ?_
    rintro e w6 ⟨vy, rfl, HTb, HNy, Hb⟩
    clear HC
    have F6y : Hid (∀ W, Below w6.heap.size w6 W → fpC ss = 0 → Tbl W w5.heap.size vy (tb (fpR ss) (fpK ss) (fpP ss))) := fun W hW h0 => (HTb.out h0).below hW
    clear HTb
    have F6p : Hid (∀ W, Below w6.heap.size w6 W → Table W (some ⟨b0, off0, none⟩) (tb n c P)) := fut_e F5p.out Hb.out
    have F6t : Hid (∀ W, Below w6.heap.size w6 W → Txs W ae ss) := fut_e F5t.out Hb.out
    have F6m : Hid (∀ W, Below w6.heap.size w6 W → 0 < W.heap.size ∧ W.cell? ⟨0, 0, none⟩ = some (.int .i64 m)) := fut_e F5m.out Hb.out
    have F6s : Hid (∀ W, Below w6.heap.size w6 W → SRow W X k (ptx n c P)) := fut_e F5s.out Hb.out
    have F6b : Hid (∀ W, Below w6.heap.size w6 W → Tbl W w1.heap.size vb (tb c k (trn n P))) := fut_e F5b.out Hb.out
    have F6c : Hid (∀ W, Below w6.heap.size w6 W → Tbl W w2.heap.size vc (tb c n (mir P))) := fut_e F5c.out Hb.out
    have F6d : Hid (∀ W, Below w6.heap.size w6 W → Tbl W w3.heap.size vd (tb n c (rst n c k P))) := fut_e F5d.out Hb.out
    have F6x : Hid (∀ W, Below w6.heap.size w6 W → fpC ss = 0 → Tbl W w4.heap.size vx (tb (fpR ss) (fpK ss) (fpP ss))) := fut_e F5x.out Hb.out
    have HB6 : Hid (Below w.heap.size w w6) := HB5.out.trans ((Hb.out).mono HB5.out.size)
    clear F5p F5t F5m F5s F5b F5c F5d F5x HB5
    clear Hb
    have HC : Hid (Calls Tryd.prog 10 #[vx, .int .i64 q, vy, .int .i64 q] w6 fun e w' => e = .returned (.bool true) ∧ Hid (Below w6.heap.size w6 w')) := by rw [HQ.out]; exact tab_fp (F6x.out w6 (Below.refl _ _)) (F6y.out w6 (Below.refl _ _)) HNx.out HNy.out
    go_wp2_with fail
    refine HC.out.mono ?_
    rintro e w7 ⟨rfl, Hb⟩
    clear HC
    clear HNx HNy
    have F7p : Hid (∀ W, Below w7.heap.size w7 W → Table W (some ⟨b0, off0, none⟩) (tb n c P)) := fut_e F6p.out Hb.out
    have F7t : Hid (∀ W, Below w7.heap.size w7 W → Txs W ae ss) := fut_e F6t.out Hb.out
    have F7m : Hid (∀ W, Below w7.heap.size w7 W → 0 < W.heap.size ∧ W.cell? ⟨0, 0, none⟩ = some (.int .i64 m)) := fut_e F6m.out Hb.out
    have F7s : Hid (∀ W, Below w7.heap.size w7 W → SRow W X k (ptx n c P)) := fut_e F6s.out Hb.out
    have F7b : Hid (∀ W, Below w7.heap.size w7 W → Tbl W w1.heap.size vb (tb c k (trn n P))) := fut_e F6b.out Hb.out
    have F7c : Hid (∀ W, Below w7.heap.size w7 W → Tbl W w2.heap.size vc (tb c n (mir P))) := fut_e F6c.out Hb.out
    have F7d : Hid (∀ W, Below w7.heap.size w7 W → Tbl W w3.heap.size vd (tb n c (rst n c k P))) := fut_e F6d.out Hb.out
    have F7x : Hid (∀ W, Below w7.heap.size w7 W → fpC ss = 0 → Tbl W w4.heap.size vx (tb (fpR ss) (fpK ss) (fpP ss))) := fut_e F6x.out Hb.out
    have F7y : Hid (∀ W, Below w7.heap.size w7 W → fpC ss = 0 → Tbl W w5.heap.size vy (tb (fpR ss) (fpK ss) (fpP ss))) := fut_e F6y.out Hb.out
    have HB7 : Hid (Below w.heap.size w w7) := HB6.out.trans ((Hb.out).mono HB6.out.size)
    clear F6p F6t F6m F6s F6b F6c F6d F6x F6y HB6
    clear Hb F7x F7y F7t F7m HQ HNe
    have HC := hid_w (HPile.out w7 HB7.out)
    go_wp2_with fail
    refine HC.out.mono ?_
    rintro e w8 ⟨rfl, Hb⟩
    clear HC
    have F8p : Hid (∀ W, Below w8.heap.size w8 W → Table W (some ⟨b0, off0, none⟩) (tb n c P)) := fut_e F7p.out Hb.out
    have F8s : Hid (∀ W, Below w8.heap.size w8 W → SRow W X k (ptx n c P)) := fut_e F7s.out Hb.out
    have F8b : Hid (∀ W, Below w8.heap.size w8 W → Tbl W w1.heap.size vb (tb c k (trn n P))) := fut_e F7b.out Hb.out
    have F8c : Hid (∀ W, Below w8.heap.size w8 W → Tbl W w2.heap.size vc (tb c n (mir P))) := fut_e F7c.out Hb.out
    have F8d : Hid (∀ W, Below w8.heap.size w8 W → Tbl W w3.heap.size vd (tb n c (rst n c k P))) := fut_e F7d.out Hb.out
    have HB8 : Hid (Below w.heap.size w w8) := HB7.out.trans ((Hb.out).mono HB7.out.size)
    clear F7p F7s F7b F7c F7d HB7
    clear Hb HPile
    have HC : Hid (Calls Tryd.prog 12 #[.slice (some ⟨b0, off0, none⟩) n cap] w8 fun e w' => ∃ v, e = .returned v ∧ Tbl w' w8.heap.size v (tb n c P) ∧ Below w8.heap.size w8 w') := Twin_r _ n cap (tb n c P) w8 (F8p.out w8 (Below.refl _ _)) (by rw [tb_len]) (by rw [tb_len]; omega) (fun l hl => by have := (tb_wf (by omega) (by omega : k ≤ 1000) HP.out.le l hl); simp only [tb, List.mem_map, List.mem_range] at hl; obtain ⟨i, _, rfl⟩ := hl; rw [tab_length]; omega)
    go_wp2_with fail
    refine HC.out.mono ?_
    rintro e w9 ⟨v9, rfl, hT9, hb9⟩
    clear HC
    obtain ⟨g, capg, gs, cs, vs, rfl, hR9⟩ := recV_of hT9 r1 c1
    have HR9 : Hid (RecV w9 w8.heap.size g n capg c gs cs vs (vq n c k P 0 0)) := hR9.congr (fun a _ b _ => (vq_start _ _ _ P a b).symm)
    have Hb9 : Hid (Below w8.heap.size w8 w9) := hb9
    clear hT9 hb9 hR9
    go_wp2_with fail
    go_loopw [103] (fun qv wr => ∃ i : Nat, i ≤ n ∧ qv = .int .i64 i ∧ Hid (RecV wr w8.heap.size g n capg c gs cs vs (vq n c k P i 0)) ∧ Hid (Below w8.heap.size w8 wr)) (fun qv _ => n - (intOf qv).toNat)
    case atStart => exact ⟨0, Nat.zero_le _, rfl, HR9, Hb9⟩
    case round =>
        clear HR9 Hb9
        obtain ⟨i, hi, rfl, HR, Hbi⟩ := hrel
        by_cases hil : i < n
        · have hil' : (i : Int) < (n : Int) := by omega
          have HPi : Hid (∀ W, Below w8.heap.size w8 W → ∃ ai ci, W.cell? ⟨b0, off0 + i, none⟩ = some (.slice ai c ci) ∧ Shows W ai (tab c fun j => (P i j : Int))) := fun W hW => by
            obtain ⟨b9, off9, ai, ci, e9, hc, HSi⟩ := (F8p.out W hW).rowP (i := i) hil
            simp only [Option.some.injEq, Addr.mk.injEq, and_true] at e9
            obtain ⟨rfl, rfl⟩ := e9
            exact ⟨ai, ci, hc, HSi.out⟩
          obtain ⟨ai, ci, hc, -⟩ := HPi.out wr Hbi.out
          go_wp2
          clear hc
          go_loopw [111] (fun qv wr => ∃ j : Nat, j ≤ c ∧ qv = .int .i64 j ∧ Hid (RecV wr w8.heap.size g n capg c gs cs vs (vq n c k P i j)) ∧ Hid (Below w8.heap.size w8 wr)) (fun qv _ => c - (intOf qv).toNat)
          case atStart => exact ⟨0, Nat.zero_le _, rfl, HR, Hbi⟩
          case round =>
            clear HR Hbi
            obtain ⟨j, hj, rfl, HR, Hbi⟩ := hrel
            by_cases hjl : j < c
            · have hjl' : (j : Int) < (c : Int) := by omega
              obtain ⟨aj, cj, hcd, hSd⟩ := HPi.out wr.drew (below_drewN Hbi.out 1)
              obtain ⟨b1, o1, haj, hcz⟩ := hSd.boxP hjl
              subst haj
              clear hSd
              obtain ⟨x, HX⟩ : ∃ x, Hid (x = P i j) := ⟨_, rfl⟩
              rw [← HX.out] at hcz
              have hx8 : x ≤ k := by rw [HX.out]; exact HP.out.le i hil j hjl
              obtain ⟨i2, HI2⟩ : ∃ i2, Hid (i2 = n - 1 - i) := ⟨_, rfl⟩
              obtain ⟨j2, HJ2⟩ : ∃ j2, Hid (j2 = c - 1 - j) := ⟨_, rfl⟩
              obtain ⟨y, HY⟩ : ∃ y, Hid (y = k - x) := ⟨_, rfl⟩
              have e1 : (n : Int) - 1 - (i : Int) = (i2 : Int) := by have := HI2.out; omega
              have e2 : (c : Int) - 1 - (j : Int) = (j2 : Int) := by have := HJ2.out; omega
              have e3 : (k : Int) - (x : Int) = (y : Int) := by have := HY.out; omega
              have hi2 : i2 < n := by have := HI2.out; omega
              have hj2 : j2 < c := by have := HJ2.out; omega
              have hi2' : (i2 : Int) < (n : Int) := by omega
              have hj2' : (j2 : Int) < (c : Int) := by omega
              have HRd : Hid (RecV wr.drew w8.heap.size g n capg c gs cs vs (vq n c k P i j)) := HR.out.same (fun _ _ _ => rfl)
              have cR := HRd.out.head (i := i2) hi2
              obtain ⟨cB, fB, hlo, hhi⟩ := HRd.out.box (i := i2) (j := j2) hi2 hj2
              have HR3 : Hid (RecV (wr.drew.setCell ⟨gs i2, j2, none⟩ (.int .i64 (y : Int))) w8.heap.size g n capg c gs cs vs (vq n c k P i (j + 1))) := by
                refine (HRd.out.set (j := j2) hi2 y rfl).congr (fun a ha b hb => ?_)
                rw [HY.out, HX.out, HI2.out, HJ2.out]; exact vq_j hil hjl a b ha hb
              have HB3 : Hid (Below w8.heap.size w8 (wr.drew.setCell ⟨gs i2, j2, none⟩ (.int .i64 (y : Int)))) := (below_drewN Hbi.out 1).setCell (p := ⟨gs i2, j2, none⟩) hlo _
              clear HRd
              go_wp2_with fail
              go_region
              all_goals (
                go_wp2
                go_roundw)
              all_goals first | exact ⟨j + 1, by omega, by go_num, HR3, HB3⟩ | (simp [intOf]; omega)
            · obtain rfl : j = c := by omega
              have HR4 : Hid (RecV wr w8.heap.size g n capg j gs cs vs (vq n j k P (i + 1) 0)) := HR.out.congr (fun a _ b hb => vq_i a b hb)
              go_wp2
              go_roundw
              case rel => exact ⟨i + 1, by omega, by go_num, HR4, Hbi⟩
              case measure => simp [intOf]; omega
        · obtain rfl : i = n := by omega
          have HTr : Hid (Tbl wr w8.heap.size (.slice (some ⟨g, 0, none⟩) i capg) (tb i c (rst i c k P))) := (HR.out.congr (fun a ha b _ => vq_end a b ha)).tbl
          obtain ⟨w10, HW10⟩ : ∃ w10, Hid (w10 = wr) := ⟨_, rfl⟩
          have Hb : Hid (Below w8.heap.size w8 w10) := by rw [HW10.out]; exact Hbi
          have F10r : Hid (∀ W, Below w10.heap.size w10 W → Tbl W w8.heap.size (.slice (some ⟨g, 0, none⟩) i capg) (tb i c (rst i c k P))) := fun W hW => by rw [HW10.out] at hW; exact HTr.out.below hW
          rw [← HW10.out]
          clear HW10 HTr HR Hbi
          have F10p : Hid (∀ W, Below w10.heap.size w10 W → Table W (some ⟨b0, off0, none⟩) (tb i c P)) := fut_e F8p.out Hb.out
          have F10s : Hid (∀ W, Below w10.heap.size w10 W → SRow W X k (ptx i c P)) := fut_e F8s.out Hb.out
          have F10b : Hid (∀ W, Below w10.heap.size w10 W → Tbl W w1.heap.size vb (tb c k (trn i P))) := fut_e F8b.out Hb.out
          have F10c : Hid (∀ W, Below w10.heap.size w10 W → Tbl W w2.heap.size vc (tb c i (mir P))) := fut_e F8c.out Hb.out
          have F10d : Hid (∀ W, Below w10.heap.size w10 W → Tbl W w3.heap.size vd (tb i c (rst i c k P))) := fut_e F8d.out Hb.out
          have HB10 : Hid (Below w.heap.size w w10) := HB8.out.trans ((Hb.out).mono HB8.out.size)
          clear F8p F8s F8b F8c F8d HB8
          clear Hb
          have HC : Hid (Calls Tryd.prog 14 #[.slice (some ⟨b0, off0, none⟩) i cap, .int .i64 (k : Int)] w10 fun e w' => ∃ v, e = .returned v ∧ Hid (STx w' w10.heap.size v k (ptx i c P)) ∧ Hid (Below w10.heap.size w10 w')) := Edges_at _ i cap i c k P w10 (F10p.out w10 (Below.refl _ _)) rfl HP.out
          go_wp2_with fail
          refine HC.out.mono ?_
          rintro e w11 ⟨v11, rfl, HE, Hb⟩
          clear HC
          obtain ⟨gE, cE, rfl, HEc⟩ := HE.out.use h1
          clear HE
          have F11p : Hid (∀ W, Below w11.heap.size w11 W → Table W (some ⟨b0, off0, none⟩) (tb i c P)) := fut_e F10p.out Hb.out
          have F11s : Hid (∀ W, Below w11.heap.size w11 W → SRow W X k (ptx i c P)) := fut_e F10s.out Hb.out
          have F11b : Hid (∀ W, Below w11.heap.size w11 W → Tbl W w1.heap.size vb (tb c k (trn i P))) := fut_e F10b.out Hb.out
          have F11c : Hid (∀ W, Below w11.heap.size w11 W → Tbl W w2.heap.size vc (tb c i (mir P))) := fut_e F10c.out Hb.out
          have F11d : Hid (∀ W, Below w11.heap.size w11 W → Tbl W w3.heap.size vd (tb i c (rst i c k P))) := fut_e F10d.out Hb.out
          have F11r : Hid (∀ W, Below w11.heap.size w11 W → Tbl W w8.heap.size (.slice (some ⟨g, 0, none⟩) i capg) (tb i c (rst i c k P))) := fut_e F10r.out Hb.out
          have HB11 : Hid (Below w.heap.size w w11) := HB10.out.trans ((Hb.out).mono HB10.out.size)
          clear F10p F10s F10b F10c F10d F10r HB10
          clear Hb
          have HC : Hid (Calls Tryd.prog 13 #[.slice (some ⟨X, 0, none⟩) k k, .slice (some ⟨gE, 0, none⟩) k cE] w11 fun e w' => e = .returned (.bool true) ∧ Hid (Below w11.heap.size w11 w')) := by
            refine (SameS_at X gE k k cE (ptx i c P) w11 (fun t ht => ((F11s.out w11 (Below.refl _ _)).cell ht).1) (fun t ht => HEc.out w11 (Below.refl _ _) t ht) (by omega)).mono ?_
            rintro e w' ⟨rfl, m2, rfl⟩
            exact ⟨rfl, below_drewN (Below.refl _ _) m2⟩
          go_wp2_with fail
          refine HC.out.mono ?_
          rintro e w12 ⟨rfl, Hb⟩
          clear HC
          have F12p : Hid (∀ W, Below w12.heap.size w12 W → Table W (some ⟨b0, off0, none⟩) (tb i c P)) := fut_e F11p.out Hb.out
          have F12s : Hid (∀ W, Below w12.heap.size w12 W → SRow W X k (ptx i c P)) := fut_e F11s.out Hb.out
          have F12b : Hid (∀ W, Below w12.heap.size w12 W → Tbl W w1.heap.size vb (tb c k (trn i P))) := fut_e F11b.out Hb.out
          have F12c : Hid (∀ W, Below w12.heap.size w12 W → Tbl W w2.heap.size vc (tb c i (mir P))) := fut_e F11c.out Hb.out
          have F12d : Hid (∀ W, Below w12.heap.size w12 W → Tbl W w3.heap.size vd (tb i c (rst i c k P))) := fut_e F11d.out Hb.out
          have F12r : Hid (∀ W, Below w12.heap.size w12 W → Tbl W w8.heap.size (.slice (some ⟨g, 0, none⟩) i capg) (tb i c (rst i c k P))) := fut_e F11r.out Hb.out
          have HB12 : Hid (Below w.heap.size w w12) := HB11.out.trans ((Hb.out).mono HB11.out.size)
          clear F11p F11s F11b F11c F11d F11r HB11
          clear Hb HEc
          have HC : Hid (Calls Tryd.prog 15 #[.slice (some ⟨b0, off0, none⟩) i cap, .int .i64 (k : Int)] w12 fun e w' => ∃ v, e = .returned v ∧ Hid (Tbl w' w12.heap.size v (tb c k (trn i P))) ∧ Hid (Below w12.heap.size w12 w')) := Round_at _ i cap i c k P w12 (F12p.out w12 (Below.refl _ _)) rfl HP.out
          go_wp2_with fail
          refine HC.out.mono ?_
          rintro e w13 ⟨vz, rfl, HTb, Hb⟩
          clear HC
          have F13p : Hid (∀ W, Below w13.heap.size w13 W → Table W (some ⟨b0, off0, none⟩) (tb i c P)) := fut_e F12p.out Hb.out
          have F13s : Hid (∀ W, Below w13.heap.size w13 W → SRow W X k (ptx i c P)) := fut_e F12s.out Hb.out
          have F13b : Hid (∀ W, Below w13.heap.size w13 W → Tbl W w1.heap.size vb (tb c k (trn i P))) := fut_e F12b.out Hb.out
          have F13c : Hid (∀ W, Below w13.heap.size w13 W → Tbl W w2.heap.size vc (tb c i (mir P))) := fut_e F12c.out Hb.out
          have F13d : Hid (∀ W, Below w13.heap.size w13 W → Tbl W w3.heap.size vd (tb i c (rst i c k P))) := fut_e F12d.out Hb.out
          have F13r : Hid (∀ W, Below w13.heap.size w13 W → Tbl W w8.heap.size (.slice (some ⟨g, 0, none⟩) i capg) (tb i c (rst i c k P))) := fut_e F12r.out Hb.out
          have HB13 : Hid (Below w.heap.size w w13) := HB12.out.trans ((Hb.out).mono HB12.out.size)
          clear F12p F12s F12b F12c F12d F12r HB12
          clear Hb
          have HC : Hid (Calls Tryd.prog 10 #[vb, .int .i64 0, vz, .int .i64 0] w13 fun e w' => e = .returned (.bool true) ∧ Hid (Below w13.heap.size w13 w')) := tab_two (F13b.out w13 (Below.refl _ _)) HTb.out (by omega) (by omega) (by omega : i ≤ 1000) HP1.out.le
          go_wp2_with fail
          refine HC.out.mono ?_
          rintro e w14 ⟨rfl, Hb⟩
          clear HC
          have F14p : Hid (∀ W, Below w14.heap.size w14 W → Table W (some ⟨b0, off0, none⟩) (tb i c P)) := fut_e F13p.out Hb.out
          have F14s : Hid (∀ W, Below w14.heap.size w14 W → SRow W X k (ptx i c P)) := fut_e F13s.out Hb.out
          have F14b : Hid (∀ W, Below w14.heap.size w14 W → Tbl W w1.heap.size vb (tb c k (trn i P))) := fut_e F13b.out Hb.out
          have F14c : Hid (∀ W, Below w14.heap.size w14 W → Tbl W w2.heap.size vc (tb c i (mir P))) := fut_e F13c.out Hb.out
          have F14d : Hid (∀ W, Below w14.heap.size w14 W → Tbl W w3.heap.size vd (tb i c (rst i c k P))) := fut_e F13d.out Hb.out
          have F14r : Hid (∀ W, Below w14.heap.size w14 W → Tbl W w8.heap.size (.slice (some ⟨g, 0, none⟩) i capg) (tb i c (rst i c k P))) := fut_e F13r.out Hb.out
          have HB14 : Hid (Below w.heap.size w w14) := HB13.out.trans ((Hb.out).mono HB13.out.size)
          clear F13p F13s F13b F13c F13d F13r HB13
          clear Hb HTb
          have HC : Hid (Calls Tryd.prog 16 #[.slice (some ⟨b0, off0, none⟩) i cap] w14 fun e w' => ∃ v, e = .returned v ∧ Hid (Tbl w' w14.heap.size v (tb c i (mir P))) ∧ Hid (Below w14.heap.size w14 w')) := Across_at _ i cap i c k P w14 (F14p.out w14 (Below.refl _ _)) rfl HP.out
          go_wp2_with fail
          refine HC.out.mono ?_
          rintro e w15 ⟨vz, rfl, HTb, Hb⟩
          clear HC
          have F15p : Hid (∀ W, Below w15.heap.size w15 W → Table W (some ⟨b0, off0, none⟩) (tb i c P)) := fut_e F14p.out Hb.out
          have F15s : Hid (∀ W, Below w15.heap.size w15 W → SRow W X k (ptx i c P)) := fut_e F14s.out Hb.out
          have F15b : Hid (∀ W, Below w15.heap.size w15 W → Tbl W w1.heap.size vb (tb c k (trn i P))) := fut_e F14b.out Hb.out
          have F15c : Hid (∀ W, Below w15.heap.size w15 W → Tbl W w2.heap.size vc (tb c i (mir P))) := fut_e F14c.out Hb.out
          have F15d : Hid (∀ W, Below w15.heap.size w15 W → Tbl W w3.heap.size vd (tb i c (rst i c k P))) := fut_e F14d.out Hb.out
          have F15r : Hid (∀ W, Below w15.heap.size w15 W → Tbl W w8.heap.size (.slice (some ⟨g, 0, none⟩) i capg) (tb i c (rst i c k P))) := fut_e F14r.out Hb.out
          have HB15 : Hid (Below w.heap.size w w15) := HB14.out.trans ((Hb.out).mono HB14.out.size)
          clear F14p F14s F14b F14c F14d F14r HB14
          clear Hb
          have HC : Hid (Calls Tryd.prog 10 #[vc, .int .i64 0, vz, .int .i64 0] w15 fun e w' => e = .returned (.bool true) ∧ Hid (Below w15.heap.size w15 w')) := tab_two (F15c.out w15 (Below.refl _ _)) HTb.out (by omega) (by omega) (by omega : k ≤ 1000) HPm.out.le
          go_wp2_with fail
          refine HC.out.mono ?_
          rintro e w16 ⟨rfl, Hb⟩
          clear HC
          have F16p : Hid (∀ W, Below w16.heap.size w16 W → Table W (some ⟨b0, off0, none⟩) (tb i c P)) := fut_e F15p.out Hb.out
          have F16s : Hid (∀ W, Below w16.heap.size w16 W → SRow W X k (ptx i c P)) := fut_e F15s.out Hb.out
          have F16b : Hid (∀ W, Below w16.heap.size w16 W → Tbl W w1.heap.size vb (tb c k (trn i P))) := fut_e F15b.out Hb.out
          have F16c : Hid (∀ W, Below w16.heap.size w16 W → Tbl W w2.heap.size vc (tb c i (mir P))) := fut_e F15c.out Hb.out
          have F16d : Hid (∀ W, Below w16.heap.size w16 W → Tbl W w3.heap.size vd (tb i c (rst i c k P))) := fut_e F15d.out Hb.out
          have F16r : Hid (∀ W, Below w16.heap.size w16 W → Tbl W w8.heap.size (.slice (some ⟨g, 0, none⟩) i capg) (tb i c (rst i c k P))) := fut_e F15r.out Hb.out
          have HB16 : Hid (Below w.heap.size w w16) := HB15.out.trans ((Hb.out).mono HB15.out.size)
          clear F15p F15s F15b F15c F15d F15r HB15
          clear Hb HTb
          have HC : Hid (Calls Tryd.prog 10 #[vd, .int .i64 0, .slice (some ⟨g, 0, none⟩) i capg, .int .i64 0] w16 fun e w' => e = .returned (.bool true) ∧ Hid (Below w16.heap.size w16 w')) := tab_two (F16d.out w16 (Below.refl _ _)) (F16r.out w16 (Below.refl _ _)) (by omega) (by omega) (by omega : k ≤ 1000) HPr.out.le
          go_wp2_with fail
          refine HC.out.mono ?_
          rintro e w17 ⟨rfl, Hb⟩
          clear HC
          have F17p : Hid (∀ W, Below w17.heap.size w17 W → Table W (some ⟨b0, off0, none⟩) (tb i c P)) := fut_e F16p.out Hb.out
          have F17s : Hid (∀ W, Below w17.heap.size w17 W → SRow W X k (ptx i c P)) := fut_e F16s.out Hb.out
          have F17b : Hid (∀ W, Below w17.heap.size w17 W → Tbl W w1.heap.size vb (tb c k (trn i P))) := fut_e F16b.out Hb.out
          have F17c : Hid (∀ W, Below w17.heap.size w17 W → Tbl W w2.heap.size vc (tb c i (mir P))) := fut_e F16c.out Hb.out
          have F17d : Hid (∀ W, Below w17.heap.size w17 W → Tbl W w3.heap.size vd (tb i c (rst i c k P))) := fut_e F16d.out Hb.out
          have F17r : Hid (∀ W, Below w17.heap.size w17 W → Tbl W w8.heap.size (.slice (some ⟨g, 0, none⟩) i capg) (tb i c (rst i c k P))) := fut_e F16r.out Hb.out
          have HB17 : Hid (Below w.heap.size w w17) := HB16.out.trans ((Hb.out).mono HB16.out.size)
          clear F16p F16s F16b F16c F16d F16r HB16
          go_wp2
          go_ret
          exact ⟨rfl, HB17.out⟩
  · have HC0 := hid_w (Paths_no a n cap ls h w HH.out HS.out HNl.out HLl.out hP)
    rw [decide_eq_false hP] at HPile
    go_enter Tryd.func3, Tryd.ntmps3
    go_wp2_with fail
    refine HC0.out.mono ?_
    rintro e w1 ⟨rfl, Hb1⟩
    clear HC0
    have HB1 : Hid (Below w.heap.size w w1) := Hb1.out
    have HC := hid_w (Turned_no a n cap ls h w1 HH.out (HS.out.below HB1.out) HNl.out HLl.out hP)
    go_wp2_with fail
    refine HC.out.mono ?_
    rintro e w2 ⟨rfl, Hb⟩
    clear HC
    have HB2 : Hid (Below w.heap.size w w2) := HB1.out.trans (Hb.out.mono HB1.out.size)
    clear Hb HB1
    have HC := hid_w (Mirrored_no a n cap ls h w2 HH.out (HS.out.below HB2.out) HNl.out HLl.out hP)
    go_wp2_with fail
    refine HC.out.mono ?_
    rintro e w3 ⟨rfl, Hb⟩
    clear HC
    have HB3 : Hid (Below w.heap.size w w3) := HB2.out.trans (Hb.out.mono HB2.out.size)
    clear Hb HB2
    have HC := hid_w (Rest_no a n cap ls h w3 HH.out (HS.out.below HB3.out) HNl.out HLl.out hP)
    go_wp2_with fail
    refine HC.out.mono ?_
    rintro e w4 ⟨rfl, Hb⟩
    clear HC
    have HB4 : Hid (Below w.heap.size w w4) := HB3.out.trans (Hb.out.mono HB3.out.size)
    clear Hb HB3
    have HC : Hid (Calls Tryd.prog 8 #[.slice ae ne ce] w4 fun e w' => ∃ v, e = .returned (.tuple #[v, .int .i64 q]) ∧ Hid (fpC ss = 0 → Tbl w' w4.heap.size v (tb (fpR ss) (fpK ss) (fpP ss))) ∧ Hid (fpC ss ≠ 0 → v = .slice none 0 0) ∧ Hid (Below w4.heap.size w4 w')) := by rw [HQ.out]; exact FromPaths_at ae ne ce ss w4 (HT.out.below HB4.out) HNe.out
    go_wp2_with fail
    refine HC.out.mono ?_
    rintro e w5 ⟨vx, rfl, HTx, HNx, Hb5⟩
    clear HC
    have HB5 : Hid (Below w.heap.size w w5) := HB4.out.trans (Hb5.out.mono HB4.out.size)
    have HC : Hid (Calls Tryd.prog 9 #[.slice ae ne ce] w5 fun e w' => ∃ v, e = .returned (.tuple #[v, .int .i64 q]) ∧ Hid (fpC ss = 0 → Tbl w' w5.heap.size v (tb (fpR ss) (fpK ss) (fpP ss))) ∧ Hid (fpC ss ≠ 0 → v = .slice none 0 0) ∧ Hid (Below w5.heap.size w5 w')) := by rw [HQ.out]; exact OfEdges_at ae ne ce ss m w5 (HT.out.below HB5.out) HNe.out ⟨Nat.lt_of_lt_of_le HM.out.1 HB5.out.size, (HB5.out.cell (p := ⟨0, 0, none⟩) HM.out.1).trans HM.out.2⟩
    go_wp2_with fail
    refine HC.out.mono ?_
    rintro e w6 ⟨vy, rfl, HTy, HNy, Hb6⟩
    clear HC
    have HB6 : Hid (Below w.heap.size w w6) := HB5.out.trans (Hb6.out.mono HB5.out.size)
    have HC : Hid (Calls Tryd.prog 10 #[vx, .int .i64 q, vy, .int .i64 q] w6 fun e w' => e = .returned (.bool true) ∧ Hid (Below w6.heap.size w6 w')) := by rw [HQ.out]; exact tab_fp (fun h0 => (HTx.out h0).below Hb6.out) HTy.out HNx.out HNy.out
    go_wp2_with fail
    refine HC.out.mono ?_
    rintro e w7 ⟨rfl, Hb7⟩
    clear HC
    have HB7 : Hid (Below w.heap.size w w7) := HB6.out.trans (Hb7.out.mono HB6.out.size)
    have HC := hid_w (HPile.out w7 HB7.out)
    go_wp2_with fail
    refine HC.out.mono ?_
    rintro e w8 ⟨rfl, Hb8⟩
    clear HC
    have HB8 : Hid (Below w.heap.size w w8) := HB7.out.trans (Hb8.out.mono HB7.out.size)
    go_wp2
    go_ret
    exact ⟨rfl, HB8.out⟩

end Go.Proofs.YtniedfecmakhpaaDoor
