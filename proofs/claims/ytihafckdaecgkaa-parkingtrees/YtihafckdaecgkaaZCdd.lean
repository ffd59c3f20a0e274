/-
  ferref.Coded: the tree of a code.
-/
import Derived.Test.YtihafckdaecgkaaZCdm
import Derived.Test.YtihafckdaecgkaaZTap
import Derived.Test.YtihafckdaecgkaaZEdg
import Derived.Test.YtihafckdaecgkaaZCod
import Derived.Laws.EntriesVeiled
namespace Go.Proofs.Ytihafckdaecgkaa
open Go.RowKit

theorem Shows.dropA {w : World} {b off : Nat} {zs : List Int} (h : Shows w (some ⟨b, off, none⟩) zs) (k : Nat) : Shows w (some ⟨b, off + k, none⟩) (zs.drop k) := by
  refine ⟨by rw [List.length_drop]; have := h.len; omega, fun z hz => h.wf z (List.mem_of_mem_drop hz), fun hne => ?_⟩
  obtain ⟨b', o', ha, hlt, hc⟩ := h.cells (fun e => hne (by rw [e]; simp))
  simp only [Option.some.injEq, Addr.mk.injEq, and_true] at ha
  obtain ⟨rfl, rfl⟩ := ha
  refine ⟨b, off + k, rfl, hlt, fun j hj => ?_⟩
  rw [List.length_drop] at hj
  rw [Nat.add_assoc, hc (k + j) (by omega)]
  simp [List.getD]
theorem Contains_use (a : Option Addr) (n cap : Nat) (zs : List Int) (x : Int) (t : Bool) (w : World) (hs : Shows w a zs) (hn : n = zs.length) (ht : t = decide (x ∈ zs)) :
    Calls Try.prog 26 #[.slice a n cap, .int .i64 x] w fun e w' => e = .returned (.bool t) ∧ w' = w := by
  subst hn; subst ht; exact Contains_any a cap zs x w hs

set_option maxHeartbeats 4000000 in
set_option maxRecDepth 100000 in
theorem least_at (a b : Option Addr) (n m k ca cb Bn Bt x : Nat) (l T : List Int) (w : World) (hs : Shows w a l) (ht : Shows w b T) (hn : n = l.length) (hm : m = T.length) (h1 : w.cell? ⟨Bn, 0, none⟩ = some (.int .i64 (k : Int))) (h2 : w.cell? ⟨Bt, 0, none⟩ = some (.slice b m cb)) (hx : LeastR k l T x) (hk : k ≤ 1000) :
    Calls Try.prog 30 #[.slice a n ca, .pointer (some ⟨Bn, 0, none⟩), .pointer (some ⟨Bt, 0, none⟩)] w fun e w' => e = .returned (.int .i64 (x : Int)) ∧ w' = w := by
  have HC : Hid (∀ v : Int, Calls Try.prog 26 #[.slice a n ca, .int .i64 v] w fun e w' => e = .returned (.bool (decide (v ∈ l))) ∧ w' = w) := fun v => Contains_use a n ca l v _ w hs hn rfl
  have HD : Hid (∀ v : Int, Calls Try.prog 26 #[.slice b m cb, .int .i64 v] w fun e w' => e = .returned (.bool (decide (v ∈ T))) ∧ w' = w) := fun v => Contains_use b m cb T v _ w ht hm rfl
  have HX : Hid (LeastR k l T x) := hx
  clear hs ht hn hm hx
  go_enter Try.func30, Try.ntmps30
  go_wp2
  go_loopw [5] (fun v5 wr => ∃ y : Nat, 1 ≤ y ∧ y ≤ x ∧ v5 = .int .i64 (y : Int) ∧ wr = w) (fun v5 _ => k + 1 - (intOf v5).toNat)
  case atStart => exact ⟨1, Nat.le_refl _, HX.out.1, rfl, rfl⟩
  case round =>
    obtain ⟨y, hy1, hyx, rfl, rfl⟩ := hrel
    have hyk : (y : Int) ≤ (k : Int) := by have := HX.out.2.1; omega
    have hy1000 : y ≤ 1000 := by omega
    have HC1 := HC.out (y : Int)
    have HD1 := HD.out (y : Int)
    by_cases hyl : (y : Int) ∈ l
    · rw [decide_eq_true hyl] at HC1
      have hlt : y < x := by
        rcases Nat.lt_or_ge y x with h | h
        · exact h
        · obtain rfl : y = x := by omega
          exact absurd hyl HX.out.2.2.1
      clear HD1
      go_wp2_with fail
      refine HC1.mono ?_
      rintro e w2 ⟨rfl, rfl⟩
      go_wp2
      go_roundw
      case rel => exact ⟨y + 1, by omega, by omega, by go_num, by first | rfl | trivial⟩
      case measure => simp [intOf]; omega
    · rw [decide_eq_false hyl] at HC1
      by_cases hyT : (y : Int) ∈ T
      · rw [decide_eq_true hyT] at HD1
        have hlt : y < x := by
          rcases Nat.lt_or_ge y x with h | h
          · exact h
          · obtain rfl : y = x := by omega
            exact absurd hyT HX.out.2.2.2.1
        go_wp2_with fail
        refine HC1.mono ?_
        rintro e w2 ⟨rfl, rfl⟩
        go_wp2_with fail
        refine HD1.mono ?_
        rintro e w2 ⟨rfl, rfl⟩
        go_wp2
        go_roundw
        case rel => exact ⟨y + 1, by omega, by omega, by go_num, by first | rfl | trivial⟩
        case measure => simp [intOf]; omega
      · rw [decide_eq_false hyT] at HD1
        obtain rfl : y = x := by
          rcases Nat.lt_or_ge y x with h | h
          · rcases HX.out.2.2.2.2 y hy1 h with g | g
            · exact absurd g hyl
            · exact absurd g hyT
          · omega
        go_wp2_with fail
        refine HC1.mono ?_
        rintro e w2 ⟨rfl, rfl⟩
        go_wp2_with fail
        refine HD1.mono ?_
        rintro e w2 ⟨rfl, rfl⟩
        go_wp2
        go_ret
        exact ⟨rfl, rfl⟩

theorem Owns.showsT {w : World} {lo n cap : Nat} {a : Option Addr} {zs : List Int} (h : Owns w lo (.slice a n cap) zs) (_hn : n = zs.length) (hl : zs.length ≤ 1000) (hz : ∀ z ∈ zs, 1 ≤ z ∧ z ≤ 20) : Shows w a zs := by
  obtain ⟨a', c', e, hs⟩ := h.shows (by omega) (fun z h => by have := hz z h; omega)
  simp only [Value.slice.injEq] at e
  rw [e.1]; exact hs
/-- The box of what is taken. -/
def TakS (w : World) (Bt lo : Nat) (T : List Int) : Prop := ∃ u, w.heap[Bt]? = some (.cells #[u] 23 (0, 0)) ∧ Owns w lo u T
theorem TakS.below {w w' : World} {Bt lo : Nat} {T : List Int} (h : TakS w Bt lo T) (hb : Below w.heap.size w w') : TakS w' Bt lo T := by
  obtain ⟨u, h1, h2⟩ := h
  exact ⟨u, (hb.block Bt (Array.getElem?_eq_some_iff.1 h1).1).trans h1, h2.below hb⟩

set_option maxHeartbeats 16000000 in
set_option maxRecDepth 100000 in
theorem Coded_at (a : Option Addr) (n cap : Nat) (c : List Int) (w : World) (hs : Shows w a c) (hn : n = c.length) (hcap : n ≤ cap) (h18 : n ≤ 18) (hc : ∀ z ∈ c, 1 ≤ z ∧ z ≤ (c.length : Int) + 2) :
    Calls Try.prog 11 #[.slice a n cap] w fun e w' => ∃ v M X, e = .returned v ∧ Hid (TrR (tst c) c M ∧ X.Perm (M.map nrm) ∧ SrtP X) ∧ Hid (OwnsP w' w.heap.size v X) ∧ Hid (Below w.heap.size w w') := by
  have HS : Hid (Shows w a c) := hs
  have HN : Hid (n = c.length) := hn
  have HI0 : Hid (CIx c 0 [] []) := CI.start hc
  obtain ⟨m, Hm⟩ : ∃ m : Nat, Hid (m = n + 2) := ⟨_, rfl⟩
  have hm : (n : Int) + 2 = (m : Int) := by have := Hm.out; omega
  have Hmc : Hid (m = c.length + 2) := by rw [Hm.out, ← HN.out]; rfl
  have hm20 : m ≤ 20 := by have := Hm.out; omega
  obtain ⟨Bn, HBn⟩ : ∃ Bn, Hid (Bn = w.heap.size) := ⟨_, rfl⟩
  obtain ⟨Bt, HBt⟩ : ∃ Bt, Hid (Bt = w.heap.size + 1) := ⟨_, rfl⟩
  obtain ⟨lo, Hlo⟩ : ∃ lo, Hid (lo = w.heap.size + 2) := ⟨_, rfl⟩
  obtain ⟨W1, HW1⟩ : ∃ W1, Hid (W1 = (w.alloc (.cells #[.int .i64 (m : Int)] 3)).alloc (.cells #[.slice none 0 0] 23)) := ⟨_, rfl⟩
  clear hs hn hc
  go_enter Try.func11, Try.ntmps11
  go_upto_region 3 with fail
  rw [← HW1.out, ← HBn.out]
  have hbt : Bn + 1 = Bt := by rw [HBn.out, HBt.out]
  rw [hbt]
  clear hbt
  have HB1 : Hid (Below w.heap.size w W1) := by rw [HW1.out]; exact ((Below.refl _ _).alloc (Nat.le_refl _) _).alloc (by simp) _
  have hBt1 : W1.heap[Bt]? = some (.cells #[.slice none 0 0] 23 (0, 0)) := by
    rw [HW1.out, HBt.out]
    have h := heap_alloc_new (w.alloc (.cells #[.int .i64 (m : Int)] 3)) (.cells #[.slice none 0 0] 23)
    rwa [show (w.alloc (.cells #[.int .i64 (m : Int)] 3)).heap.size = w.heap.size + 1 by simp] at h
  have hBn1 : W1.heap[Bn]? = some (.cells #[.int .i64 (m : Int)] 3 (0, 0)) := by
    rw [HW1.out, HBn.out]
    have hb := (Below.refl (w.alloc (.cells #[.int .i64 (m : Int)] 3)).heap.size (w.alloc (.cells #[.int .i64 (m : Int)] 3))).alloc (Nat.le_refl _) (.cells #[.slice none 0 0] 23)
    rw [hb.block w.heap.size (by simp)]
    exact heap_alloc_new _ _
  have HT1 : Hid (TakS W1 Bt lo []) := ⟨_, hBt1, World.ownsRow_nil _ _ _ _⟩
  have HO1 : Hid (OwnsP W1 lo (.slice none 0 0) []) := World.ownsRow_nil _ _ _ _
  have HN1 : Hid (W1.heap[Bn]? = some (.cells #[.int .i64 (m : Int)] 3 (0, 0))) := hBn1
  have Hl1 : Hid (lo ≤ W1.heap.size) := by rw [HW1.out, Hlo.out]; show w.heap.size + 2 ≤ _; simp
  have Hz1 : Hid (∀ z ∈ ([] : List Int), 1 ≤ z ∧ z ≤ 20) := fun z hz => by cases hz
  have HtL : Hid (Bt < lo) := by rw [HBt.out, Hlo.out]; exact Nat.lt_succ_self _
  have HnL : Hid (Bn < Bt) := by rw [HBt.out, HBn.out]; exact Nat.lt_succ_self _
  have HwL : Hid (w.heap.size ≤ Bn) := by rw [HBn.out]; exact Nat.le_refl _
  clear HW1 hBt1 hBn1 HBn HBt
  go_wp2
  go_loopw [6, 7, 8] (fun v6 v7 _ wr => ∃ i : Nat, ∃ T O, i ≤ n ∧ v7 = .int .i64 (i : Int) ∧ Hid (CIx c i T O) ∧ Hid (T.length = i ∧ O.length = i) ∧ Hid (∀ z ∈ T, 1 ≤ z ∧ z ≤ 20) ∧ Hid (TakS wr Bt lo T) ∧ Hid (OwnsP wr lo v6 O) ∧ Hid (wr.heap[Bn]? = some (.cells #[.int .i64 (m : Int)] 3 (0, 0))) ∧ Hid (Below w.heap.size w wr) ∧ Hid (lo ≤ wr.heap.size)) (fun _ v7 _ _ => n - (intOf v7).toNat)
  case atStart => exact ⟨0, [], [], Nat.zero_le _, rfl, HI0, ⟨rfl, rfl⟩, Hz1, HT1, HO1, HN1, HB1, Hl1⟩
  case round =>
    clear HI0 HT1 HO1 HN1 HB1 Hl1 Hz1
    obtain ⟨i, T, O, hi, rfl, HI, HLn, HZ, HT, HO, HNc, HB, HL⟩ := hrel
    obtain ⟨u, hu1, hu2⟩ := HT.out
    obtain ⟨tb, tc, rfl, hst⟩ := hu2.shows (by have := HLn.out.1; omega) (fun z hz => by have := HZ.out z hz; omega)
    have htc : wr.cell? ⟨Bt, 0, none⟩ = some (.slice tb T.length tc) := by rw [cell_of_row wr Bt _ _ _ _ hu1]; rfl
    have htf : wr.frozen? ⟨Bt, 0, none⟩ = false := frozen_of_row wr Bt 0 _ _ hu1
    have hnc : wr.cell? ⟨Bn, 0, none⟩ = some (.int .i64 (m : Int)) := by rw [cell_of_row wr Bn _ _ _ _ HNc.out]; rfl
    obtain ⟨V, es, hCI⟩ := HI.out
    obtain ⟨x, hx⟩ := hCI.least
    rw [← Hmc.out] at hx
    have hx20 : x ≤ 20 := by have := hx.2.1; omega
    have hx1 : 1 ≤ x := hx.1
    by_cases hlt : i < n
    · have hlt' : (i : Int) < (n : Int) := by omega
      obtain ⟨b, off, z, rfl, Hz, -, -, hcz⟩ := (HS.out.below HB.out).elem (k := i) (by rw [← HN.out]; exact hlt)
      have HLe := least_at (some ⟨b, off + i, none⟩) tb (n - i) T.length m (cap - i) tc Bn Bt x (c.drop i) T wr ((HS.out.below HB.out).dropA i) hst (by rw [List.length_drop, ← HN.out]) rfl hnc htc hx (by omega)
      have HSt : Hid (CIx c (i + 1) (T ++ [(x : Int)]) (O ++ [((x : Int), z)])) := by
        rw [Hz.out]
        exact hCI.step (by rw [← HN.out]; exact hlt) (by rw [← Hmc.out]; exact hx)
      have HV : Hid (wr.ownsRow lo 3 1 (.slice tb T.length tc) (T.map (Value.int .i64)).length (T.map (Value.int .i64))) := vals_of_owns hu2
      have HOw : Hid (Owns wr lo (.slice tb T.length tc) T) := hu2
      have hci : ¬ cap = i := by omega
      have hic : i ≤ cap := by omega
      have hin : i ≤ n := by omega
      obtain ⟨tl, Htl⟩ : ∃ tl, Hid (tl = T.length) := ⟨_, rfl⟩
      rw [← Htl.out] at htc HV HOw
      have Htl18 : Hid (T.length ≤ 18) := by have := HLn.out.1; show _ ≤ _; omega
      have Hbt : Hid (wr.heap[Bt]? = some (.cells #[.slice tb tl tc] 23 (0, 0))) := by rw [Htl.out]; exact hu1
      clear hu1 hu2 hst hCI hx HT HI
      go_wp2_with fail
      refine HLe.mono ?_
      rintro e w2 ⟨rfl, rfl⟩
      go_wp2_with (at_builtin; refine append_one elem_int (x := .int .i64 (x : Int)) rfl _ _ rfl rfl rfl rfl HV.out rfl ?c1 ?c2 ?c3 ?_)
      case c1 => rw [List.length_map]; unfold maxLen; have := Htl18.out; omega
      case c2 => rw [List.length_map]; have := Htl18.out; omega
      case c3 => exact HL.out
      intro v' w10 hC hBc hKc
      have HZx : Hid (∀ y ∈ T ++ [(x : Int)], 1 ≤ y ∧ y ≤ 20) := fun y hy => by
        rcases List.mem_append.1 hy with h | h
        · exact HZ.out y h
        · simp at h; omega
      have hO10 : Owns w10 lo v' (T ++ [(x : Int)]) := by
        refine owns_of_vals ?_
        simpa using hC
      obtain ⟨tb3, tc3, hv3, -⟩ := hO10.shows (by rw [List.length_append]; have := HLn.out.1; simp; omega) (fun z hz => by have := HZx.out z hz; omega)
      obtain ⟨tl3, Htl3⟩ : ∃ tl3, Hid (tl3 = (T ++ [(x : Int)]).length) := ⟨_, rfl⟩
      rw [← Htl3.out] at hv3
      subst hv3
      have Hbt10 : Hid (w10.heap[Bt]? = some (.cells #[.slice tb tl tc] 23 (0, 0))) := (hBc.block Bt HtL.out).trans Hbt.out
      have hbtc : w10.cell? ⟨Bt, 0, none⟩ = some (.slice tb tl tc) := by rw [cell_of_row w10 Bt _ _ _ _ Hbt10.out]; rfl
      have hbtf : w10.frozen? ⟨Bt, 0, none⟩ = false := frozen_of_row w10 Bt 0 _ _ Hbt10.out
      obtain ⟨W3, HW3⟩ : ∃ W3, Hid (W3 = w10.setCell ⟨Bt, 0, none⟩ (.slice tb3 tl3 tc3)) := ⟨_, rfl⟩
      have HT3 : Hid (TakS W3 Bt lo (T ++ [(x : Int)])) := by
        rw [HW3.out]
        refine ⟨.slice tb3 tl3 tc3, ?_, ?_⟩
        · rw [heap_setCell_same w10 Bt 0 _ 23 _ Hbt10.out]; rfl
        · exact Owns.otherV hO10 HtL.out
      have HO3 : Hid (OwnsP W3 lo u6 O) := by
        rw [HW3.out]
        exact OwnsP.other (hKc.pairs HOw.out _ _ _ HO.out) HtL.out
      have HN3 : Hid (W3.heap[Bn]? = some (.cells #[.int .i64 (m : Int)] 3 (0, 0))) := by
        rw [HW3.out]
        exact (Below.heap_setCell _ _ _ _ (by show Bn ≠ Bt; have := HnL.out; omega)).trans ((hBc.block Bn (Nat.lt_trans HnL.out HtL.out)).trans HNc.out)
      have HB3 : Hid (Below w.heap.size w W3) := by
        rw [HW3.out]
        exact (HB.out.trans (hBc.mono (by rw [Hlo.out]; omega))).setCell (p := ⟨Bt, 0, none⟩) (Nat.le_trans HwL.out (Nat.le_of_lt HnL.out)) _
      have HL3 : Hid (lo ≤ W3.heap.size) := by rw [HW3.out]; show lo ≤ _; rw [World.size_setCell]; exact Nat.le_trans HL.out hBc.size
      have hcz3 : W3.cell? ⟨b, off + i, none⟩ = some (.int .i64 z) := by
        obtain ⟨b', o', z', ha, Hz', -, -, hcz'⟩ := (HS.out.below HB3.out).elem (k := i) (by rw [← HN.out]; exact hlt)
        simp only [Option.some.injEq, Addr.mk.injEq, and_true] at ha
        obtain ⟨rfl, rfl⟩ := ha
        rw [hcz', Hz'.out, Hz.out]
      have HOl : Hid (O.length + 1 ≤ 1000) := by have := HLn.out.2; show _ ≤ _; omega
      clear hO10 hC hBc hKc HV HOw HO HNc HB HL hcz Hbt Hbt10 hnc htc htf
      go_upto_region 10 with fail
      rw [← HW3.out]
      clear HW3 hbtc hbtf
      go_wp2_with (at_builtin; refine append_pairK (x := (x : Int)) (y := z) rfl _ _ rfl rfl rfl rfl HO3.out HOl.out HL3.out ?_)
      intro v'' w8 hP8 hB8 hK8 _
      have HP8 : Hid (OwnsP w8 lo v'' (O ++ [((x : Int), z)])) := hP8
      have HT8 : Hid (TakS w8 Bt lo (T ++ [(x : Int)])) := by
        obtain ⟨u, g1, g2⟩ := HT3.out
        exact ⟨u, (hB8.block Bt HtL.out).trans g1, hK8 _ _ _ g2⟩
      have HN8 : Hid (w8.heap[Bn]? = some (.cells #[.int .i64 (m : Int)] 3 (0, 0))) := (hB8.block Bn (Nat.lt_trans HnL.out HtL.out)).trans HN3.out
      have HB8 : Hid (Below w.heap.size w w8) := HB3.out.trans (hB8.mono (by rw [Hlo.out]; omega))
      have HL8 : Hid (lo ≤ w8.heap.size) := Nat.le_trans HL3.out hB8.size
      have HLn8 : Hid ((T ++ [(x : Int)]).length = i + 1 ∧ (O ++ [((x : Int), z)]).length = i + 1) := by
        have := HLn.out
        exact ⟨by rw [List.length_append]; simp; omega, by rw [List.length_append]; simp; omega⟩
      clear hP8 hB8 hK8 HT3 HO3 HN3 HB3 HL3 hcz3
      go_wp2
      go_roundw
      case rel => exact ⟨i + 1, _, _, by omega, by go_num, HSt, HLn8, HZx, HT8, HP8, HN8, HB8, HL8⟩
      case measure => simp [intOf]; omega
    · obtain rfl : i = n := by omega
      have hlt' : ¬ (i : Int) < (i : Int) := by omega
      have hdn : c.drop i = [] := by rw [HN.out]; exact List.drop_length
      rw [hdn] at hx
      have hCI' : CI c c.length T O V es := by rw [← HN.out]; exact hCI
      obtain ⟨y, hy, hTr⟩ := hCI'.last (a := x) (by rw [← Hmc.out]; exact hx)
      rw [← Hmc.out] at hy
      have hnil : Shows wr none [] := ⟨by simp, fun z hz => (by cases hz), fun h => absurd rfl h⟩
      have HLe := least_at none tb 0 T.length m 0 tc Bn Bt x [] T wr hnil hst rfl rfl hnc htc hx (by omega)
      have HTr : Hid (TrR (tst c) c ((O ++ [((x : Int), (y : Int))]).map nrm)) := hTr
      have HY : Hid (LeastR m [] (T ++ [(x : Int)]) y) := hy
      have HV : Hid (wr.ownsRow lo 3 1 (.slice tb T.length tc) (T.map (Value.int .i64)).length (T.map (Value.int .i64))) := vals_of_owns hu2
      have HOw : Hid (Owns wr lo (.slice tb T.length tc) T) := hu2
      have Htl18 : Hid (T.length ≤ 18) := by have := HLn.out.1; show _ ≤ _; omega
      have Hbt : Hid (wr.heap[Bt]? = some (.cells #[.slice tb T.length tc] 23 (0, 0))) := hu1
      obtain ⟨tl, Htl⟩ : ∃ tl, Hid (tl = T.length) := ⟨_, rfl⟩
      rw [← Htl.out] at htc HV HOw Hbt
      clear hu1 hu2 hst hCI hCI' hx HT HI hTr hy hnil hdn
      go_wp2_with fail
      refine HLe.mono ?_
      rintro e w2 ⟨rfl, rfl⟩
      go_wp2_with (at_builtin; refine append_one elem_int (x := .int .i64 (x : Int)) rfl _ _ rfl rfl rfl rfl HV.out rfl ?c1 ?c2 ?c3 ?_)
      case c1 => rw [List.length_map]; unfold maxLen; have := Htl18.out; omega
      case c2 => rw [List.length_map]; have := Htl18.out; omega
      case c3 => exact HL.out
      intro v' w10 hC hBc hKc
      have HZx : Hid (∀ y ∈ T ++ [(x : Int)], 1 ≤ y ∧ y ≤ 20) := fun y hy => by
        rcases List.mem_append.1 hy with h | h
        · exact HZ.out y h
        · simp at h; omega
      have hO10 : Owns w10 lo v' (T ++ [(x : Int)]) := by
        refine owns_of_vals ?_
        simpa using hC
      obtain ⟨tb3, tc3, hv3, -⟩ := hO10.shows (by rw [List.length_append]; have := HLn.out.1; simp; omega) (fun z hz => by have := HZx.out z hz; omega)
      obtain ⟨tl3, Htl3⟩ : ∃ tl3, Hid (tl3 = (T ++ [(x : Int)]).length) := ⟨_, rfl⟩
      rw [← Htl3.out] at hv3
      subst hv3
      have Hbt10 : Hid (w10.heap[Bt]? = some (.cells #[.slice tb tl tc] 23 (0, 0))) := (hBc.block Bt HtL.out).trans Hbt.out
      have hbtc : w10.cell? ⟨Bt, 0, none⟩ = some (.slice tb tl tc) := by rw [cell_of_row w10 Bt _ _ _ _ Hbt10.out]; rfl
      have hbtf : w10.frozen? ⟨Bt, 0, none⟩ = false := frozen_of_row w10 Bt 0 _ _ Hbt10.out
      obtain ⟨W3, HW3⟩ : ∃ W3, Hid (W3 = w10.setCell ⟨Bt, 0, none⟩ (.slice tb3 tl3 tc3)) := ⟨_, rfl⟩
      have hbt3 : W3.heap[Bt]? = some (.cells #[.slice tb3 tl3 tc3] 23 (0, 0)) := by
        rw [HW3.out, heap_setCell_same w10 Bt 0 _ 23 _ Hbt10.out]; rfl
      have HT3 : Owns W3 lo (.slice tb3 tl3 tc3) (T ++ [(x : Int)]) := by
        rw [HW3.out]
        exact Owns.otherV hO10 HtL.out
      have HO3 : Hid (OwnsP W3 lo u6 O) := by
        rw [HW3.out]
        exact OwnsP.other (hKc.pairs HOw.out _ _ _ HO.out) HtL.out
      have hN3 : W3.heap[Bn]? = some (.cells #[.int .i64 (m : Int)] 3 (0, 0)) := by
        rw [HW3.out]
        exact (Below.heap_setCell _ _ _ _ (by show Bn ≠ Bt; have := HnL.out; omega)).trans ((hBc.block Bn (Nat.lt_trans HnL.out HtL.out)).trans HNc.out)
      have HB3 : Hid (Below w.heap.size w W3) := by
        rw [HW3.out]
        exact (HB.out.trans (hBc.mono (by rw [Hlo.out]; omega))).setCell (p := ⟨Bt, 0, none⟩) (Nat.le_trans HwL.out (Nat.le_of_lt HnL.out)) _
      have HL3 : Hid (lo ≤ W3.heap.size) := by rw [HW3.out]; show lo ≤ _; rw [World.size_setCell]; exact Nat.le_trans HL.out hBc.size
      have HOl : Hid (O.length + 1 ≤ 1000) := by have := HLn.out.2; show _ ≤ _; omega
      have hst3 : Shows W3 tb3 (T ++ [(x : Int)]) := Owns.showsT HT3 Htl3.out (by rw [List.length_append]; have := HLn.out.1; simp; omega) HZx.out
      have hc3t : W3.cell? ⟨Bt, 0, none⟩ = some (.slice tb3 tl3 tc3) := by rw [cell_of_row W3 Bt _ _ _ _ hbt3]; rfl
      have hc3n : W3.cell? ⟨Bn, 0, none⟩ = some (.int .i64 (m : Int)) := by rw [cell_of_row W3 Bn _ _ _ _ hN3]; rfl
      have hnil : Shows W3 none [] := ⟨by simp, fun z hz => (by cases hz), fun h => absurd rfl h⟩
      have HLf := least_at none tb3 0 tl3 m 0 tc3 Bn Bt y [] (T ++ [(x : Int)]) W3 hnil hst3 rfl Htl3.out hc3n hc3t HY.out (by omega)
      clear hO10 hC hBc hKc HV HOw HO HNc HB HL Hbt Hbt10 hnc htc htf hnil hst3 HT3 hbt3 hN3 HLe
      go_upto_region 13 with fail
      rw [← HW3.out]
      clear HW3 hbtc hbtf hc3t hc3n
      go_wp2_with fail
      refine HLf.mono ?_
      rintro e w2 ⟨rfl, rfl⟩
      go_wp2_with (at_builtin; refine append_pairK (x := (x : Int)) (y := (y : Int)) rfl _ _ rfl rfl rfl rfl HO3.out HOl.out HL3.out ?_)
      intro v'' w8 hP8 hB8 _ _
      have HB8 : Hid (Below w.heap.size w w8) := HB3.out.trans (hB8.mono (by rw [Hlo.out]; omega))
      obtain ⟨a4, c4, hv4, hs4⟩ := hP8.shows (by have := HOl.out; rw [List.length_append]; simp; omega)
      obtain ⟨ol, Hol⟩ : ∃ ol, Hid (ol = (O ++ [((x : Int), (y : Int))]).length) := ⟨_, rfl⟩
      have hol : ol ≤ 40 := by rw [Hol.out, List.length_append]; have := HLn.out.2; simp; omega
      rw [← Hol.out] at hv4
      subst hv4
      have HE := Edged_at a4 ol c4 (O ++ [((x : Int), (y : Int))]) w8 hs4 Hol.out hol
      clear hP8 hB8 hs4 HO3 HB3 HL3 HLf
      go_wp2_with fail
      refine HE.mono ?_
      rintro e w9 ⟨v9, X, rfl, HX9, HO9, HB9⟩
      have HX9' : Hid (TrR (tst c) c ((O ++ [((x : Int), (y : Int))]).map nrm) ∧ X.Perm (((O ++ [((x : Int), (y : Int))]).map nrm).map nrm) ∧ SrtP X) := by
        refine ⟨HTr.out, ?_, HX9.out.2⟩
        rw [List.map_map, show nrm ∘ nrm = nrm by funext e; unfold nrm; simp only [Function.comp_apply, Prod.mk.injEq]; omega]
        exact HX9.out.1
      clear HX9
      go_wp2
      go_ret
      exact ⟨v9, _, X, rfl, HX9', HO9.out.mono HB8.out.size, HB8.out.trans (HB9.out.mono HB8.out.size)⟩
end Go.Proofs.Ytihafckdaecgkaa
