/-
  ferref.Went.
-/
import Derived.Test.YtcnmndbckjmliaaDoorNWb
import Derived.Test.YtcnmndbckjmliaaDoorNRBl
import Derived.Test.YtcnmndbckjmliaaDoorNRDi
import Derived.Test.YtcnmndbckjmliaaDoorNRPu
namespace Go.Proofs.YtcnmndbckjmliaaDoor
open Go.RowKit

theorem OwBr.row {w : World} {lo : Nat} {v : Value} {c n : Nat} {F : Nat → UInt8} {i : Nat} (h : OwBr w lo v (barR c n F i)) : OwBr w lo v (barR c n F i ++ barJ n F i 0) := by
  show OwBr _ _ _ (_ ++ [])
  rw [List.append_nil]; exact h

theorem BrI.all {w : World} {a : Option Addr} {l : List Bar} (h : BrI w a l) (hne : 0 < l.length) : ∃ b off, a = some ⟨b, off, none⟩ ∧ b < w.heap.size ∧ ∀ j, j < l.length →
    w.cell? ⟨b, off + j * 5, none⟩ = some (.int .i64 ((l.getD j brZ).i : Int)) ∧ w.cell? ⟨b, off + j * 5 + 1, none⟩ = some (.int .i64 ((l.getD j brZ).j : Int)) ∧ w.cell? ⟨b, off + j * 5 + 2, none⟩ = some (.bool (l.getD j brZ).st) ∧
    w.cell? ⟨b, off + j * 5 + 3, none⟩ = some (.int .i64 (l.getD j brZ).di) ∧ w.cell? ⟨b, off + j * 5 + 4, none⟩ = some (.int .i64 (l.getD j brZ).dj) := by
  obtain ⟨b, off, ha, hb, _⟩ := h 0 hne
  refine ⟨b, off, ha, hb, fun j hj => ?_⟩
  obtain ⟨b', off', ha', _, hc⟩ := h j hj
  rw [ha] at ha'
  simp only [Option.some.injEq, Addr.mk.injEq, and_true] at ha'
  obtain ⟨rfl, rfl⟩ := ha'
  exact ⟨hc 0 (by omega), hc 1 (by omega), hc 2 (by omega), hc 3 (by omega), hc 4 (by omega)⟩

theorem two_new (w : World) (C1 C2 : Array Value) : Hid (((w.alloc (.cells C1 88)).alloc (.cells C2 88)).drew.heap[w.heap.size + 1]? = some (.cells C2 88 (0, 0))) := heap_alloc2_new w _ _
theorem two_old (w : World) (C1 C2 : Array Value) : Hid (((w.alloc (.cells C1 88)).alloc (.cells C2 88)).drew.heap[w.heap.size]? = some (.cells C1 88 (0, 0))) := heap_alloc2_old w _ _
theorem two_below (w : World) (C1 C2 : Array Value) : Hid (Below w.heap.size w ((w.alloc (.cells C1 88)).alloc (.cells C2 88)).drew) := by
  have h1 : Below w.heap.size w (w.alloc (.cells C1 88)) := (Below.refl _ _).alloc (Nat.le_refl _) _
  exact (h1.alloc h1.size _).drew
theorem ByR.below {w w' : World} {g : Nat} {l : List UInt8} (h : ByR w g l) (hb : Below w.heap.size w w') : ByR w' g l := by
  obtain ⟨cs, fr, h1, h2, h3⟩ := h
  exact ⟨cs, fr, by rw [hb.block g (lt_someN h1)]; exact h1, h2, h3⟩

set_option maxHeartbeats 8000000 in
set_option maxRecDepth 100000 in
theorem Went_at (s : ByteArray) (n : Nat) (m : Int) (w : World) (hm : w.cell? ⟨0, 0, none⟩ = some (.int .i64 m)) (h1 : 1 ≤ n) (h3 : n ≤ 3) (hT : Til s.data.toList (2 * n) (2 * n)) :
    Calls Tryd.prog 27 #[.string s, .int .i64 (n : Int)] w fun e w' => e = .returned (.string ⟨(tx (2 * (n + 1)) (2 * (n + 1)) (spI (2 * n) (2 * n) n (cef (pz s.data.toList)) (2 * n))).toArray⟩) ∧ Hid (Below w.heap.size w w') := by
  obtain ⟨l, HL⟩ : ∃ l, Hid (l = pz s.data.toList) := ⟨_, rfl⟩
  have HCs := hid_w (Split_z s m w (by have := shz_len hT.1; rw [ba_len] at this; omega) hm)
  have hz := hT.1
  rw [← HL.out] at HCs hz ⊢
  obtain ⟨r, HR⟩ : ∃ r, Hid (r = 2 * n) := ⟨_, rfl⟩
  rw [← HR.out] at hz ⊢
  have HZ : Hid (Shz lrud r r l) := hz
  obtain ⟨f, HF⟩ : ∃ f, Hid (f = cef l) := ⟨_, rfl⟩
  rw [← HF.out]
  have HNn : Hid (1 ≤ n ∧ n ≤ 3) := ⟨h1, h3⟩
  have hr6 : r ≤ 6 := by rw [HR.out]; omega
  have hn3 : n ≤ 3 := h3
  obtain ⟨d, HD⟩ : ∃ d, Hid (d = 2 * (n + 1)) := ⟨_, rfl⟩
  rw [← HD.out]
  have hd8 : d ≤ 8 := by rw [HD.out]; omega
  have HCd : Hid (∀ W : World, Calls Tryd.prog 19 #[.int .i64 ((n : Int) + 1)] W fun e w' => e = .returned (.string ⟨(tx d d (dmF (n + 1))).toArray⟩) ∧ w' = W) := fun W => by
    have h := Diamond_at (n + 1) W (by omega) (by omega)
    rw [show ((n + 1 : Nat) : Int) = (n : Int) + 1 by omega, ← HD.out] at h
    exact h
  clear hz hm hT h1 h3
  go_enter Tryd.func27, Tryd.ntmps27
  go_upto_region 2 with (go_at_call 43; with_reducible (refine HCs.out.mono ?_); rintro e w1 ⟨P, HP, rfl, rfl⟩)
  have HPl := hid_w (pcz_len HP.out)
  have HPr : Hid (P.length = r) := HPl.out.trans HZ.out.1
  obtain ⟨X, HX⟩ : ∃ X, Hid (X = w.heap.size) := ⟨_, rfl⟩
  obtain ⟨W1, HW1⟩ : ∃ W1, Hid (W1 = w.alloc (.cells (P.map Value.string).toArray 9)) := ⟨_, rfl⟩
  have HB1 : Hid (Below w.heap.size w W1) := by rw [HW1.out]; exact (Below.refl _ _).alloc (Nat.le_refl _) _
  have HPc : Hid (PcZ W1 X P) := by rw [HW1.out, HX.out]; exact heap_alloc_last _ _
  rw [← HX.out, HPr.out, ← HW1.out]
  have HPz : Hid (∀ W, Below W1.heap.size W1 W → PcZ W X P) := fun W hW => by
    show W.heap[X]? = _
    rw [hW.block X (lt_someN HPc.out)]; exact HPc.out
  have HRow : Hid (∀ W, Below W1.heap.size W1 W → ∀ i, i < r → ∃ p : ByteArray, W.cell? ⟨X, i, none⟩ = some (.string p) ∧ p.size = r ∧ ∀ j (hj : j < p.size), p[j] = f (i * 8 + j)) := fun W hW i hi => by
    have hiP : i < P.length := by rw [HPr.out]; exact hi
    have hd := pcz_at HP.out hiP
    have hsz : P[i].size = r := by
      rw [← ba_len, hd]
      have hm : l.getD i [] ∈ l := by rw [List.getD_eq_getElem?_getD, List.getElem?_eq_getElem (by rw [HZ.out.1]; omega), Option.getD_some]; exact List.getElem_mem _
      exact (HZ.out.2.2.2.2.2 _ hm).1
    exact ⟨P[i], (HPz.out W hW).cell hiP, hsz, fun j hj => by rw [HF.out]; exact cell_pz HZ.out i j hi (by omega) _ hd hj⟩
  have HO0 : Hid (OwBr W1 W1.heap.size (.slice none 0 0) (barR r n f 0)) := ⟨rfl, Or.inl ⟨rfl, rfl⟩⟩
  have HBr : Hid (Below W1.heap.size W1 W1) := Below.refl _ _
  go_wp2_with fail
  go_loopw [6, 7] (fun lv v wr => ∃ (i : Nat) (L : Value), i ≤ r ∧ v = .int .i64 (i : Int) ∧ L = lv ∧ Hid (OwBr wr W1.heap.size L (barR r n f i)) ∧ Hid (Below W1.heap.size W1 wr)) (fun _ v _ => r - (intOf v).toNat)
  case atStart => exact ⟨0, _, Nat.zero_le _, rfl, rfl, HO0, HBr⟩
  case round =>
    clear HO0 HBr
    obtain ⟨i, L, hi, rfl, rfl, HO, HB⟩ := hrel
    by_cases hlt : i < r
    · have hlt' : (i : Int) < (r : Int) := by omega
      have HOz : Hid (OwBr wr W1.heap.size L (barR r n f i ++ barJ n f i 0)) := HO.out.row
      go_wp2_with fail
      go_loopw [6, 8] (fun lv v wr => ∃ (j : Nat) (L : Value), j ≤ r ∧ v = .int .i64 (j : Int) ∧ L = lv ∧ Hid (OwBr wr W1.heap.size L (barR r n f i ++ barJ n f i j)) ∧ Hid (Below W1.heap.size W1 wr)) (fun _ v _ => r - (intOf v).toNat)
      case atStart => exact ⟨0, _, Nat.zero_le _, rfl, rfl, HOz, HB⟩
      case round =>
        clear HOz HO HB
        obtain ⟨j, L, hj, rfl, rfl, HO, HB⟩ := hrel
        obtain ⟨p, hp, hps0, hpj0⟩ := HRow.out wr HB.out i (by omega)
        by_cases hltj : j < r
        · have hltj' : (j : Int) < (p.size : Int) := by omega
          have hltk : j < p.size := by omega
          obtain ⟨b, HBb⟩ : ∃ b : UInt8, Hid (b = f (i * 8 + j)) := ⟨_, rfl⟩
          obtain ⟨x, HX2⟩ : ∃ x : Nat, Hid (x = b.toNat) := ⟨_, rfl⟩
          have hbx : (p[j]'hltk).toNat = x := by rw [HX2.out, HBb.out, hpj0 j hltk]
          obtain ⟨z, hz⟩ : ∃ z : Nat, z = (i + j + n - 1) % 2 := ⟨_, rfl⟩
          have hzm : Int.tmod ((i : Int) + (j : Int) + (n : Int) - 1) 2 = (z : Int) := by rw [Int.tmod_eq_emod_of_nonneg (by have := HNn.out; omega)]; have := HNn.out; omega
          have HFw : Hid (dirB n i j = if z = 1 then 1 else -1) := by
            show _ = _
            have := HNn.out
            unfold dirB fwd
            by_cases e : z = 1
            · rw [if_pos e, decide_eq_false (by omega)]; rfl
            · rw [if_neg e, decide_eq_true (by omega)]; rfl
          have HLn : Hid ((barR r n f i ++ barJ n f i j).length ≤ 1000) := by
            have h1 := barR_len r n f i
            have h2 := barJ_len n f i j
            have h3 : i * r ≤ 6 * 6 := Nat.mul_le_mul (by omega) hr6
            show _ ≤ _
            rw [List.length_append]; omega
          have HRw : Hid (barR r n f i ++ barJ n f i (j + 1) = (barR r n f i ++ barJ n f i j) ++ barOf n f i j) := by
            show _ ++ (_ ++ _) = _
            rw [List.append_assoc]
          have hz1 : z = 0 ∨ z = 1 := by omega
          clear hpj0 hz hps0
          by_cases g1 : (x : Int) = 108
          · have hb : b = 108 := UInt8.toNat_inj.1 (by rw [← HX2.out]; exact Int.ofNat.inj g1)
            have HBo : Hid (barOf n f i j = [⟨i, j, false, if z = 1 then 1 else -1, 0⟩]) := by
              show _ = _
              rw [barOf_lie (by rw [← HBb.out]; exact hb), HFw.out]
            clear hb
            rcases hz1 with rfl | rfl
            · go_wp2_with (at_builtin; refine append_br1 ⟨i, j, false, -1, 0⟩ (base := W1.heap.size) rfl _ _ rfl rfl rfl HO.out HLn.out HB.out.size _ rfl ?_; intro L2 W4 HO4 HB4)
              have HO5 : Hid (OwBr W4 W1.heap.size L2 (barR r n f i ++ barJ n f i (j + 1))) := by rw [HRw.out, HBo.out]; exact HO4.out
              have HB5 : Hid (Below W1.heap.size W1 W4) := HB.out.trans HB4.out
              go_wp2_with fail
              go_roundw
              case rel => exact ⟨j + 1, _, by omega, by go_num, rfl, HO5, HB5⟩
              case measure => simp [intOf]; omega
            · go_wp2_with (at_builtin; refine append_br1 ⟨i, j, false, 1, 0⟩ (base := W1.heap.size) rfl _ _ rfl rfl rfl HO.out HLn.out HB.out.size _ rfl ?_; intro L2 W4 HO4 HB4)
              have HO5 : Hid (OwBr W4 W1.heap.size L2 (barR r n f i ++ barJ n f i (j + 1))) := by rw [HRw.out, HBo.out]; exact HO4.out
              have HB5 : Hid (Below W1.heap.size W1 W4) := HB.out.trans HB4.out
              go_wp2_with fail
              go_roundw
              case rel => exact ⟨j + 1, _, by omega, by go_num, rfl, HO5, HB5⟩
              case measure => simp [intOf]; omega
          · have hq1 : ((x : Int) == 108) = false := beq_false_of_ne g1
            by_cases g2 : (x : Int) = 117
            · have hb : b = 117 := UInt8.toNat_inj.1 (by rw [← HX2.out]; exact Int.ofNat.inj g2)
              have HBo : Hid (barOf n f i j = [⟨i, j, true, 0, if z = 1 then 1 else -1⟩]) := by
                show _ = _
                rw [barOf_std (by rw [← HBb.out]; exact hb), HFw.out]
              clear hb
              rcases hz1 with rfl | rfl
              · go_wp2_with (at_builtin; refine append_br1 ⟨i, j, true, 0, -1⟩ (base := W1.heap.size) rfl _ _ rfl rfl rfl HO.out HLn.out HB.out.size _ rfl ?_; intro L2 W4 HO4 HB4)
                have HO5 : Hid (OwBr W4 W1.heap.size L2 (barR r n f i ++ barJ n f i (j + 1))) := by rw [HRw.out, HBo.out]; exact HO4.out
                have HB5 : Hid (Below W1.heap.size W1 W4) := HB.out.trans HB4.out
                go_wp2_with fail
                go_roundw
                case rel => exact ⟨j + 1, _, by omega, by go_num, rfl, HO5, HB5⟩
                case measure => simp [intOf]; omega
              · go_wp2_with (at_builtin; refine append_br1 ⟨i, j, true, 0, 1⟩ (base := W1.heap.size) rfl _ _ rfl rfl rfl HO.out HLn.out HB.out.size _ rfl ?_; intro L2 W4 HO4 HB4)
                have HO5 : Hid (OwBr W4 W1.heap.size L2 (barR r n f i ++ barJ n f i (j + 1))) := by rw [HRw.out, HBo.out]; exact HO4.out
                have HB5 : Hid (Below W1.heap.size W1 W4) := HB.out.trans HB4.out
                go_wp2_with fail
                go_roundw
                case rel => exact ⟨j + 1, _, by omega, by go_num, rfl, HO5, HB5⟩
                case measure => simp [intOf]; omega
            · have hq2 : ((x : Int) == 117) = false := beq_false_of_ne g2
              have HBo : Hid (barOf n f i j = []) := barOf_none (fun e => g1 (by rw [HX2.out, HBb.out, e]; rfl)) (fun e => g2 (by rw [HX2.out, HBb.out, e]; rfl))
              have HO5 : Hid (OwBr wr W1.heap.size L (barR r n f i ++ barJ n f i (j + 1))) := by rw [HRw.out, HBo.out, List.append_nil]; exact HO.out
              go_wp2_with fail
              go_roundw
              case rel => exact ⟨j + 1, _, by omega, by go_num, rfl, HO5, HB⟩
              case measure => simp [intOf]; omega
        · obtain rfl : j = r := by omega
          have hnj : ¬ ((j : Int) < (p.size : Int)) := by omega
          have HO2 : Hid (OwBr wr W1.heap.size L (barR j n f (i + 1))) := HO
          go_wp2_with fail
          go_roundw
          case rel => exact ⟨i + 1, _, by omega, by go_num, rfl, HO2, HB⟩
          case measure => simp [intOf]; omega
    · obtain rfl : i = r := by omega
      obtain ⟨bs, HBs⟩ : ∃ bs, Hid (bs = barR i n f i) := ⟨_, rfl⟩
      rw [← HBs.out] at HO
      obtain ⟨a, cp, rfl, hI, -⟩ := HO.out.open
      obtain ⟨N, HNb⟩ : ∃ N, Hid (N = bs.length) := ⟨_, rfl⟩
      have hN : N ≤ 36 := by
        have h1 := barR_len i n f i
        have h3 : i * i ≤ 6 * 6 := Nat.mul_le_mul hr6 hr6
        rw [HNb.out, HBs.out]; omega
      have HI : Hid (BrI wr a bs) := hI
      rw [← HNb.out]
      clear hI HO
      obtain ⟨T0, HT0⟩ : ∃ T0 : ByteArray, Hid (T0 = ⟨(tx d d (dmF (n + 1))).toArray⟩) := ⟨_, rfl⟩
      obtain ⟨V, HVq⟩ : ∃ V, Hid (V = wr) := ⟨_, rfl⟩
      rw [← HVq.out] at HI HB
      have HC1 := hid_w (HCd.out V)
      rw [← HT0.out] at HC1
      rw [← HVq.out]
      obtain ⟨G, HG⟩ : ∃ G, Hid (G = V.heap.size) := ⟨_, rfl⟩
      obtain ⟨cap, HCap⟩ : ∃ cap, Hid (cap = grownCap V T0.size 0 5) := ⟨_, rfl⟩
      obtain ⟨W2, HW2⟩ : ∃ W2, Hid (W2 = V.drew.alloc (.cells (bytesRow T0 cap) 5 ((bytesRow T0 cap).size, (bytesRow T0 cap).size + 1))) := ⟨_, rfl⟩
      have hcv : (convert 9 80 (.string T0)).run Tryd.prog V = .ok (.slice (some ⟨G, 0, none⟩) T0.size cap) W2 := by
        rw [HW2.out, HCap.out, HG.out]
        exact run_bytes_of_string V 9 80 5 T0 Tryd.underlying9 Tryd.underlying80 Tryd.underlying5
      have HB2 : Hid (Below V.heap.size V W2) := by rw [HW2.out]; exact (Below.refl _ _).drew.alloc (Nat.le_refl _) _
      have HR2 : Hid (ByR W2 G (tx d d ((bs.take 0).foldl (goB bs) (dmF (n + 1))))) := by
        have h := byr_conv T0 V cap
        rw [HW2.out, HG.out]
        show ByR _ _ (tx d d (dmF (n + 1)))
        rw [HT0.out] at h ⊢
        exact h
      have HTl : Hid (T0.size = d * (d + 1) - 1) := by
        have e : ∃ q, d = q + 1 := ⟨d - 1, by have := HD.out; omega⟩
        obtain ⟨q, hq⟩ := e
        show _ = _
        rw [← ba_len, HT0.out, hq]; exact tx_length q (q + 1) _
      obtain ⟨wd, HWd⟩ : ∃ wd : Nat, Hid (wd = d + 1) := ⟨_, rfl⟩
      have hwd : 2 * (n : Int) + 3 = (wd : Int) := by have := HWd.out; have := HD.out; omega
      go_upto_region 20 with (go_at_call 19; with_reducible (refine HC1.out.mono ?_); rintro e w5 ⟨rfl, rfl⟩)
      go_wp2_with fail
      clear hwd hcv HC1 HCd HPz HRow HCs
      go_loopw [13] (fun v wr => ∃ x : Nat, x ≤ N ∧ v = .int .i64 (x : Int) ∧ Hid (ByR wr G (tx d d ((bs.take x).foldl (goB bs) (dmF (n + 1))))) ∧ Hid (Below w5.heap.size w5 wr)) (fun v _ => N - (intOf v).toNat)
      case atStart => exact ⟨0, Nat.zero_le _, rfl, HR2, HB2⟩
      case round =>
        clear HR2 HB2
        obtain ⟨x, hx, rfl, HRx, HBx⟩ := hrel
        by_cases hltx : x < N
        · have hltx' : (x : Int) < (N : Int) := by omega
          obtain ⟨b, off, rfl, hb, hall⟩ := HI.out.all (by rw [← HNb.out]; omega)
          rw [← HNb.out] at hall
          have HAll := hid_w hall
          have HBb : Hid (b < w5.heap.size) := hb
          obtain ⟨p, HP5⟩ : ∃ p, Hid (p = bs.getD x brZ) := ⟨_, rfl⟩
          obtain ⟨pi, HPi⟩ : ∃ v : Nat, Hid (v = p.i) := ⟨_, rfl⟩
          obtain ⟨pj, HPj⟩ : ∃ v : Nat, Hid (v = p.j) := ⟨_, rfl⟩
          obtain ⟨ps, HPs⟩ : ∃ v : Bool, Hid (v = p.st) := ⟨_, rfl⟩
          obtain ⟨pd, HPd⟩ : ∃ v : Int, Hid (v = p.di) := ⟨_, rfl⟩
          obtain ⟨pe, HPe⟩ : ∃ v : Int, Hid (v = p.dj) := ⟨_, rfl⟩
          have HPc : Hid (∀ W, Below w5.heap.size w5 W → W.cell? ⟨b, off + x * 5, none⟩ = some (.int .i64 (pi : Int)) ∧ W.cell? ⟨b, off + x * 5 + 1, none⟩ = some (.int .i64 (pj : Int)) ∧ W.cell? ⟨b, off + x * 5 + 2, none⟩ = some (.bool ps) ∧ W.cell? ⟨b, off + x * 5 + 3, none⟩ = some (.int .i64 pd) ∧ W.cell? ⟨b, off + x * 5 + 4, none⟩ = some (.int .i64 pe)) := fun W hW => by
            obtain ⟨a0, a1, a2, a3, a4⟩ := HAll.out x hltx
            rw [HPi.out, HPj.out, HPs.out, HPd.out, HPe.out, HP5.out]
            exact ⟨(hW.cell (p := ⟨b, _, none⟩) HBb.out).trans a0, (hW.cell (p := ⟨b, _, none⟩) HBb.out).trans a1, (hW.cell (p := ⟨b, _, none⟩) HBb.out).trans a2, (hW.cell (p := ⟨b, _, none⟩) HBb.out).trans a3, (hW.cell (p := ⟨b, _, none⟩) HBb.out).trans a4⟩
          have hpb : pi < i ∧ pj < i ∧ -1 ≤ pd ∧ pd ≤ 1 ∧ -1 ≤ pe ∧ pe ≤ 1 := by
            have hm : p ∈ barR i n f i := by
              rw [HP5.out, ← HBs.out, List.getD_eq_getElem?_getD, List.getElem?_eq_getElem (by rw [← HNb.out]; exact hltx), Option.getD_some]; exact List.getElem_mem _
            have h := barR_at hm
            rw [HPi.out, HPj.out, HPd.out, HPe.out]
            exact ⟨h.1, h.2.1, h.2.2.1, h.2.2.2.1, h.2.2.2.2.1, h.2.2.2.2.2.1⟩
          obtain ⟨hb1, hb2, hb3, hb4, hb5, hb6⟩ := hpb
          clear hall hb
          go_wp2_with fail
          have HBr0 : Hid (Below wr.heap.size wr wr) := Below.refl _ _
          obtain ⟨U, HU⟩ : ∃ U, Hid (U = wr) := ⟨_, rfl⟩
          rw [← HU.out] at HRx HBx HBr0
          rw [← HU.out]
          go_loopw [14, 15] (fun mv v wr => ∃ y : Nat, y ≤ N ∧ v = .int .i64 (y : Int) ∧ mv = .bool ((bs.take y).any (mts p)) ∧ Hid (Below U.heap.size U wr)) (fun _ v _ => N - (intOf v).toNat)
          case atStart => exact ⟨0, Nat.zero_le _, rfl, rfl, HBr0⟩
          case round =>
            clear HBr0
            obtain ⟨y, hy, rfl, rfl, HBy⟩ := hrel
            by_cases hlty : y < N
            · have hlty' : (y : Int) < (N : Int) := by omega
              have HBV : Hid (Below w5.heap.size w5 wr) := HBx.out.trans (HBy.out.mono HBx.out.size)
              obtain ⟨c0, c1, c2, c3, c4⟩ := HPc.out wr HBV.out
              obtain ⟨q, HQ5⟩ : ∃ q, Hid (q = bs.getD y brZ) := ⟨_, rfl⟩
              obtain ⟨qi, HQi⟩ : ∃ v : Nat, Hid (v = q.i) := ⟨_, rfl⟩
              obtain ⟨qj, HQj⟩ : ∃ v : Nat, Hid (v = q.j) := ⟨_, rfl⟩
              obtain ⟨qs, HQs⟩ : ∃ v : Bool, Hid (v = q.st) := ⟨_, rfl⟩
              obtain ⟨qd, HQd⟩ : ∃ v : Int, Hid (v = q.di) := ⟨_, rfl⟩
              obtain ⟨qe, HQe⟩ : ∃ v : Int, Hid (v = q.dj) := ⟨_, rfl⟩
              have hqc : wr.cell? ⟨b, off + y * 5, none⟩ = some (.int .i64 (qi : Int)) ∧ wr.cell? ⟨b, off + y * 5 + 1, none⟩ = some (.int .i64 (qj : Int)) ∧ wr.cell? ⟨b, off + y * 5 + 2, none⟩ = some (.bool qs) ∧ wr.cell? ⟨b, off + y * 5 + 3, none⟩ = some (.int .i64 qd) ∧ wr.cell? ⟨b, off + y * 5 + 4, none⟩ = some (.int .i64 qe) := by
                obtain ⟨a0, a1, a2, a3, a4⟩ := HAll.out y hlty
                rw [HQi.out, HQj.out, HQs.out, HQd.out, HQe.out, HQ5.out]
                have hW := HBV.out
                exact ⟨(hW.cell (p := ⟨b, _, none⟩) HBb.out).trans a0, (hW.cell (p := ⟨b, _, none⟩) HBb.out).trans a1, (hW.cell (p := ⟨b, _, none⟩) HBb.out).trans a2, (hW.cell (p := ⟨b, _, none⟩) HBb.out).trans a3, (hW.cell (p := ⟨b, _, none⟩) HBb.out).trans a4⟩
              have hbw : b < wr.heap.size := Nat.lt_of_lt_of_le HBb.out HBV.out.size
              have hup1 : ∀ (C1 : Array Value) (k : Nat), (wr.alloc (.cells C1 88)).drew.cell? ⟨b, k, none⟩ = wr.cell? ⟨b, k, none⟩ := fun C1 k => by
                have h1 : Below wr.heap.size wr (wr.alloc (.cells C1 88)) := (Below.refl _ _).alloc (Nat.le_refl _) _
                exact h1.drew.cell (p := ⟨b, k, none⟩) hbw
              have hup2 : ∀ (C1 C2 : Array Value) (k : Nat), ((wr.alloc (.cells C1 88)).alloc (.cells C2 88)).drew.cell? ⟨b, k, none⟩ = wr.cell? ⟨b, k, none⟩ := fun C1 C2 k => by
                have h1 : Below wr.heap.size wr (wr.alloc (.cells C1 88)) := (Below.refl _ _).alloc (Nat.le_refl _) _
                exact (h1.alloc h1.size _).drew.cell (p := ⟨b, k, none⟩) hbw
              have hup0 : ∀ k : Nat, wr.drew.cell? ⟨b, k, none⟩ = wr.cell? ⟨b, k, none⟩ := fun k => (Below.refl _ _).drew.cell (p := ⟨b, k, none⟩) hbw
              obtain ⟨e0, e1, e2, e3, e4⟩ := hqc
              obtain ⟨mt, HMt⟩ : ∃ mt, Hid (mt = (bs.take y).any (mts p)) := ⟨_, rfl⟩
              obtain ⟨t1, b1⟩ : ∃ t : Bool, (ps == qs) = t := ⟨_, rfl⟩
              obtain ⟨t2, b2⟩ : ∃ t : Bool, ((qi : Int) == (pi : Int) + pd) = t := ⟨_, rfl⟩
              obtain ⟨t3, b3⟩ : ∃ t : Bool, ((qj : Int) == (pj : Int) + pe) = t := ⟨_, rfl⟩
              obtain ⟨t4, b4⟩ : ∃ t : Bool, (qd == -pd) = t := ⟨_, rfl⟩
              obtain ⟨t5, b5⟩ : ∃ t : Bool, (qe == -pe) = t := ⟨_, rfl⟩
              have HNext : Hid ((bs.take (y + 1)).any (mts p) = (mt || (t1 && t2 && t3 && t4 && t5))) := by
                have hyl : y < bs.length := by rw [← HNb.out]; exact hlty
                have hq : q = bs[y] := by rw [HQ5.out, List.getD_eq_getElem?_getD, List.getElem?_eq_getElem hyl, Option.getD_some]
                show _ = _
                rw [List.take_succ_eq_append_getElem hyl, List.any_append, ← hq, ← HMt.out]
                congr 1
                show (mts p q || false) = _
                rw [Bool.or_false]
                unfold mts
                rw [← HPi.out, ← HPj.out, ← HPs.out, ← HPd.out, ← HPe.out, ← HQi.out, ← HQj.out, ← HQs.out, ← HQd.out, ← HQe.out, b1]
                have hd : ∀ a c : Int, decide (a = c) = (a == c) := fun a c => by
                  by_cases e : a = c
                  · subst e; simp
                  · simp [e]
                rw [hd, hd, hd, hd, b2, b3, b4, b5]
              have h7 : mt = true ∨ (mt = false ∧ t1 = false) ∨ (mt = false ∧ t1 = true ∧ t2 = false) ∨ (mt = false ∧ t1 = true ∧ t2 = true ∧ t3 = false) ∨ (mt = false ∧ t1 = true ∧ t2 = true ∧ t3 = true ∧ t4 = false) ∨ (mt = false ∧ t1 = true ∧ t2 = true ∧ t3 = true ∧ t4 = true ∧ t5 = false) ∨ (mt = false ∧ t1 = true ∧ t2 = true ∧ t3 = true ∧ t4 = true ∧ t5 = true) := by
                cases mt <;> cases t1 <;> cases t2 <;> cases t3 <;> cases t4 <;> cases t5 <;> simp
              rw [← HMt.out]
              have hqb : -1 ≤ qd ∧ qd ≤ 1 ∧ -1 ≤ qe ∧ qe ≤ 1 := by
                have hm : q ∈ barR i n f i := by
                  rw [HQ5.out, ← HBs.out, List.getD_eq_getElem?_getD, List.getElem?_eq_getElem (by rw [← HNb.out]; exact hlty), Option.getD_some]; exact List.getElem_mem _
                have h := barR_at hm
                rw [HQd.out, HQe.out]
                exact ⟨h.2.2.1, h.2.2.2.1, h.2.2.2.2.1, h.2.2.2.2.2.1⟩
              obtain ⟨hb7, hb8, hb9, hb10⟩ := hqb
              go_upto_region 28 with fail
              go_cut [16, 17] from 126 to 133 (fun s16 s17 wx => ∃ A B : Nat, s16 = .pointer (some ⟨A, 0, none⟩) ∧ s17 = .pointer (some ⟨B, 0, none⟩) ∧ Hid (wx.heap[A]? = some (.cells #[.int .i64 (pi : Int), .int .i64 (pj : Int), .bool ps, .int .i64 pd, .int .i64 pe] 88 (0, 0))) ∧ Hid (wx.heap[B]? = some (.cells #[.int .i64 (qi : Int), .int .i64 (qj : Int), .bool qs, .int .i64 qd, .int .i64 qe] 88 (0, 0))) ∧ Hid (Below wr.heap.size wr wx))
              case first =>
                go_region
                all_goals (go_wp2_with fail; go_meet)
                case rel =>
                  exact ⟨_, _, rfl, rfl, two_old _ _ _, two_new _ _ _, two_below _ _ _⟩
                case rel =>
                  exact ⟨_, _, rfl, rfl, two_new _ _ _, two_old _ _ _, two_below _ _ _⟩
              case rest =>
                obtain ⟨A, B, rfl, rfl, HA, HBq, HBc0⟩ := hcut
                have HBc : Hid (Below U.heap.size U wc) := HBy.out.trans (HBc0.out.mono HBy.out.size)
                have x0 : wc.cell? ⟨A, 0, none⟩ = some (.int .i64 (pi : Int)) := by rw [cell_of_row wc A _ _ _ _ HA.out]; rfl
                have x1 : wc.cell? ⟨A, 1, none⟩ = some (.int .i64 (pj : Int)) := by rw [cell_of_row wc A _ _ _ _ HA.out]; rfl
                have x2 : wc.cell? ⟨A, 2, none⟩ = some (.bool ps) := by rw [cell_of_row wc A _ _ _ _ HA.out]; rfl
                have x3 : wc.cell? ⟨A, 3, none⟩ = some (.int .i64 pd) := by rw [cell_of_row wc A _ _ _ _ HA.out]; rfl
                have x4 : wc.cell? ⟨A, 4, none⟩ = some (.int .i64 pe) := by rw [cell_of_row wc A _ _ _ _ HA.out]; rfl
                have y0 : wc.cell? ⟨B, 0, none⟩ = some (.int .i64 (qi : Int)) := by rw [cell_of_row wc B _ _ _ _ HBq.out]; rfl
                have y1 : wc.cell? ⟨B, 1, none⟩ = some (.int .i64 (qj : Int)) := by rw [cell_of_row wc B _ _ _ _ HBq.out]; rfl
                have y2 : wc.cell? ⟨B, 2, none⟩ = some (.bool qs) := by rw [cell_of_row wc B _ _ _ _ HBq.out]; rfl
                have y3 : wc.cell? ⟨B, 3, none⟩ = some (.int .i64 qd) := by rw [cell_of_row wc B _ _ _ _ HBq.out]; rfl
                have y4 : wc.cell? ⟨B, 4, none⟩ = some (.int .i64 qe) := by rw [cell_of_row wc B _ _ _ _ HBq.out]; rfl
                clear hup0 hup1 hup2 c0 c1 c2 c3 c4 e0 e1 e2 e3 e4
                rcases h7 with rfl | ⟨rfl, rfl⟩ | ⟨rfl, rfl, rfl⟩ | ⟨rfl, rfl, rfl, rfl⟩ | ⟨rfl, rfl, rfl, rfl, rfl⟩ | ⟨rfl, rfl, rfl, rfl, rfl, rfl⟩ | ⟨rfl, rfl, rfl, rfl, rfl, rfl⟩
                · go_wp2_with fail
                  go_roundw
                  case rel => exact ⟨y + 1, by omega, by go_num, by rw [HNext.out]; rfl, HBc⟩
                  case measure => simp [intOf]; omega
                · go_wp2_with fail
                  go_roundw
                  case rel => exact ⟨y + 1, by omega, by go_num, by rw [HNext.out]; rfl, HBc⟩
                  case measure => simp [intOf]; omega
                · go_wp2_with fail
                  go_roundw
                  case rel => exact ⟨y + 1, by omega, by go_num, by rw [HNext.out]; rfl, HBc⟩
                  case measure => simp [intOf]; omega
                · go_wp2_with fail
                  go_roundw
                  case rel => exact ⟨y + 1, by omega, by go_num, by rw [HNext.out]; rfl, HBc⟩
                  case measure => simp [intOf]; omega
                · go_wp2_with fail
                  go_roundw
                  case rel => exact ⟨y + 1, by omega, by go_num, by rw [HNext.out]; rfl, HBc⟩
                  case measure => simp [intOf]; omega
                · go_wp2_with fail
                  go_roundw
                  case rel => exact ⟨y + 1, by omega, by go_num, by rw [HNext.out]; rfl, HBc⟩
                  case measure => simp [intOf]; omega
                · go_wp2_with fail
                  go_roundw
                  case rel => exact ⟨y + 1, by omega, by go_num, by rw [HNext.out]; rfl, HBc⟩
                  case measure => simp [intOf]; omega
            · obtain rfl : y = N := by omega
              have HAny : Hid ((bs.take y).any (mts p) = bs.any (mts p)) := by
                show _ = _
                rw [List.take_of_length_le (by rw [← HNb.out]; exact Nat.le_refl _)]
              have hxl : x < bs.length := by rw [← HNb.out]; exact hltx
              have HTk : Hid ((bs.take (x + 1)).foldl (goB bs) (dmF (n + 1)) = goB bs ((bs.take x).foldl (goB bs) (dmF (n + 1))) p) := by
                show _ = _
                rw [List.take_succ_eq_append_getElem hxl, List.foldl_append]
                show goB bs _ bs[x] = _
                rw [HP5.out, List.getD_eq_getElem?_getD, List.getElem?_eq_getElem hxl, Option.getD_some]
              have HBw : Hid (Below w5.heap.size w5 wr) := HBx.out.trans (HBy.out.mono HBx.out.size)
              have HRw : Hid (ByR wr G (tx d d ((bs.take x).foldl (goB bs) (dmF (n + 1))))) := HRx.out.below HBy.out
              rw [HAny.out]
              cases hmt : bs.any (mts p) with
              | true =>
                have HR9 : Hid (ByR wr G (tx d d ((bs.take (x + 1)).foldl (goB bs) (dmF (n + 1))))) := by
                  rw [HTk.out]; unfold goB; rw [if_pos hmt]; exact HRw.out
                go_wp2_with fail
                go_roundw
                case rel => exact ⟨x + 1, by omega, by go_num, HR9, HBw⟩
                case measure => simp [intOf]; omega
              | false =>
                obtain ⟨c0, c1, c2, c3, c4⟩ := HPc.out wr HBw.out
                obtain ⟨g, HGg⟩ : ∃ g, Hid (g = (bs.take x).foldl (goB bs) (dmF (n + 1))) := ⟨_, rfl⟩
                rw [← HGg.out] at HRw
                obtain ⟨I, hI⟩ : ∃ I, I = rwB p := ⟨_, rfl⟩
                obtain ⟨J, hJ⟩ : ∃ J, J = clB p := ⟨_, rfl⟩
                have hIe : (pi : Int) + 1 + pd = (I : Int) := by rw [hI]; unfold rwB; rw [← HPi.out, ← HPd.out]; omega
                have hJe : (pj : Int) + 1 + pe = (J : Int) := by rw [hJ]; unfold clB; rw [← HPj.out, ← HPe.out]; omega
                obtain ⟨qq, hqq⟩ : ∃ qq, qq = I * (d + 1) := ⟨_, rfl⟩
                obtain ⟨k, hk⟩ : ∃ k, k = qq + J := ⟨_, rfl⟩
                obtain ⟨k2, hk2⟩ : ∃ k2, k2 = k + (d + 1) := ⟨_, rfl⟩
                have hw9 : (wd : Int) = (d : Int) + 1 := by rw [HWd.out]; omega
                have hm1 : (I : Int) * (wd : Int) = (qq : Int) := by rw [hw9, hqq]; simp
                have hk1 : (qq : Int) + (pj : Int) + 1 + pe = (k : Int) := by omega
                have hdn : d = i + 2 := by have := HD.out; have := HR.out; omega
                have hrow1 : (I + 1) * (d + 1) = qq + (d + 1) := by rw [hqq, Nat.succ_mul]
                have hrow2 : (I + 1 + 1) * (d + 1) = qq + (d + 1) + (d + 1) := by rw [Nat.succ_mul, hrow1]
                have hq1 : rwB p * (d + 1) = qq := by rw [hqq, hI]
                have hq2 : (rwB p + 1) * (d + 1) = qq + (d + 1) := by rw [← hI]; exact hrow1
                have hmx : (I + 1) * (d + 1) ≤ d * (d + 1) := Nat.mul_le_mul_right _ (by omega)
                have hdd : d * (d + 1) ≤ 8 * 9 := Nat.mul_le_mul hd8 (by omega)
                have hTs : T0.size = d * (d + 1) - 1 := HTl.out
                have hId : I < d := by omega
                have hJd : J < d := by omega
                have hki : (k : Int) < (T0.size : Int) := by omega
                have hk71 : k ≤ 71 := by omega
                have hqq71 : qq ≤ 71 := by omega
                have hI7 : I ≤ 7 := by omega
                have hwd9 : wd ≤ 9 := by rw [HWd.out]; omega
                have hwdN : wd = d + 1 := HWd.out
                have HTx : Hid ((tx d d g).length = T0.size) := by
                  obtain ⟨t, ht⟩ : ∃ t, d = t + 1 := ⟨d - 1, by omega⟩
                  show _ = _
                  rw [hTs, ht]; exact tx_length t (t + 1) g
                have HAr : Hid (d = i + 2 ∧ rwB p * (d + 1) = qq ∧ (rwB p + 1) * (d + 1) = qq + (d + 1) ∧ (I + 1) * (d + 1) = qq + (d + 1) ∧ (I + 1 + 1) * (d + 1) = qq + (d + 1) + (d + 1) ∧ (I + 1) * (d + 1) ≤ d * (d + 1) ∧ T0.size = d * (d + 1) - 1 ∧ k = qq + J ∧ k2 = k + (d + 1) ∧ wd = d + 1 ∧ I = rwB p ∧ J = clB p ∧ d ≤ 8 ∧ I < d ∧ J < d ∧ d * (d + 1) ≤ 8 * 9) :=
                  ⟨hdn, hq1, hq2, hrow1, hrow2, hmx, hTs, hk, hk2, hwdN, hI, hJ, hd8, hId, hJd, hdd⟩
                have HIe := hid_w (And.intro hIe hJe)
                clear hdn hq1 hq2 hrow1 hrow2 hmx hTs hk hk2 hwdN hI hJ hId hJd hdd hw9 hqq hJe
                go_upto_region 31 with fail
                go_quiet (fail)
                obtain ⟨Wq, HWq⟩ : ∃ Wq, Hid (Wq = wr.drewN nq) := ⟨_, rfl⟩
                rw [← HWq.out]
                have HBd1 : Hid (Below wr.heap.size wr Wq) := by rw [HWq.out]; exact below_drewN (Below.refl _ _) _
                have HRq : Hid (ByR Wq G (tx d d g)) := HRw.out.below HBd1.out
                have HBq : Hid (Below w5.heap.size w5 Wq) := HBw.out.trans (HBd1.out.mono HBw.out.size)
                have c2q := (HPc.out Wq HBq.out).2.2.1
                clear c0 c1 c2 c3 c4
                cases ps with
                | true =>
                  have hpd0 : I + 1 < d := by
                    have hm : p ∈ barR i n f i := by
                      rw [HP5.out, ← HBs.out, List.getD_eq_getElem?_getD, List.getElem?_eq_getElem hxl, Option.getD_some]; exact List.getElem_mem _
                    have h := (barR_at hm).2.2.2.2.2.2.1 HPs.out.symm
                    rw [← HPd.out] at h
                    have h2 := HIe.out
                    obtain ⟨hdn, hq1, hq2, hrow1, hrow2, hmx, hTs, hk, hk2, hw, hI, hJ, hd8, hId, hJd, hdd⟩ := HAr.out
                    omega
                  have hmx2 : (I + 1 + 1) * (d + 1) ≤ d * (d + 1) := Nat.mul_le_mul_right _ (by omega)
                  have hk3 : (k : Int) + (wd : Int) = (k2 : Int) := by obtain ⟨hdn, hq1, hq2, hrow1, hrow2, hmx, hTs, hk, hk2, hw, hI, hJ, hd8, hId, hJd, hdd⟩ := HAr.out; omega
                  have hk2i : (k2 : Int) < (T0.size : Int) := by obtain ⟨hdn, hq1, hq2, hrow1, hrow2, hmx, hTs, hk, hk2, hw, hI, hJ, hd8, hId, hJd, hdd⟩ := HAr.out; omega
                  have hk80 : k2 ≤ 80 := by obtain ⟨hdn, hq1, hq2, hrow1, hrow2, hmx, hTs, hk, hk2, hw, hI, hJ, hd8, hId, hJd, hdd⟩ := HAr.out; omega
                  have HX2 := hid_w (And.intro hpd0 hmx2)
                  clear hpd0 hmx2
                  have HS1 : Hid (ByR (Wq.setCell ⟨G, k, none⟩ (.int .u8 117)) G ((tx d d g).set k 117)) := HRq.out.store k 117 (by rw [HTx.out]; have h := hki; have h2 := hk2i; omega)
                  have HS2 : Hid (ByR ((Wq.setCell ⟨G, k, none⟩ (.int .u8 117)).setCell ⟨G, k2, none⟩ (.int .u8 100)) G (((tx d d g).set k 117).set (k2) 100)) := HS1.out.store (k2) 100 (by rw [List.length_set, HTx.out]; have h2 := hk2i; omega)
                  have g0 : Wq.cell? ⟨G, k, none⟩ = some (.int .u8 (((tx d d g).getD k 0).toNat : Int)) := HRq.out.cell (by rw [HTx.out]; have h := hki; have h2 := hk2i; omega)
                  have f0 : Wq.frozen? ⟨G, k, none⟩ = false := HRq.out.frozen (by rw [HTx.out]; have h := hki; have h2 := hk2i; omega)
                  have g1 : (Wq.setCell ⟨G, k, none⟩ (.int .u8 117)).cell? ⟨G, k2, none⟩ = some (.int .u8 ((((tx d d g).set k 117).getD (k2) 0).toNat : Int)) := HS1.out.cell (by rw [List.length_set, HTx.out]; have h2 := hk2i; omega)
                  have f1 : (Wq.setCell ⟨G, k, none⟩ (.int .u8 117)).frozen? ⟨G, k2, none⟩ = false := HS1.out.frozen (by rw [List.length_set, HTx.out]; have h2 := hk2i; omega)
                  have HLy : Hid (((tx d d g).set k 117).set (k2) 100 = tx d d (up2 g (rwB p * 8 + clB p) 117 ((rwB p + 1) * 8 + clB p) 100)) := by
                    obtain ⟨hdn, hq1, hq2, hrow1, hrow2, hmx, hTs, hk, hk2, hw, hI, hJ, hd8, hId, hJd, hdd⟩ := HAr.out
                    have hx2 := HX2.out
                    obtain ⟨t, ht⟩ : ∃ t, d = t + 1 := ⟨d - 1, by omega⟩
                    have e1 := tx_set t (t + 1) g (rwB p) (clB p) (by omega) (by omega) (by omega) 117
                    have e2 := tx_set t (t + 1) (fun z => if z = rwB p * 8 + clB p then 117 else g z) (rwB p + 1) (clB p) (by omega) (by omega) (by omega) 100
                    rw [← ht] at e1 e2
                    rw [show k = rwB p * (d + 1) + clB p by omega, show k2 = (rwB p + 1) * (d + 1) + clB p by omega]
                    show _ = _
                    rw [e1, e2]; rfl
                  obtain ⟨W9, HW9⟩ : ∃ W9, Hid (W9 = (Wq.setCell ⟨G, k, none⟩ (.int .u8 117)).setCell ⟨G, k2, none⟩ (.int .u8 100)) := ⟨_, rfl⟩
                  rw [← HW9.out] at HS2
                  have HB9 : Hid (Below w5.heap.size w5 W9) := by
                    have hs : ∀ (W : World) (j : Nat) (v : Value), Below w5.heap.size w5 W → Below w5.heap.size w5 (W.setCell ⟨G, j, none⟩ v) := fun W j v hb =>
                      hb.trans ⟨rfl, rfl, rfl, by simp, fun i hi => heap_setCell_other _ _ _ _ (show i ≠ G by have := HG.out; omega)⟩
                    rw [HW9.out]; exact hs _ _ _ (hs _ _ _ HBq.out)
                  have HR9 : Hid (ByR W9 G (tx d d ((bs.take (x + 1)).foldl (goB bs) (dmF (n + 1))))) := by
                    rw [HTk.out, ← HGg.out]; unfold goB
                    rw [if_neg (by rw [hmt]; decide)]
                    unfold layB
                    rw [← HPs.out]
                    first | rw [if_pos rfl] | rw [if_neg (show ¬ (false = true) by decide)]
                    rw [← HLy.out]; exact HS2.out
                  go_wp2_with fail
                  rw [← HW9.out]
                  go_roundw
                  case rel => exact ⟨x + 1, by omega, by go_num, HR9, HB9⟩
                  case measure => simp [intOf]; omega
                | false =>
                  have hpe0 : J + 1 < d := by
                    have hm : p ∈ barR i n f i := by
                      rw [HP5.out, ← HBs.out, List.getD_eq_getElem?_getD, List.getElem?_eq_getElem hxl, Option.getD_some]; exact List.getElem_mem _
                    have h := (barR_at hm).2.2.2.2.2.2.2 HPs.out.symm
                    rw [← HPe.out] at h
                    have h2 := HIe.out
                    obtain ⟨hdn, hq1, hq2, hrow1, hrow2, hmx, hTs, hk, hk2, hw, hI, hJ, hd8, hId, hJd, hdd⟩ := HAr.out
                    omega
                  have hk2i : (k : Int) + 1 < (T0.size : Int) := by obtain ⟨hdn, hq1, hq2, hrow1, hrow2, hmx, hTs, hk, hk2, hw, hI, hJ, hd8, hId, hJd, hdd⟩ := HAr.out; omega
                  have HX2 := hid_w hpe0
                  clear hpe0
                  have HS1 : Hid (ByR (Wq.setCell ⟨G, k, none⟩ (.int .u8 108)) G ((tx d d g).set k 108)) := HRq.out.store k 108 (by rw [HTx.out]; have h := hki; have h2 := hk2i; omega)
                  have HS2 : Hid (ByR ((Wq.setCell ⟨G, k, none⟩ (.int .u8 108)).setCell ⟨G, k + 1, none⟩ (.int .u8 114)) G (((tx d d g).set k 108).set (k + 1) 114)) := HS1.out.store (k + 1) 114 (by rw [List.length_set, HTx.out]; have h2 := hk2i; omega)
                  have g0 : Wq.cell? ⟨G, k, none⟩ = some (.int .u8 (((tx d d g).getD k 0).toNat : Int)) := HRq.out.cell (by rw [HTx.out]; have h := hki; have h2 := hk2i; omega)
                  have f0 : Wq.frozen? ⟨G, k, none⟩ = false := HRq.out.frozen (by rw [HTx.out]; have h := hki; have h2 := hk2i; omega)
                  have g1 : (Wq.setCell ⟨G, k, none⟩ (.int .u8 108)).cell? ⟨G, k + 1, none⟩ = some (.int .u8 ((((tx d d g).set k 108).getD (k + 1) 0).toNat : Int)) := HS1.out.cell (by rw [List.length_set, HTx.out]; have h2 := hk2i; omega)
                  have f1 : (Wq.setCell ⟨G, k, none⟩ (.int .u8 108)).frozen? ⟨G, k + 1, none⟩ = false := HS1.out.frozen (by rw [List.length_set, HTx.out]; have h2 := hk2i; omega)
                  have HLy : Hid (((tx d d g).set k 108).set (k + 1) 114 = tx d d (up2 g (rwB p * 8 + clB p) 108 (rwB p * 8 + (clB p + 1)) 114)) := by
                    obtain ⟨hdn, hq1, hq2, hrow1, hrow2, hmx, hTs, hk, hk2, hw, hI, hJ, hd8, hId, hJd, hdd⟩ := HAr.out
                    have hx2 := HX2.out
                    obtain ⟨t, ht⟩ : ∃ t, d = t + 1 := ⟨d - 1, by omega⟩
                    have e1 := tx_set t (t + 1) g (rwB p) (clB p) (by omega) (by omega) (by omega) 108
                    have e2 := tx_set t (t + 1) (fun z => if z = rwB p * 8 + clB p then 108 else g z) (rwB p) (clB p + 1) (by omega) (by omega) (by omega) 114
                    rw [← ht] at e1 e2
                    rw [show k = rwB p * (d + 1) + clB p by omega, show rwB p * (d + 1) + clB p + 1 = rwB p * (d + 1) + (clB p + 1) by omega]
                    show _ = _
                    rw [e1, e2]; rfl
                  obtain ⟨W9, HW9⟩ : ∃ W9, Hid (W9 = (Wq.setCell ⟨G, k, none⟩ (.int .u8 108)).setCell ⟨G, k + 1, none⟩ (.int .u8 114)) := ⟨_, rfl⟩
                  rw [← HW9.out] at HS2
                  have HB9 : Hid (Below w5.heap.size w5 W9) := by
                    have hs : ∀ (W : World) (j : Nat) (v : Value), Below w5.heap.size w5 W → Below w5.heap.size w5 (W.setCell ⟨G, j, none⟩ v) := fun W j v hb =>
                      hb.trans ⟨rfl, rfl, rfl, by simp, fun i hi => heap_setCell_other _ _ _ _ (show i ≠ G by have := HG.out; omega)⟩
                    rw [HW9.out]; exact hs _ _ _ (hs _ _ _ HBq.out)
                  have HR9 : Hid (ByR W9 G (tx d d ((bs.take (x + 1)).foldl (goB bs) (dmF (n + 1))))) := by
                    rw [HTk.out, ← HGg.out]; unfold goB
                    rw [if_neg (by rw [hmt]; decide)]
                    unfold layB
                    rw [← HPs.out]
                    first | rw [if_pos rfl] | rw [if_neg (show ¬ (false = true) by decide)]
                    rw [← HLy.out]; exact HS2.out
                  go_wp2_with fail
                  rw [← HW9.out]
                  go_roundw
                  case rel => exact ⟨x + 1, by omega, by go_num, HR9, HB9⟩
                  case measure => simp [intOf]; omega
        · obtain rfl : x = N := by omega
          have HEnd : Hid ((bs.take x).foldl (goB bs) (dmF (n + 1)) = spI i i n f i) := by
            show _ = _
            rw [List.take_of_length_le (by rw [← HNb.out]; exact Nat.le_refl _), HBs.out]
            exact go_all i
          rw [HEnd.out] at HRx
          have HTx : Hid ((tx d d (spI i i n f i)).length = T0.size) := by
            obtain ⟨t, ht⟩ : ∃ t, d = t + 1 := ⟨d - 1, by have := HD.out; omega⟩
            show _ = _
            rw [HTl.out, ht]; exact tx_length t (t + 1) _
          have hback : (convert 80 9 (.slice (some ⟨G, 0, none⟩) T0.size cap)).run Tryd.prog wr = .ok (.string ⟨(tx d d (spI i i n f i)).toArray⟩) wr := by
            have h := HRx.out.back (cap := cap)
            rw [HTx.out] at h; exact h
          have HBz : Hid (Below w.heap.size w wr) := by
            have h1 : Below w.heap.size w w5 := HB1.out.trans (HB.out.mono HB1.out.size)
            exact h1.trans (HBx.out.mono h1.size)
          go_wp2_with fail
          go_ret
          exact ⟨rfl, HBz⟩

end Go.Proofs.YtcnmndbckjmliaaDoor
