/-
  parking.Unrooted.
-/
import Derived.Test.YtihafckdaecgkaaZArb
import Derived.Test.YtihafckdaecgkaaZCod
import Derived.Test.YtihafckdaecgkaaZRoo
namespace Go.Proofs.Ytihafckdaecgkaa
open Go.RowKit

set_option maxHeartbeats 4000000 in
theorem Unrooted_no (a : Option Addr) (n cap : Nat) (L : List (Int × Int)) (E : Int) (w : World) (hs : ShowsP w a L) (hwf : ∀ e ∈ L, (-9223372036854775808 ≤ e.1 ∧ e.1 ≤ 9223372036854775807) ∧ -9223372036854775808 ≤ e.2 ∧ e.2 ≤ 9223372036854775807) (hn : n = L.length) (hl : n ≤ 4611686018427387904)
    (hE : (20 < n ∧ E = 2) ∨ (n ≤ 20 ∧ itr (0 : Nat) ((0 + n : Nat) : Int) id L = false ∧ E = 1)) :
    Calls Try.prog 16 #[.slice a n cap] w fun e w' => e = .returned (.tuple #[.slice none 0 0, .int .i64 E]) ∧ Hid (Below w.heap.size w w') := by
  have HB0 : Hid (Below w.heap.size w w) := Below.refl _ _
  rcases hE with ⟨h, rfl⟩ | ⟨h, hi, rfl⟩
  · have h' : (20 : Int) < (n : Int) := by omega
    clear hs hwf hn
    go_enter Try.func16, Try.ntmps16
    go_wp2
    go_ret2
    exact ⟨rfl, HB0⟩
  · have h' : ¬ (20 : Int) < (n : Int) := by omega
    have HT := isTree_at a n cap 0 L false w hs hwf hn h (by omega) hi
    clear hs hwf hn hi
    go_enter Try.func16, Try.ntmps16
    go_wp2_with fail
    refine HT.mono ?_
    rintro e w1 ⟨rfl, HB1⟩
    go_wp2
    go_ret2
    exact ⟨rfl, HB1⟩

/-- What Unrooted tells. -/
def UnE (n : Nat) (L : List (Int × Int)) (w : World) (lo : Nat) (v : Value) : Prop := ∃ D line, UI n (jnU L) D line n 0 ∧ Owns w lo v (tab n D)
theorem UI.line {n : Nat} {J : Int → Int → Bool} {D : Nat → Int} {line : List Int} {k i : Nat} (h : UI n J D line k i) (hi : i ≤ n) : line.length ≤ n + 1 ∧ (∀ z ∈ line, 0 ≤ z ∧ z ≤ (n : Int)) ∧ k < line.length := by
  refine ⟨by rw [h.ln]; exact line_len hi, fun z hz => line_bd hi z (by rw [← h.ln]; exact hz), ?_⟩
  have := h.long k (Nat.le_refl _)
  rw [h.ln, List.length_append]; omega

set_option maxHeartbeats 16000000 in
set_option maxRecDepth 100000 in
theorem Unrooted_ok (a : Option Addr) (n cap : Nat) (L : List (Int × Int)) (w : World) (hs : ShowsP w a L) (hwf : ∀ e ∈ L, (-9223372036854775808 ≤ e.1 ∧ e.1 ≤ 9223372036854775807) ∧ -9223372036854775808 ≤ e.2 ∧ e.2 ≤ 9223372036854775807) (hn : n = L.length) (h20 : n ≤ 20) (hi : itr (0 : Nat) ((0 + n : Nat) : Int) id L = true) :
    Calls Try.prog 16 #[.slice a n cap] w fun e w' => ∃ v, e = .returned (.tuple #[v, .int .i64 0]) ∧ Hid (UnE n L w' w.heap.size v) ∧ Hid (Below w.heap.size w w') := by
  have h' : ¬ (20 : Int) < (n : Int) := by omega
  have HT := isTree_at a n cap 0 L true w hs hwf hn h20 (by omega) hi
  have HTr : Hid (Tr (rgV 0 (n + 1)) L) := (itr_tr hn).1 hi
  have HS : Hid (ShowsP w a L) := hs
  have HN : Hid (n = L.length) := hn
  have HLb : Hid (∀ e ∈ L, (0 ≤ e.1 ∧ e.1 ≤ 20) ∧ 0 ≤ e.2 ∧ e.2 ≤ 20) := fun e he => by
    have h1 := HTr.out.2.2.1 e he
    have h2 := mem_rgV.1 h1.1
    have h3 := mem_rgV.1 h1.2
    omega
  clear hs hwf hn hi
  obtain ⟨C0, HC0⟩ : ∃ C0, Hid (C0 = celU fun _ => false) := ⟨_, rfl⟩
  have hz : ∀ W : World, (zeroValue 53).run Try.prog W = .ok (.agg C0) W := fun W => by rw [HC0.out]; exact run_zeroU W
  go_enter Try.func16, Try.ntmps16
  go_wp2_with fail
  refine HT.mono ?_
  rintro e w1 ⟨rfl, HB1⟩
  clear HT
  obtain ⟨g, HG⟩ : ∃ g, Hid (g = w1.heap.size) := ⟨_, rfl⟩
  have HA0 : Hid (ArU (w1.alloc (.cells C0 53)) g (jfU (L.take 0))) := by
    show _ = _
    rw [HG.out, HC0.out]
    exact heap_alloc_new _ _
  have HwG : Hid (w.heap.size ≤ g) := by rw [HG.out]; exact HB1.out.size
  have HB2 : Hid (Below w.heap.size w (w1.alloc (.cells C0 53))) := HB1.out.alloc HB1.out.size _
  go_upto_region 6 with fail
  rw [← HG.out]
  clear HG HB1
  obtain ⟨W2, HW2⟩ : ∃ W2, Hid (W2 = w1.alloc (.cells C0 53)) := ⟨_, rfl⟩
  rw [← HW2.out] at HA0 HB2 ⊢
  clear HW2 hz HC0
  go_wp2
  go_loopw [6, 20] (fun _ q wr => ∃ j : Nat, j ≤ n ∧ q = .int .i64 (j : Int) ∧ Hid (ArU wr g (jfU (L.take j))) ∧ Hid (Below w.heap.size w wr)) (fun _ q _ => n - (intOf q).toNat)
  case atStart => exact ⟨0, Nat.zero_le _, rfl, HA0, HB2⟩
  case round =>
    clear HA0 HB2
    obtain ⟨j, hj, rfl, HA, HB⟩ := hrel
    by_cases hlt : j < n
    · have hlt' : (j : Int) < (n : Int) := by omega
      have hjL : j < L.length := by rw [← HN.out]; exact hlt
      obtain ⟨b, off, x0, y0, rfl, hbl, HZ, hc1, hc2⟩ := (HS.out.below HB.out).elem (k := j) hjL
      have hxy := HLb.out (x0, y0) (by rw [HZ.out]; exact getD_memP hjL)
      dsimp only at hxy
      obtain ⟨x, rfl⟩ : ∃ x : Nat, x0 = x := ⟨x0.toNat, by omega⟩
      obtain ⟨y, rfl⟩ : ∃ y : Nat, y0 = y := ⟨y0.toNat, by omega⟩
      have hx : x < 21 := by omega
      have hy : y < 21 := by omega
      have hx' : (x : Int) < 21 := by omega
      have hy' : (y : Int) < 21 := by omega
      clear hxy
      have hgl := HA.out.lt
      obtain ⟨E, HE⟩ : ∃ E, Hid (E = wr.heap.size) := ⟨_, rfl⟩
      obtain ⟨W, HW⟩ : ∃ W, Hid (W = wr.alloc (.cells #[.int .i64 (x : Int), .int .i64 (y : Int)] 34)) := ⟨_, rfl⟩
      have HBW : Hid (Below wr.heap.size wr W) := by rw [HW.out]; exact (Below.refl _ _).alloc (Nat.le_refl _) _
      have hpb : W.heap[E]? = some (.cells #[.int .i64 (x : Int), .int .i64 (y : Int)] 34 (0, 0)) := by rw [HW.out, HE.out]; exact heap_alloc_new _ _
      have HAW : Hid (ArU W g (jfU (L.take j))) := HA.out.same (HBW.out.block g hgl)
      have HBwW : Hid (Below w.heap.size w W) := HB.out.trans (HBW.out.mono HB.out.size)
      have hEg : E ≠ g := by rw [HE.out]; omega
      go_upto_region 9 with fail
      rw [← HW.out, ← HE.out]
      clear HW HE HBW HA HB hc1 hc2
      have hp1 : W.cell? ⟨E, 0, none⟩ = some (.int .i64 (x : Int)) := by rw [cell_of_row W E _ _ _ _ hpb]; rfl
      have hp2 : W.cell? ⟨E, 1, none⟩ = some (.int .i64 (y : Int)) := by rw [cell_of_row W E _ _ _ _ hpb]; rfl
      obtain ⟨u1, hg1⟩ : ∃ u1, W.cell? ⟨g, x * 21 + y, none⟩ = some u1 := ⟨_, HAW.out.cell (by omega)⟩
      have hf1 : W.frozen? ⟨g, x * 21 + y, none⟩ = false := HAW.out.frozen _
      go_region
      obtain ⟨W3, HW3⟩ : ∃ W3, Hid (W3 = (W.setCell ⟨g, x * 21 + y, none⟩ (.bool true)).drew) := ⟨_, rfl⟩
      rw [← HW3.out]
      have HA3 : Hid (ArU W3 g (upU (jfU (L.take j)) (x * 21 + y) true)) := by rw [HW3.out]; exact (HAW.out.store _ _).same rfl
      have HB3 : Hid (Below w.heap.size w W3) := by rw [HW3.out]; exact below_drewN (HBwW.out.setCell (p := ⟨g, x * 21 + y, none⟩) HwG.out _) 1
      have hpb3 : W3.heap[E]? = some (.cells #[.int .i64 (x : Int), .int .i64 (y : Int)] 34 (0, 0)) := by
        rw [HW3.out]
        exact (Below.heap_setCell _ _ _ _ hEg).trans hpb
      clear HW3 hp1 hp2 hg1 hf1 hpb HAW HBwW
      have hp1 : W3.cell? ⟨E, 0, none⟩ = some (.int .i64 (x : Int)) := by rw [cell_of_row W3 E _ _ _ _ hpb3]; rfl
      have hp2 : W3.cell? ⟨E, 1, none⟩ = some (.int .i64 (y : Int)) := by rw [cell_of_row W3 E _ _ _ _ hpb3]; rfl
      obtain ⟨u2, hg1⟩ : ∃ u1, W3.cell? ⟨g, y * 21 + x, none⟩ = some u1 := ⟨_, HA3.out.cell (by omega)⟩
      have hf1 : W3.frozen? ⟨g, y * 21 + x, none⟩ = false := HA3.out.frozen _
      go_wp2
      go_region
      obtain ⟨W4, HW4⟩ : ∃ W4, Hid (W4 = (W3.setCell ⟨g, y * 21 + x, none⟩ (.bool true)).drew) := ⟨_, rfl⟩
      rw [← HW4.out]
      have HA4 : Hid (ArU W4 g (jfU (L.take (j + 1)))) := by
        rw [HW4.out, List.take_succ_eq_append_getElem hjL]
        have e : L[j] = ((x : Int), (y : Int)) := by rw [HZ.out]; simp [List.getD, hjL]
        rw [e]
        exact ((HA3.out.store _ _).same rfl).congr (fun t _ => jfU_snoc _ x y t)
      have HB4 : Hid (Below w.heap.size w W4) := by rw [HW4.out]; exact below_drewN (HB3.out.setCell (p := ⟨g, y * 21 + x, none⟩) HwG.out _) 1
      clear HW4 hp1 hp2 hg1 hf1 hpb3 HA3 HB3
      go_wp2
      go_roundw
      case rel => exact ⟨j + 1, by omega, by go_num, HA4, HB4⟩
      case measure => simp [intOf]; omega
    · obtain rfl : j = n := by omega
      have HA1 : Hid (ArU wr g (jfU L)) := by
        have h1 := HA.out
        rw [List.take_of_length_le (by rw [← HN.out]; exact Nat.le_refl _)] at h1
        exact h1
      clear HA
      obtain ⟨i1, hj1, hy0, hy1, hy2⟩ := info_parts Try.info3
      go_wp2_with (at_make; refine wpList_make_full _ rfl _ _ 23 rfl wr.heap.size 3 i1 (.int .i64 0) 1 Try.underlying23 hj1 hy0 hy1 _ _ _ _ j rfl rfl rfl rfl ?b1 ?b2 ?b3 ?_)
      case b1 => rw [hy2]; omega
      case b2 => unfold maxLen; omega
      case b3 => exact Nat.le_refl _
      intro w2 hown hgrow
      obtain ⟨G, HG⟩ : ∃ G, Hid (G = wr.heap.size) := ⟨_, rfl⟩
      have hB2 : Below wr.heap.size wr w2 := (Below.refl _ _).grown hgrow (Nat.le_refl _) (fun k h => by cases h)
      have HO2 : Hid (Owns w2 G (.slice (some ⟨G, 0, none⟩) j j) (tab j (fun _ => 0))) := by rw [HG.out]; exact owns_mkT hown
      have HgG : Hid (g < G) := by rw [HG.out]; exact HA1.out.lt
      have HwG2 : Hid (w.heap.size ≤ G) := by rw [HG.out]; exact HB.out.size
      have HA2 : Hid (ArU w2 g (jfU L)) := HA1.out.same (hB2.block g HA1.out.lt)
      have HBw2 : Hid (Below w.heap.size w w2) := HB.out.trans (hB2.mono HB.out.size)
      rw [← HG.out]
      obtain ⟨Lb, HLb2⟩ : ∃ Lb, Hid (Lb = w2.heap.size) := ⟨_, rfl⟩
      have HGL : Hid (G < Lb) := by rw [HLb2.out]; exact (World.ownsRow.lt HO2.out G rfl).2
      clear hown hgrow hB2 HA1 HB HG hj1 hy0 hy1 hy2 i1
      obtain ⟨W3, HW3⟩ : ∃ W3, Hid (W3 = w2.alloc (.cells #[.int .i64 0] 3)) := ⟨_, rfl⟩
      have hB3 : Below w2.heap.size w2 W3 := by rw [HW3.out]; exact (Below.refl _ _).alloc (Nat.le_refl _) _
      have HO3 : Hid (Owns W3 G (.slice (some ⟨G, 0, none⟩) j j) (tab j (fun _ => 0))) := HO2.out.below hB3
      have HL3 : Hid (Owns W3 Lb (.slice (some ⟨Lb, 0, none⟩) 1 1) [0]) := by rw [HLb2.out]; exact owns_of_row (Nat.le_refl _) (by rw [HW3.out]; exact heap_alloc_new _ _) rfl (by simp)
      have HA3 : Hid (ArU W3 g (jfU L)) := HA2.out.same (hB3.block g HA2.out.lt)
      have HBw3 : Hid (Below w.heap.size w W3) := HBw2.out.trans (hB3.mono HBw2.out.size)
      have HLs : Hid (Lb < W3.heap.size) := (World.ownsRow.lt HL3.out Lb rfl).2
      have HU0 : Hid (UI j (jnU L) (fun _ => 0) [0] 0 0) := UI.start j (jnU L)
      go_upto_region 14 with fail
      rw [← HW3.out, ← HLb2.out]
      clear HW3 hB3 HBw2 HO2 HLb2 HA2 hlt hj
      go_wp2
      go_loopw [8, 9, 10, 11] (fun v8 v9 _ _ wq => ∃ k p : Nat, ∃ D line, k ≤ j ∧ Hid (p = k + 1) ∧ v9 = .int .i64 (p : Int) ∧ Hid (UI j (jnU L) D line k 0) ∧ Hid (ArU wq g (jfU L)) ∧ Hid (Owns wq G (.slice (some ⟨G, 0, none⟩) j j) (tab j D)) ∧ Hid (Owns wq Lb v8 line) ∧ Hid (Below w.heap.size w wq) ∧ Hid (Lb < wq.heap.size)) (fun _ v9 _ _ _ => j + 1 - (intOf v9).toNat)
      case atStart => exact ⟨0, 1, _, _, Nat.zero_le _, rfl, rfl, HU0, HA3, HO3, HL3, HBw3, HLs⟩
      case round =>
        clear HA3 HO3 HL3 HBw3 HLs HU0
        obtain ⟨k, p, D, line, hk, Hp, rfl, HU, HA, HO, HL, HB, HLr⟩ := hrel
        by_cases hlk : k < j
        · have hpn : (p : Int) ≤ (j : Int) := by have := Hp.out; omega
          have hpk : (p : Int) - 1 = (k : Int) := by have := Hp.out; omega
          have hp20 : p ≤ 20 := by omega
          obtain ⟨hll, hbd, hkl⟩ := UI.line HU.out (Nat.zero_le _)
          obtain ⟨a8, c8, rfl, hs8⟩ := HL.out.shows (by omega) (fun z hz => by have := hbd z hz; omega)
          obtain ⟨b8, o8, v0, rfl, Hvx, -, -, hc8⟩ := hs8.elem (k := k) hkl
          obtain ⟨ll, Hll⟩ : ∃ ll, Hid (ll = line.length) := ⟨_, rfl⟩
          rw [← Hll.out] at HL ⊢
          have hkl' : (k : Int) < (ll : Int) := by rw [Hll.out]; omega
          have hvb := hbd _ (getD_mem hkl)
          rw [← Hvx.out] at hvb
          obtain ⟨vx, rfl⟩ : ∃ vx : Nat, v0 = vx := ⟨v0.toNat, by omega⟩
          have hvx : vx < 21 := by omega
          have hvx' : (vx : Int) < 21 := by omega
          have Hpp : Hid ((p : Int) = (k : Int) + 1) := by have := Hp.out; show _ = _; omega
          clear hbd hll hs8 hkl hvb
          go_wp2
          go_loopw [8, 11] (fun v8 v11 wq => ∃ i q : Nat, ∃ D line, i ≤ j ∧ Hid (q = i + 1) ∧ v11 = .int .i64 (q : Int) ∧ Hid ((vx : Int) = line.getD k 0) ∧ Hid (UI j (jnU L) D line k i) ∧ Hid (ArU wq g (jfU L)) ∧ Hid (Owns wq G (.slice (some ⟨G, 0, none⟩) j j) (tab j D)) ∧ Hid (Owns wq Lb v8 line) ∧ Hid (Below w.heap.size w wq) ∧ Hid (Lb < wq.heap.size)) (fun _ v11 _ => j + 1 - (intOf v11).toNat)
          case atStart => exact ⟨0, 1, D, line, Nat.zero_le _, rfl, rfl, Hvx, HU, HA, HO, HL, HB, HLr⟩
          case round =>
            clear HU HA HO HL HB HLr hc8 Hvx Hll hkl'
            obtain ⟨i, q, D, line, hi, Hq, rfl, Hvx, HU, HA, HO, HL, HB, HLr⟩ := hrel
            by_cases hil : i < j
            · have hqn : (q : Int) ≤ (j : Int) := by have := Hq.out; omega
              have hqi : (q : Int) - 1 = (i : Int) := by have := Hq.out; omega
              have hq21 : q < 21 := by have := Hq.out; omega
              have hq21' : (q : Int) < 21 := by omega
              have hij : (i : Int) < (j : Int) := by omega
              have Hqq : Hid ((q : Int) = (i : Int) + 1) := by have := Hq.out; show _ = _; omega
              obtain ⟨hof, hoc⟩ := HO.out.tabBox (j := i) hil
              obtain ⟨z, Hz⟩ : ∃ z : Int, Hid (z = D i) := ⟨_, rfl⟩
              rw [← Hz.out] at hoc
              obtain ⟨t, Ht⟩ : ∃ t : Bool, Hid (t = jfU L (vx * 21 + q)) := ⟨_, rfl⟩
              have htc : wr.cell? ⟨g, vx * 21 + q, none⟩ = some (.bool t) := by rw [Ht.out]; exact HA.out.cell (by omega)
              have HtJ : Hid (jnU L (line.getD k 0) ((i : Int) + 1) = t) := by
                show _ = _
                rw [Ht.out, jfU_at HLb.out (by omega) (by omega), Hvx.out, Hqq.out]
              rcases t with _ | _
              · have HSk : Hid (jnU L (line.getD k 0) ((i : Int) + 1) = true → D i ≠ 0) := fun h => by rw [HtJ.out] at h; cases h
                go_wp2
                go_roundw
                case rel => exact ⟨i + 1, q + 1, D, line, by omega, by show _ = _; rw [Hq.out], by go_num, Hvx, HU.out.skip hil (HSk.out), HA, HO, HL, HB, HLr⟩
                case measure => simp [intOf]; omega
              · by_cases hz0 : z = 0
                · have hzb : (z == 0) = true := beq_iff_eq.2 hz0
                  have HU1 : Hid (UI j (jnU L) (fun t => if t = i then (k : Int) + 1 else D t) (line ++ [(i : Int) + 1]) k (i + 1)) := HU.out.set hil HtJ.out (by rw [← Hz.out]; exact hz0)
                  obtain ⟨hll, hbd, hkl⟩ := UI.line HU.out (by omega)
                  have Hvx1 : Hid ((vx : Int) = (line ++ [(i : Int) + 1]).getD k 0) := by
                    show _ = _
                    rw [Hvx.out]
                    simp [List.getD, List.getElem?_append_left hkl]
                  have hll1 : line.length ≤ j := by
                    have := (UI.line HU1.out (by omega)).1
                    simp only [List.length_append, List.length_cons, List.length_nil] at this
                    omega
                  obtain ⟨W, HW⟩ : ∃ W, Hid (W = wr.setCell ⟨G, i, none⟩ (.int .i64 (p : Int))) := ⟨_, rfl⟩
                  have HOW : Hid (Owns W G (.slice (some ⟨G, 0, none⟩) j j) (tab j (fun t => if t = i then (k : Int) + 1 else D t))) := by
                    rw [HW.out]
                    refine (HO.out.tabPut i (p : Int)).tabSame (fun t _ => ?_)
                    unfold updT
                    rw [Hpp.out]
                  have HAW : Hid (ArU W g (jfU L)) := by
                    rw [HW.out]
                    exact HA.out.same (Below.heap_setCell _ _ _ _ (by show g ≠ G; have := HgG.out; omega))
                  have HLW : Hid (Owns W Lb u8 line) := by rw [HW.out]; exact HL.out.otherV HGL.out
                  have HBW : Hid (Below w.heap.size w W) := by rw [HW.out]; exact HB.out.setCell (p := ⟨G, i, none⟩) HwG2.out _
                  have HsW : Hid (Lb < W.heap.size) := by rw [HW.out]; show Lb < _; rw [World.size_setCell]; exact HLr.out
                  have HV8 : Hid (W.ownsRow Lb 3 1 u8 (line.map (Value.int .i64)).length (line.map (Value.int .i64))) := vals_of_owns HLW.out
                  have Hln2 : Hid (line.length ≤ j) := hll1
                  clear hll hbd hkl HO HA HL HB HLr HLW hll1
                  go_upto_region 23 with fail
                  rw [← HW.out]
                  go_wp2_with (at_builtin; refine append_one elem_int (x := .int .i64 (q : Int)) rfl _ _ rfl rfl rfl rfl HV8.out rfl ?c1 ?c2 ?c3 ?_)
                  case c1 => rw [List.length_map]; unfold maxLen; have := Hln2.out; omega
                  case c2 => rw [List.length_map]; have := Hln2.out; omega
                  case c3 => exact Nat.le_of_lt HsW.out
                  intro v' w10 hC hBc hKc
                  have HLn : Hid (Owns w10 Lb v' (line ++ [(i : Int) + 1])) := by
                    rw [← Hqq.out]
                    refine owns_of_vals ?_
                    simpa using hC
                  have HOn : Hid (Owns w10 G (.slice (some ⟨G, 0, none⟩) j j) (tab j (fun t => if t = i then (k : Int) + 1 else D t))) := HOW.out.under HGL.out hBc
                  have HAn : Hid (ArU w10 g (jfU L)) := HAW.out.same (hBc.block g (Nat.lt_trans HgG.out HGL.out))
                  have HBn : Hid (Below w.heap.size w w10) := HBW.out.trans (hBc.mono (Nat.le_trans HwG2.out (Nat.le_of_lt HGL.out)))
                  have HLsn : Hid (Lb < w10.heap.size) := Nat.lt_of_lt_of_le HsW.out hBc.size
                  clear hC hBc hKc HV8 HOW HAW HBW HsW
                  go_wp2
                  go_roundw
                  case rel => exact ⟨i + 1, q + 1, _, _, by omega, by show _ = _; rw [Hq.out], by go_num, Hvx1, HU1, HAn, HOn, HLn, HBn, HLsn⟩
                  case measure => simp [intOf]; omega
                · have hzb : (z == 0) = false := beq_eq_false_iff_ne.2 hz0
                  have HSk : Hid (jnU L (line.getD k 0) ((i : Int) + 1) = true → D i ≠ 0) := fun _ => by rw [← Hz.out]; exact hz0
                  go_wp2
                  go_roundw
                  case rel => exact ⟨i + 1, q + 1, D, line, by omega, by show _ = _; rw [Hq.out], by go_num, Hvx, HU.out.skip hil (HSk.out), HA, HO, HL, HB, HLr⟩
                  case measure => simp [intOf]; omega
            · obtain rfl : i = j := by omega
              have hqn : ¬ (q : Int) ≤ (i : Int) := by have := Hq.out; omega
              have HU1 : Hid (UI i (jnU L) D line (k + 1) 0) := HU.out.next hlk HTr.out (jnU_je L)
              go_wp2
              go_roundw
              case rel => exact ⟨k + 1, p + 1, D, line, by omega, by show _ = _; rw [Hp.out], by go_num, HU1, HA, HO, HL, HB, HLr⟩
              case measure => simp [intOf]; omega
        · obtain rfl : k = j := by omega
          have hpn : ¬ (p : Int) ≤ (k : Int) := by have := Hp.out; omega
          go_wp2
          go_ret2
          exact ⟨_, rfl, ⟨D, line, HU.out, HO.out.mono HwG2.out⟩, HB⟩
end Go.Proofs.Ytihafckdaecgkaa
