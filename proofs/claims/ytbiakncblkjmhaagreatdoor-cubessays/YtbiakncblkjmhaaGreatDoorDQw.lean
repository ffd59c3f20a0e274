/-
  The contract of ferref.AllPiles: the walk, ahead of sorting.
-/
import Derived.Test.YtbiakncblkjmhaaGreatDoorDQa
import Derived.Test.YtbiakncblkjmhaaGreatDoorDQv
import Derived.Test.YtbiakncblkjmhaaGreatDoorACmq
import Derived.Test.YtbiakncblkjmhaaGreatDoorASet
import Derived.Test.YtbiakncblkjmhaaGreatDoorRxE
import Derived.Deep.RegionLaw
namespace Go.Proofs.YtbiakncblkjmhaaGreatDoor
open Go.RowKit

theorem owns_madeW {w : World} {n : Nat} (hn : n ≤ 1000) : Owns (w.alloc (.cells (madeCells #[Value.int .i64 0] n) 3)) w.heap.size (.slice (some ⟨w.heap.size, 0, none⟩) n n) (tab n (fun _ => 0)) := by
  refine owns_of_row (Nat.le_refl _) ?_ (by rw [tab_length]) (by rw [tab_length]; omega)
  rw [heap_alloc_new]
  congr 2
  have e : (madeCells #[Value.int .i64 0] n).toList = (tab n (fun _ => 0)).map (Value.int .i64) := by
    rw [toList_madeCells_one]
    simp only [tab, List.map_map]
    symm
    rw [List.eq_replicate_iff]
    refine ⟨by simp, fun v hv => ?_⟩
    obtain ⟨j, _, rfl⟩ := List.mem_map.1 hv
    rfl
  rw [← e]
theorem tab_setW (n : Nat) (f : Nat → Int) (j : Nat) (x : Int) : (tab n f).set j x = tab n (fun i => if i = j then x else f i) := by
  apply List.ext_getElem
  · simp [tab]
  · intro i h1 h2
    simp only [tab, List.getElem_set, List.getElem_map, List.getElem_range]
    by_cases e : j = i
    · simp [e]
    · simp [e, Ne.symm e]
theorem tab_rep {n h : Nat} : tab n (fun j => if j < n then (h : Int) else 0) = castL (List.replicate n h) := by
  unfold castL tab
  rw [List.map_replicate, List.eq_replicate_iff]
  refine ⟨by simp, fun z hz => ?_⟩
  obtain ⟨j, hj, rfl⟩ := List.mem_map.1 hz
  rw [if_pos (List.mem_range.1 hj)]

theorem dec_80 {x : Nat} (h : x < 4294967296 ^ 80) : 0 < (Lib.decDigits x).length ∧ (Lib.decDigits x).length ≤ 1000 := by
  obtain ⟨k, hk⟩ : ∃ k, k = 80 := ⟨_, rfl⟩
  rw [← hk] at h
  have h1 : x < 10 ^ (10 * k) := by
    rw [Nat.pow_mul]
    exact Nat.lt_of_lt_of_le h (Nat.pow_le_pow_left (by decide +kernel) _)
  obtain ⟨m, hm⟩ : ∃ m, m + 1 = 10 * k := ⟨10 * k - 1, by omega⟩
  rw [← hm] at h1
  have := dec_len h1
  omega
theorem mN_80 {a b c : Nat} (ha : a ≤ 20) (hb : b ≤ 20) (hc : c ≤ 20) : mN a b c < 4294967296 ^ 80 := by
  have h := prP_mN a b c
  have h2 := prP_lt0 hb hc ha
  have h3 := prP_pos b 0 a 0
  exact Nat.lt_of_le_of_lt (by rw [← h]; exact Nat.le_mul_of_pos_left _ h3) h2

/-- the lists that grow -/
def fF (C H i : Nat) (X : List (List Nat)) : List (List (List Nat)) := (und (topP C H X i) H).map fun l => X ++ [l]
def nxP (C H i : Nat) (now : List (List (List Nat))) (k : Nat) : List (List (List Nat)) := (now.take k).flatMap (fF C H i)
theorem nxP_succ {C H i : Nat} {now : List (List (List Nat))} {k : Nat} (hk : k < now.length) : nxP C H i now (k + 1) = nxP C H i now k ++ fF C H i (now.getD k []) := by
  unfold nxP; rw [take_getDU now [] hk, List.flatMap_append]; simp
theorem rfP_nx (C H i : Nat) : rfP C H (i + 1) = nxP C H i (rfP C H i) (rfP C H i).length := by
  unfold nxP; rw [List.take_length]; rfl
theorem nxP_le {C H i : Nat} {now : List (List (List Nat))} {k : Nat} : (nxP C H i now k).length ≤ (nxP C H i now now.length).length := by
  unfold nxP
  rw [List.take_length]
  have h := List.take_append_drop k now
  conv => rhs; rw [← h]
  rw [List.flatMap_append, List.length_append]; omega
theorem und_pos : ∀ (ts : List Nat) (m : Nat), 0 < (und ts m).length
  | [], _ => by simp [und]
  | t :: ts, m => by
    simp only [und]
    rw [List.range_succ_eq_map, List.flatMap_cons, List.length_append, List.length_map]
    have := und_pos ts 0
    omega
theorem flat_ge {α β : Type} (f : α → List β) : ∀ l : List α, (∀ a ∈ l, 0 < (f a).length) → l.length ≤ (l.flatMap f).length
  | [], _ => by simp
  | a :: l, h => by
    rw [List.flatMap_cons, List.length_append, List.length_cons]
    have h1 := h a (by simp)
    have h2 := flat_ge f l (fun x hx => h x (by simp [hx]))
    omega
theorem rfP_up (C H : Nat) : ∀ d i, (rfP C H i).length ≤ (rfP C H (i + d)).length
  | 0, _ => Nat.le_refl _
  | d + 1, i => by
    refine Nat.le_trans (rfP_up C H d i) ?_
    rw [← Nat.add_assoc]
    show _ ≤ ((rfP C H (i + d)).flatMap _).length
    exact flat_ge _ _ (fun a _ => by rw [List.length_map]; exact und_pos _ _)
theorem rfP_bd {C H i : Nat} {X : List (List Nat)} (h : X ∈ rfP C H i) : X.length = i ∧ ∀ r ∈ X, r.length = C ∧ ∀ z ∈ r, z ≤ H := by
  obtain ⟨h1, h2, h3⟩ := (mem_rfP i X).1 h
  refine ⟨h1, fun r hr => ?_⟩
  obtain ⟨a, ha, rfl⟩ := List.getElem_of_mem hr
  have e2 := h2 a (by omega)
  have e3 := h3 a (by omega)
  unfold bxP at e3
  simp only [List.getD, List.getElem?_eq_getElem ha, Option.getD_some] at e2 e3
  refine ⟨e2, fun z hz => ?_⟩
  obtain ⟨b, hb, rfl⟩ := List.getElem_of_mem hz
  have := (e3 b (by omega)).1
  simpa [List.getElem?_eq_getElem hb] using this
theorem top_bd {C H i : Nat} {X : List (List Nat)} (h : X ∈ rfP C H i) : (topP C H X i).length = C ∧ ∀ z ∈ topP C H X i, z ≤ H := by
  obtain ⟨h1, h2⟩ := rfP_bd h
  unfold topP
  split
  · exact ⟨by simp, fun z hz => by rw [(List.mem_replicate.1 hz).2]; exact Nat.le_refl _⟩
  · exact h2 _ (by simp [List.getD, show i - 1 < X.length by omega])

theorem own_shpW {w : World} {lo : Nat} {e : TypeId} {v : Value} {us : List Value} (h : w.ownsRow lo e 1 v us.length us) : ∃ a c, v = .slice a us.length c := by
  rcases h.2 with ⟨hv, hn⟩ | ⟨g, cap, cur, hv, _⟩
  · exact ⟨none, 0, by rw [hv, hn]⟩
  · exact ⟨_, _, hv⟩

set_option maxHeartbeats 16000000 in
set_option maxRecDepth 100000 in
theorem AllPiles_c (R C H : Nat) (w : World) (Post : Value → World → Prop) (r1 : 1 ≤ R) (r8 : R ≤ 8) (c1 : 1 ≤ C) (c8 : C ≤ 8) (h8 : H ≤ 8) (hno : mN R C H ≤ 2000)
    (H6 : Hid (∀ v us W, PlL W w.heap.size v us (rfP C H R) → Below w.heap.size w W → Calls Tryz.prog 42 #[v, .func (.func 43) #[] #[]] W fun e w2 => e = .returned (.tuple #[]) ∧ Hid (Post v w2))) :
    Calls Tryz.prog 16 #[.int .i64 (R : Int), .int .i64 (C : Int), .int .i64 (H : Int)] w fun e w' => ∃ v, e = .returned v ∧ Hid (Post v w') := by
  have HPi : Hid (Calls Tryz.prog 11 #[.int .i64 (R : Int), .int .i64 (C : Int), .int .i64 (H : Int)] (w.alloc (.cells #[.bool false, .slice none 0 0] 67)) fun e w' => e = .returned (.string ⟨(Lib.decDigits (mN R C H)).toArray⟩) ∧ Hid (Below (w.heap.size + 1) (w.alloc (.cells #[.bool false, .slice none 0 0] 67)) w')) := by
    refine (Piles_at R C H _ (by omega) (by omega) (by omega)).mono ?_
    rintro e w' ⟨rfl, h⟩
    have := h.out
    exact ⟨rfl, by show Below _ _ _; simpa using this⟩
  have HNN : Hid (mN R C H = (rfP C H R).length) := by
    show _ = _
    rw [rfP_len c1]; unfold mN; rw [if_neg (by omega)]
  have HNo : Hid (mN R C H ≤ 2000) := hno
  have HSS : Hid (∀ W, Below (w.heap.size + 1) (w.alloc (.cells #[.bool false, .slice none 0 0] 67)) W → Calls Tryz.prog 38 #[.pointer (some ⟨w.heap.size, 0, none⟩), .string ⟨(Lib.decDigits (mN R C H)).toArray⟩, .int .i64 10] W fun e w' => e = .returned (.tuple #[.pointer (some ⟨w.heap.size, 0, none⟩), .bool true]) ∧ Hid (∃ v us, IntAt w' w.heap.size w.heap.size v us (mN R C H) ∧ us.length ≤ 5000) ∧ Hid (Below w.heap.size w w')) := fun W hW => by
    have hB0 : Below w.heap.size w (w.alloc (.cells #[.bool false, .slice none 0 0] 67)) := (Below.refl _ _).alloc (Nat.le_refl _) _
    have hr := heap_alloc_new w (.cells #[.bool false, .slice none 0 0] 67)
    have hd := dec_len (x := mN R C H) (k := 9) (by have := HNo.out; exact Nat.lt_of_le_of_lt this (by decide +kernel))
    refine (BSetString_at w.heap.size w.heap.size false (.slice none 0 0) ⟨(Lib.decDigits (mN R C H)).toArray⟩ W (by rw [hW.block _ (by omega)]; exact hr) (Nat.le_refl _) (by show (Lib.decDigits (mN R C H)).toArray.size ≤ 1000; simp; omega) (by show 0 < (Lib.decDigits (mN R C H)).toArray.size; simp; omega) (by simpa using dec_digits (mN R C H))).mono ?_
    rintro e w' ⟨v, us, rfl, q1, q2, q3, q4⟩
    refine ⟨rfl, ⟨v, us, ⟨q1, ?_⟩, q3⟩, (hB0.trans (hW.mono (by omega))).trans q4.below⟩
    have := q2.mono (base' := w.heap.size) (by have := hW.size; simp at this; omega)
    simpa [dec_val] using this
  have HNi : Hid (∀ W, Calls Tryz.prog 32 #[.int .i64 2000] W fun e w' => e = .returned (.pointer (some ⟨W.heap.size, 0, none⟩)) ∧ Hid (∃ v us, IntAt w' W.heap.size W.heap.size v us 2000) ∧ Hid (Below W.heap.size W w')) := fun W => by
    refine (NewInt_at 2000 W (by omega)).mono ?_
    rintro e w' ⟨v, us, rfl, h1, h2⟩
    exact ⟨rfl, ⟨v, us, h1⟩, h2⟩
  obtain ⟨cc, HCc⟩ : ∃ cc : Int, Hid (cc = cmN (mN R C H) 2000) := ⟨_, rfl⟩
  have hcc : ¬ cc > 0 := by
    rw [HCc.out]; unfold cmN; have := HNo.out
    split
    · omega
    · rw [if_neg (by omega)]; omega
  have HCm : Hid (∀ W p, (∃ v us, IntAt W w.heap.size w.heap.size v us (mN R C H) ∧ us.length ≤ 5000) → (∃ v us, IntAt W p p v us 2000) → Calls Tryz.prog 39 #[.pointer (some ⟨w.heap.size, 0, none⟩), .pointer (some ⟨p, 0, none⟩)] W fun e w' => e = .returned (.int .i64 cc) ∧ Hid (Below W.heap.size W w')) := fun W p ⟨v, us, i1, l1⟩ ⟨v2, us2, i2⟩ => by
    have l2 := num_len i2.own.num (k := 1) (by omega)
    rw [HCc.out]
    exact (BCmp_at w.heap.size p _ _ v v2 us us2 _ _ W i1 i2 (by omega) (by omega)).mono fun e w' h => h
  obtain ⟨B, HB0⟩ : ∃ B, Hid (B = w.heap.size) := ⟨_, rfl⟩
  clear hno
  go_enter Tryz.func16, Tryz.ntmps16
  go_wp2_with (first
    | (go_at_call 11; refine HPi.out.mono ?_; rintro e w1 ⟨rfl, HB1⟩; have HC1 := hid_w (HSS.out w1 HB1.out))
    | (go_at_call 38; with_reducible (refine HC1.out.mono ?_); rintro e w2 ⟨rfl, HI2, HB2⟩; have HC2 := hid_w (HNi.out w2))
    | (go_at_call 32; refine HC2.out.mono ?_; rintro e w3 ⟨rfl, HI3, HB3⟩; have HI23 : Hid (∃ v us, IntAt w3 w.heap.size w.heap.size v us (mN R C H) ∧ us.length ≤ 5000) := (by obtain ⟨v, us, i1, l1⟩ := HI2.out; exact ⟨v, us, i1.undr HB3.out, l1⟩); have HC3 := hid_w (HCm.out w3 _ HI23.out HI3.out))
    | (go_at_call 39; with_reducible (refine HC3.out.mono ?_); rintro e w4 ⟨rfl, HB4⟩))
  have HBw4 : Hid (Below B w w4) := by
    rw [HB0.out]
    exact (HB2.out.trans (HB3.out.mono HB2.out.size)).trans (HB4.out.mono (Nat.le_trans HB2.out.size HB3.out.size))
  have HP4 : Hid (PlL (w4.alloc (.cells #[.slice none 0 0] 22)) B (.slice (some ⟨w4.heap.size, 0, none⟩) 1 1) [.slice none 0 0] (rfP C H 0)) := (PlL.one w4).mono (by rw [HB0.out]; exact HBw4.out.size)
  have HBw5 : Hid (Below B w (w4.alloc (.cells #[.slice none 0 0] 22))) := HBw4.out.alloc (by rw [HB0.out]; have := HBw4.out.size; exact this) _
  clear HPi HSS HNi HCm HC1 HC2 HC3 HI2 HI3 HI23 HB1 HB2 HB3 HB4 HBw4
  go_loopw [9, 10] (fun nv iv wr => ∃ (i : Nat) (us : List Value), i ≤ R ∧ iv = .int .i64 (i : Int) ∧ Hid (PlL wr B nv us (rfP C H i)) ∧ Hid (Below B w wr)) (fun _ iv _ => R - (intOf iv).toNat)
  case atStart => exact ⟨0, _, Nat.zero_le _, rfl, HP4, HBw5⟩
  case round =>
    clear HP4 HBw5
    obtain ⟨i, us, hi, rfl, HP, HB⟩ := hrel
    by_cases hiR : i < R
    · have hiR' : (i : Int) < (R : Int) := by omega
      obtain ⟨N, HN⟩ : ∃ N, Hid (N = (rfP C H i).length) := ⟨_, rfl⟩
      have HN2 : Hid (N ≤ 2000) := by
        rw [HN.out]
        have h1 := rfP_up C H (R - i) i
        rw [show i + (R - i) = R by omega] at h1
        have h2 := HNN.out
        have h3 := HNo.out
        show _ ≤ _
        omega
      have HNp : Hid (0 < N) := by rw [HN.out]; exact rfP_pos i
      obtain ⟨g, cg, -, -, hv, -, -⟩ := HP.out.at (k := 0) (by rw [← HN.out]; exact HNp.out)
      rw [← HN.out] at hv
      subst hv
      obtain ⟨wx, hwx⟩ : ∃ wx, wx = wr := ⟨_, rfl⟩
      subst hwx
      have HNx : Hid (∀ x, x ≤ N → (nxP C H i (rfP C H i) x).length ≤ 2000) := fun x _ => by
        have h1 := nxP_le (C := C) (H := H) (i := i) (now := rfP C H i) (k := x)
        rw [← rfP_nx] at h1
        have h2 := rfP_up C H (R - (i + 1)) (i + 1)
        rw [show i + 1 + (R - (i + 1)) = R by omega] at h2
        have h3 := HNN.out
        have h4 := HNo.out
        omega
      have HX0 : Hid (PlL wx wx.heap.size (.slice none 0 0) [] (nxP C H i (rfP C H i) 0)) := PlL.nil _ _
      go_wp2_with fail
      go_loopw [11, 12] (fun nx xv wr => ∃ (x : Nat) (nus : List Value), x ≤ N ∧ xv = .int .i64 (x : Int) ∧ Hid (PlL wr wx.heap.size nx nus (nxP C H i (rfP C H i) x)) ∧ Hid (Below wx.heap.size wx wr)) (fun _ xv _ => N - (intOf xv).toNat)
      case atStart => exact ⟨0, [], Nat.zero_le _, rfl, HX0, Below.refl _ _⟩
      case round =>
        clear HX0
        obtain ⟨x, nus, hx, rfl, HX, HBx⟩ := hrel
        by_cases hxN : x < N
        · have hxN' : (x : Int) < (N : Int) := by omega
          have hxL : x < (rfP C H i).length := by rw [← HN.out]; exact hxN
          have hx2 : x < 2000 := by have := HN2.out; omega
          obtain ⟨X, HXd⟩ : ∃ X, Hid (X = (rfP C H i).getD x []) := ⟨_, rfl⟩
          have HXm : Hid (X ∈ rfP C H i) := by rw [HXd.out]; show _ ∈ _; simp [List.getD, hxL]
          have HXb := hid_w (rfP_bd HXm.out)
          have HTb := hid_w (top_bd HXm.out)
          obtain ⟨nX, HnX⟩ : ∃ nX, Hid (nX = X.length) := ⟨_, rfl⟩
          have HnXi : Hid (nX = i) := by rw [HnX.out]; exact HXb.out.1
          obtain ⟨ax, cx, hrx, HTx⟩ : ∃ ax cx, rowv us x = .slice ax nX cx ∧ Hid (∀ W, Below wx.heap.size wx W → W.cell? ⟨g, x, none⟩ = some (.slice ax nX cx) ∧ TableX W ax (castT X)) := by
            obtain ⟨a, c, e1, e2⟩ := HP.out.el x hxL
            rw [← HXd.out] at e1 e2
            have e3 : X.length = nX := HnX.out.symm
            rw [e3] at e1
            refine ⟨a, c, e1, fun W hW => ?_⟩
            have hp := HP.out.below hW
            obtain ⟨a3, c3, q3, q4⟩ := hp.el x hxL
            rw [← HXd.out] at q3 q4
            have hul : us.length = N := by rw [hp.len, HN.out]
            have hown := hp.own
            rw [hul] at hown
            refine ⟨?_, ?_⟩
            · rw [World.ownsRow.cellAt hown x (by omega), rowv_get (by omega), e1]
            · rw [e1] at q3
              cases q3
              exact q4 W (fun _ _ _ _ => rfl) (Nat.le_refl _)
          obtain ⟨wi, hwi⟩ : ∃ wi, wi = wr := ⟨_, rfl⟩
          subst hwi
          have hmk : ∀ W, (Instr.makeSlice 29 (.int .i64 (C : Int)) (.int .i64 (C : Int))).run Tryz.prog W = .ok (.slice (some ⟨W.heap.size, 0, none⟩) C C) (W.alloc (.cells (madeCells #[Value.int .i64 0] C) 3)) := fun W =>
            run_make_row' (P := Tryz.prog) 29 3 (.int .i64 0) 8 Tryz.underlying29 (by kernel_rfl) rfl .i64 .i64 C (by omega) (by omega) W
          have HO0 : Hid (Owns (wi.alloc (.cells (madeCells #[Value.int .i64 0] C) 3)) wi.heap.size (.slice (some ⟨wi.heap.size, 0, none⟩) C C) (tab C (fun j => if j < 0 then (H : Int) else 0))) := by
            have h := owns_madeW (w := wi) (n := C) (by omega)
            rw [tab_congr (g := fun j => if j < 0 then (H : Int) else 0) (fun j _ => by rw [if_neg (by omega)])] at h
            exact h
          have HB0i : Hid (Below wi.heap.size wi (wi.alloc (.cells (madeCells #[Value.int .i64 0] C) 3))) := (Below.refl _ _).alloc (Nat.le_refl _) _
          obtain ⟨G, HG⟩ : ∃ G, Hid (G = wi.heap.size) := ⟨_, rfl⟩
          go_wp2_with fail
          rw [← HG.out] at HO0 ⊢
          clear hmk
          go_loopw [46] (fun jv wr => ∃ j : Nat, j ≤ C ∧ jv = .int .i64 (j : Int) ∧ Hid (Owns wr wi.heap.size (.slice (some ⟨G, 0, none⟩) C C) (tab C (fun q => if q < j then (H : Int) else 0))) ∧ Hid (Below wi.heap.size wi wr)) (fun jv _ => C - (intOf jv).toNat)
          case atStart => exact ⟨0, Nat.zero_le _, rfl, by rw [← HG.out]; exact HO0, HB0i⟩
          case round =>
            clear HO0 HB0i
            obtain ⟨j, hj, rfl, HO, HBj⟩ := hrel
            by_cases hjC : j < C
            · have hjC' : (j : Int) < (C : Int) := by omega
              obtain ⟨_, hf, hc⟩ := HO.out.at (tab_length C _).symm
              have hfj := hf j
              have hcj := hc j (by rw [tab_length]; exact hjC)
              rw [tab_getD C _ j hjC, if_neg (by omega)] at hcj
              have HO2 : Hid (Owns (wr.setCell ⟨G, j, none⟩ (.int .i64 (H : Int))) wi.heap.size (.slice (some ⟨G, 0, none⟩) C C) (tab C (fun q => if q < j + 1 then (H : Int) else 0))) := by
                have h := HO.out.store (tab_length C _).symm j (H : Int)
                rw [tab_setW, tab_congr (g := fun q => if q < j + 1 then (H : Int) else 0) (fun q _ => by
                  by_cases e : q = j
                  · subst e; rw [if_pos rfl, if_pos (by omega)]
                  · rw [if_neg e]
                    by_cases e2 : q < j
                    · rw [if_pos e2, if_pos (by omega)]
                    · rw [if_neg e2, if_neg (by omega)])] at h
                exact h
              have HBj2 : Hid (Below wi.heap.size wi (wr.setCell ⟨G, j, none⟩ (.int .i64 (H : Int)))) := HBj.out.setCell (p := ⟨G, j, none⟩) (by rw [HG.out]; exact Nat.le_refl _) _
              clear hf hc
              go_wp2
              go_roundw
              case rel => exact ⟨j + 1, by omega, by go_num, HO2, HBj2⟩
              case measure => simp [intOf]; omega
            · obtain rfl : C = j := by omega
              have hjC' : ¬ (C : Int) < (C : Int) := by omega
              have HOt : Hid (Owns wr wi.heap.size (.slice (some ⟨G, 0, none⟩) C C) (castL (List.replicate C H))) := by rw [← tab_rep]; exact HO.out
              go_upto_if 55 with fail
              go_cut [13] (fun s13 wt => ∃ (ta : Option Addr) (ct : Nat), s13 = .slice ta C ct ∧ Hid (C ≤ ct) ∧ Hid (Shows wt ta (castL (topP C H X i))) ∧ Hid (Below wi.heap.size wi wt))
              case first =>
                by_cases i0 : 0 < i
                · have i0' : (i : Int) > 0 := by omega
                  obtain ⟨i1, HI1⟩ : ∃ i1 : Nat, Hid (i = i1 + 1) := ⟨i - 1, by show _ = _; omega⟩
                  have hi1 : (i : Int) - 1 = (i1 : Int) := by have := HI1.out; omega
                  have hi1n : (i1 : Int) < (nX : Int) := by have := HI1.out; have := HnXi.out; omega
                  obtain ⟨hcx, hTX⟩ := HTx.out wr ((HBx.out.trans (HBj.out.mono HBx.out.size)))
                  obtain ⟨b1, o1, ai, ci, rfl, -, hci, hsi, -, hle⟩ := hTX i1 (by rw [castT_len, ← HnX.out]; omega)
                  have htop : topP C H X i = X.getD i1 [] := by unfold topP; rw [if_neg (by omega), HI1.out]; rfl
                  have hlen := HTb.out.1
                  rw [htop] at hlen
                  rw [castT_at, castL_len, hlen] at hci hle
                  rw [castT_at, ← htop] at hsi
                  have HSi : Hid (Shows wr ai (castL (topP C H X i))) := hsi
                  have HLe : Hid (C ≤ ci) := hle
                  clear hTX hsi hle hlen htop HO HOt
                  go_wp2_with fail
                  go_meet
                  exact ⟨_, _, rfl, HLe, HSi, HBj⟩
                · have hi0 : i = 0 := by omega
                  have i0' : ¬ (i : Int) > 0 := by omega
                  have HSi : Hid (Shows wr (some ⟨G, 0, none⟩) (castL (topP C H X i))) := by
                    have htop : topP C H X i = List.replicate C H := by unfold topP; rw [if_pos hi0]
                    rw [htop]
                    obtain ⟨a9, c9, e9, hs9⟩ := HOt.out.shows (by rw [castL_len, List.length_replicate]; omega) (fun z hz => by
                      have := castL_lt (b := 8) (l := List.replicate C H) (fun y hy => by rw [(List.mem_replicate.1 hy).2]; exact h8) z hz
                      omega)
                    simp only [Value.slice.injEq] at e9
                    rw [e9.1]
                    exact hs9
                  clear HO HOt hi0
                  go_wp2_with fail
                  go_meet
                  exact ⟨_, _, rfl, Nat.le_refl _, HSi, HBj⟩
              case rest =>
                clear HO HOt HBj
                obtain ⟨ta, ct, rfl, HCt, HSt, HBt⟩ := hcut
                obtain ⟨wt, hwt⟩ : ∃ wt, wt = wc := ⟨_, rfl⟩
                subst hwt
                obtain ⟨L, HL⟩ : ∃ L, Hid (L = und (topP C H X i) H) := ⟨_, rfl⟩
                have HLb : Hid (∀ l ∈ L, l.length = C ∧ ∀ z ∈ l, z ≤ 8) := fun l hl => by
                  rw [HL.out] at hl
                  have h1 := und_row hl (fun t ht => Nat.le_trans (HTb.out.2 t ht) h8)
                  exact ⟨h1.1.trans HTb.out.1, h1.2⟩
                have HU : Hid (Calls Tryz.prog 40 #[.slice ta C ct, .int .i64 (H : Int)] wt fun e w' => ∃ a1 N1 k1, e = .returned (.slice a1 N1 k1) ∧ Hid (N1 = L.length) ∧ Hid (∃ lvs, TblV w' wt.heap.size (.slice a1 N1 k1) lvs (castT L)) ∧ Hid (Below wt.heap.size wt w')) := by
                  refine (under_at (topP C H X i) ta C ct H wt HSt.out HTb.out.1.symm HCt.out (by rw [HTb.out.1]; exact c8) (fun t ht => Nat.le_trans (HTb.out.2 t ht) h8) h8).mono ?_
                  rintro e w' ⟨v, rfl, h1, h2⟩
                  rw [← HL.out] at h1
                  obtain ⟨lvs, hV⟩ := h1.out
                  obtain ⟨a1, k1, e1, -⟩ := hV.tblX (cast_bdU (fun r hr => by have := HLb.out r hr; exact ⟨by omega, fun z hz => by have := this.2 z hz; omega⟩))
                  subst e1
                  exact ⟨a1, _, k1, rfl, castT_len L, ⟨lvs, hV⟩, h2⟩
                go_wp2_with fail
                refine HU.out.mono ?_
                rintro e wl ⟨a1, N1, k1, rfl, HN1, HLv0, HBl⟩
                clear HU HSt HCt
                obtain ⟨I, HI⟩ : ∃ I, Hid (I = wt.heap.size) := ⟨_, rfl⟩
                rw [← HI.out] at HLv0
                obtain ⟨lvs, hLv⟩ := HLv0.out
                have HLv : Hid (TblV wl I (.slice a1 N1 k1) lvs (castT L)) := hLv
                clear hLv HLv0
                have HIx : Hid (wx.heap.size ≤ I ∧ I ≤ wl.heap.size) := ⟨by rw [HI.out]; exact Nat.le_trans HBx.out.size HBt.out.size, by rw [HI.out]; exact HBl.out.size⟩
                have HBwl : Hid (Below wi.heap.size wi wl) := HBt.out.trans (HBl.out.mono HBt.out.size)
                have HX1 : Hid (PlL wl wx.heap.size u11 nus (nxP C H i (rfP C H i) x ++ (L.take 0).map fun l => X ++ [l])) := by
                  rw [List.take_zero, List.map_nil, List.append_nil]; exact HX.out.below HBwl.out
                have HS1 : Hid (StayU I wl wl u11) := ⟨Nat.le_refl _, fun _ _ _ => rfl, fun g hg => Or.inl (by
                  have := (HX.out.own.lt g hg).2
                  have := HBt.out.size
                  rw [HI.out]; omega)⟩
                have HB1 : Hid (Below wx.heap.size wx wl) := HBx.out.trans (HBwl.out.mono HBx.out.size)
                have HLN : Hid (∀ y, y ≤ L.length → (nxP C H i (rfP C H i) x ++ (L.take y).map fun l => X ++ [l]).length ≤ 2000) := fun y hy => by
                  have h1 := HNx.out (x + 1) (by omega)
                  rw [nxP_succ hxL, ← HXd.out, fF, ← HL.out] at h1
                  rw [List.length_append, List.length_map] at h1
                  rw [List.length_append, List.length_map, List.length_take]
                  omega
                have hN12 : N1 ≤ 2000 := by
                  have h1 := HLN.out L.length (Nat.le_refl _)
                  rw [List.take_length, List.length_append, List.length_map] at h1
                  have h2 := HN1.out
                  omega
                clear HX HBx HBt HBl HBwl
                go_wp2_with fail
                go_loopw [11, 16] (fun nx yv wr => ∃ (y : Nat) (nus : List Value), y ≤ N1 ∧ yv = .int .i64 (y : Int) ∧ Hid (PlL wr wx.heap.size nx nus (nxP C H i (rfP C H i) x ++ (L.take y).map fun l => X ++ [l])) ∧ Hid (StayU I wl wr nx) ∧ Hid (Below wx.heap.size wx wr)) (fun _ yv _ => N1 - (intOf yv).toNat)
                case atStart => exact ⟨0, nus, Nat.zero_le _, rfl, HX1, HS1, HB1⟩
                case round =>
                  clear HX1 HS1 HB1
                  obtain ⟨y, yus, hy, rfl, HX, HSt, HB⟩ := hrel
                  by_cases hyN : y < N1
                  · have hyN' : (y : Int) < (N1 : Int) := by omega
                    have hyL : y < L.length := by rw [← HN1.out]; exact hyN
                    have HLr : Hid (TblV wr I (.slice a1 N1 k1) lvs (castT L)) := HLv.out.same (fun j h1 h2 => HSt.out.2.1 j h1 h2)
                    obtain ⟨g1, n9, c9, hv9, -, -, hg1, -, hce⟩ := HLr.out.head (by rw [castT_len]; omega)
                    obtain ⟨ay, cy, hly⟩ := (HLr.out.rows y (by rw [castT_len]; exact hyL)).shape
                    obtain ⟨my, HMy⟩ : ∃ my, Hid (my = ((castT L).getD y []).length) := ⟨_, rfl⟩
                    rw [← HMy.out] at hly
                    have hcy := hce y (by rw [castT_len]; exact hyL)
                    rw [hly] at hcy
                    have HLy : Hid (rowv lvs y = .slice ay my cy) := hly
                    simp only [Value.slice.injEq] at hv9
                    obtain ⟨rfl, -, -⟩ := hv9
                    have HCl : Hid (∀ W, Below wr.heap.size wr W → W.cell? ⟨g, x, none⟩ = some (.slice ax nX cx) ∧ W.cell? ⟨g1, y, none⟩ = some (.slice ay my cy)) := fun W hW => ⟨(HTx.out W (HB.out.trans (hW.mono HB.out.size))).1, (hW.cell (p := ⟨g1, y, none⟩) hg1).trans hcy⟩
                    have HTw : Hid (∀ W, Below wr.heap.size wr W → Calls Tryz.prog 41 #[.slice ax nX cx] W fun e w1 => ∃ ta ct, e = .returned (.slice ta nX ct) ∧ w1.cell? ⟨g, x, none⟩ = some (.slice ax nX cx) ∧ w1.cell? ⟨g1, y, none⟩ = some (.slice ay my cy) ∧ Hid (∃ tvs, TblV w1 W.heap.size (.slice ta nX ct) tvs (castT X)) ∧ Hid (Below W.heap.size W w1)) := fun W hW => by
                      have hT := (HTx.out W (HB.out.trans (hW.mono HB.out.size))).2
                      refine (Twin_r ax nX cx (castT X) W hT.table (by rw [castT_len]; exact HnX.out) (by rw [castT_len, HXb.out.1]; omega) (fun l hl => by
                        unfold castT at hl
                        obtain ⟨r, hr, rfl⟩ := List.mem_map.1 hl
                        rw [castL_len, (HXb.out.2 r hr).1]; omega)).mono ?_
                      rintro e w1 ⟨v, rfl, ⟨tvs, hV⟩, hb⟩
                      obtain ⟨ta, ct, e1, -⟩ := hV.tblX (cast_bdU (fun r hr => by have := HXb.out.2 r hr; exact ⟨by omega, fun z hz => by have := this.2 z hz; omega⟩))
                      rw [castT_len, ← HnX.out] at e1
                      subst e1
                      obtain ⟨q1, q2⟩ := HCl.out w1 (hW.trans (hb.mono hW.size))
                      exact ⟨ta, ct, rfl, q1, q2, ⟨tvs, hV⟩, hb⟩
                    have HYl : Hid (yus.length ≤ 2000) := by
                      show _ ≤ _
                      rw [HX.out.len]
                      exact HLN.out y (by omega)
                    have HTl : Hid (∀ w1 s0 v tvs, TblV w1 s0 v tvs (castT X) → tvs.length ≤ 8) := fun w1 s0 v tvs h => by
                      rw [h.len, castT_len, HXb.out.1]; omega
                    have HEnd : Hid (∀ (w1 : World) (s0 : Nat) (ta : Option Addr) (ct : Nat) (tvs : List Value) (w2 : World) (a2 : Option Addr) (n2 k2 : Nat) (v3 : Value) (w3 : World), Below wr.heap.size wr w1 → wr.heap.size ≤ s0 → TblV w1 s0 (.slice ta nX ct) tvs (castT X) → w2.ownsRow s0 29 1 (.slice a2 n2 k2) (tvs ++ [Value.slice ay my cy]).length (tvs ++ [Value.slice ay my cy]) → Below wr.heap.size wr w2 → KeepB (.slice ta nX ct) (.slice a2 n2 k2) w1 w2 → w3.ownsRow wx.heap.size 22 1 v3 (yus ++ [Value.slice a2 n2 k2]).length (yus ++ [Value.slice a2 n2 k2]) → Below wx.heap.size w2 w3 → KeepB u11 v3 w2 w3 → (∃ us', PlL w3 wx.heap.size v3 us' (nxP C H i (rfP C H i) x ++ (L.take (y + 1)).map fun l => X ++ [l])) ∧ StayU I wl w3 v3 ∧ Below wx.heap.size wx w3) := fun w1 s0 ta ct tvs w2 a2 n2 k2 v3 w3 hB1 hs0 hT ho hB2 hk ho3 hb3 hk3 => by
                      have hwl : wl.heap.size ≤ wr.heap.size := HSt.out.1
                      have hag : ∀ W, Below wr.heap.size wr W → ∀ j, I ≤ j → j < wl.heap.size → W.heap[j]? = wl.heap[j]? := fun W hW j h1 h2 => by rw [hW.block j (by omega)]; exact HSt.out.2.1 j h1 h2
                      rw [← HLy.out] at ho
                      have hR := row_on hT hs0 HLv.out hyL hwl HIx.out.2 (hag w1 hB1) ho hk
                      have hbd : ∀ l ∈ castT (X ++ [L.getD y []]), l.length ≤ 17592186044416 ∧ ∀ z ∈ l, -9223372036854775808 ≤ z ∧ z ≤ 9223372036854775807 := cast_bdU (fun r hr => by
                        rcases List.mem_append.1 hr with hr | hr
                        · have := HXb.out.2 r hr; exact ⟨by omega, fun z hz => by have := this.2 z hz; omega⟩
                        · have hm : L.getD y [] ∈ L := by simp [List.getD, hyL]
                          rw [List.mem_singleton.1 hr]
                          have := HLb.out _ hm; exact ⟨by omega, fun z hz => by have := this.2 z hz; omega⟩)
                      have hu : ∃ a c, (Value.slice a2 n2 k2) = .slice a (X ++ [L.getD y []]).length c ∧ ∀ w', (∀ j, wx.heap.size ≤ j → j < w2.heap.size → u11.ownBlock ≠ some j → w'.heap[j]? = w2.heap[j]?) → TableX w' a (castT (X ++ [L.getD y []])) := by
                        obtain ⟨a, c, e1, -⟩ := hR.tblX hbd
                        rw [castT_len] at e1
                        refine ⟨a, c, e1, fun w' hw' => ?_⟩
                        have hub : ∀ j, u11.ownBlock = some j → j < wr.heap.size := fun j e => (HX.out.own.lt j e).2
                        have hR2 := hR.kept (w' := w') (fun k e => hw' k (by have := (hR.own.lt k e).1; have := HIx.out.1; omega) (hR.own.lt k e).2 (fun e2 => by
                          have h1 := hub k e2
                          have h2 := (ho.lt k e).1
                          omega)) (fun q hq k e => hw' k (by have := ((hR.rows q hq).lt e).1; have := HIx.out.1; omega) ((hR.rows q hq).lt e).2 (fun e2 => by
                          have h1 := hub k e2
                          have hq2 : q < X.length + 1 := by rw [castT_len, List.length_append] at hq; exact hq
                          have htl : tvs.length = X.length := by rw [hT.len, castT_len]
                          rw [rowv_push] at e
                          by_cases eq : q < tvs.length
                          · rw [if_pos eq] at e
                            have := ((hT.rows q (by rw [castT_len]; omega)).lt e).1
                            omega
                          · rw [if_neg eq, if_pos (by omega)] at e
                            have h3 := ((HLv.out.rows y (by rw [castT_len]; exact hyL)).lt e)
                            rcases HSt.out.2.2 k e2 with h4 | h4
                            · omega
                            · omega))
                        obtain ⟨a9, c9, e9, h9⟩ := hR2.tblX hbd
                        rw [e1] at e9
                        simp only [Value.slice.injEq] at e9
                        rw [e9.1]; exact h9
                      have hP := HX.out.push hB2 hu ho3 hk3
                      refine ⟨⟨yus ++ [Value.slice a2 n2 k2], ?_⟩, (HSt.out.below hB2).push hk3, (HB.out.trans (hB2.mono HB.out.size)).trans hb3⟩
                      rw [take_getDU L [] hyL, List.map_append, ← List.append_assoc]
                      exact hP
                    have HBd0 : Hid (Below wr.heap.size wr wr.drew) := below_drewN (Below.refl _ _) 1
                    have HBa0 : Below wr.heap.size wr (wr.alloc (.cells #[.slice ay my cy] 29)) := (Below.refl _ _).alloc (Nat.le_refl _) _
                    have HBd1 : Hid (Below wr.heap.size wr (wr.alloc (.cells #[.slice ay my cy] 29)).drew) := below_drewN HBa0 1
                    have HLit : Hid (∀ w1, Below (wr.alloc (.cells #[.slice ay my cy] 29)).drew.heap.size (wr.alloc (.cells #[.slice ay my cy] 29)).drew w1 → w1.cell? ⟨wr.heap.size, 0, none⟩ = some (.slice ay my cy)) := fun w1 h1 => by
                      have h2 := heap_alloc_new wr (.cells #[.slice ay my cy] 29)
                      have h3 : w1.heap[wr.heap.size]? = some (.cells #[.slice ay my cy] 29 (0, 0)) := by
                        rw [h1.block _ (by show wr.heap.size < (wr.alloc (.cells #[.slice ay my cy] 29)).heap.size; simp)]; exact h2
                      simp [World.cell?, h3]
                    have HCl3 : Hid (∀ W v, StayU I wl W v → Below wx.heap.size wx W → W.cell? ⟨g, x, none⟩ = some (.slice ax nX cx) ∧ W.cell? ⟨g1, y, none⟩ = some (.slice ay my cy)) := fun W v h1 h2 => by
                      obtain ⟨q1, q2⟩ := HLv.out.own.lt g1 rfl
                      refine ⟨(HTx.out W h2).1, ?_⟩
                      rw [← hcy]
                      simp only [World.cell?]
                      rw [h1.2.1 g1 q1 q2, HSt.out.2.1 g1 q1 q2]
                    have HWx : Hid (wx.heap.size ≤ wr.heap.size) := HB.out.size
                    obtain ⟨z1, z2⟩ := HCl.out wr (Below.refl _ _)
                    clear hce hcy hg1 HBa0 hly
                    go_upto_region 24 with fail
                    go_region_held3 (fun W => W.cell? ⟨g, x, none⟩ = some (.slice ax nX cx) ∧ W.cell? ⟨g1, y, none⟩ = some (.slice ay my cy)) (go_keep) (first
                      | (go_at_call 41; with_reducible (refine (HTw.out _ HBd0.out).mono ?_); rintro e w1 ⟨ta, ct, rfl, q1, q2, HT1, HBt1⟩; have HBw1 := hid_w (HBd0.out.trans (HBt1.out.mono HBd0.out.size)); have HS0 := hid_w HBd0.out.size; obtain ⟨tvs, hTv⟩ := HT1.out; have HTv := hid_w hTv; clear hTv; have HSz := hid_w HBt1.out.size)
                      | (go_at_call 41; with_reducible (refine (HTw.out _ HBd1.out).mono ?_); rintro e w1 ⟨ta, ct, rfl, q1, q2, HT1, HBt1⟩; have HBw1 := hid_w (HBd1.out.trans (HBt1.out.mono HBd1.out.size)); have HS0 := hid_w HBd1.out.size; have HLc := hid_w (HLit.out w1 HBt1.out); obtain ⟨tvs, hTv⟩ := HT1.out; have HTv := hid_w hTv; clear hTv; have HSz := hid_w HBt1.out.size)
                      | (refine step_one elem_row (w := w1) (N := w1.heap.size) (x := .slice ay my cy) rfl (.tmp 78) (.tmp 83) rfl (by simp [Act.eval]; done) (by simp [Act.eval]; done) rfl HTv.out.own rfl (by have := HTl.out _ _ _ _ HTv.out; unfold maxLen; omega) (by have := HTl.out _ _ _ _ HTv.out; omega) HSz.out ?_; intro v2 w2 hO2 hb2 hk2; obtain ⟨a2, k2, e2⟩ := own_shpW hO2; obtain ⟨n2, HN2v⟩ : ∃ n2, Hid (n2 = (tvs ++ [Value.slice ay my cy]).length) := ⟨_, hid_w rfl⟩; rw [← HN2v.out] at e2; subst e2; have HBw2 := hid_w (HBw1.out.trans (hb2.mono HS0.out)); have HO2 := hid_w hO2; have HK2 := hid_w hk2; clear hO2 hb2 hk2; obtain ⟨p1, p2⟩ := HCl.out w2 HBw2.out)
                      | (refine step_cell elem_row (w := w1) (ad := ⟨wr.heap.size, 0, none⟩) (c := 1) (x := .slice ay my cy) rfl (.tmp 78) (.tmp 83) rfl (by simp [Act.eval]; done) (by simp [Act.eval]; done) HLc.out HTv.out.own rfl (by have := HTl.out _ _ _ _ HTv.out; unfold maxLen; omega) (by have := HTl.out _ _ _ _ HTv.out; omega) HSz.out ?_; intro v2 w2 hO2 hb2 hk2; obtain ⟨a2, k2, e2⟩ := own_shpW hO2; obtain ⟨n2, HN2v⟩ : ∃ n2, Hid (n2 = (tvs ++ [Value.slice ay my cy]).length) := ⟨_, hid_w rfl⟩; rw [← HN2v.out] at e2; subst e2; have HBw2 := hid_w (HBw1.out.trans (hb2.mono HS0.out)); have HO2 := hid_w hO2; have HK2 := hid_w hk2; clear hO2 hb2 hk2; obtain ⟨p1, p2⟩ := HCl.out w2 HBw2.out)
                      | (refine step_one elem_pl (w := w2) (N := w2.heap.size) (x := .slice a2 n2 k2) rfl (.tmp 73) (.tmp 85) rfl (by simp [Act.eval]; done) (by simp [Act.eval]; done) rfl (HX.out.below HBw2.out).own rfl (by have := HYl.out; unfold maxLen; omega) (by have := HYl.out; omega) (Nat.le_trans HWx.out HBw2.out.size) ?_; intro v3 w3 hO3 hb3 hk3; have HF := hid_w (HEnd.out _ _ _ _ _ _ _ _ _ _ _ HBw1.out HS0.out HTv.out HO2.out HBw2.out HK2.out hO3 hb3 hk3); obtain ⟨r1, r2⟩ := HCl3.out w3 _ HF.out.2.1 HF.out.2.2; clear hO3 hb3 hk3))
                    all_goals go_wp2
                    all_goals go_roundw
                    all_goals first
                      | (obtain ⟨⟨us', hP⟩, h2, h3⟩ := HF.out; exact ⟨y + 1, us', by omega, by go_num, hP, h2, h3⟩)
                      | (simp [intOf]; omega)
                  · obtain rfl : N1 = y := by omega
                    have hyN' : ¬ (N1 : Int) < (N1 : Int) := by omega
                    have HX9 : Hid (PlL wr wx.heap.size u11 yus (nxP C H i (rfP C H i) (x + 1))) := by
                      have h := HX.out
                      rw [HN1.out, List.take_length] at h
                      rw [nxP_succ hxL, ← HXd.out, fF, ← HL.out]
                      exact h
                    go_wp2
                    go_roundw
                    case rel => exact ⟨x + 1, _, by omega, by go_num, HX9, HB⟩
                    case measure => simp [intOf]; omega
        · obtain rfl : x = N := by omega
          have hxN' : ¬ (x : Int) < (x : Int) := by omega
          have HX9 : Hid (PlL wr B u11 nus (rfP C H (i + 1))) := by
            have h := HX.out
            rw [HN.out, ← rfP_nx] at h
            exact h.mono (by rw [HB0.out]; exact HB.out.size)
          have HB9 : Hid (Below B w wr) := HB.out.trans (HBx.out.mono (by rw [HB0.out]; exact HB.out.size))
          go_wp2
          go_roundw
          case rel => exact ⟨i + 1, _, by omega, by go_num, HX9, HB9⟩
          case measure => simp [intOf]; omega
    · obtain rfl : i = R := by omega
      have hiR' : ¬ (i : Int) < (i : Int) := by omega
      have HS := hid_w (H6.out u9 us wr (by rw [← HB0.out]; exact HP.out) (by rw [← HB0.out]; exact HB.out))
      go_wp2_with fail
      refine HS.out.mono ?_
      rintro e w9 ⟨rfl, HPo⟩
      go_wp2
      go_ret
      exact ⟨_, rfl, HPo⟩
end Go.Proofs.YtbiakncblkjmhaaGreatDoor
