/-
  The contract of ferref.AllPiles.
-/
import Derived.Test.YtbiakncblkjmhaaGreatDoorDQw
import Derived.Test.YtbiakncblkjmhaaGreatDoorRwD
import Derived.Test.YtbiakncblkjmhaaGreatDoorRxD
import Derived.Test.YtbiakncblkjmhaaGreatDoorEPin
namespace Go.Proofs.YtbiakncblkjmhaaGreatDoor
open Go.RowKit Go.Shelf Go.Sort

set_option maxHeartbeats 8000000 in
set_option maxRecDepth 100000 in
theorem AllPiles_n (R C H : Nat) (w : World) (r8 : R ≤ 8) (c8 : C ≤ 8) (h8 : H ≤ 8) (hno : 2000 < mN R C H) :
    Calls Tryz.prog 16 #[.int .i64 (R : Int), .int .i64 (C : Int), .int .i64 (H : Int)] w fun e w' => e = .returned (.slice none 0 0) ∧ Hid (Below w.heap.size w w') := by
  have HPi : Hid (Calls Tryz.prog 11 #[.int .i64 (R : Int), .int .i64 (C : Int), .int .i64 (H : Int)] (w.alloc (.cells #[.bool false, .slice none 0 0] 67)) fun e w' => e = .returned (.string ⟨(Lib.decDigits (mN R C H)).toArray⟩) ∧ Hid (Below (w.heap.size + 1) (w.alloc (.cells #[.bool false, .slice none 0 0] 67)) w')) := by
    refine (Piles_at R C H _ (by omega) (by omega) (by omega)).mono ?_
    rintro e w' ⟨rfl, h⟩
    have := h.out
    exact ⟨rfl, by show Below _ _ _; simpa using this⟩
  have HSS : Hid (∀ W, Below (w.heap.size + 1) (w.alloc (.cells #[.bool false, .slice none 0 0] 67)) W → Calls Tryz.prog 38 #[.pointer (some ⟨w.heap.size, 0, none⟩), .string ⟨(Lib.decDigits (mN R C H)).toArray⟩, .int .i64 10] W fun e w' => e = .returned (.tuple #[.pointer (some ⟨w.heap.size, 0, none⟩), .bool true]) ∧ Hid (∃ v us, IntAt w' w.heap.size w.heap.size v us (mN R C H) ∧ us.length ≤ 5000) ∧ Hid (Below w.heap.size w w')) := fun W hW => by
    have hB0 : Below w.heap.size w (w.alloc (.cells #[.bool false, .slice none 0 0] 67)) := (Below.refl _ _).alloc (Nat.le_refl _) _
    have hr := heap_alloc_new w (.cells #[.bool false, .slice none 0 0] 67)
    have hd := dec_80 (x := mN R C H) (mN_80 (by omega) (by omega) (by omega))
    refine (BSetString_at w.heap.size w.heap.size false (.slice none 0 0) ⟨(Lib.decDigits (mN R C H)).toArray⟩ W (by rw [hW.block _ (by omega)]; exact hr) (Nat.le_refl _) (by show (Lib.decDigits (mN R C H)).toArray.size ≤ 1000; simp; omega) (by show 0 < (Lib.decDigits (mN R C H)).toArray.size; simp; omega) (by simpa using dec_digits (mN R C H))).mono ?_
    rintro e w' ⟨v, us, rfl, q1, q2, q3, q4⟩
    refine ⟨rfl, ⟨v, us, ⟨q1, ?_⟩, q3⟩, (hB0.trans (hW.mono (by omega))).trans q4.below⟩
    have := q2.mono (base' := w.heap.size) (by have := hW.size; simp at this; omega)
    simpa [dec_val] using this
  have HNi : Hid (∀ W, Calls Tryz.prog 32 #[.int .i64 2000] W fun e w' => e = .returned (.pointer (some ⟨W.heap.size, 0, none⟩)) ∧ Hid (∃ v us, IntAt w' W.heap.size W.heap.size v us 2000) ∧ Hid (Below W.heap.size W w')) := fun W => by
    refine (NewInt_at 2000 W (by omega)).mono ?_
    rintro e w' ⟨v, us, rfl, h1, h2⟩
    exact ⟨rfl, ⟨v, us, h1⟩, h2⟩
  obtain ⟨cc, HCc⟩ : ∃ cc : Int, Hid (cc = cmN (mN R C H) 2000) := ⟨_, rfl⟩
  have hcc : cc > 0 := by
    rw [HCc.out]; unfold cmN
    rw [if_neg (by omega), if_pos (by omega)]; omega
  have HCm : Hid (∀ W p, (∃ v us, IntAt W w.heap.size w.heap.size v us (mN R C H) ∧ us.length ≤ 5000) → (∃ v us, IntAt W p p v us 2000) → Calls Tryz.prog 39 #[.pointer (some ⟨w.heap.size, 0, none⟩), .pointer (some ⟨p, 0, none⟩)] W fun e w' => e = .returned (.int .i64 cc) ∧ Hid (Below W.heap.size W w')) := fun W p ⟨v, us, i1, l1⟩ ⟨v2, us2, i2⟩ => by
    have l2 := num_len i2.own.num (k := 1) (by omega)
    rw [HCc.out]
    exact (BCmp_at w.heap.size p _ _ v v2 us us2 _ _ W i1 i2 (by omega) (by omega)).mono fun e w' h => h
  clear hno
  go_enter Tryz.func16, Tryz.ntmps16
  go_wp2_with (first
    | (go_at_call 11; refine HPi.out.mono ?_; rintro e w1 ⟨rfl, HB1⟩; have HC1 := hid_w (HSS.out w1 HB1.out))
    | (go_at_call 38; with_reducible (refine HC1.out.mono ?_); rintro e w2 ⟨rfl, HI2, HB2⟩; have HC2 := hid_w (HNi.out w2))
    | (go_at_call 32; refine HC2.out.mono ?_; rintro e w3 ⟨rfl, HI3, HB3⟩; have HI23 : Hid (∃ v us, IntAt w3 w.heap.size w.heap.size v us (mN R C H) ∧ us.length ≤ 5000) := (by obtain ⟨v, us, i1, l1⟩ := HI2.out; exact ⟨v, us, i1.undr HB3.out, l1⟩); have HC3 := hid_w (HCm.out w3 _ HI23.out HI3.out))
    | (go_at_call 39; with_reducible (refine HC3.out.mono ?_); rintro e w4 ⟨rfl, HB4⟩))
  have HBw4 : Hid (Below w.heap.size w w4) := (HB2.out.trans (HB3.out.mono HB2.out.size)).trans (HB4.out.mono (Nat.le_trans HB2.out.size HB3.out.size))
  clear HPi HSS HNi HCm HC1 HC2 HC3 HI2 HI3 HI23 HB1 HB2 HB3 HB4
  go_ret
  exact ⟨rfl, HBw4⟩

theorem rws_succ (R C : Nat) (Y : List Nat) : rwsN (R + 1) C Y = rwsN R C Y ++ [(List.range C).map fun j => Y.getD (R * C + j) 0] := by
  unfold rwsN; rw [List.range_succ, List.map_append]; rfl
theorem rws_take (R C : Nat) (Y : List Nat) : rwsN R C (Y.take (R * C)) = rwsN R C Y := by
  unfold rwsN
  refine List.map_congr_left fun i hi => List.map_congr_left fun j hj => ?_
  have := plc_lt (List.mem_range.1 hi) (List.mem_range.1 hj)
  simp [List.getD, this]
theorem rws_flat (C : Nat) : ∀ (R : Nat) (Y : List Nat), Y.length = R * C → (rwsN R C Y).flatten = Y
  | 0, Y, h => by
    have : Y = [] := List.eq_nil_of_length_eq_zero (by simpa using h)
    subst this; simp [rwsN]
  | R + 1, Y, h => by
    rw [Nat.succ_mul] at h
    rw [rws_succ, List.flatten_append, ← rws_take, rws_flat C R _ (by rw [List.length_take]; omega)]
    have : [(List.range C).map fun j => Y.getD (R * C + j) 0].flatten = Y.drop (R * C) := by
      simp only [List.flatten_cons, List.flatten_nil, List.append_nil]
      refine List.ext_getElem (by simp; omega) (fun i h1 h2 => ?_)
      have h3 : R * C + i < Y.length := by simp at h1; omega
      simp [List.getD, List.getElem?_eq_getElem h3]
    rw [this, List.take_append_drop]
theorem cast_rws (R C : Nat) (Y : List Nat) : castT (rwsN R C Y) = tb R C (fX C Y) := by
  unfold castT rwsN tb
  rw [List.map_map]
  refine List.map_congr_left fun i _ => ?_
  simp [castL, tab, fX]
theorem castT_fl (t : List (List Nat)) : (castT t).flatten = castL t.flatten := by
  unfold castT castL
  rw [List.map_flatten]
theorem cmpL_lex : ∀ (Y Z : List Nat), LexN Y Z → cmpL (castL Z) (castL Y) = 1
  | [], Z, h => by obtain ⟨_, p, hp, _⟩ := h; simp at hp
  | y :: Y, [], h => by simp [LexN] at h
  | y :: Y, z :: Z, h => by
    obtain ⟨hl, p, hp, h1, h2⟩ := h
    show (if ((z : Nat) : Int) < (y : Int) then (-1 : Int) else if ((y : Nat) : Int) < (z : Int) then 1 else cmpL (castL Z) (castL Y)) = 1
    cases p with
    | zero =>
      simp [List.getD] at h2
      rw [if_neg (by omega), if_pos (by omega)]
    | succ p =>
      have e := h1 0 (by omega)
      simp [List.getD] at e
      rw [if_neg (by omega), if_neg (by omega)]
      refine cmpL_lex Y Z ⟨by simpa using hl, p, by simpa using hp, fun t ht => ?_, ?_⟩
      · have := h1 (t + 1) (by omega)
        simpa [List.getD] using this
      · simpa [List.getD] using h2
theorem sr_sorted {R C H : Nat} (hC : 1 ≤ C) : Sorted (((sr C H (R * C) []).map (rwsN R C)).map castT) := by
  unfold Sorted
  rw [List.pairwise_map, List.pairwise_map]
  refine List.Pairwise.imp_of_mem (R := LexN) ?_ (lex_sr hC (R * C) [])
  intro a b ha hb hab
  have la := ((pil_sr hC).1 ha).1
  have lb := ((pil_sr hC).1 hb).1
  rw [castT_fl, castT_fl, rws_flat C R a la, rws_flat C R b lb, cmpL_lex a b hab]
  omega

/-- what AllPiles answers -/
def ApR (R C H lo : Nat) (w' : World) (v : Value) : Prop :=
  ((sr C H (R * C) []).length ≤ 2000 ∧ ∃ us, Cub noB w' lo v us ((sr C H (R * C) []).map fun Y => tb R C (fX C Y))) ∨ (2000 < (sr C H (R * C) []).length ∧ v = .slice none 0 0)

theorem AllPiles_at {ρ : Go.Shelf.Ren} (L : SlLaysF.n6 Tryz.prog ρ) (hρ : ρ.f 6 = 42) (R C H : Nat) (w : World) (r1 : 1 ≤ R) (r8 : R ≤ 8) (c1 : 1 ≤ C) (c8 : C ≤ 8) (h8 : H ≤ 8) :
    Calls Tryz.prog 16 #[.int .i64 (R : Int), .int .i64 (C : Int), .int .i64 (H : Int)] w fun e w' => ∃ v, e = .returned v ∧ Hid (ApR R C H w.heap.size w' v) ∧ Hid (Below w.heap.size w w') := by
  have hm : mN R C H = (sr C H (R * C) []).length := by unfold mN; rw [if_neg (by omega)]
  by_cases hno : mN R C H ≤ 2000
  · have hmem : ∀ t ∈ rfP C H R, ∃ Y, Y ∈ sr C H (R * C) [] ∧ t = rwsN R C Y := fun t ht => by
      obtain ⟨Y, hY, e⟩ := List.mem_map.1 ((rfP_perm c1).mem_iff.1 ht)
      exact ⟨Y, hY, e.symm⟩
    have hbd : ∀ t ∈ rfP C H R, (castT t).length ≤ 1000 ∧ (castT t).flatten.length ≤ 1000000 ∧ ∀ z ∈ (castT t).flatten, -9223372036854775808 ≤ z ∧ z ≤ 9223372036854775807 := fun t ht => by
      have hb := rfP_bd ht
      obtain ⟨Y, hY, rfl⟩ := hmem t ht
      have hl := ((pil_sr c1).1 hY).1
      have h64 : R * C ≤ 8 * 8 := Nat.mul_le_mul r8 c8
      refine ⟨by rw [castT_len, hb.1]; omega, by rw [castT_fl, rws_flat C R Y hl, castL_len]; omega, fun z hz => ?_⟩
      rw [castT_fl] at hz
      have := castL_lt (b := 8) (l := (rwsN R C Y).flatten) (fun y hy => by
        obtain ⟨r, hr, hy⟩ := List.mem_flatten.1 hy
        exact Nat.le_trans ((hb.2 r hr).2 y hy) h8) z hz
      omega
    have hlen : (rfP C H R).length ≤ 2000 := by rw [rfP_len c1, ← hm]; exact hno
    refine (AllPiles_c R C H w (fun v w2 => ∃ us, Cub noB w2 w.heap.size v us ((sr C H (R * C) []).map fun Y => tb R C (fX C Y)) ∧ Below w.heap.size w w2) r1 r8 c1 c8 h8 hno (fun v us W hP hB => ?_)).mono ?_
    · have hC : Cub noB W w.heap.size v us ((rfP C H R).map castT) := by
        refine ⟨hP.own, by rw [List.length_map]; exact hP.len, fun k hk => ?_⟩
        rw [List.length_map] at hk
        obtain ⟨a, c, e1, e2⟩ := hP.el k hk
        have eg : ((rfP C H R).map castT).getD k [] = castT ((rfP C H R).getD k []) := by
          simp only [List.getD, List.getElem?_map, List.getElem?_eq_getElem hk]; rfl
        rw [eg, castT_len]
        exact ⟨a, c, e1, fun w' h1 h2 => (e2 w' (fun j _ b2 b3 => h1 j b2 (fun h => h) b3) h2).table⟩
      refine (SortCube_at L hρ 43 (enters_of Tryz.func43 (by kernel_rfl) rfl) v us _ W hC (by rw [List.length_map]; omega) hB.size (fun W2 a1 b1 ca1 cb1 s t hs ht hTs hTt => ?_)).mono ?_
      · obtain ⟨s0, hs0, rfl⟩ := List.mem_map.1 hs
        obtain ⟨t0, ht0, rfl⟩ := List.mem_map.1 ht
        have g1 := hbd s0 hs0
        have g2 := hbd t0 ht0
        exact RLess_d a1 b1 ca1 cb1 _ _ W2 hTs hTt g1.1 g2.1 g1.2.1 g2.2.1 g1.2.2 g2.2.2
      · rintro e w2 ⟨rfl, us', ts', hp, hs, hc, hb, -⟩
        refine ⟨rfl, us', ?_, hB.trans hb⟩
        have e1 : ts' = ((sr C H (R * C) []).map (rwsN R C)).map castT := by
          refine sorted_same (hp.trans ((rfP_perm c1).map castT)) hs (sr_sorted c1) (fun s hs t ht => ?_)
          have key : ∀ s ∈ ts', s.map List.length = List.replicate R C := fun s hs => by
            obtain ⟨t, ht, rfl⟩ := List.mem_map.1 (hp.mem_iff.1 hs)
            have hb := rfP_bd ht
            rw [List.eq_replicate_iff]
            refine ⟨by rw [List.length_map, castT_len, hb.1], fun z hz => ?_⟩
            obtain ⟨r, hr, rfl⟩ := List.mem_map.1 hz
            unfold castT at hr
            obtain ⟨q, hq, rfl⟩ := List.mem_map.1 hr
            rw [castL_len]; exact (hb.2 q hq).1
          rw [key s hs, key t ht]
        rw [e1, List.map_map] at hc
        rw [show (fun Y => tb R C (fX C Y)) = castT ∘ rwsN R C from funext fun Y => (cast_rws R C Y).symm]
        exact hc
    · rintro e w2 ⟨v, rfl, us, h1, h2⟩
      exact ⟨v, rfl, Or.inl ⟨by rw [← hm]; exact hno, us, h1⟩, h2⟩
  · refine (AllPiles_n R C H w r8 c8 h8 (by omega)).mono ?_
    rintro e w2 ⟨rfl, h⟩
    exact ⟨_, rfl, Or.inr ⟨by rw [← hm]; omega, rfl⟩, h⟩

end Go.Proofs.YtbiakncblkjmhaaGreatDoor
