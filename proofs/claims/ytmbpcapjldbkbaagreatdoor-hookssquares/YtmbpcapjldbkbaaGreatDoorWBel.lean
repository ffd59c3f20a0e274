/-
  The contract of hooks.Below.
-/
import Derived.Test.YtmbpcapjldbkbaaGreatDoorHBel
namespace Go.Proofs.YtmbpcapjldbkbaaGreatDoor
open Go.RowKit

set_option maxHeartbeats 1000000 in
theorem hcopied_at (a : Option Addr) (n cap : Nat) (zs : List Int) (w : World) (hs : Shows w a zs) (hn : n = zs.length) :
    Calls Tryz.prog 47 #[.slice a n cap] w fun e w' => e = .returned (.slice (some ⟨w.heap.size, 0, none⟩) n n) ∧ Hid (Owns w' w.heap.size (.slice (some ⟨w.heap.size, 0, none⟩) n n) zs) ∧ Hid (Below w.heap.size w w') := by
  subst hn
  have hl := hs.len
  obtain ⟨i0, hi, hz0, hz1, hz2⟩ := info_parts Tryz.info3
  go_enter Tryz.func47, Tryz.ntmps47
  go_wp2_with (at_make; refine wpList_make_full _ rfl _ _ 22 rfl w.heap.size 3 i0 (.int .i64 0) 1 Tryz.underlying22 hi hz0 hz1 _ _ _ _ zs.length rfl rfl rfl rfl ?b1 ?b2 ?b3 ?_)
  case b1 => rw [hz2]; omega
  case b2 => unfold maxLen; omega
  case b3 => exact Nat.le_refl _
  intro w1 hown hgrow
  have hb1 : Below w.heap.size w w1 := (Below.refl _ _).grown hgrow (Nat.le_refl _) (fun k h => by cases h)
  have hrow : w1.heap[w.heap.size]? = some (.cells (List.replicate zs.length (Value.int .i64 0)).toArray 3 (0, 0)) := by
    rcases hown.2 with ⟨h2, _⟩ | ⟨g', cap', cur, hv, hg, hh, h4, h5, h6, h7⟩
    · cases h2
    · simp only [Value.slice.injEq, Option.some.injEq, Addr.mk.injEq, and_true, true_and] at hv
      obtain ⟨rfl, rfl⟩ := hv
      rw [hh]
      have e0 : cur.toList = List.replicate zs.length (Value.int .i64 0) := by
        rw [← toList_madeCells_one, List.take_of_length_le (by simp [h6])] at *
        rw [h7]
        try simp [Value.cells]
      rw [← e0]
  have hs1 := hs.below hb1
  obtain ⟨w2, hrun, HR2, hb2⟩ := run_copy_all (cap := cap) hs1 hrow hb1 (Nat.le_refl _)
  clear hrow hown hgrow
  go_wp2
  go_ret
  exact ⟨rfl, owns_of_row (Nat.le_refl _) HR2.out rfl hl, hb2⟩


/-- What is below in the first k rows. -/
def bel (zs : List Int) (k : Nat) : List (List Int) := (List.range k).flatMap fun i => if zs.getD (i + 1) 0 = zs.getD i 0 then [] else [lowQ zs i]
theorem bel_succ (zs : List Int) (k : Nat) : bel zs (k + 1) = bel zs k ++ (if zs.getD (k + 1) 0 = zs.getD k 0 then [] else [lowQ zs k]) := by
  unfold bel; rw [List.range_succ, List.flatMap_append]; simp
theorem bel_len (zs : List Int) : ∀ k, (bel zs k).length ≤ k
  | 0 => Nat.le_refl _
  | k + 1 => by rw [bel_succ, List.length_append]; have := bel_len zs k; split <;> simp <;> omega

set_option maxHeartbeats 4000000 in
set_option maxRecDepth 100000 in
theorem HBelow_ok (a : Option Addr) (n cap : Nat) (zs : List Int) (w : World) (hs : Shows w a zs) (hn : n = zs.length) (hp : IsPt zs) (hcap : n ≤ cap) :
    Calls Tryz.prog 15 #[.slice a n cap] w fun e w' => ∃ v, e = .returned (.tuple #[v, .int .i64 0]) ∧ Tbl w' w.heap.size v (belowL zs) ∧ Below w.heap.size w w' := by
  have HS : Hid (Shows w a zs) := hs
  have HP : Hid (IsPt zs) := hp
  have HN : Hid (n = zs.length) := hn
  have hn40 : n ≤ 40 := by rw [hn]; exact hp.len
  have HC : Hid (Calls Tryz.prog 34 #[.slice a n cap] w fun e w' => e = .returned (.int .i64 0) ∧ w' = w) := by
    have := PaCheck_any a cap zs w hs
    rw [of_pt hp, ← hn] at this
    exact this
  have HCp : Hid (∀ W m cs l, Below w.heap.size w W → m = l.length → (∃ q, l = zs.take q) → Calls Tryz.prog 47 #[.slice a m cs] W fun e w' => e = .returned (.slice (some ⟨W.heap.size, 0, none⟩) m m) ∧ Hid (Owns w' W.heap.size (.slice (some ⟨W.heap.size, 0, none⟩) m m) l) ∧ Hid (Below W.heap.size W w')) := fun W m cs l hW hm ⟨q, hq⟩ =>
    hcopied_at a m cs l W (by rw [hq]; exact (hs.below hW).take q) hm
  have hcap' : (n : Int) ≤ (cap : Int) := by omega
  clear hs hn hp
  go_enter Tryz.func15, Tryz.ntmps15
  go_wp2_with fail
  refine HC.out.mono ?_
  rintro e w0 ⟨rfl, hw0⟩
  obtain rfl : w = w0 := hw0.symm
  clear hw0 HC
  go_wp2
  go_loopw [5, 16] (fun v iv wr => ∃ k : Nat, k ≤ n ∧ iv = .int .i64 k ∧ Hid (Tbl wr w.heap.size v (bel zs k)) ∧ Hid (Below w.heap.size w wr)) (fun _ iv _ => n - (intOf iv).toNat)
  case atStart => exact ⟨0, Nat.zero_le _, rfl, Tbl.nil _ _, Below.refl _ _⟩
  case round =>
    obtain ⟨k, hk, rfl, HT, HB⟩ := hrel
    by_cases hlt : k < n
    · have hlt' : (k : Int) < (n : Int) := by omega
      have hne : zs ≠ [] := fun e => by have := HN.out; rw [e] at this; simp at this; omega
      obtain ⟨b, off, ha, _, hc⟩ := (HS.out.below HB.out).cells hne
      subst ha
      have hN := HN.out
      obtain ⟨x, HX⟩ : ∃ x, Hid (x = zs.getD k 0) := ⟨_, rfl⟩
      obtain ⟨y, HY⟩ : ∃ y, Hid (y = zs.getD (k + 1) 0) := ⟨_, rfl⟩
      have hck := hc k (by omega)
      rw [← HX.out] at hck
      have hX40 : 1 ≤ x ∧ x ≤ 40 := by
        have h := HP.out.range (zs.getD k 0) (by rw [List.getD, List.getElem?_eq_getElem (by omega)]; exact List.getElem_mem _)
        rw [← HX.out] at h; exact h
      have hk1 : IntKind.i64.wrap ((k : Int) + 1) = ((k + 1 : Nat) : Int) := by rw [IntWalk.i64_left, IntWalk.wrap64_in _ (by omega)]; omega
      obtain ⟨K, HK⟩ : ∃ K, Hid (K = k + 1) := ⟨_, rfl⟩
      rw [← HK.out] at hk1
      have hKn : K ≤ n := by rw [HK.out]; omega
      have HSame : Hid (y = x → bel zs K = bel zs k) := fun e => by
        rw [HK.out, bel_succ, if_pos (by rw [← HX.out, ← HY.out]; exact e)]; simp
      have HMore : Hid (y ≠ x → bel zs K = bel zs k ++ [lowQ zs k]) := fun e => by
        rw [HK.out, bel_succ, if_neg (by rw [← HX.out, ← HY.out]; exact e)]
      by_cases hlast : K < n
      · have hKn' : (K : Int) < (n : Int) := by omega
        have hcK := hc (k + 1) (by have := HK.out; omega)
        rw [← HY.out, show off + (k + 1) = off + K by have := HK.out; omega] at hcK
        clear hc hN
        by_cases hxy : y = x
        · have HT2 : Hid (Tbl wr w.heap.size u5 (bel zs K)) := by rw [HSame.out hxy]; exact HT.out
          have hxb : (y == x) = true := by simp [hxy]
          go_wp2
          go_roundw
          case rel => exact ⟨K, hKn, by go_num, HT2, HB⟩
          case measure => have := HK.out; simp [intOf]; omega
        · have hxb : (y == x) = false := by simp [hxy]
          have HM : Hid (bel zs K = bel zs k ++ [lowQ zs k]) := HMore.out hxy
          by_cases hx1 : x = 1
          · have hxb1 : (x == 1) = true := by simp [hx1]
            have HQ : Hid (lowQ zs k = zs.take k) := by show _ = _; unfold lowQ; rw [if_pos (by rw [← HX.out]; exact hx1)]
            go_wp2_with fail
            refine (HCp.out wr k cap (zs.take k) HB.out (by rw [List.length_take]; have := HN.out; omega) ⟨k, rfl⟩).mono ?_
            rintro e w2 ⟨rfl, HO1, HB2⟩
            obtain ⟨vs, hV⟩ := HT.out
            have HV0 : Hid (TblV wr w.heap.size u5 vs (bel zs k)) := hV
            have HLv : Hid (vs.length ≤ 40) := by show _ ≤ _; rw [hV.len]; have := bel_len zs k; omega
            have HV2 : Hid (TblV w2 w.heap.size u5 vs (bel zs k)) := hV.same (fun q _ hq => HB2.out.block q hq)
            clear hV
            go_wp2_with (at_builtin; refine append_one elem_row (x := .slice (some ⟨wr.heap.size, 0, none⟩) k k) rfl _ _ rfl rfl rfl rfl HV2.out.own rfl ?c3 ?c4 ?c5 ?_)
            case c3 => have := HLv.out; unfold maxLen; omega
            case c4 => have := HLv.out; omega
            case c5 => exact Nat.le_trans HB.out.size HB2.out.size
            intro v' w3 hO3 hb3 hk3
            have HT3 : Hid (Tbl w3 w.heap.size v' (bel zs K)) := by
              rw [HM.out, HQ.out]
              exact Tbl.push HV0.out HV2.out (Nat.le_refl _) HB.out.size HO1.out (by simpa using hO3) hk3
            have HB3 : Hid (Below w.heap.size w w3) := (HB.out.trans (HB2.out.mono HB.out.size)).trans hb3
            clear hO3 hb3 hk3
            go_wp2
            refine ⟨⟨K, hKn, rfl, HT3, HB3⟩, ?_⟩
            have := HK.out; simp [intOf]; omega
          · have hxb1 : (x == 1) = false := by simp [hx1]
            have HQ : Hid (lowQ zs k = zs.set k (x - 1)) := by show _ = _; unfold lowQ; rw [if_neg (by rw [← HX.out]; exact hx1), ← HX.out]
            go_wp2_with fail
            refine (HCp.out wr n cap zs HB.out HN.out ⟨zs.length, List.take_length.symm⟩).mono ?_
            rintro e w2 ⟨rfl, HO1, HB2⟩
            obtain ⟨vs, hV⟩ := HT.out
            have HV0 : Hid (TblV wr w.heap.size u5 vs (bel zs k)) := hV
            have HLv : Hid (vs.length ≤ 40) := by show _ ≤ _; rw [hV.len]; have := bel_len zs k; omega
            have HV2 : Hid (TblV w2 w.heap.size u5 vs (bel zs k)) := hV.same (fun q _ hq => HB2.out.block q hq)
            obtain ⟨-, hfz, hcl⟩ := HO1.out.at HN.out
            have hck2 := hcl k (by have := HN.out; omega)
            rw [← HX.out] at hck2
            have hfk := hfz k
            have hx1w : IntKind.i64.wrap (x - 1) = x - 1 := by rw [IntWalk.i64_left, IntWalk.wrap64_in _ (by omega)]
            clear hV hfz hcl
            go_upto_region 13 with (fail)
            have HO4 : Hid (Owns (w2.setCell ⟨wr.heap.size, k, none⟩ (.int .i64 (x - 1))) wr.heap.size (.slice (some ⟨wr.heap.size, 0, none⟩) n n) (zs.set k (x - 1))) := HO1.out.store HN.out k (x - 1)
            have HB4 : Hid (Below wr.heap.size wr (w2.setCell ⟨wr.heap.size, k, none⟩ (.int .i64 (x - 1)))) := HB2.out.setCell (p := ⟨wr.heap.size, k, none⟩) (Nat.le_refl _) _
            have HV4 : Hid (TblV (w2.setCell ⟨wr.heap.size, k, none⟩ (.int .i64 (x - 1))) w.heap.size u5 vs (bel zs k)) := HV0.out.same (fun q _ hq => HB4.out.block q hq)
            clear HV2 HO1 HB2 hck2 hfk
            generalize w2.setCell ⟨wr.heap.size, k, none⟩ (.int .i64 (x - 1)) = w4 at *
            go_wp2_with (at_builtin; refine append_one elem_row (x := .slice (some ⟨wr.heap.size, 0, none⟩) n n) rfl _ _ rfl rfl rfl rfl HV4.out.own rfl ?c3 ?c4 ?c5 ?_)
            case c3 => have := HLv.out; unfold maxLen; omega
            case c4 => have := HLv.out; omega
            case c5 => exact Nat.le_trans HB.out.size HB4.out.size
            intro v' w3 hO3 hb3 hk3
            have HT3 : Hid (Tbl w3 w.heap.size v' (bel zs K)) := by
              rw [HM.out, HQ.out]
              exact Tbl.push HV0.out HV4.out (Nat.le_refl _) HB.out.size HO4.out (by simpa using hO3) hk3
            have HB3 : Hid (Below w.heap.size w w3) := (HB.out.trans (HB4.out.mono HB.out.size)).trans hb3
            clear hO3 hb3 hk3
            go_wp2
            go_roundw
            case rel => exact ⟨K, hKn, by go_num, HT3, HB3⟩
            case measure => have := HK.out; simp [intOf]; omega
      · have hKn' : ¬ (K : Int) < (n : Int) := by omega
        clear hc hN
        have HM : Hid (bel zs K = bel zs k ++ [lowQ zs k]) := HMore.out (by
          have e : y = 0 := by rw [HY.out, List.getD, List.getElem?_eq_none (by have := HN.out; have := HK.out; omega)]; rfl
          omega)
        by_cases hx1 : x = 1
        · have hxb1 : (x == 1) = true := by simp [hx1]
          have HQ : Hid (lowQ zs k = zs.take k) := by show _ = _; unfold lowQ; rw [if_pos (by rw [← HX.out]; exact hx1)]
          go_wp2_with fail
          refine (HCp.out wr k cap (zs.take k) HB.out (by rw [List.length_take]; have := HN.out; omega) ⟨k, rfl⟩).mono ?_
          rintro e w2 ⟨rfl, HO1, HB2⟩
          obtain ⟨vs, hV⟩ := HT.out
          have HV0 : Hid (TblV wr w.heap.size u5 vs (bel zs k)) := hV
          have HLv : Hid (vs.length ≤ 40) := by show _ ≤ _; rw [hV.len]; have := bel_len zs k; omega
          have HV2 : Hid (TblV w2 w.heap.size u5 vs (bel zs k)) := hV.same (fun q _ hq => HB2.out.block q hq)
          clear hV
          go_wp2_with (at_builtin; refine append_one elem_row (x := .slice (some ⟨wr.heap.size, 0, none⟩) k k) rfl _ _ rfl rfl rfl rfl HV2.out.own rfl ?c3 ?c4 ?c5 ?_)
          case c3 => have := HLv.out; unfold maxLen; omega
          case c4 => have := HLv.out; omega
          case c5 => exact Nat.le_trans HB.out.size HB2.out.size
          intro v' w3 hO3 hb3 hk3
          have HT3 : Hid (Tbl w3 w.heap.size v' (bel zs K)) := by
            rw [HM.out, HQ.out]
            exact Tbl.push HV0.out HV2.out (Nat.le_refl _) HB.out.size HO1.out (by simpa using hO3) hk3
          have HB3 : Hid (Below w.heap.size w w3) := (HB.out.trans (HB2.out.mono HB.out.size)).trans hb3
          clear hO3 hb3 hk3
          go_wp2
          refine ⟨⟨K, hKn, rfl, HT3, HB3⟩, ?_⟩
          have := HK.out; simp [intOf]; omega
        · have hxb1 : (x == 1) = false := by simp [hx1]
          have HQ : Hid (lowQ zs k = zs.set k (x - 1)) := by show _ = _; unfold lowQ; rw [if_neg (by rw [← HX.out]; exact hx1), ← HX.out]
          go_wp2_with fail
          refine (HCp.out wr n cap zs HB.out HN.out ⟨zs.length, List.take_length.symm⟩).mono ?_
          rintro e w2 ⟨rfl, HO1, HB2⟩
          obtain ⟨vs, hV⟩ := HT.out
          have HV0 : Hid (TblV wr w.heap.size u5 vs (bel zs k)) := hV
          have HLv : Hid (vs.length ≤ 40) := by show _ ≤ _; rw [hV.len]; have := bel_len zs k; omega
          have HV2 : Hid (TblV w2 w.heap.size u5 vs (bel zs k)) := hV.same (fun q _ hq => HB2.out.block q hq)
          obtain ⟨-, hfz, hcl⟩ := HO1.out.at HN.out
          have hck2 := hcl k (by have := HN.out; omega)
          rw [← HX.out] at hck2
          have hfk := hfz k
          have hx1w : IntKind.i64.wrap (x - 1) = x - 1 := by rw [IntWalk.i64_left, IntWalk.wrap64_in _ (by omega)]
          clear hV hfz hcl
          go_upto_region 13 with (fail)
          have HO4 : Hid (Owns (w2.setCell ⟨wr.heap.size, k, none⟩ (.int .i64 (x - 1))) wr.heap.size (.slice (some ⟨wr.heap.size, 0, none⟩) n n) (zs.set k (x - 1))) := HO1.out.store HN.out k (x - 1)
          have HB4 : Hid (Below wr.heap.size wr (w2.setCell ⟨wr.heap.size, k, none⟩ (.int .i64 (x - 1)))) := HB2.out.setCell (p := ⟨wr.heap.size, k, none⟩) (Nat.le_refl _) _
          have HV4 : Hid (TblV (w2.setCell ⟨wr.heap.size, k, none⟩ (.int .i64 (x - 1))) w.heap.size u5 vs (bel zs k)) := HV0.out.same (fun q _ hq => HB4.out.block q hq)
          clear HV2 HO1 HB2 hck2 hfk
          generalize w2.setCell ⟨wr.heap.size, k, none⟩ (.int .i64 (x - 1)) = w4 at *
          go_wp2_with (at_builtin; refine append_one elem_row (x := .slice (some ⟨wr.heap.size, 0, none⟩) n n) rfl _ _ rfl rfl rfl rfl HV4.out.own rfl ?c3 ?c4 ?c5 ?_)
          case c3 => have := HLv.out; unfold maxLen; omega
          case c4 => have := HLv.out; omega
          case c5 => exact Nat.le_trans HB.out.size HB4.out.size
          intro v' w3 hO3 hb3 hk3
          have HT3 : Hid (Tbl w3 w.heap.size v' (bel zs K)) := by
            rw [HM.out, HQ.out]
            exact Tbl.push HV0.out HV4.out (Nat.le_refl _) HB.out.size HO4.out (by simpa using hO3) hk3
          have HB3 : Hid (Below w.heap.size w w3) := (HB.out.trans (HB4.out.mono HB.out.size)).trans hb3
          clear hO3 hb3 hk3
          go_wp2
          go_roundw
          case rel => exact ⟨K, hKn, by go_num, HT3, HB3⟩
          case measure => have := HK.out; simp [intOf]; omega
    · have hlt' : ¬ (k : Int) < (n : Int) := by omega
      have HT2 : Hid (Tbl wr w.heap.size u5 (belowL zs)) := by have := HT.out; rw [show k = zs.length by have := HN.out; omega] at this; exact this
      go_wp2
      go_ret2
      exact ⟨_, rfl, HT2.out, HB.out⟩

end Go.Proofs.YtmbpcapjldbkbaaGreatDoor
