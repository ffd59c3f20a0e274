/-
  paths.First.
-/
import Derived.Test.YthdojdkghhmfcaaQApt
import Derived.Test.YthdojdkghhmfcaaQEnF
namespace Go.Proofs.Ythdojdkghhmfcaa
open Go.RowKit

def runF (cl : Nat → Bool) (S E : List (Nat × Nat)) : Bool × Nat × Option (List (List UInt8)) := if S.length = 0 then (false, 0, some []) else goF S E fndO 64 0 (ptD S 0) cl (List.replicate S.length []) 0 none
/-- What First says: an error, or the texts. -/
def fstE (x : Int) (cl : Nat → Bool) (S E : List (Int × Int)) : Int :=
  if x ≠ 0 then x else if 1000000 < (runF cl (toN S) (toN E)).2.1 then 2 else if (runF cl (toN S) (toN E)).2.2.isNone = true then 5 else 0
def fstL (x : Int) (cl : Nat → Bool) (S E : List (Int × Int)) : List (List UInt8) := if fstE x cl S E = 0 then (runF cl (toN S) (toN E)).2.2.getD [] else []

set_option maxHeartbeats 8000000 in
set_option maxRecDepth 100000 in
theorem First_at (gw gh : Int) (ba sa ea : Option Addr) (n c sn sc en ec : Nat) (bs S E : List (Int × Int)) (w : World) (hn : n = bs.length) (hl : n ≤ 17592186044416) (hsn : sn = S.length) (hsl : sn ≤ 17592186044416) (hsc : sn ≤ sc) (hen : en = E.length) (hel : en ≤ 17592186044416) (hec : en ≤ ec) (hP : PtI w ba bs) (hS : PtI w sa S) (hE : PtI w ea E) (o : Option (Nat → Bool)) (ho : o = brO gw gh bs) (x : Int) (hx : x = chkE gw gh o S E) (tx : List (List UInt8)) (y : Int) (htx : tx = fstL x (brC o) S E) (hy : y = fstE x (brC o) S E) :
    Calls Try.prog 6 #[gridV gw gh (.slice ba n c), .slice sa sn sc, .slice ea en ec] w fun e w' => ∃ v, e = .returned (.tuple #[v, .int .i64 y]) ∧ Hid (w'.ownsRow 0 9 1 v (tx.map strV).length (tx.map strV)) ∧ Hid (Below w.heap.size w w') := by
  have HN := hid_w (And.intro hn (And.intro hsn hen))
  have HP : Hid (PtI w ba bs) := hP
  have HS : Hid (PtI w sa S) := hS
  have HE : Hid (PtI w ea E) := hE
  have HX : Hid (x = chkE gw gh o S E) := hx
  have HTx : Hid (tx = fstL x (brC o) S E) := htx
  have HYe : Hid (y = fstE x (brC o) S E) := hy
  have HO : Hid (o = brO gw gh bs) := ho
  obtain ⟨Z, HZ⟩ : ∃ Z, Hid (Z = mkC fun _ => false) := ⟨_, rfl⟩
  have hz : ∀ W : World, (zeroValue 46).run Try.prog W = .ok (.agg Z) W := fun W => by rw [HZ.out]; exact (zero_of_info zeroM).1 W
  have HZ6 : Hid (C64 Z) := by rw [HZ.out]; exact mkC_64 _
  obtain ⟨Y, HY⟩ : ∃ Y, Hid (Y = mkC (chkM gw gh o S E)) := ⟨_, rfl⟩
  have HY6 : Hid (C64 Y) := by rw [HY.out]; exact mkC_64 _
  unfold gridV
  obtain ⟨Q, HQ⟩ : ∃ Q, Hid (Q = w.heap.size) := ⟨_, rfl⟩
  obtain ⟨W0, HW0⟩ : ∃ W0, Hid (W0 = w.alloc (.cells #[.int .i64 gw, .int .i64 gh, .slice ba n c] 24)) := ⟨_, rfl⟩
  have HB0 : Hid (Below w.heap.size w W0) := by rw [HW0.out]; exact (Below.refl _ _).alloc (Nat.le_refl _) _
  have HQb : Hid (W0.heap[Q]? = some (.cells #[.int .i64 gw, .int .i64 gh, .slice ba n c] 24 (0, 0))) := by
    show _ = _
    rw [HW0.out, HQ.out]; exact heap_alloc_last _ _
  have q0 : W0.cell? ⟨Q, 0, none⟩ = some (.int .i64 gw) := by rw [cell_of_row W0 Q 0 _ _ _ HQb.out]; rfl
  have q1 : W0.cell? ⟨Q, 1, none⟩ = some (.int .i64 gh) := by rw [cell_of_row W0 Q 1 _ _ _ HQb.out]; rfl
  have q2 : W0.cell? ⟨Q, 2, none⟩ = some (.slice ba n c) := by rw [cell_of_row W0 Q 2 _ _ _ HQb.out]; rfl
  have HC1 : Hid (Calls Try.prog 14 #[.agg #[.int .i64 gw, .int .i64 gh, .slice ba n c], .slice sa sn sc, .slice ea en ec] W0 fun e w' => e = .returned (.tuple #[.agg Y, .int .i64 x]) ∧ Hid (Below W0.heap.size W0 w')) :=
    checked_at gw gh ba sa ea n c sn sc en ec bs S E W0 hn hl hsn hsl hen hel (HP.out.below HB0.out) (HS.out.below HB0.out) (HE.out.below HB0.out) o ho x Y hx HY.out
  clear hP hS hE hn hsn hen hx hy ho htx
  go_enter Try.func6, Try.ntmps6
  go_upto_region 1 with fail
  rw [← HQ.out, ← HW0.out]
  go_upto_region 2 with (first | (go_at_call 14; with_reducible (refine HC1.out.mono ?_); rintro e W1 ⟨rfl, HB1⟩) | (refine wpList_store64 rfl (.tmp 8) (.tmp 17) rfl _ Y Z rfl rfl (heap_alloc_last _ _) HY6.out HZ6.out ?_))
  obtain ⟨P, HPq⟩ : ∃ P, Hid (P = W1.heap.size) := ⟨_, rfl⟩
  obtain ⟨W2, HW2⟩ : ∃ W2, Hid (W2 = (W1.alloc (.cells Z 46)).setRow W1.heap.size Y) := ⟨_, rfl⟩
  rw [← HW2.out, ← HPq.out]
  have hB2 : Below W0.heap.size W0 W2 := by
    rw [HW2.out]; exact below_setRow (HB1.out.alloc HB1.out.size _) _ HB1.out.size _
  have HB2 : Hid (Below w.heap.size w W2) := HB0.out.trans (hB2.mono HB0.out.size)
  have HP2 : Hid (W2.heap[P]? = some (.cells Y 46 (0, 0))) := by
    show _ = _
    rw [HW2.out, HPq.out]; exact setRow_heap _ _ _ _ _ _ (heap_alloc_last _ _)
  clear q0 q1 q2 hB2 HC1
  by_cases hx0 : x = 0
  · subst hx0
    have HX0 : Hid (0 = chkE gw gh o S E) := HX
    have HYk : Hid (Y = mkC (brC o)) := by show _ = _; rw [HY.out]; unfold chkM; rw [← HX0.out, if_pos rfl]
    have HSE : Hid (S.all (inG gw gh) = true ∧ E.all (inG gw gh) = true ∧ sn = en ∧ sn ≤ 4 ∧ gw ≤ 8 ∧ gh ≤ 8) := by
      have h := HX0.out
      rw [HO.out] at h
      have h2 := chk_ok h
      have h3 := HN.out
      exact ⟨h2.1, h2.2.1, by omega, by omega, h2.2.2.2.2⟩
    obtain rfl : sn = en := HSE.out.2.2.1
    have hz4 : sn ≤ 4 := HSE.out.2.2.2.1
    obtain ⟨F, HF⟩ : ∃ F, Hid (F = W2.heap.size) := ⟨_, rfl⟩
    obtain ⟨W6, HW6⟩ : ∃ W6, Hid (W6 = (W2.alloc (.cells #[.slice none 0 0] 29)).alloc (.cells #[.bool true] 4)) := ⟨_, rfl⟩
    have hs1 : (W2.alloc (.cells #[.slice none 0 0] 29)).heap.size = W2.heap.size + 1 := by simp
    have hB6 : Below W2.heap.size W2 W6 := by rw [HW6.out]; exact ((Below.refl _ _).alloc (Nat.le_refl _) _).alloc (by simp) _
    have HB6 : Hid (Below w.heap.size w W6) := HB2.out.trans (hB6.mono HB2.out.size)
    have HF6 : Hid (W6.heap[F]? = some (.cells #[.slice none 0 0] 29 (0, 0))) := by
      show _ = _
      rw [HW6.out, HF.out, heap_alloc_old _ _ _ (by omega)]; exact heap_alloc_last _ _
    have HN6 : Hid (W6.heap[F + 1]? = some (.cells #[.bool true] 4 (0, 0))) := by
      show _ = _
      rw [HW6.out, HF.out, ← hs1]; exact heap_alloc_last _ _
    have HP6 : Hid (W6.heap[P]? = some (.cells Y 46 (0, 0))) := by show _ = _; rw [hB6.block P (lt_of_some HP2.out)]; exact HP2.out
    have HFw : Hid (w.heap.size ≤ F) := by show _ ≤ _; rw [HF.out]; exact HB2.out.size
    obtain ⟨r, HR⟩ : ∃ r, Hid (r = runF (brC o) (toN S) (toN E)) := ⟨_, rfl⟩
    obtain ⟨se, HSe⟩ : ∃ se : Int, Hid (se = if 1000000 < r.2.1 then 2 else 0) := ⟨_, rfl⟩
    have HSl : Hid ((toN S).length = sn) := by show _ = _; rw [toN, List.length_map, ← HN.out.2.1]
    have HEl : Hid ((toN E).length = sn) := by show _ = _; rw [toN, List.length_map, ← HN.out.2.2]
    have HCf : Hid (Calls Try.prog 16 #[.agg Y, .slice sa sn sc, .slice ea sn ec, .func (.func 18) #[] #[.pointer (some ⟨F + 1, 0, none⟩), .pointer (some ⟨F, 0, none⟩)]] W6 fun e w' => e = .returned (.int .i64 se) ∧ Hid (∃ B, RF (F + 1) F w' B r.2.2) ∧ Hid (Below w.heap.size w w')) := by
      have hr : r = if sn = 0 then ((fndO none []).1, 0, (fndO none []).2) else goF (toN S) (toN E) fndO 64 0 (ptD (toN S) 0) (brC o) (List.replicate sn []) 0 none := by
        rw [HR.out]; unfold runF; rw [HSl.out]; rfl
      have hlN := lt_of_some HN6.out
      have hlF := lt_of_some HF6.out
      rw [HYk.out, HSe.out]
      refine (families_at (RF.sta (F + 1) F) (lv := fun φ => φ = none) (fnd := fndO) (fun q => q = F + 1 ∨ q = F) none (brC o) sa ea sc ec sn 18 #[.pointer (some ⟨F + 1, 0, none⟩), .pointer (some ⟨F, 0, none⟩)] W6 (toN S) (toN E) hz4 HSl.out HEl.out (fun j hj => ?_) (fun q hq => ?_) ⟨hlN, hlF, fun q => absurd hlN (by have q' : W6.heap.size ≤ F + 1 := q; omega), fun q => absurd hlF (by have q' : W6.heap.size ≤ F := q; omega), HN6.out, HF6.out⟩ rfl ?_ ?_ (fun V hV hX hfv => end_first hV (F + 1) F (by omega) (fun q => by rw [hX]) hfv) r hr).mono ?_
      · have g1 := ptD_lt HSE.out.1 HSE.out.2.2.2.2.1 HSE.out.2.2.2.2.2 j
        have g2 := ptD_lt HSE.out.2.1 HSE.out.2.2.2.2.1 HSE.out.2.2.2.2.2 j
        exact ⟨g1.1, g1.2, g2.1, g2.2⟩
      · rcases hq with hq' | hq'
        · rw [hq']; exact hlN
        · rw [hq']; exact hlF
      · exact HS.out.psh HB6.out gw gh HSE.out.1 (fun q hq => ⟨Nat.lt_of_lt_of_le hq HB6.out.size, fun e => by
          have := HFw.out
          rcases e with e' | e' <;> omega⟩) sc sn HN.out.2.1 hsc
      · exact HE.out.psh HB6.out gw gh HSE.out.2.1 (fun q hq => ⟨Nat.lt_of_lt_of_le hq HB6.out.size, fun e => by
          have := HFw.out
          rcases e with e' | e' <;> omega⟩) ec sn HN.out.2.2 hec
      · rintro e w' ⟨rfl, B, hB, hF⟩
        refine ⟨rfl, ⟨B, hB.out⟩, ?_⟩
        have hso := (SmO.of HB6.out).trans hF.out.2.2
        exact ⟨hso.1, hso.2.1, hso.2.2, Nat.le_trans HB6.out.size hF.out.1, fun q hq => by
            rw [hF.out.2.1 q (Nat.lt_of_lt_of_le hq HB6.out.size) (fun e => by
              have := HFw.out
              rcases e with e' | e' <;> omega)]
            exact HB6.out.block q hq⟩
    clear hB6 hs1
    go_upto_region 6 with fail
    rw [← HF.out, ← HW6.out]
    go_upto_region 7 with (first | (refine wpList_load64 rfl (.tmp 8) rfl P Y rfl HP6.out HY6.out ?_) | (go_at_call 16; with_reducible (refine HCf.out.mono ?_); rintro e W7 ⟨rfl, HR7, HB7⟩))
    clear HCf
    have HYe3 : Hid (y = if 1000000 < r.2.1 then 2 else if r.2.2.isNone = true then 5 else 0) := by show _ = _; rw [HYe.out]; unfold fstE; rw [if_neg (by simp), ← HR.out]
    by_cases h6 : 1000000 < r.2.1
    · have hs2 : se = 2 := by rw [HSe.out, if_pos h6]
      have hy2 : y = 2 := by rw [HYe3.out, if_pos h6]
      have hk0 : tx = [] := by rw [HTx.out]; unfold fstL; rw [← HYe.out, hy2, if_neg (by omega)]
      subst hs2 hy2 hk0
      clear h6
      go_wp2_with fail
      go_ret2
      exact ⟨_, rfl, World.ownsRow_nil _ _ _ _, HB7⟩
    · have hs2 : se = 0 := by rw [HSe.out, if_neg h6]
      subst hs2
      obtain ⟨B, hB⟩ := HR7.out
      cases hr2 : r.2.2 with
      | none =>
        rw [hr2] at hB
        have hy2 : y = 5 := by rw [HYe3.out, if_neg h6, hr2]; rfl
        have hk0 : tx = [] := by rw [HTx.out]; unfold fstL; rw [← HYe.out, hy2, if_neg (by omega)]
        have c9 : W7.cell? ⟨F + 1, 0, none⟩ = some (.bool true) := by rw [cell_of_row W7 (F + 1) 0 _ _ _ hB.2.2.2.2.1]; rfl
        subst hy2 hk0
        clear h6 hr2 hB
        go_wp2_with fail
        go_ret2
        exact ⟨_, rfl, World.ownsRow_nil _ _ _ _, HB7⟩
      | some ty =>
        rw [hr2] at hB
        have hy2 : y = 0 := by rw [HYe3.out, if_neg h6, hr2]; rfl
        have hk0 : tx = ty := by rw [HTx.out]; unfold fstL; rw [← HYe.out, hy2, if_pos rfl, ← HR.out, hr2]; rfl
        obtain ⟨g1, g2, g3, g4, g5, v, g6, g7, g8⟩ := hB
        have c9 : W7.cell? ⟨F + 1, 0, none⟩ = some (.bool false) := by rw [cell_of_row W7 (F + 1) 0 _ _ _ g5]; rfl
        have c8 : W7.cell? ⟨F, 0, none⟩ = some v := by rw [cell_of_row W7 F 0 _ _ _ g6]; rfl
        subst hy2 hk0
        have HO7 : Hid (W7.ownsRow 0 9 1 v (tx.map strV).length (tx.map strV)) := g7
        obtain ⟨va, vn, vc, hvs⟩ : ∃ va vn vc, v = .slice va vn vc := by
          rcases g7.2 with ⟨hv, _⟩ | ⟨g, cap, cur, hv, _⟩
          · exact ⟨_, _, _, hv⟩
          · exact ⟨_, _, _, hv⟩
        subst hvs
        clear h6 hr2 g1 g2 g3 g4 g5 g6 g7 g8
        go_wp2_with fail
        go_ret2
        exact ⟨_, rfl, HO7, HB7⟩
  · have hyx : y = x := by rw [HYe.out]; unfold fstE; rw [if_pos hx0]
    have hk0 : tx = [] := by rw [HTx.out]; unfold fstL; rw [← HYe.out, hyx, if_neg hx0]
    subst hk0 hyx
    have hx' : (y == 0) = false := by simpa using hx0
    go_wp2_with fail
    go_ret2
    exact ⟨_, rfl, World.ownsRow_nil _ _ _ _, HB2⟩

end Go.Proofs.Ythdojdkghhmfcaa
