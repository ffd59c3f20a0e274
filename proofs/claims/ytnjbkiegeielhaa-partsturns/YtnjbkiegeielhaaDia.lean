/-
  The contract of ferref.Diagonal.
-/
import Derived.Test.YtnjbkiegeielhaaCnj
namespace Go.Proofs.Ytnjbkiegeielhaa
open Go.RowKit

def isR (q p : Int × Int) : Bool := p.1 == q.1 && decide (q.2 < p.2)
def isB (q p : Int × Int) : Bool := p.2 == q.2 && decide (q.1 < p.1)
def cR (q : Int × Int) (ps : List (Int × Int)) : Int := ((ps.countP (isR q) : Nat) : Int)
def cB (q : Int × Int) (ps : List (Int × Int)) : Int := ((ps.countP (isB q) : Nat) : Int)
def isD (p : Int × Int) : Bool := p.1 == p.2
theorem cR_append (q : Int × Int) (a b : List (Int × Int)) : cR q (a ++ b) = cR q a + cR q b := by unfold cR; rw [List.countP_append]; omega
theorem cB_append (q : Int × Int) (a b : List (Int × Int)) : cB q (a ++ b) = cB q a + cB q b := by unfold cB; rw [List.countP_append]; omega
theorem cR_one (q p : Int × Int) : cR q [p] = if isR q p = true then 1 else 0 := by unfold cR; rw [List.countP_cons]; by_cases h : isR q p = true <;> simp [h]
theorem cB_one (q p : Int × Int) : cB q [p] = if isB q p = true then 1 else 0 := by unfold cB; rw [List.countP_cons]; by_cases h : isB q p = true <;> simp [h]
theorem cR_bound (q : Int × Int) (ps : List (Int × Int)) : 0 ≤ cR q ps ∧ cR q ps ≤ ps.length := by
  unfold cR; have := List.countP_le_length (p := isR q) (l := ps); omega
theorem cB_bound (q : Int × Int) (ps : List (Int × Int)) : 0 ≤ cB q ps ∧ cB q ps ≤ ps.length := by
  unfold cB; have := List.countP_le_length (p := isB q) (l := ps); omega
def diagA (ps l : List (Int × Int)) : List Int := (l.filter isD).map fun q => cR q ps
def diagB (ps l : List (Int × Int)) : List Int := (l.filter isD).map fun q => cB q ps
theorem diag_snoc (ps l : List (Int × Int)) (q : Int × Int) : diagA ps (l ++ [q]) = diagA ps l ++ (if isD q = true then [cR q ps] else []) ∧ diagB ps (l ++ [q]) = diagB ps l ++ (if isD q = true then [cB q ps] else []) := by
  unfold diagA diagB
  rw [List.filter_append]
  by_cases h : isD q = true <;> simp [h]
theorem diag_len (ps l : List (Int × Int)) : (diagA ps l).length ≤ l.length ∧ (diagB ps l).length ≤ l.length := by
  have := List.length_filter_le isD l
  unfold diagA diagB; simp; omega

set_option maxRecDepth 100000 in
set_option maxHeartbeats 8000000 in
theorem Diagonal_any (a : Option Addr) (cap : Nat) (zs : List Int) (w : World) (hs : Shows w a zs) (hp : IsPart zs) (ps : List (Int × Int)) (HPS : Hid (ps = boxes zs)) (hbl : Hid (ps.length ≤ 1600)) (hsm : Hid (∀ p ∈ ps, 0 ≤ p.1 ∧ p.1 ≤ 100 ∧ 0 ≤ p.2 ∧ p.2 ≤ 100)) :
    Calls Try.prog 12 #[.slice a zs.length cap] w fun e w' => ∃ v u, e = .returned (.tuple #[v, u]) ∧ Owns w' w.heap.size v (diagA ps ps) ∧ Owns w' w.heap.size u (diagB ps ps) ∧ Below w.heap.size w w' := by
  have hl := hp.len
  go_enter Try.func12, Try.ntmps12
  go_wp2_with fail
  refine (Boxes_any _ _ _ _ hs (fun z hz => by have := hp.range z hz; omega) hl).mono ?_
  rintro e w1 ⟨vb, rfl, hown, hb1⟩
  rw [← HPS.out] at hown
  have HB1 : Hid (Below w.heap.size w w1) := hb1
  have hpl := hbl.out
  obtain ⟨av, cv, rfl, hsv⟩ := hown.shows
  clear hown hb1
  go_wp2_with fail
  go_loopw [2, 3, 5] (fun v u i wr => ∃ k : Nat, k ≤ ps.length ∧ i = .int .i64 k ∧ Hid (Owns wr w1.heap.size v (diagA ps (ps.take k))) ∧ Hid (Owns wr w1.heap.size u (diagB ps (ps.take k))) ∧ Hid (Apart v u) ∧ Hid (Below w1.heap.size w1 wr)) (fun _ _ i _ => ps.length - (intOf i).toNat)
  case atStart => exact ⟨0, Nat.zero_le _, rfl, World.ownsRow_nil _ _ _ _, World.ownsRow_nil _ _ _ _, apart_nil _, Below.refl _ _⟩
  case round =>
    obtain ⟨k, hk, rfl, HV, HU, HAp, HB⟩ := hrel
    by_cases hlt : k < ps.length
    · have hltI : (k : Int) < (ps.length : Int) := by omega
      obtain ⟨g, x, y, rfl, HXY, hc1, hc2⟩ := (hsv.below HB.out).elem hlt
      have hmem := hsm.out (ps.getD k (0, 0)) (by simp [List.getD, List.getElem?_eq_getElem hlt])
      rw [HXY.out] at hmem
      simp only [] at hmem
      have hds := diag_snoc ps (ps.take k) (x, y)
      rw [← HXY.out, ← take_snoc2 ps k hlt, HXY.out] at hds
      have HDS : Hid _ := hds
      clear hds
      by_cases hxy : x = y
      · subst hxy
        have hdl := diag_len ps (ps.take k)
        rw [List.length_take] at hdl
        have HDL : Hid _ := hdl
        clear hdl
        have hdt : Hid (isD (x, x) = true) := by show isD (x, x) = true; simp [isD]
        go_wp2_with fail
        go_quiet (fail)
        go_wp2_with fail
        go_loopw [6, 7, 8] (fun c d i wq => ∃ (j : Nat) (cc dd : Int), j ≤ ps.length ∧ i = .int .i64 j ∧ c = .int .i64 cc ∧ d = .int .i64 dd ∧ 0 ≤ cc ∧ cc ≤ j ∧ 0 ≤ dd ∧ dd ≤ j ∧ Hid (cc = cR (x, x) (ps.take j)) ∧ Hid (dd = cB (x, x) (ps.take j)) ∧ ∃ n, wq = wr.drewN n) (fun _ _ i _ => ps.length - (intOf i).toNat)
        case atStart => exact ⟨0, 0, 0, Nat.zero_le _, rfl, rfl, rfl, by omega, by omega, by omega, by omega, rfl, rfl, _, rfl⟩
        case round =>
          obtain ⟨j, cc, dd, hj, rfl, rfl, rfl, hcc0, hcc1, hdd0, hdd1, HC, HD, n, rfl⟩ := hrel
          by_cases hjl : j < ps.length
          · have hjI : (j : Int) < (ps.length : Int) := by omega
            obtain ⟨g', p, q, hgg, HPQ, hp1, hp2⟩ := (hsv.below HB.out).elem hjl
            simp only [Option.some.injEq, Addr.mk.injEq, and_true] at hgg
            subst hgg
            have hCn : Hid (cR (x, x) (ps.take (j + 1)) = cc + if p = x ∧ x < q then 1 else 0) := by
              show _ = _
              rw [take_snoc2 ps j hjl, cR_append, cR_one, HPQ.out, ← HC.out]
              by_cases h : p = x ∧ x < q
              · rw [if_pos h, if_pos (by simp [isR, h.1, h.2])]
              · rw [if_neg h, if_neg (by simp [isR]; intro h1; have : ¬ (x < q) := fun h2 => h ⟨h1, h2⟩; omega)]
            have hDn : Hid (cB (x, x) (ps.take (j + 1)) = dd + if q = x ∧ x < p then 1 else 0) := by
              show _ = _
              rw [take_snoc2 ps j hjl, cB_append, cB_one, HPQ.out, ← HD.out]
              by_cases h : q = x ∧ x < p
              · rw [if_pos h, if_pos (by simp [isB, h.1, h.2])]
              · rw [if_neg h, if_neg (by simp [isB]; intro h1; have : ¬ (x < p) := fun h2 => h ⟨h1, h2⟩; omega)]
            by_cases e1 : p = x
            · by_cases e2 : q = x
              · have b1 : (p == x) = true := beq_iff_eq.2 e1
                have b2 : (q == x) = true := beq_iff_eq.2 e2
                have d1 : decide (x < q) = false := by simp; omega
                have d2 : decide (x < p) = false := by simp; omega
                have f1 : Hid (cc = cR (x, x) (ps.take (j + 1))) := by show _ = _; rw [hCn.out, if_neg (by omega)]; omega
                have f2 : Hid (dd = cB (x, x) (ps.take (j + 1))) := by show _ = _; rw [hDn.out, if_neg (by omega)]; omega
                clear e1 e2 hCn hDn
                go_wp2_with fail
                go_quiet (fail)
                go_wp2_with fail
                go_quiet (fail)
                go_wp2
                go_roundw
                case rel => exact ⟨j + 1, cc, dd, by omega, by go_num, rfl, rfl, by omega, by omega, by omega, by omega, f1, f2, _, by first | exact rfl | exact drewN_two _ _ _⟩
                case measure => simp [intOf] <;> omega
              · by_cases e3 : x < q
                · have b1 : (p == x) = true := beq_iff_eq.2 e1
                  have b2 : (q == x) = false := beq_eq_false_iff_ne.2 e2
                  have f1 : Hid (cc + 1 = cR (x, x) (ps.take (j + 1))) := by show _ = _; rw [hCn.out, if_pos (by omega)]
                  have f2 : Hid (dd = cB (x, x) (ps.take (j + 1))) := by show _ = _; rw [hDn.out, if_neg (by omega)]; omega
                  clear e1 e2 hCn hDn
                  go_wp2_with fail
                  go_quiet (fail)
                  go_wp2_with fail
                  go_quiet (fail)
                  go_wp2
                  go_roundw
                  case rel => exact ⟨j + 1, cc + 1, dd, by omega, by go_num, by go_num, rfl, by omega, by omega, by omega, by omega, f1, f2, _, by first | exact rfl | exact drewN_two _ _ _⟩
                  case measure => simp [intOf] <;> omega
                · have b1 : (p == x) = true := beq_iff_eq.2 e1
                  have b2 : (q == x) = false := beq_eq_false_iff_ne.2 e2
                  have d1 : decide (x < q) = false := by simp; omega
                  have f1 : Hid (cc = cR (x, x) (ps.take (j + 1))) := by show _ = _; rw [hCn.out, if_neg (by omega)]; omega
                  have f2 : Hid (dd = cB (x, x) (ps.take (j + 1))) := by show _ = _; rw [hDn.out, if_neg (by omega)]; omega
                  clear e1 e2 hCn hDn
                  go_wp2_with fail
                  go_quiet (fail)
                  go_wp2_with fail
                  go_quiet (fail)
                  go_wp2
                  go_roundw
                  case rel => exact ⟨j + 1, cc, dd, by omega, by go_num, rfl, rfl, by omega, by omega, by omega, by omega, f1, f2, _, by first | exact rfl | exact drewN_two _ _ _⟩
                  case measure => simp [intOf] <;> omega
            · by_cases e2 : q = x
              · by_cases e3 : x < p
                · have b1 : (p == x) = false := beq_eq_false_iff_ne.2 e1
                  have b2 : (q == x) = true := beq_iff_eq.2 e2
                  have f1 : Hid (cc = cR (x, x) (ps.take (j + 1))) := by show _ = _; rw [hCn.out, if_neg (by omega)]; omega
                  have f2 : Hid (dd + 1 = cB (x, x) (ps.take (j + 1))) := by show _ = _; rw [hDn.out, if_pos (by omega)]
                  clear e1 e2 hCn hDn
                  go_wp2_with fail
                  go_quiet (fail)
                  go_wp2_with fail
                  go_quiet (fail)
                  go_wp2
                  go_roundw
                  case rel => exact ⟨j + 1, cc, dd + 1, by omega, by go_num, rfl, by go_num, by omega, by omega, by omega, by omega, f1, f2, _, by first | exact rfl | exact drewN_two _ _ _⟩
                  case measure => simp [intOf] <;> omega
                · have b1 : (p == x) = false := beq_eq_false_iff_ne.2 e1
                  have b2 : (q == x) = true := beq_iff_eq.2 e2
                  have d2 : decide (x < p) = false := by simp; omega
                  have f1 : Hid (cc = cR (x, x) (ps.take (j + 1))) := by show _ = _; rw [hCn.out, if_neg (by omega)]; omega
                  have f2 : Hid (dd = cB (x, x) (ps.take (j + 1))) := by show _ = _; rw [hDn.out, if_neg (by omega)]; omega
                  clear e1 e2 hCn hDn
                  go_wp2_with fail
                  go_quiet (fail)
                  go_wp2_with fail
                  go_quiet (fail)
                  go_wp2
                  go_roundw
                  case rel => exact ⟨j + 1, cc, dd, by omega, by go_num, rfl, rfl, by omega, by omega, by omega, by omega, f1, f2, _, by first | exact rfl | exact drewN_two _ _ _⟩
                  case measure => simp [intOf] <;> omega
              · have b1 : (p == x) = false := beq_eq_false_iff_ne.2 e1
                have b2 : (q == x) = false := beq_eq_false_iff_ne.2 e2
                have f1 : Hid (cc = cR (x, x) (ps.take (j + 1))) := by show _ = _; rw [hCn.out, if_neg (by omega)]; omega
                have f2 : Hid (dd = cB (x, x) (ps.take (j + 1))) := by show _ = _; rw [hDn.out, if_neg (by omega)]; omega
                clear e1 e2 hCn hDn
                go_wp2_with fail
                go_quiet (fail)
                go_wp2_with fail
                go_quiet (fail)
                go_wp2
                go_roundw
                case rel => exact ⟨j + 1, cc, dd, by omega, by go_num, rfl, rfl, by omega, by omega, by omega, by omega, f1, f2, _, by first | exact rfl | exact drewN_two _ _ _⟩
                case measure => simp [intOf] <;> omega
          · obtain rfl : j = ps.length := by omega
            rw [List.take_length] at HC HD
            obtain ⟨W0, hW0⟩ : ∃ W0, W0 = wr.drewN n := ⟨_, rfl⟩
            have hbw : Below wr.heap.size wr W0 := by rw [hW0]; exact below_drewN (Below.refl _ _) n
            have HV0 : Hid (Owns W0 w1.heap.size u2 (diagA ps (ps.take k))) := HV.out.below hbw
            have HU0 : Hid (Owns W0 w1.heap.size u3 (diagB ps (ps.take k))) := HU.out.below hbw
            have HB0 : Hid (Below w1.heap.size w1 W0) := HB.out.trans (hbw.mono HB.out.size)
            have hsz0 := HB0.out.size
            have hdj : decide ((ps.length : Int) < (ps.length : Int)) = false := by simp
            rw [← hW0]
            clear hW0 hbw
            go_wp2_with (at_builtin; refine append_int_own (x := cc) rfl _ _ rfl rfl HV0.out rfl ?c1 ?c2 ?_)
            case c1 => have := HDL.out; omega
            case c2 => exact hsz0
            intro v' w2 hown2 hb2 hkp2
            obtain ⟨hu2, hap2⟩ := hkp2 _ _ HU0.out HAp.out
            have HV2 : Hid (Owns w2 w1.heap.size v' (diagA ps (ps.take (k + 1)))) := by
              show Owns _ _ _ _
              rw [HDS.out.1, if_pos hdt.out, ← HC.out]; exact hown2
            have HU2 : Hid _ := hu2
            have HAp2 : Hid _ := hap2
            have HB2 : Hid (Below w1.heap.size w1 w2) := HB0.out.trans hb2
            have hsz2 := HB2.out.size
            clear hown2 hb2 hkp2 hu2 hap2
            go_wp2_with (at_builtin; refine append_int_own (x := dd) rfl _ _ rfl rfl HU2.out rfl ?d1 ?d2 ?_)
            case d1 => have := HDL.out; omega
            case d2 => exact hsz2
            intro u' w3 hown3 hb3 hkp3
            obtain ⟨hv3, hap3⟩ := hkp3 _ _ HV2.out (Apart.symm HAp2.out)
            have HU3 : Hid (Owns w3 w1.heap.size u' (diagB ps (ps.take (k + 1)))) := by
              show Owns _ _ _ _
              rw [HDS.out.2, if_pos hdt.out, ← HD.out]; exact hown3
            have HV3 : Hid _ := hv3
            have HAp3 : Hid _ := hap3
            have HB3 : Hid (Below w1.heap.size w1 w3) := HB2.out.trans hb3
            clear hown3 hb3 hkp3 hv3 hap3
            go_wp2
            go_roundw
            case rel => exact ⟨k + 1, by omega, by go_num, HV3, HU3, Apart.symm HAp3.out, HB3⟩
            case measure => simp [intOf] <;> omega
      · have hbn : (x != y) = true := bne_iff_ne.2 hxy
        have hdf : Hid (isD (x, y) ≠ true) := by show isD (x, y) ≠ true; simp [isD, hxy]
        have HV3 : Hid (Owns wr w1.heap.size u2 (diagA ps (ps.take (k + 1)))) := by
          show Owns _ _ _ _
          rw [HDS.out.1, if_neg hdf.out, List.append_nil]; exact HV.out
        have HU3 : Hid (Owns wr w1.heap.size u3 (diagB ps (ps.take (k + 1)))) := by
          show Owns _ _ _ _
          rw [HDS.out.2, if_neg hdf.out, List.append_nil]; exact HU.out
        clear hxy
        go_wp2_with fail
        go_quiet (fail)
        go_wp2
        go_roundw
        case rel => exact ⟨k + 1, by omega, by go_num, HV3.out.below (below_drewN (Below.refl _ _) _), HU3.out.below (below_drewN (Below.refl _ _) _), HAp, below_drewN HB.out _⟩
        case measure => simp [intOf] <;> omega
    · obtain rfl : k = ps.length := by omega
      rw [List.take_length] at HV HU
      go_wp2
      go_ret2
      exact ⟨_, _, rfl, HV.out.mono HB1.out.size, HU.out.mono HB1.out.size, HB1.out.trans (HB.out.mono HB1.out.size)⟩

#print axioms Diagonal_any
end Go.Proofs.Ytnjbkiegeielhaa
