/-
  The contracts of cubes.isEdge, boxesOf, lay.
-/
import Derived.Test.YtniedfecmakhpaaDoorDLvl
namespace Go.Proofs.YtniedfecmakhpaaDoor
open Go.RowKit

theorem bool_and_iff {p : Prop} [Decidable p] {b : Bool} (h : b = true ↔ p) : b = decide p := by
  by_cases hp : p
  · rw [decide_eq_true hp]; exact h.2 hp
  · rw [decide_eq_false hp]; cases hb : b
    · rfl
    · exact absurd (h.1 hb) hp

set_option maxHeartbeats 2000000 in
theorem isEdge_at (s : ByteArray) (r c : Nat) (w : World) (hr : r ≤ 1000) (hc : c ≤ 1000) (hsz : s.size ≤ 9223372036854775807) :
    Calls Tryd.prog 23 #[.string s, .int .i64 (r : Int), .int .i64 (c : Int)] w fun e w' => e = .returned (.bool (decide (isE r c s.data.toList))) ∧ w' = w := by
  have HC : Hid (∀ (b : UInt8) (W : World), Calls Tryd.prog 22 #[.string s, .string ⟨#[b]⟩] W fun e w' => e = .returned (.int .i64 (s.data.toList.count b : Nat)) ∧ w' = W) := fun b W => Count_at s b W
  obtain ⟨u, HU⟩ : ∃ u, Hid (u = s.data.toList.count 85) := ⟨_, rfl⟩
  obtain ⟨v, HV⟩ : ∃ v, Hid (v = s.data.toList.count 82) := ⟨_, rfl⟩
  obtain ⟨L, HL⟩ : ∃ L, Hid (L = s.size) := ⟨_, rfl⟩
  have HLl : Hid (s.data.toList.length = L) := by show _ = _; rw [HL.out]; exact Array.length_toList
  have hu : u ≤ L := by rw [HU.out, ← HLl.out]; exact List.count_le_length
  have hv : v ≤ L := by rw [HV.out, ← HLl.out]; exact List.count_le_length
  have hL : L ≤ 9223372036854775807 := by rw [HL.out]; exact hsz
  have HCu := hid_w (HC.out 85 w)
  have HCv := hid_w (HC.out 82 w)
  rw [← HU.out] at HCu
  rw [← HV.out] at HCv
  have HE : Hid (isE r c s.data.toList ↔ L = r + c ∧ u = r ∧ v = c) := by show _ ↔ _; unfold isE; rw [HLl.out, HU.out, HV.out]
  clear HC
  have hsz2 : s.size = L := HL.out.symm
  by_cases h1 : L = r + c
  · have h1' : ((L : Int) == (r : Int) + (c : Int)) = true := by simp; omega
    by_cases h2 : u = r
    · have h2' : ((u : Int) == (r : Int)) = true := by simp; omega
      by_cases h3 : v = c
      · have h3' : ((v : Int) == (c : Int)) = true := by simp; omega
        rw [decide_eq_true (HE.out.2 ⟨h1, h2, h3⟩)]
        clear h1 h2 h3
        go_enter Tryd.func23, Tryd.ntmps23
        go_wp2_with fail
        refine HCu.out.mono ?_
        rintro e w1 ⟨rfl, rfl⟩
        go_wp2_with fail
        refine HCv.out.mono ?_
        rintro e w1 ⟨rfl, rfl⟩
        go_wp2
        go_ret
        exact ⟨rfl, rfl⟩
      · have h3' : ((v : Int) == (c : Int)) = false := by simp; omega
        rw [decide_eq_false (fun h => h3 (HE.out.1 h).2.2)]
        clear h1 h2 h3
        go_enter Tryd.func23, Tryd.ntmps23
        go_wp2_with fail
        refine HCu.out.mono ?_
        rintro e w1 ⟨rfl, rfl⟩
        go_wp2_with fail
        refine HCv.out.mono ?_
        rintro e w1 ⟨rfl, rfl⟩
        go_wp2
        go_ret
        exact ⟨rfl, rfl⟩
    · have h2' : ((u : Int) == (r : Int)) = false := by simp; omega
      rw [decide_eq_false (fun h => h2 (HE.out.1 h).2.1)]
      clear h1 h2
      go_enter Tryd.func23, Tryd.ntmps23
      go_wp2_with fail
      refine HCu.out.mono ?_
      rintro e w1 ⟨rfl, rfl⟩
      go_wp2
      go_ret
      exact ⟨rfl, rfl⟩
  · have h1' : ((L : Int) == (r : Int) + (c : Int)) = false := by simp; omega
    rw [decide_eq_false (fun h => h1 (HE.out.1 h).1)]
    clear h1
    go_enter Tryd.func23, Tryd.ntmps23
    go_wp2
    go_ret
    exact ⟨rfl, rfl⟩

def bq (s : List UInt8) (r i a : Nat) : Nat := (bxs 0 (s.take i)).getD (r - 1 - a) 0
theorem bxs_take {s : List UInt8} {i : Nat} (hi : i < s.length) : bxs 0 (s.take (i + 1)) = if s[i] = 82 then bxs 0 (s.take i) else bxs 0 (s.take i) ++ [(s.take i).count 82] := by
  rw [List.take_succ_eq_append_getElem hi, bxs_append]
  simp only [bxs]
  split
  · rw [List.append_nil]
  · rw [Nat.zero_add]
theorem bxs_takeLe (s : List UInt8) (i : Nat) : (bxs 0 (s.take i)).length ≤ (bxs 0 s).length := by
  have h := bxs_append (s.take i) (s.drop i) 0
  rw [List.take_append_drop] at h
  rw [h, List.length_append]; omega
theorem bo_bq {r c : Nat} {s : List UInt8} (h : isE r c s) {a : Nat} (ha : a < r) : bq s r s.length a = bo s a := by
  unfold bq bo
  rw [List.take_length]
  have hl := h.len
  have h1 : r - 1 - a < (bxs 0 s).length := by omega
  have h2 : a < (bxs 0 s).reverse.length := by rw [List.length_reverse]; omega
  rw [List.getD, List.getD, List.getElem?_eq_getElem h1, List.getElem?_eq_getElem h2]
  simp only [Option.getD_some, List.getElem_reverse]
  congr 1
  omega

set_option maxHeartbeats 2000000 in
theorem boxesOf_at (s : ByteArray) (r c : Nat) (w : World) (r1 : 1 ≤ r) (hr : r ≤ 100) (hc : c ≤ 100) (hE : isE r c s.data.toList) :
    Calls Tryd.prog 25 #[.string s, .int .i64 (r : Int)] w fun e w' => e = .returned (.slice (some ⟨w.heap.size, 0, none⟩) r r) ∧ Hid (Row w' w.heap.size r (bo s.data.toList)) ∧ Hid (Below w.heap.size w w') := by
  have HLl : Hid (s.data.toList.length = s.size) := Array.length_toList
  have HE : Hid (isE r c s.data.toList) := hE
  have hL : s.size ≤ 200 := by have := hE.1; rw [HLl.out] at this; omega
  clear hE
  have hmP : ∀ W, (Instr.makeSlice 33 (.int .i64 (r : Int)) (.int .i64 (r : Int))).run Tryd.prog W = .ok (.slice (some ⟨W.heap.size, 0, none⟩) r r) (W.alloc (.cells (madeCells #[Value.int .i64 0] r) 3)) := fun W =>
        run_make_row' (P := Tryd.prog) 33 3 (.int .i64 0) 8 Tryd.underlying33 (by kernel_rfl) rfl .i64 .i64 r (by omega) (by omega) W
  have HB0 : Hid (Below w.heap.size w (w.alloc (.cells (madeCells #[Value.int .i64 0] r) 3))) := (Below.refl _ _).alloc (Nat.le_refl _) _
  have HR0 : Hid (Row (w.alloc (.cells (madeCells #[Value.int .i64 0] r) 3)) w.heap.size r (bq s.data.toList r 0)) := (row_made (w := w) (n := r) (by omega)).congr (fun i _ => by
    unfold bq; simp [bxs])
  go_enter Tryd.func25, Tryd.ntmps25
  go_wp2_with fail
  clear hmP
  obtain ⟨X, HX⟩ : ∃ X, Hid (X = w.heap.size) := ⟨_, rfl⟩
  rw [← HX.out] at HR0 ⊢
  go_loopw [6, 7, 14] (fun g v q wr => ∃ i gg m : Nat, i ≤ s.size ∧ q = .int .i64 i ∧ g = .int .i64 gg ∧ v = .int .i64 ((r : Int) - (m : Int)) ∧ gg ≤ i ∧ Hid (gg = (s.data.toList.take i).count 82) ∧ Hid (m = (bxs 0 (s.data.toList.take i)).length) ∧ Hid (Row wr X r (bq s.data.toList r i)) ∧ Hid (Below w.heap.size w wr)) (fun _ _ q _ => s.size - (intOf q).toNat)
  case atStart => exact ⟨0, 0, 0, Nat.zero_le _, rfl, rfl, by first | rfl | go_num, Nat.le_refl _, rfl, rfl, HR0, HB0⟩
  case round =>
    clear HR0 HB0
    obtain ⟨i, gg, m, hi, rfl, rfl, rfl, hg, HG, HM, HR, HB⟩ := hrel
    by_cases hil : i < s.size
    · have hil' : (i : Int) < (s.size : Int) := by omega
      obtain ⟨c, hcc⟩ : ∃ c, c = s[i] := ⟨_, rfl⟩
      obtain ⟨x, HXc⟩ : ∃ x, Hid (x = c.toNat) := ⟨_, rfl⟩
      have hs0 : s[i].toNat = x := by rw [HXc.out, hcc]
      have hcb : x < 256 := by rw [HXc.out]; exact c.toNat_lt
      have hil2 : i < s.data.toList.length := by rw [HLl.out]; exact hil
      have hci : s.data.toList[i]'hil2 = c := by rw [hcc]; rfl
      have HT1 : Hid ((s.data.toList.take (i + 1)).count 82 = if c = 82 then gg + 1 else gg) := by
        show _ = _
        rw [List.take_succ_eq_append_getElem hil2, List.count_append, ← HG.out, hci]
        split
        · rename_i h; subst h; rfl
        · rename_i h; rw [List.count_singleton, if_neg (by simpa using h)]; rfl
      have HT2 : Hid (bxs 0 (s.data.toList.take (i + 1)) = if c = 82 then bxs 0 (s.data.toList.take i) else bxs 0 (s.data.toList.take i) ++ [gg]) := by
        show _ = _
        rw [bxs_take hil2, hci, ← HG.out]
      clear hci hil2
      by_cases h82 : c = 82
      · have hx82 : x = 82 := by rw [HXc.out, h82]; rfl
        subst hx82
        have HR3 : Hid (Row wr X r (bq s.data.toList r (i + 1))) := by
          have h := HR.out; unfold bq at h ⊢; rw [HT2.out, if_pos h82]; exact h
        have HG3 : Hid (gg + 1 = (s.data.toList.take (i + 1)).count 82) := by show _ = _; rw [HT1.out, if_pos h82]
        have HM3 : Hid (m = (bxs 0 (s.data.toList.take (i + 1))).length) := by show _ = _; rw [HT2.out, if_pos h82]; exact HM.out
        clear hcc
        go_wp2
        go_roundw
        case rel => exact ⟨i + 1, gg + 1, m, by omega, by go_num, by go_num, rfl, by omega, HG3, HM3, HR3, HB⟩
        case measure => simp [intOf]; omega
      · have hx82 : ((x : Int) == 82) = false := by
          have : x ≠ 82 := fun h => h82 (UInt8.toNat_inj.1 (by rw [← HXc.out, h]; rfl))
          simp; omega
        have HM3 : Hid (m + 1 = (bxs 0 (s.data.toList.take (i + 1))).length) := by show _ = _; rw [HT2.out, if_neg h82, List.length_append, ← HM.out]; rfl
        have hmr : m + 1 ≤ r := by rw [HM3.out, ← HE.out.len]; exact bxs_takeLe _ _
        have HG3 : Hid (gg = (s.data.toList.take (i + 1)).count 82) := by show _ = _; rw [HT1.out, if_neg h82]
        obtain ⟨q, HQ⟩ : ∃ q, Hid (q = r - 1 - m) := ⟨_, rfl⟩
        have hqe : (r : Int) - (m : Int) - 1 = (q : Int) := by have := HQ.out; omega
        have hqr : q < r := by have := HQ.out; omega
        have hqr' : (q : Int) < (r : Int) := by omega
        obtain ⟨cB, fB, hhi⟩ := HR.out.cell hqr
        have HR3 : Hid (∀ W : World, W.heap = wr.heap → Row (W.setCell ⟨X, q, none⟩ (.int .i64 (gg : Int))) X r (bq s.data.toList r (i + 1))) := fun W hW => by
          refine (HR.out.set q gg hW).congr (fun a ha => ?_)
          unfold bq
          rw [HT2.out, if_neg h82]
          by_cases e : a = q
          · rw [if_pos e, List.getD, List.getElem?_append_right (by rw [← HM.out, e, HQ.out]; omega), ← HM.out, show r - 1 - a - m = 0 by rw [e, HQ.out]; omega]; rfl
          · rw [if_neg e, List.getD, List.getD, List.getElem?_append]
            split
            · rfl
            · rename_i h
              rw [← HM.out] at h
              rw [List.getElem?_eq_none (by rw [← HM.out]; omega), List.getElem?_eq_none]
              have : r - 1 - a ≠ m := fun h2 => e (by rw [HQ.out]; omega)
              simp only [List.length_singleton]
              rw [← HM.out]; omega
        have HQw : Hid (w.heap.size ≤ X) := by show _ ≤ _; rw [HX.out]; exact Nat.le_refl _
        clear hcc
        go_wp2
        go_roundw
        case rel => exact ⟨i + 1, gg, m + 1, by omega, by go_num, rfl, by first | rfl | go_num | (congr 1; omega), by omega, HG3, HM3, HR3.out _ rfl, HB.out.setCell (p := ⟨X, q, none⟩) HQw.out _⟩
        case measure => simp [intOf]; omega
    · have hie : i = s.size := by omega
      subst hie
      have HT : Hid (Row wr X r (bo s.data.toList)) := HR.out.congr (fun a ha => by have := bo_bq HE.out ha; rw [HLl.out] at this; exact this)
      go_wp2
      go_ret
      refine ⟨?_, by rw [← HX.out]; exact HT, HB⟩
      rw [HX.out]
      rfl

def lyq (bx : Nat → Nat) (Q : Nat → Nat → Nat) (i j a b : Nat) : Nat := if (a < i ∧ b < bx a) ∨ (a = i ∧ b < j) then Q a b + 1 else Q a b

set_option maxHeartbeats 2000000 in
theorem lay_at (lo g X r c k : Nat) (gs bx : Nat → Nat) (Q : Nat → Nat → Nat) (w : World) (hr : Rec w lo g r c gs Q) (hx : Row w X r bx) (hX : ∀ i, i < r → gs i ≠ X) (r8 : r ≤ 100) (c8 : c ≤ 100) (hb : ∀ i, i < r → bx i ≤ c) (hQ : ∀ i, i < r → ∀ j, j < c → Q i j ≤ 1000) :
    Calls Tryd.prog 24 #[.slice (some ⟨g, 0, none⟩) r r, .slice (some ⟨X, 0, none⟩) r r, .int .i64 (k : Int)] w fun e w' => ((bad1 r k bx Q ∧ e = .returned (.bool false)) ∨ (¬ bad1 r k bx Q ∧ e = .returned (.bool true) ∧ Hid (Rec w' lo g r c gs (add1 bx Q)))) ∧ Hid (Below lo w w') := by
  have HX : Hid (∀ i, i < r → gs i ≠ X) := hX
  have HQ : Hid (∀ i, i < r → ∀ j, j < c → Q i j ≤ 1000) := hQ
  have HR0 : Hid (Rec w lo g r c gs (lyq bx Q 0 0)) := hr.congr (fun a _ b _ => by unfold lyq; rw [if_neg (by omega)])
  have HW0 : Hid (Row w X r bx) := hx
  have HBx : Hid (∀ i, i < r → bx i ≤ c) := hb
  clear hr hx hX hQ hb
  go_enter Tryd.func24, Tryd.ntmps24
  go_wp2
  go_loopw [12] (fun q wr => ∃ i : Nat, i ≤ r ∧ q = .int .i64 i ∧ Hid (Rec wr lo g r c gs (lyq bx Q i 0)) ∧ Hid (Row wr X r bx) ∧ Hid (Below lo w wr) ∧ Hid (∀ a, a < i → ∀ b, b < bx a → k ≤ Q a b)) (fun q _ => r - (intOf q).toNat)
  case atStart => exact ⟨0, Nat.zero_le _, rfl, HR0, HW0, Below.refl _ _, fun a h => absurd h (by omega)⟩
  case round =>
    clear HR0 HW0
    obtain ⟨i, hi, rfl, HR, HRw, HB, HK⟩ := hrel
    by_cases hil : i < r
    · have hil' : (i : Int) < (r : Int) := by omega
      obtain ⟨cX, -, -⟩ := HRw.out.cell hil
      obtain ⟨m, HM⟩ : ∃ m, Hid (m = bx i) := ⟨_, rfl⟩
      rw [← HM.out] at cX
      have hmc : m ≤ c := by rw [HM.out]; exact HBx.out i hil
      go_wp2
      clear cX
      go_loopw [18] (fun q wr => ∃ j : Nat, j ≤ m ∧ q = .int .i64 j ∧ Hid (Rec wr lo g r c gs (lyq bx Q i j)) ∧ Hid (Row wr X r bx) ∧ Hid (Below lo w wr) ∧ Hid (∀ b, b < j → k ≤ Q i b)) (fun q _ => m - (intOf q).toNat)
      case atStart => exact ⟨0, Nat.zero_le _, rfl, HR, HRw, HB, fun b h => absurd h (by omega)⟩
      case round =>
        clear HR HRw HB
        obtain ⟨j, hj, rfl, HR, HRw, HB, HJ⟩ := hrel
        by_cases hjl : j < m
        · have hjl' : (j : Int) < (m : Int) := by omega
          have hjc' : (j : Int) < (c : Int) := by omega
          have cR := HR.out.head (i := i) hil
          obtain ⟨cB, fB, hlo, hhi⟩ := HR.out.box (i := i) (j := j) hil (by omega)
          obtain ⟨y, HY⟩ : ∃ y, Hid (y = Q i j) := ⟨_, rfl⟩
          have hye : lyq bx Q i j i j = y := by rw [HY.out]; unfold lyq; rw [if_neg (by omega)]
          rw [hye] at cB
          have hy : y ≤ 1000 := by rw [HY.out]; exact HQ.out i hil j (by omega)
          clear hye
          obtain ⟨G, HG⟩ : ∃ G, Hid (G = gs i) := ⟨_, rfl⟩
          have HGX : Hid (G ≠ X) := by show _ ≠ _; rw [HG.out]; exact HX.out i hil
          have HR3 : Hid (∀ W : World, W.heap = wr.heap → Rec (W.setCell ⟨gs i, j, none⟩ (.int .i64 ((y : Int) + 1))) lo g r c gs (lyq bx Q i (j + 1))) := fun W hW => by
            have h2 := HR.out.set (j := j) hil (y + 1) hW
            rw [show ((y + 1 : Nat) : Int) = (y : Int) + 1 by omega] at h2
            refine h2.congr (fun a _ b _ => ?_)
            unfold upd
            by_cases e : a = i ∧ b = j
            · obtain ⟨rfl, rfl⟩ := e
              rw [if_pos ⟨rfl, rfl⟩, HY.out]; unfold lyq; rw [if_pos (by omega)]
            · rw [if_neg e]
              unfold lyq
              by_cases h4 : (a < i ∧ b < bx a) ∨ (a = i ∧ b < j)
              · rw [if_pos h4, if_pos (by omega)]
              · rw [if_neg h4, if_neg (by omega)]
          rw [← HG.out] at cR cB fB HR3 hlo hhi
          have HW3 : Hid (∀ v, Row (wr.setCell ⟨G, j, none⟩ v) X r bx) := fun v => ownsRow_blocks HRw.out (fun q e => by
            cases e; exact heap_setCell_other _ _ _ _ (fun e2 => HGX.out e2.symm))
          have HQw : Hid (lo ≤ G) := hlo
          by_cases hyk : y < k
          · have hyk' : (y : Int) < (k : Int) := by omega
            have HBad : Hid (bad1 r k bx Q) := ⟨i, hil, j, by rw [← HM.out]; exact hjl, by rw [← HY.out]; exact hyk⟩
            go_wp2
            go_ret
            exact ⟨Or.inl ⟨HBad.out, rfl⟩, HB⟩
          · have hyk' : ¬ (y : Int) < (k : Int) := by omega
            have HJ3 : Hid (∀ b, b < j + 1 → k ≤ Q i b) := fun b hb => by
              by_cases e : b = j
              · subst e; rw [← HY.out]; omega
              · exact HJ.out b (by omega)
            go_wp2
            go_roundw
            case rel => exact ⟨j + 1, by omega, by go_num, HR3.out _ rfl, HW3.out _, HB.out.setCell (p := ⟨G, j, none⟩) HQw.out _, HJ3⟩
            case measure => simp [intOf]; omega
        · obtain rfl : j = m := by omega
          have HR4 : Hid (Rec wr lo g r c gs (lyq bx Q (i + 1) 0)) := HR.out.congr (fun a _ b _ => by
            unfold lyq
            have e := HM.out
            by_cases h4 : (a < i ∧ b < bx a) ∨ (a = i ∧ b < j)
            · rw [if_pos h4, if_pos (by
                rcases h4 with h4 | ⟨h4, h5⟩
                · left; exact ⟨by omega, h4.2⟩
                · left; exact ⟨by omega, by rw [h4, ← e]; exact h5⟩)]
            · rw [if_neg h4, if_neg (by
                rintro (⟨h5, h6⟩ | ⟨h5, h6⟩)
                · by_cases e2 : a = i
                  · subst e2; rw [← e] at h6; exact h4 (Or.inr ⟨rfl, h6⟩)
                  · exact h4 (Or.inl ⟨by omega, h6⟩)
                · omega)])
          have HK3 : Hid (∀ a, a < i + 1 → ∀ b, b < bx a → k ≤ Q a b) := fun a ha b hb => by
            by_cases e : a = i
            · subst e; exact HJ.out b (by rw [HM.out]; exact hb)
            · exact HK.out a (by omega) b hb
          go_wp2
          go_roundw
          case rel => exact ⟨i + 1, by omega, by go_num, HR4, HRw, HB, HK3⟩
          case measure => simp [intOf]; omega
    · obtain rfl : i = r := by omega
      have HNb : Hid (¬ bad1 i k bx Q) := by
        rintro ⟨a, ha, b, hb, hq⟩
        have := HK.out a ha b hb
        omega
      have HRe : Hid (Rec wr lo g i c gs (add1 bx Q)) := HR.out.congr (fun a ha b _ => by
        unfold lyq add1
        by_cases h : b < bx a
        · rw [if_pos (Or.inl ⟨ha, h⟩), if_pos h]
        · rw [if_neg (by omega), if_neg h])
      go_wp2
      go_ret
      exact ⟨Or.inr ⟨HNb.out, rfl, HRe⟩, HB⟩

end Go.Proofs.YtniedfecmakhpaaDoor
