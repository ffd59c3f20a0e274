/-
  The contract of cubes.FromPaths.
-/
import Derived.Test.YtniedfecmakhpaaDoorDLay
import Derived.Deep.QuietTactic
namespace Go.Proofs.YtniedfecmakhpaaDoor
open Go.RowKit

/-- a list of texts that came in -/
structure Txs (w : World) (a : Option Addr) (ss : List ByteArray) : Prop where
  len : ss.length ≤ 9223372036854775807
  at_ : ∀ i, i < ss.length → ∃ b off, a = some ⟨b, off, none⟩ ∧ b < w.heap.size ∧ w.cell? ⟨b, off + i, none⟩ = some (.string (ss.getD i ⟨#[]⟩)) ∧ (ss.getD i ⟨#[]⟩).size ≤ 9223372036854775807
theorem Txs.below {w w' : World} {a : Option Addr} {ss : List ByteArray} (h : Txs w a ss) (hb : Below w.heap.size w w') : Txs w' a ss :=
  ⟨h.len, fun i hi => by
    obtain ⟨b, off, h1, h2, h3, h4⟩ := h.at_ i hi
    exact ⟨b, off, h1, Nat.lt_of_lt_of_le h2 hb.size, (hb.cell (p := ⟨b, off + i, none⟩) h2).trans h3, h4⟩⟩

theorem Count_q (s : ByteArray) (c : UInt8) (w : World) : Calls Tryd.prog 22 #[.string s, .string ⟨#[c]⟩] w fun e w' => e = .returned (.int .i64 (s.data.toList.count c : Nat)) ∧ ∃ n, w' = w.drewN n :=
  (Count_at s c w).mono (by rintro e w' ⟨rfl, rfl⟩; exact ⟨rfl, 0, rfl⟩)

def fpR (ss : List ByteArray) : Nat := (ss.getD 0 ⟨#[]⟩).data.toList.count 85
def fpK (ss : List ByteArray) : Nat := (ss.getD 0 ⟨#[]⟩).data.toList.count 82
def byL (ss : List ByteArray) : List (List UInt8) := ss.map fun s => s.data.toList
noncomputable def fpC (ss : List ByteArray) : Int := if ¬ sides [(ss.length : Int)] then 1 else if ¬ sides [(fpR ss : Int), (fpK ss : Int)] then 1 else (frm (fpR ss) (fpK ss) 0 (fun _ _ => 0) (byL ss)).1
noncomputable def fpP (ss : List ByteArray) : Nat → Nat → Nat := (frm (fpR ss) (fpK ss) 0 (fun _ _ => 0) (byL ss)).2

theorem byL_drop {ss : List ByteArray} {i : Nat} (hi : i < ss.length) : (byL ss).drop i = (ss.getD i ⟨#[]⟩).data.toList :: (byL ss).drop (i + 1) := by
  unfold byL
  rw [List.drop_eq_getElem_cons (by simpa using hi)]
  simp [List.getD, List.getElem?_eq_getElem hi]

set_option maxHeartbeats 1000000 in
theorem FromPaths_at (a : Option Addr) (n cap : Nat) (ss : List ByteArray) (w : World) (hs : Txs w a ss) (hn : n = ss.length) :
    Calls Tryd.prog 8 #[.slice a n cap] w fun e w' => ∃ v, e = .returned (.tuple #[v, .int .i64 (fpC ss)]) ∧ Hid (fpC ss = 0 → Tbl w' w.heap.size v (tb (fpR ss) (fpK ss) (fpP ss))) ∧ Hid (fpC ss ≠ 0 → v = .slice none 0 0) ∧ Hid (Below w.heap.size w w') := by
  subst hn
  have hl := hs.len
  have HS : Hid (Txs w a ss) := hs
  clear hs
  have HSL1 : Hid (Shows (w.alloc (.cells #[.int .i64 (ss.length : Int)] 3)) (some ⟨w.heap.size, 0, none⟩) [(ss.length : Int)]) := shows_lit w [(ss.length : Int)] _ rfl (by simp) (by simp; omega)
  have HB1 : Hid (Below w.heap.size w (w.alloc (.cells #[.int .i64 (ss.length : Int)] 3))) := (Below.refl _ _).alloc (Nat.le_refl _) _
  by_cases hA : sides [(ss.length : Int)]
  · have HA : Hid (decide (sides [(ss.length : Int)]) = true) := decide_eq_true hA
    have HAs : Hid (sides [(ss.length : Int)]) := hA
    have hl8 : 1 ≤ (ss.length : Int) ∧ (ss.length : Int) ≤ 8 := (sides1 _).1 hA
    clear hA hl
    have hl0 : (0 : Int) < (ss.length : Int) := by omega
    obtain ⟨b, off, rfl, -, hc0, hz0⟩ := (HS.out.below HB1.out).at_ 0 (by omega)
    rw [Nat.add_zero] at hc0
    obtain ⟨s0, HS0⟩ : ∃ s0, Hid (s0 = ss.getD 0 ⟨#[]⟩) := ⟨_, rfl⟩
    rw [← HS0.out] at hc0 hz0
    obtain ⟨r, HRr⟩ : ∃ r, Hid (r = fpR ss) := ⟨_, rfl⟩
    obtain ⟨c, HCc⟩ : ∃ c, Hid (c = fpK ss) := ⟨_, rfl⟩
    have HRe : Hid (List.count 85 s0.data.toList = r) := by show _ = _; rw [HRr.out, HS0.out]; rfl
    have HCe : Hid (List.count 82 s0.data.toList = c) := by show _ = _; rw [HCc.out, HS0.out]; rfl
    have hrb : r ≤ 9223372036854775807 := by rw [← HRe.out]; have h := List.count_le_length (a := 85) (l := s0.data.toList); rw [show s0.data.toList.length = s0.size from Array.length_toList] at h; omega
    have hcb : c ≤ 9223372036854775807 := by rw [← HCe.out]; have h := List.count_le_length (a := 82) (l := s0.data.toList); rw [show s0.data.toList.length = s0.size from Array.length_toList] at h; omega
    go_enter Tryd.func8, Tryd.ntmps8
    go_wp2_with fail
    refine (areSides_at _ _ _ _ _ HSL1.out rfl).mono ?_
    rintro e w1 ⟨rfl, rfl⟩
    rw [HA.out]
    go_wp2_with fail
    go_quiet ((go_at_call 22; exact Calls.quiet_of_same (Count_at s0 _ _)))
    rw [HRe.out, HCe.out]
    have HBq : Hid (Below w.heap.size w ((w.alloc (.cells #[.int .i64 (ss.length : Int)] 3)).drewN nq)) := below_drewN HB1.out nq
    obtain ⟨w1, HW1⟩ : ∃ w1, Hid (w1 = (w.alloc (.cells #[.int .i64 (ss.length : Int)] 3)).drewN nq) := ⟨_, rfl⟩
    rw [← HW1.out] at HBq ⊢
    clear hc0 HB1 HSL1 HA HW1
    have HSL2 : Hid (Shows (w1.alloc (.cells #[.int .i64 (r : Int), .int .i64 (c : Int)] 3)) (some ⟨w1.heap.size, 0, none⟩) [(r : Int), (c : Int)]) := shows_lit w1 [(r : Int), (c : Int)] _ rfl (by simp) (by simp; omega)
    have HB2 : Hid (Below w.heap.size w (w1.alloc (.cells #[.int .i64 (r : Int), .int .i64 (c : Int)] 3))) := HBq.out.trans (((Below.refl _ _).alloc (Nat.le_refl _) _).mono HBq.out.size)
    by_cases hD : sides [(r : Int), (c : Int)]
    · have HD : Hid (decide (sides [(r : Int), (c : Int)]) = true) := decide_eq_true hD
      have hrc := (sides2 _ _).1 hD
      have HFc : Hid (fpC ss = (frm r c 0 (fun _ _ => 0) (byL ss)).1) := by show _ = _; unfold fpC; rw [if_neg (not_not_intro HAs.out), ← HRr.out, ← HCc.out, if_neg (not_not_intro hD)]
      have HFp : Hid (fpP ss = (frm r c 0 (fun _ _ => 0) (byL ss)).2) := by show _ = _; unfold fpP; rw [← HRr.out, ← HCc.out]
      clear hD hrb hcb
      go_wp2_with fail
      refine (areSides_at _ _ _ _ _ HSL2.out rfl).mono ?_
      rintro e w2 ⟨rfl, rfl⟩
      rw [HD.out]
      obtain ⟨w2, HW2⟩ : ∃ w2, Hid (w2 = w1.alloc (.cells #[.int .i64 (r : Int), .int .i64 (c : Int)] 3)) := ⟨_, rfl⟩
      rw [← HW2.out] at HB2 ⊢
      clear HW2 HSL2 HD HBq
      go_wp2_with fail
      refine (empty_at r c w2 (by omega) (by omega) (by omega)).mono ?_
      rintro e w3 ⟨gs, rfl, HR, HB3⟩
      obtain ⟨R, HRR⟩ : ∃ R, Hid (R = w2.heap.size) := ⟨_, rfl⟩
      rw [← HRR.out] at HR ⊢
      have HB4 : Hid (Below w.heap.size w w3) := HB2.out.trans (HB3.out.mono HB2.out.size)
      have HRw : Hid (w.heap.size ≤ R) := by show _ ≤ _; rw [HRR.out]; exact HB2.out.size
      clear HB2 HB3 HRR
      go_wp2
      go_loopw [32] (fun q wr => ∃ (i : Nat) (Q : Nat → Nat → Nat), i ≤ ss.length ∧ q = .int .i64 i ∧ Hid (Rec wr R R r c gs Q) ∧ Hid (Below w.heap.size w wr) ∧ Hid (frm r c i Q ((byL ss).drop i) = frm r c 0 (fun _ _ => 0) (byL ss)) ∧ Hid (∀ a, a < r → ∀ b, b < c → Q a b ≤ i)) (fun q _ => ss.length - (intOf q).toNat)
      case atStart => exact ⟨0, _, Nat.zero_le _, rfl, HR, HB4, rfl, fun _ _ _ _ => Nat.zero_le _⟩
      case round =>
        clear HR HB4
        obtain ⟨i, Q, hi, rfl, HR, HB, HF, HQ⟩ := hrel
        by_cases hil : i < ss.length
        · have hil' : (i : Int) < (ss.length : Int) := by omega
          obtain ⟨b9, off9, e9, -, hci, hzi⟩ := (HS.out.below HB.out).at_ i hil
          simp only [Option.some.injEq, Addr.mk.injEq, and_true] at e9
          obtain ⟨rfl, rfl⟩ := e9
          obtain ⟨s, HSs⟩ : ∃ s, Hid (s = ss.getD i ⟨#[]⟩) := ⟨_, rfl⟩
          rw [← HSs.out] at hci hzi
          have HF2 : Hid (frm r c i Q (s.data.toList :: (byL ss).drop (i + 1)) = frm r c 0 (fun _ _ => 0) (byL ss)) := by
            have h := HF.out; rw [byL_drop hil, ← HSs.out] at h; exact h
          have HIs : Hid (Calls Tryd.prog 23 #[.string s, .int .i64 (r : Int), .int .i64 (c : Int)] wr fun e w' => e = .returned (.bool (decide (isE r c s.data.toList))) ∧ w' = wr) := isEdge_at s r c wr (by omega) (by omega) hzi
          clear HF hzi
          by_cases hE : isE r c s.data.toList
          · rw [decide_eq_true hE] at HIs
            have HE : Hid (isE r c s.data.toList) := hE
            have HBx : Hid (Calls Tryd.prog 25 #[.string s, .int .i64 (r : Int)] wr fun e w' => e = .returned (.slice (some ⟨wr.heap.size, 0, none⟩) r r) ∧ Hid (Row w' wr.heap.size r (bo s.data.toList)) ∧ Hid (Below wr.heap.size wr w')) := boxesOf_at s r c wr (by omega) (by omega) (by omega) hE
            clear hE
            go_wp2_with fail
            refine HIs.out.mono ?_
            rintro e w5 ⟨rfl, hw5⟩
            obtain rfl : wr = w5 := hw5.symm
            clear HIs hci hw5
            go_wp2_with fail
            refine HBx.out.mono ?_
            rintro e w6 ⟨rfl, HX, HB6⟩
            clear HBx
            have HLy : Hid (Calls Tryd.prog 24 #[.slice (some ⟨R, 0, none⟩) r r, .slice (some ⟨wr.heap.size, 0, none⟩) r r, .int .i64 (i : Int)] w6 fun e w' => ((bad1 r i (bo s.data.toList) Q ∧ e = .returned (.bool false)) ∨ (¬ bad1 r i (bo s.data.toList) Q ∧ e = .returned (.bool true) ∧ Hid (Rec w' R R r c gs (add1 (bo s.data.toList) Q)))) ∧ Hid (Below R w6 w')) :=
              lay_at R R wr.heap.size r c i gs (bo s.data.toList) Q w6 (HR.out.below HB6.out) HX.out (fun a ha e => by
                have := (HR.out.box (i := a) (j := 0) ha (by omega)).2.2.2
                omega) (by omega) (by omega) (fun a _ => bo_le HE.out a) (fun a ha b hb => by have := HQ.out a ha b hb; omega)
            have HB7 : Hid (Below w.heap.size w w6) := HB.out.trans (HB6.out.mono HB.out.size)
            clear HX HB6 HR HB
            go_wp2_with fail
            refine HLy.out.mono ?_
            rintro e w7 ⟨hcase, HB8⟩
            have HB9 : Hid (Below w.heap.size w w7) := HB7.out.trans (HB8.out.mono HRw.out)
            clear HLy HB7 HB8
            rcases hcase with ⟨hbad, rfl⟩ | ⟨hnb, rfl, HR7⟩
            · have HN : Hid (fpC ss = 3) := by
                show _ = _
                rw [HFc.out, ← HF2.out]; unfold frm; rw [if_neg (not_not_intro HE.out), if_pos hbad]
              clear hbad
              go_wp2
              go_ret2
              exact ⟨_, by rw [HN.out]; rfl, fun h => absurd (HN.out.symm.trans h) (by decide), fun _ => rfl, HB9⟩
            · have HF3 : Hid (frm r c (i + 1) (add1 (bo s.data.toList) Q) ((byL ss).drop (i + 1)) = frm r c 0 (fun _ _ => 0) (byL ss)) := by
                show _ = _
                rw [← HF2.out]; conv => rhs; unfold frm
                rw [if_neg (not_not_intro HE.out), if_neg hnb]
              have HQ3 : Hid (∀ a, a < r → ∀ b, b < c → add1 (bo s.data.toList) Q a b ≤ i + 1) := fun a ha b hb => by
                have := HQ.out a ha b hb
                unfold add1; split <;> omega
              clear hnb
              go_wp2
              go_roundw
              case rel => exact ⟨i + 1, _, by omega, by go_num, HR7, HB9, HF3, HQ3⟩
              case measure => simp [intOf]; omega
          · rw [decide_eq_false hE] at HIs
            have HN : Hid (fpC ss = 1) := by
              show _ = _
              rw [HFc.out, ← HF2.out]; unfold frm; rw [if_pos hE]
            clear hE
            go_wp2_with fail
            refine HIs.out.mono ?_
            rintro e w5 ⟨rfl, rfl⟩
            go_wp2
            go_ret2
            exact ⟨_, by rw [HN.out]; rfl, fun h => absurd (HN.out.symm.trans h) (by decide), fun _ => rfl, HB⟩
        · have hie : i = ss.length := by omega
          subst hie
          have HFe : Hid (frm r c 0 (fun _ _ => 0) (byL ss) = (0, Q)) := by
            show _ = _
            rw [← HF.out, List.drop_of_length_le (by unfold byL; rw [List.length_map]; exact Nat.le_refl _)]; rfl
          have HT : Hid (Tbl wr w.heap.size (.slice (some ⟨R, 0, none⟩) r r) (tb r c Q)) := HR.out.tbl.mono HRw.out
          have HN : Hid (fpC ss = 0) := by show _ = _; rw [HFc.out, HFe.out]
          go_wp2
          go_ret2
          exact ⟨_, by rw [HN.out]; rfl, fun _ => by rw [← HRr.out, ← HCc.out, HFp.out, HFe.out]; exact HT.out, fun h => absurd HN.out h, HB⟩
    · have HN : Hid (fpC ss = 1) := by show _ = _; unfold fpC; rw [if_neg (not_not_intro HAs.out), ← HRr.out, ← HCc.out, if_pos hD]
      have HD : Hid (decide (sides [(r : Int), (c : Int)]) = false) := decide_eq_false hD
      clear hD
      go_wp2_with fail
      refine (areSides_at _ _ _ _ _ HSL2.out rfl).mono ?_
      rintro e w2 ⟨rfl, rfl⟩
      rw [HD.out]
      go_wp2
      go_ret2
      exact ⟨_, by rw [HN.out]; rfl, fun h => absurd (HN.out.symm.trans h) (by decide), fun _ => rfl, HB2⟩
  · have HN : Hid (fpC ss = 1) := by show _ = _; unfold fpC; rw [if_pos hA]
    have HA : Hid (decide (sides [(ss.length : Int)]) = false) := decide_eq_false hA
    clear hA
    rw [HN.out]
    go_enter Tryd.func8, Tryd.ntmps8
    go_wp2_with fail
    refine (areSides_at _ _ _ _ _ HSL1.out rfl).mono ?_
    rintro e w1 ⟨rfl, rfl⟩
    rw [HA.out]
    go_wp2
    go_ret2
    exact ⟨_, rfl, fun h => absurd h (by decide), fun _ => rfl, HB1⟩

end Go.Proofs.YtniedfecmakhpaaDoor
