/-
  ferref.Cells.
-/
import Derived.Test.YtcnmndbckjmliaaDoorNRd
import Derived.Laws.DeepStrings4
namespace Go.Proofs.YtcnmndbckjmliaaDoor
open Go.RowKit

/-- What ferref.Cells answers. -/
def ClP (lt s : List UInt8) (B : Nat) (w : World) (v : Value) : Prop := (∃ r c P X, Shz lt r c (pz s) ∧ P.map (fun p : ByteArray => p.data.toList) = pz s ∧ v = .slice (some ⟨X, 0, none⟩) r r ∧ B ≤ X ∧ PcZ w X P) ∨ (v = .slice none 0 0 ∧ ∀ r c, ¬ Shz lt r c (pz s))
theorem drew_pcz {w : World} {X n : Nat} {P : List ByteArray} (h : PcZ w X P) : PcZ (w.drewN n) X P := h
theorem isL_at {lt x : List UInt8} (h : ∀ j, (hj : j < x.length) → x[j] ∈ lt) : isL lt x = true := isL_iff.2 (fun b hb => by
  obtain ⟨j, hj, rfl⟩ := List.mem_iff_getElem.1 hb
  exact h j hj)
theorem isL_bad {lt x : List UInt8} {j : Nat} (hj : j < x.length) (h : ¬ x[j] ∈ lt) : isL lt x = false := by
  rw [Bool.eq_false_iff]; intro q
  exact h (isL_iff.1 q _ (List.getElem_mem hj))
theorem ext_one (p : ByteArray) (j : Nat) (hj : j < p.size) : p.extract j (j + 1) = ⟨#[p[j]]⟩ := by
  cases p with
  | mk d =>
    have hj' : j < d.size := hj
    apply ba_extN
    show ((ByteArray.mk d).extract j (j + 1)).data.toList = [d[j]]
    rw [ByteArray.data_extract, Array.toList_extract, List.extract_eq_take_drop]
    rw [show j + 1 - j = 1 by omega, List.drop_eq_getElem_cons (by simpa using hj')]
    simp

set_option maxHeartbeats 4000000 in
set_option maxRecDepth 100000 in
theorem Cells_at (s lt : ByteArray) (m : Int) (w : World) (hs : s.size ≤ 4000000000) (hm : w.cell? ⟨0, 0, none⟩ = some (.int .i64 m)) :
    Calls Tryd.prog 14 #[.string s, .string lt] w fun e w' => ∃ v, e = .returned v ∧ Hid (ClP lt.data.toList s.data.toList w.heap.size w' v) ∧ Hid (Below w.heap.size w w') := by
  have HCs := hid_w (Split_z s m w hs hm)
  clear hs hm
  go_enter Tryd.func14, Tryd.ntmps14
  go_upto_region 2 with (go_at_call 43; with_reducible (refine HCs.out.mono ?_); rintro e w1 ⟨P, HP, rfl, rfl⟩)
  have HPl := hid_w (pcz_len HP.out)
  have h0 : 0 < P.length := by rw [HPl.out]; exact List.length_pos_iff.2 (pz_ne _)
  obtain ⟨r, HRr⟩ : ∃ r, Hid (r = P.length) := ⟨_, rfl⟩
  obtain ⟨X, HX⟩ : ∃ X, Hid (X = w.heap.size) := ⟨_, rfl⟩
  obtain ⟨W1, HW1⟩ : ∃ W1, Hid (W1 = w.alloc (.cells (P.map Value.string).toArray 9)) := ⟨_, rfl⟩
  have HB1 : Hid (Below w.heap.size w W1) := by rw [HW1.out]; exact (Below.refl _ _).alloc (Nat.le_refl _) _
  have HPc : Hid (PcZ W1 X P) := by rw [HW1.out, HX.out]; exact heap_alloc_last _ _
  obtain ⟨l, HL⟩ : ∃ l, Hid (l = pz s.data.toList) := ⟨_, rfl⟩
  rw [← HL.out] at HP HPl
  rw [← HX.out, ← HRr.out, ← HW1.out]
  obtain ⟨p0, HP0⟩ : ∃ p0, Hid (p0 = P[0]'h0) := ⟨_, rfl⟩
  have HL0 : Hid (p0.size = (l.getD 0 []).length) := by
    show _ = _
    rw [← ba_len, HP0.out, pcz_at HP.out h0]
  have HrL : Hid (r = l.length) := by show _ = _; rw [HRr.out]; exact HPl.out
  have HNil : Hid (∀ W, (∀ r c, ¬ Shz lt.data.toList r c l) → ClP lt.data.toList s.data.toList w.heap.size W (.slice none 0 0)) := fun W h => Or.inr ⟨rfl, by rw [← HL.out]; exact h⟩
  by_cases h8 : (r : Int) > 8
  · have HN := hid_w (HNil.out W1 (fun r' c' h => by
      have e := shz_eq h
      have := h.2.2.1
      have := HrL.out
      omega))
    clear HNil
    go_wp2_with fail
    go_ret
    exact ⟨_, rfl, HN, HB1⟩
  · have hr0 : (0 : Int) < (r : Int) := by have := HRr.out; omega
    go_wp2_with fail
    go_loopw [6] (fun v wr => ∃ k : Nat, k ≤ r ∧ v = .int .i64 (k : Int) ∧ Hid (∃ n, wr = W1.drewN n) ∧ Hid (∀ j, j < k → ((l.getD j []).length = p0.size ∧ 1 ≤ p0.size ∧ p0.size ≤ 8) ∧ isL lt.data.toList (l.getD j []) = true)) (fun v _ => r - (intOf v).toNat)
    case atStart => exact ⟨0, Nat.zero_le _, rfl, ⟨0, rfl⟩, fun j hj => by omega⟩
    case round =>
      obtain ⟨k, hk, rfl, HD, HJ⟩ := hrel
      have HXr : Hid (PcZ wr X P) := by obtain ⟨n, hn⟩ := HD.out; rw [hn]; exact drew_pcz HPc.out
      have HBr : Hid (Below w.heap.size w wr) := by obtain ⟨n, hn⟩ := HD.out; rw [hn]; exact below_drewN HB1.out n
      by_cases hlt : k < r
      · have hlt' : (k : Int) < (r : Int) := by omega
        have HkP : Hid (k < P.length) := by rw [← HRr.out]; exact hlt
        obtain ⟨p, HPk⟩ : ∃ p, Hid (p = P[k]'HkP.out) := ⟨_, rfl⟩
        have hpk : wr.cell? ⟨X, k, none⟩ = some (.string p) := by rw [HPk.out]; exact HXr.out.cell HkP.out
        have hp0 : wr.cell? ⟨X, 0, none⟩ = some (.string p0) := by rw [HP0.out]; exact HXr.out.cell h0
        have HPd : Hid (p.data.toList = l.getD k []) := by rw [HPk.out]; exact pcz_at HP.out HkP.out
        have HPs : Hid (p.size = (l.getD k []).length) := by rw [← HPd.out]; exact (ba_len p).symm
        by_cases g1 : (p.size : Int) < 1
        · have HN : Hid (∀ W, ClP lt.data.toList s.data.toList w.heap.size W (.slice none 0 0)) := fun W => HNil.out W (fun r' c' h => by
            have e := shz_eq h
            obtain ⟨q1, q2, q3, q4, q5, q6⟩ := h
            have hm : l.getD k [] ∈ l := by rw [List.getD_eq_getElem?_getD, List.getElem?_eq_getElem (by have := HrL.out; omega), Option.getD_some]; exact List.getElem_mem _
            have := (q6 _ hm).1
            have := HPs.out
            omega)
          clear HNil
          go_wp2_with fail
          go_quiet (fail)
          go_wp2_with fail
          go_ret
          exact ⟨_, rfl, HN.out _, below_drewN HBr.out _⟩
        · have d1 : decide ((p.size : Int) < 1) = false := decide_eq_false g1
          by_cases g2 : (p.size : Int) > 8
          · have HN : Hid (∀ W, ClP lt.data.toList s.data.toList w.heap.size W (.slice none 0 0)) := fun W => HNil.out W (fun r' c' h => by
              have e := shz_eq h
              obtain ⟨q1, q2, q3, q4, q5, q6⟩ := h
              have hm : l.getD k [] ∈ l := by rw [List.getD_eq_getElem?_getD, List.getElem?_eq_getElem (by have := HrL.out; omega), Option.getD_some]; exact List.getElem_mem _
              have := (q6 _ hm).1
              have := HPs.out
              omega)
            clear HNil g1
            go_wp2_with fail
            go_quiet (fail)
            go_wp2_with fail
            go_ret
            exact ⟨_, rfl, HN.out _, below_drewN HBr.out _⟩
          · have d2 : decide ((p.size : Int) > 8) = false := decide_eq_false g2
            by_cases g3 : p.size = p0.size
            · have g3' : ((p.size : Int) != (p0.size : Int)) = false := by simp; omega
              have HOk : Hid ((l.getD k []).length = p0.size ∧ 1 ≤ p0.size ∧ p0.size ≤ 8) := by
                have := HPs.out
                refine ⟨by omega, by omega, by omega⟩
              have HLp : Hid (∀ j, (hj : j < p.size) → ¬ p[j] ∈ lt.data.toList → ∀ W, ClP lt.data.toList s.data.toList w.heap.size W (.slice none 0 0)) := fun j hj hb W => HNil.out W (by
                refine shz_no (k := k) (by rw [← HrL.out]; exact hlt) (Or.inr ?_)
                rw [← HPd.out]
                exact isL_bad (j := j) (by rw [ba_len]; exact hj) hb)
              clear HNil g1 g2 g3
              go_wp2_with fail
              go_quiet (fail)
              go_wp2_with fail
              obtain ⟨Wq, HWq⟩ : ∃ Wq, Hid (Wq = wr.drewN nq) := ⟨_, rfl⟩
              rw [← HWq.out]
              have HDq : Hid (∃ n, Wq = W1.drewN n) := by
                obtain ⟨n, hn⟩ := HD.out
                exact ⟨_, by rw [HWq.out, hn]; exact drewN_two _ _ _⟩
              have hq : Wq.cell? ⟨X, k, none⟩ = some (.string p) := by rw [HWq.out]; exact hpk
              have HBq : Hid (Below w.heap.size w Wq) := by rw [HWq.out]; exact below_drewN HBr.out _
              clear hpk hp0 d1 d2
              go_loopw [7] (fun v wq => ∃ j : Nat, j ≤ p.size ∧ v = .int .i64 (j : Int) ∧ Wq = wq ∧ Hid (∀ i, i < j → (hi : i < p.size) → p[i] ∈ lt.data.toList)) (fun v _ => p.size - (intOf v).toNat)
              case atStart => exact ⟨0, Nat.zero_le _, rfl, rfl, fun i hi => by omega⟩
              case round =>
                obtain ⟨j, hj, rfl, rfl, HI⟩ := hrel
                by_cases hltj : j < p.size
                · have hltj' : (j : Int) < (p.size : Int) := by omega
                  obtain ⟨b, Hb⟩ : ∃ b, Hid (decide (0 ≤ Lib.indexByte lt.data.toList (p[j]'hltj)) = b) := ⟨_, rfl⟩
                  have hp8 : p.size ≤ 8 := by have := HOk.out; have := HPs.out; omega
                  have HC : Hid (Calls Tryd.prog 44 #[.string lt, .string (p.extract j (j + 1))] Wq fun e w' => e = .returned (.bool b) ∧ w' = Wq) := by
                    rw [ext_one p j hltj, ← Hb.out]
                    exact Go.Proofs.Tryd.strings_Contains_one lt p[j] Wq
                  have hsl : ∀ W : World, (Instr.slice 9 (.string p) (some (.int .i64 (j : Int))) (some (.int .i64 ((j : Int) + 1))) none).run Tryd.prog W = .ok (.string (p.extract j (j + 1))) W := fun W => by
                    rw [run_slice_string_if W 9 p .i64 .i64 _ _ Tryd.underlying9, if_pos (by omega), if_pos (by omega), Int.toNat_natCast, show ((j : Int) + 1).toNat = j + 1 by omega]
                  cases b with
                  | true =>
                    have HI2 : Hid (∀ i, i < j + 1 → (hi : i < p.size) → p[i] ∈ lt.data.toList) := fun i hi hi2 => by
                      by_cases e : i = j
                      · subst e; exact (index_mem _ _).1 (of_decide_eq_true Hb.out)
                      · exact HI.out i (by omega) hi2
                    go_wp2_with (go_at_call 44; with_reducible (refine HC.out.mono ?_); rintro e v1 ⟨rfl, rfl⟩)
                    go_roundw
                    case rel => exact ⟨j + 1, by omega, by go_num, by first | rfl | trivial, HI2⟩
                    case measure => simp [intOf]; omega
                  | false =>
                    have HN : Hid (ClP lt.data.toList s.data.toList w.heap.size Wq (.slice none 0 0)) := HLp.out j hltj (fun q => by
                      have := (index_mem lt.data.toList p[j]).2 q
                      exact of_decide_eq_false Hb.out this) Wq
                    go_wp2_with (go_at_call 44; with_reducible (refine HC.out.mono ?_); rintro e v1 ⟨rfl, rfl⟩)
                    go_ret
                    exact ⟨_, rfl, HN, HBq⟩
                · have HJ2 : Hid (∀ j, j < k + 1 → ((l.getD j []).length = p0.size ∧ 1 ≤ p0.size ∧ p0.size ≤ 8) ∧ isL lt.data.toList (l.getD j []) = true) := fun j' hj' => by
                    by_cases e : j' = k
                    · rw [e]
                      refine ⟨HOk.out, ?_⟩
                      rw [← HPd.out]
                      exact isL_at (fun i hi => by
                        have := HI.out i (by rw [ba_len] at hi; omega) (by rw [ba_len] at hi; exact hi)
                        exact this)
                    · exact HJ.out j' (by omega)
                  have hnlt : ¬ ((j : Int) < (p.size : Int)) := by omega
                  go_wp2_with fail
                  go_roundw
                  case rel => exact ⟨k + 1, by omega, by go_num, HDq, HJ2⟩
                  case measure => simp [intOf]; omega
            · have g3' : ((p.size : Int) != (p0.size : Int)) = true := by simp; omega
              have g3d : (p.size : Int) ≠ (p0.size : Int) := by omega
              have HN : Hid (∀ W, ClP lt.data.toList s.data.toList w.heap.size W (.slice none 0 0)) := fun W => HNil.out W (by
                refine shz_no (k := k) (by rw [← HrL.out]; exact hlt) (Or.inl ?_)
                rw [← HPs.out, ← HL0.out]; exact g3)
              clear HNil g1 g2 g3
              go_wp2_with fail
              go_quiet (fail)
              go_wp2_with fail
              go_ret
              exact ⟨_, rfl, HN.out _, below_drewN HBr.out _⟩
      · obtain rfl : k = r := by omega
        have HN : Hid (ClP lt.data.toList s.data.toList w.heap.size wr (.slice (some ⟨X, 0, none⟩) k k)) := by
          have h00 := (HJ.out 0 (by omega)).1
          have h := shz_of (lt := lt.data.toList) (l := l) (by have := HrL.out; omega) (by have := HrL.out; omega) (by omega) (by omega) (fun i hi => by
            have := HJ.out i (by rw [HrL.out]; exact hi)
            exact ⟨by omega, this.2⟩)
          refine Or.inl ⟨k, _, P, X, by rw [← HL.out, HrL.out]; exact h, by rw [← HL.out]; exact HP.out, rfl, by rw [HX.out]; exact Nat.le_refl _, HXr.out⟩
        go_wp2_with fail
        go_ret
        exact ⟨_, rfl, HN, HBr⟩

end Go.Proofs.YtcnmndbckjmliaaDoor
