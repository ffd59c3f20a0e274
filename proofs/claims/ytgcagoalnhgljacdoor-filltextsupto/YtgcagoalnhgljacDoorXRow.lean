/-
  The contracts of strings.Split at one byte and strconv.Atoi in the words of the texts; fill.rowsOf.
-/
import Derived.Test.YtgcagoalnhgljacDoorXWrg
import Derived.Test.YtgcagoalnhgljacDoorShelf
import Derived.Lib.SmallJoins
namespace Go.Proofs.YtgcagoalnhgljacDoor
open Go.RowKit

theorem split_pieces (c : UInt8) (s : ByteArray) (xs : List (List UInt8)) (hs : s.data.toList = Lib.join xs [c]) (h0 : xs ≠ []) (hx : ∀ x ∈ xs, c ∉ x) :
    (Lib.splitB ⟨#[c]⟩ 0 (Lib.countB s ⟨#[c]⟩) s).map (·.data.toList) = xs ∧ Lib.countB s ⟨#[c]⟩ + 1 = (Lib.splitB ⟨#[c]⟩ 0 (Lib.countB s ⟨#[c]⟩) s).length := by
  have h := splitK_join c xs h0 hx
  have e : (Lib.splitB ⟨#[c]⟩ 0 (Lib.countB s ⟨#[c]⟩) s).map (·.data.toList) = xs := by
    rw [Lib.splitB_data]
    have : Lib.split (Lib.join xs [c]) [c] = xs := h.1
    unfold Lib.split at this
    rw [← hs] at this
    exact this
  refine ⟨e, ?_⟩
  have hl := congrArg List.length e
  rw [List.length_map] at hl
  rw [hl, ← h.2, ← hs]
  show Lib.count s.data.toList [c] + 1 = _
  rw [Lib.count_one]

set_option maxHeartbeats 1000000 in
theorem Split_at (c : UInt8) (s : ByteArray) (xs : List (List UInt8)) (m : Int) (w : World) (hs : s.data.toList = Lib.join xs [c]) (h0 : xs ≠ []) (hx : ∀ x ∈ xs, c ∉ x) (hl : s.size ≤ 1000) (hm : w.cell? ⟨0, 0, none⟩ = some (.int .i64 m)) :
    Calls Tryd.prog 38 #[.string s, .string ⟨#[c]⟩] w fun e w' => ∃ P : List ByteArray, P.map (·.data.toList) = xs ∧ e = .returned (.slice (some ⟨w.heap.size, 0, none⟩) P.length P.length) ∧ w' = w.alloc (.cells (P.map Value.string).toArray 9) := by
  obtain ⟨h1, h2⟩ := split_pieces c s xs hs h0 hx
  refine (Go.Proofs.Tryd.strings_Split s ⟨#[c]⟩ m w (by omega) hm (Nat.le_refl 1)).mono ?_
  rintro e w' ⟨rfl, rfl⟩
  exact ⟨_, h1, by rw [h2], rfl⟩

set_option maxHeartbeats 1000000 in
theorem Atoi_at (s : ByteArray) (z : Int) (w : World) (hz : Lt z) (hs : s.data.toList = ltxt z) :
    Calls Tryd.prog 39 #[.string s] w fun e w' => e = .returned (.tuple #[.int .i64 z, .nilIface]) ∧ Below w.heap.size w w' := by
  have h := atoi_ltxt hz
  refine (Go.Proofs.Tryd.strconv_Atoi s z (by rw [Lib.size_eq, hs]; omega) (by rw [hs]; exact h.1) w).mono ?_
  rintro e w' ⟨rfl, t, rfl⟩
  exact ⟨rfl, ⟨rfl, rfl, rfl, by rw [Lib.bytesWorld_size]; omega, fun k hk => Lib.bytesWorld_at_old w _ _ k (by omega)⟩⟩

theorem rtxt_len {r : List Int} (h : ∀ z ∈ r, Lt z) : (rtxt r).length ≤ 3 * r.length := by
  cases r with
  | nil => simp [rtxt, Lib.join_nil]
  | cons z r =>
    rw [rtxt_cons, List.length_append]
    have key : ∀ (r : List Int), (∀ z ∈ r, Lt z) → (Lib.joinTail [32] (r.map ltxt)).length ≤ 3 * r.length := by
      intro r
      induction r with
      | nil => intro _; simp [Lib.joinTail]
      | cons y r ih =>
        intro h
        have h1 := ih (fun x hx => h x (by simp [hx]))
        have h2 := (atoi_ltxt (h y (by simp))).2
        simp only [Lib.joinTail, List.map_cons, List.flatten_cons, List.length_append, List.length_cons, List.length_nil] at *
        omega
    have h1 := key r (fun x hx => h x (by simp [hx]))
    have h2 := (atoi_ltxt (h z (by simp))).2
    simp only [List.length_cons]; omega
theorem ttxt_len {ls : List (List Int)} (h : RowsOk ls) : (ttxt ls).length ≤ 4 * ls.flatten.length := by
  cases ls with
  | nil => simp [ttxt, Lib.join_nil]
  | cons q rows =>
    unfold ttxt
    rw [List.map_cons, Lib.join_cons, List.length_append]
    have key : ∀ (rows : List (List Int)), RowsOk rows → (Lib.joinTail [47] (rows.map rtxt)).length ≤ 4 * rows.flatten.length := by
      intro rows
      induction rows with
      | nil => intro _; simp [Lib.joinTail]
      | cons y r ih =>
        intro h
        have h1 := ih (fun x hx => h x (by simp [hx]))
        have hy := h y (by simp)
        have h2 := rtxt_len hy.2
        have h3 : 0 < y.length := List.length_pos_iff.2 hy.1
        simp only [Lib.joinTail, List.map_cons, List.flatten_cons, List.length_append, List.length_cons, List.length_nil] at *
        omega
    have h1 := key rows (fun x hx => h x (by simp [hx]))
    have h2 := rtxt_len (h q (by simp)).2
    simp only [List.flatten_cons, List.length_append]; omega

/-- Strings in a new block. -/
theorem strings_cell {w : World} {P : List ByteArray} {j : Nat} (hj : j < P.length) : (w.alloc (.cells (P.map Value.string).toArray 9)).cell? ⟨w.heap.size, j, none⟩ = some (.string P[j]) := by
  rw [World.cell?_alloc_at _ _ _ _ rfl]
  simp [hj]
theorem piece_at {P : List ByteArray} {xs : List (List UInt8)} (h : P.map (·.data.toList) = xs) {j : Nat} (hj : j < P.length) : P[j].data.toList = xs.getD j [] := by
  subst h
  simp [List.getD, hj]

set_option maxHeartbeats 8000000 in
set_option maxRecDepth 100000 in
theorem rowsOf_at (s : ByteArray) (ls : List (List Int)) (m : Int) (w : World) (hs : s.data.toList = ttxt ls) (h0 : ls ≠ []) (h : RowsOk ls) (h40 : ls.flatten.length ≤ 40) (hm : w.cell? ⟨0, 0, none⟩ = some (.int .i64 m)) (hw0 : 0 < w.heap.size) :
    Calls Tryd.prog 21 #[.string s] w fun e w' => ∃ v, e = .returned v ∧ Tbl w' w.heap.size v ls ∧ Below w.heap.size w w' := by
  have hsz : s.size ≤ 160 := by rw [Lib.size_eq, hs]; have := ttxt_len h; omega
  have HOk : Hid (RowsOk ls) := h
  have HF : Hid (ls.flatten.length ≤ 40) := h40
  have hll : ls.length ≤ 40 := by
    have := len_le_flat (ls := ls) (fun a ha => List.length_pos_iff.2 (h _ (row_mem ha)).1)
    omega
  have HMx : Hid (∀ w', Below w.heap.size w w' → w'.cell? ⟨0, 0, none⟩ = some (.int .i64 m)) := fun w' hb => (hb.cell (p := ⟨0, 0, none⟩) hw0).trans hm
  have HSp : Hid (s.data.toList = Lib.join (ls.map rtxt) [47]) := hs
  have HNe : Hid (ls.map rtxt ≠ []) := by simpa [Hid] using h0
  have HNo : Hid (∀ x ∈ ls.map rtxt, (47 : UInt8) ∉ x) := fun x hx => by
    obtain ⟨r, hr, rfl⟩ := List.mem_map.1 hx
    intro hc
    rcases rtxt_mem (h r hr).2 hc with e | e
    · exact absurd e (by decide)
    · exact absurd e.1 (by decide)
  clear hs h h40 h0 hm
  go_enter Tryd.func21, Tryd.ntmps21
  go_wp2_with fail
  refine (Split_at 47 s (ls.map rtxt) m _ HSp.out HNe.out HNo.out (by omega) (HMx.out _ (Below.refl _ _))).mono ?_
  rintro e w1 ⟨P, hP, rfl, hw1⟩
  have HP : Hid (P.map (·.data.toList) = ls.map rtxt) := hP
  have hPl : P.length = ls.length := by have := congrArg List.length hP; simpa using this
  have HB1 : Hid (Below w.heap.size w w1) := by rw [hw1]; exact (Below.refl _ _).alloc (Nat.le_refl _) _
  have HC1 : Hid (∀ w', Below w1.heap.size w1 w' → ∀ j (hj : j < P.length), w'.cell? ⟨w.heap.size, j, none⟩ = some (.string P[j])) := fun w' hb j hj => by
    rw [hb.cell (p := ⟨w.heap.size, j, none⟩) (by rw [hw1]; simp), hw1]; exact strings_cell hj
  have HL1 : Hid (w.heap.size < w1.heap.size) := by rw [hw1]; simp [Hid]
  clear hP hw1
  rw [hPl]
  have HPl : Hid (P.length = ls.length) := hPl
  clear hPl
  go_wp2
  go_loopw [3, 14] (fun v i wr => ∃ k : Nat, k ≤ ls.length ∧ i = .int .i64 k ∧ Hid (Tbl wr w1.heap.size v (ls.take k)) ∧ Hid (Below w1.heap.size w1 wr)) (fun _ i _ => ls.length - (intOf i).toNat)
  case atStart => exact ⟨0, Nat.zero_le _, rfl, by rw [List.take_zero]; exact Tbl.nil _ _, Below.refl _ _⟩
  case round =>
    obtain ⟨k, hk, rfl, HT, HB⟩ := hrel
    by_cases hlt : k < ls.length
    · have hlt' : (k : Int) < (ls.length : Int) := by omega
      have HLT : Hid (k < ls.length) := hlt
      have hkP : k < P.length := by rw [HPl.out]; exact hlt
      have hc := HC1.out _ HB.out k hkP
      obtain ⟨tx, htx⟩ : ∃ tx, tx = P[k] := ⟨_, rfl⟩
      have HTx : Hid (tx.data.toList = rtxt (row ls k)) := by
        show _ = _
        rw [htx, piece_at HP.out hkP]; simp [row, List.getD, hlt]
      rw [← htx] at hc
      clear htx hkP
      have HRk : Hid (row ls k ≠ [] ∧ ∀ z ∈ row ls k, Lt z) := HOk.out _ (row_mem hlt)
      have HRl : Hid ((row ls k).length ≤ 40) := by have := row_le_flat hlt; have := HF.out; show _ ≤ _; omega
      have htz : tx.size ≤ 120 := by rw [Lib.size_eq, HTx.out]; have := rtxt_len HRk.out.2; have := HRl.out; omega
      have HSp2 : Hid (tx.data.toList = Lib.join ((row ls k).map ltxt) [32]) := HTx.out
      have HNe2 : Hid ((row ls k).map ltxt ≠ []) := by have := HRk.out.1; simpa [Hid] using this
      have HNo2 : Hid (∀ x ∈ (row ls k).map ltxt, (32 : UInt8) ∉ x) := fun x hx => by
        obtain ⟨z, hz, rfl⟩ := List.mem_map.1 hx
        intro hc
        exact absurd (ltxt_no (HRk.out.2 z hz) hc).1 (by decide)
      have HBw : Hid (Below w.heap.size w wr) := HB1.out.trans (HB.out.mono HB1.out.size)
      obtain ⟨vs, hV⟩ := HT.out
      have HV0 : Hid (TblV wr w1.heap.size u3 vs (ls.take k)) := hV
      have HLv : Hid (vs.length = k) := by show _ = _; rw [hV.len, List.length_take]; omega
      obtain ⟨wo, hwo⟩ : ∃ wo, wo = wr := ⟨_, rfl⟩
      subst hwo
      obtain ⟨uo, huo⟩ : ∃ uo, uo = u3 := ⟨_, rfl⟩
      subst huo
      clear hV HT
      go_wp2_with fail
      refine (Split_at 32 tx ((row ls k).map ltxt) m _ HSp2.out HNe2.out HNo2.out (by omega) (HMx.out _ HBw.out)).mono ?_
      rintro e w2 ⟨Q, hQ, rfl, hw2⟩
      have HQ : Hid (Q.map (·.data.toList) = (row ls k).map ltxt) := hQ
      have HQl : Hid (Q.length = (row ls k).length) := by have := congrArg List.length hQ; show _ = _; simpa using this
      obtain ⟨q, hq⟩ : ∃ q, q = Q.length := ⟨_, rfl⟩
      have Hq : Hid (q = (row ls k).length) := by rw [hq]; exact HQl.out
      have hq40 : q ≤ 40 := by rw [Hq.out]; exact HRl.out
      have HB2 : Hid (Below wo.heap.size wo w2) := by rw [hw2]; exact (Below.refl _ _).alloc (Nat.le_refl _) _
      have HC2 : Hid (∀ w', Below w2.heap.size w2 w' → ∀ j (hj : j < Q.length), w'.cell? ⟨wo.heap.size, j, none⟩ = some (.string Q[j])) := fun w' hb j hj => by
        rw [hb.cell (p := ⟨wo.heap.size, j, none⟩) (by rw [hw2]; simp), hw2]; exact strings_cell hj
      have HQ2 : Hid (q = Q.length) := hq
      rw [← hq]
      clear hQ hw2 hq
      go_wp2
      go_loopw [6, 21] (fun r i wr => ∃ t : Nat, t ≤ q ∧ i = .int .i64 t ∧ Hid (Owns wr w2.heap.size r ((row ls k).take t)) ∧ Hid (Below w2.heap.size w2 wr)) (fun _ i _ => q - (intOf i).toNat)
      case atStart => exact ⟨0, Nat.zero_le _, rfl, World.ownsRow_nil _ _ _ _, Below.refl _ _⟩
      case round =>
        obtain ⟨t, ht, rfl, HO, HBt⟩ := hrel
        clear hc
        by_cases htl : t < q
        · have htl' : (t : Int) < (q : Int) := by omega
          have HTR : Hid (t < (row ls k).length) := by rw [← Hq.out]; exact htl
          have htQ : t < Q.length := by rw [← HQ2.out]; exact htl
          have hcq := HC2.out _ HBt.out t htQ
          obtain ⟨tz, htz2⟩ : ∃ tz, tz = Q[t] := ⟨_, rfl⟩
          obtain ⟨z, HZ⟩ : ∃ z, Hid (z = (row ls k).getD t 0) := ⟨_, rfl⟩
          have HTz : Hid (tz.data.toList = ltxt z) := by
            show _ = _
            rw [htz2, piece_at HQ.out htQ, HZ.out]
            have := HTR.out
            simp [List.getD, this]
          have HLz : Hid (Lt z) := by show Lt z; rw [HZ.out]; exact HRk.out.2 _ (getD_mem HTR.out)
          rw [← htz2] at hcq
          clear htz2 htQ
          have HST : Hid ((row ls k).take (t + 1) = (row ls k).take t ++ [z]) := by show _ = _; rw [take_snoc _ _ HTR.out, HZ.out]
          go_wp2_with fail
          refine (Atoi_at tz z _ HLz.out HTz.out).mono ?_
          rintro e w3 ⟨rfl, hb3⟩
          have HO3 : Hid (Owns w3 w2.heap.size u6 ((row ls k).take t)) := HO.out.below hb3
          have HB3 : Hid (Below w2.heap.size w2 w3) := HBt.out.trans (hb3.mono HBt.out.size)
          clear hb3
          go_wp2_with (at_builtin; refine append_int (x := z) rfl _ _ rfl rfl HO3.out rfl ?c1 ?c2 ?_)
          case c1 => have := HRl.out; rw [List.length_take]; omega
          case c2 => exact HB3.out.size
          intro v' w4 hO' hb'
          have HO4 : Hid (Owns w4 w2.heap.size v' ((row ls k).take (t + 1))) := by show Owns _ _ _ _; rw [HST.out]; exact hO'
          have HB4 : Hid (Below w2.heap.size w2 w4) := HB3.out.trans hb'
          clear hO' hb'
          go_wp2
          go_roundw
          case rel => first | exact ⟨t + 1, by omega, by go_num, HO4, HB4⟩ | ((repeat apply Exists.intro); exact ⟨⟨t + 1, by omega, by go_num, HO4, HB4⟩, rfl⟩)
          case measure => simp [intOf]; omega
        · obtain rfl : t = q := by omega
          have HE : Hid (Owns wr w2.heap.size u6 (row ls k)) := by
            have := HO.out
            rw [Hq.out, List.take_length] at this; exact this
          obtain ⟨a5, c5, hsh⟩ := HE.out.shape
          rw [← Hq.out] at hsh
          subst hsh
          have HV2 : Hid (TblV wr w1.heap.size uo vs (ls.take k)) := (HV0.out.same (fun p _ hp => HB2.out.block p hp)).same (fun p _ hp => HBt.out.block p (by have := HB2.out.size; omega))
          have HVo : Hid (TblV w2 w1.heap.size uo vs (ls.take k)) := HV0.out.same (fun p _ hp => HB2.out.block p hp)
          have HB5 : Hid (Below w1.heap.size w1 wr) := (HB.out.trans (HB2.out.mono HB.out.size)).trans (HBt.out.mono (Nat.le_trans HB.out.size HB2.out.size))
          go_wp2_with (at_builtin; refine append_one elem_row (x := .slice a5 t c5) rfl _ _ rfl rfl rfl rfl HV2.out.own rfl ?c3 ?c4 ?c5 ?_)
          case c3 => have := HLv.out; unfold maxLen; omega
          case c4 => have := HLv.out; omega
          case c5 => exact HB5.out.size
          intro v' w6 hO6 hb6 hk6
          have hO6' : w6.ownsRow w1.heap.size 38 1 v' (vs ++ [Value.slice a5 t c5]).length (vs ++ [Value.slice a5 t c5]) := by simpa using hO6
          have HT6 : Hid (Tbl w6 w1.heap.size v' (ls.take (k + 1))) := by
            show Tbl _ _ _ _
            have e : ls.take (k + 1) = ls.take k ++ [row ls k] := by
              rw [List.take_succ_eq_append_getElem HLT.out]; simp [row, List.getD, List.getElem?_eq_getElem HLT.out]
            rw [e]
            exact Tbl.push HVo.out HV2.out (Nat.le_refl _) (Nat.le_trans HB.out.size HB2.out.size) HE.out hO6' hk6
          have HB6 : Hid (Below w1.heap.size w1 w6) := HB5.out.trans hb6
          clear hO6 hO6' hb6 hk6
          go_wp2
          go_roundw
          case rel => first | exact ⟨k + 1, HLT.out, by go_num, HT6, HB6⟩ | ((repeat apply Exists.intro); exact ⟨⟨k + 1, HLT.out, by go_num, HT6, HB6⟩, rfl⟩)
          case measure => have := HLT.out; simp [intOf]; omega
    · obtain rfl : k = ls.length := by omega
      have HE : Hid (Tbl wr w.heap.size u3 ls) := by
        have := HT.out
        rw [List.take_length] at this
        exact this.mono (Nat.le_of_lt HL1.out)
      have HBe : Hid (Below w.heap.size w wr) := HB1.out.trans (HB.out.mono HB1.out.size)
      go_wp2
      go_ret
      exact ⟨_, rfl, HE.out, HBe.out⟩

end Go.Proofs.YtgcagoalnhgljacDoor
