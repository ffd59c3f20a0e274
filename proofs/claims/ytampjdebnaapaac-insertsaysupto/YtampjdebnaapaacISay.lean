/-
  The walk of ferlaw.InsertSays.
-/
import Derived.Test.YtampjdebnaapaacIIns
import Derived.Test.YtampjdebnaapaacIInt
import Derived.Test.YtampjdebnaapaacIBes
import Derived.Test.YtampjdebnaapaacVChk
import Derived.Test.YtampjdebnaapaacVEq
namespace Go.Proofs.Ytampjdebnaapaac
open Go.RowKit

theorem Tbl.empty {w : World} {lo : Nat} {v : Value} (h : Tbl w lo v []) : ∃ a cap, v = .slice a 0 cap := by
  obtain ⟨vs, h⟩ := h
  obtain ⟨a, cap, e⟩ := h.shape
  exact ⟨a, cap, e⟩
theorem ins_bd {s : Bool} {ls : List (List Int)} {x : Int} (h : IsTab ls) (hx : 1 ≤ x ∧ x ≤ 99) : ∀ l ∈ ins s x ls, l.length ≤ 17592186044416 ∧ ∀ z ∈ l, -9223372036854775808 ≤ z ∧ z ≤ 9223372036854775807 := fun l hl => by
  obtain ⟨k, hk, rfl⟩ := mem_row hl
  have hf : (ins s x ls).flatten.length ≤ 41 := by rw [ins_count]; have := h.few; omega
  refine ⟨by have := row_le_flat hk; omega, fun z hz => ?_⟩
  rcases ins_mem (List.mem_flatten.2 ⟨_, hl, hz⟩) with e | e
  · omega
  · have := h.mem e; omega
theorem ins_len_le {s : Bool} {x : Int} : ∀ (t : List (List Int)), (ins s x t).length ≤ t.length + 1 := by
  intro t
  induction t generalizing x with
  | nil => simp [ins]
  | cons r t ih =>
    simp only [ins]
    split
    · simp
    · have := @ih (r.getD (spot s x r) 0); simp only [List.length_cons]; omega
/-- What InsertLeft answers is the document's tableau. -/
theorem left_is {ls q : List (List Int)} {x : Int} (hs : Shp q) (hc : cols q = ins true x (cols ls)) : q = cols (ins true x (cols ls)) := by rw [← hc, cols_back hs]

set_option maxHeartbeats 4000000 in
theorem isays_err (a : Option Addr) (cap : Nat) (ls : List (List Int)) (x : Int) (w : World) (hs : Table w a ls) (hl : ls.length ≤ 2000000) (hf : ls.flatten.length ≤ 2000000) (d : Int) (hd : roomC ls x = d) (h0 : d ≠ 0) :
    Calls Try.prog 5 #[.slice a ls.length cap, .int .i64 x] w fun e w' => e = .returned (.bool true) ∧ Below w.heap.size w w' := by
  have E : Hid (roomC ls x = d) := hd
  have H0 : Hid (d ≠ 0) := h0
  have HS : Hid (Table w a ls) := hs
  have HF : Hid (ls.flatten.length ≤ 2000000) := hf
  obtain ⟨t, ht⟩ : ∃ t, tchk ls = t := ⟨_, rfl⟩
  have ET : Hid (tchk ls = t) := ht
  have hdb : (d != 0) = true := bne_iff_ne.2 h0
  clear hs hf
  go_enter Try.func5, Try.ntmps5
  go_wp2_with fail
  refine (Insert_at a ls.length cap ls w HS.out (by omega) rfl).mono ?_
  rintro e w1 ⟨v1, c1, q1, m1, rfl, hT1, hb1, hc1, -, hr1⟩
  rw [E.out] at hc1
  subst hc1
  obtain ⟨rfl, rfl⟩ := hr1 H0.out
  have HB1 : Hid (Below w.heap.size w w1) := hb1
  obtain ⟨a1, k1, rfl⟩ := hT1.empty
  clear hT1 hb1 hr1
  go_wp2_with fail
  refine (InsertLeft_at a ls.length cap ls w1 (HS.out.below HB1.out) (by omega) rfl).mono ?_
  rintro e w2 ⟨v2, c2, q2, m2, rfl, hT2, hb2, hc2, -, hr2⟩
  rw [E.out] at hc2
  subst hc2
  obtain ⟨rfl, rfl⟩ := hr2 H0.out
  have HB2 : Hid (Below w.heap.size w w2) := HB1.out.trans (hb2.mono HB1.out.size)
  obtain ⟨a2, k2, rfl⟩ := hT2.empty
  clear hT2 hb2 hr2
  go_wp2_with fail
  refine (RTab_is _ _ _ ls _ (HS.out.below HB2.out) rfl hl HF.out ET).mono ?_
  rintro e w3 ⟨rfl, hb3⟩
  have HB3 : Hid (Below w.heap.size w w3) := HB2.out.trans (hb3.mono HB2.out.size)
  clear hb3
  by_cases ht0 : t = 0
  · subst ht0
    by_cases hx1 : x < 1
    · have HD : Hid (c2 = 1) := by
        rw [← E.out]; unfold roomC
        rw [if_neg (by rw [ht]; simp), if_pos (by omega)]; rfl
      have hD := HD.out
      subst hD
      clear ht hd
      go_wp2
      go_ret
      exact ⟨rfl, HB3.out⟩
    · by_cases hx2 : x > 99
      · have HD : Hid (c2 = 1) := by
          rw [← E.out]; unfold roomC
          rw [if_neg (by rw [ht]; simp), if_pos (by omega)]; rfl
        have hD := HD.out
        subst hD
        clear ht hd
        go_wp2
        go_ret
        exact ⟨rfl, HB3.out⟩
      · have HFl : Hid (ls.flatten.length = 40) := by
          show _ = _
          refine Classical.byContradiction (fun hne => H0.out ?_)
          rw [← E.out]; unfold roomC
          rw [if_neg (by rw [ht]; simp), if_neg (by omega), if_neg hne]
        have HD : Hid (c2 = 2) := by
          rw [← E.out]; unfold roomC
          rw [if_neg (by rw [ht]; simp), if_neg (by omega), if_pos HFl.out]; rfl
        have hD := HD.out
        subst hD
        clear ht hd
        go_wp2_with fail
        refine (RCount_at _ _ _ ls _ (HS.out.below HB3.out) rfl hl HF.out).mono ?_
        rintro e w4 ⟨rfl, hb4⟩
        have HB4 : Hid (Below w.heap.size w w4) := HB3.out.trans (hb4.mono HB3.out.size)
        rw [HFl.out]
        clear hb4
        go_wp2
        go_ret
        exact ⟨rfl, HB4.out⟩
  · have HD : Hid (c2 = t) := by
      rw [← E.out]; unfold roomC
      rw [if_pos (by rw [ht]; exact ht0), ht]; rfl
    have hD := HD.out
    subst hD
    clear ht hd
    go_wp2
    go_ret
    exact ⟨rfl, HB3.out⟩

set_option maxHeartbeats 4000000 in
theorem isays_ok (a : Option Addr) (cap : Nat) (ls : List (List Int)) (x : Int) (w : World) (hs : Table w a ls) (hd : roomC ls x = 0) :
    Calls Try.prog 5 #[.slice a ls.length cap, .int .i64 x] w fun e w' => e = .returned (.bool true) ∧ Below w.heap.size w w' := by
  have E : Hid (roomC ls x = 0) := hd
  have HS : Hid (Table w a ls) := hs
  obtain ⟨hT, hx, hf⟩ := roomC_ok.1 hd
  have HT : Hid (IsTab ls) := hT
  have h40 := hT.rows
  have HFw : Hid (ls.flatten.length ≤ 40) := hT.few
  have ET : Hid (tchk ls = 0) := tchk_ok.2 hT
  obtain ⟨f, HFl⟩ : ∃ f, Hid (ls.flatten.length = f) := ⟨_, rfl⟩
  have hfb : ((f : Int) == 40) = false := by have h2 : f ≠ 40 := by rw [← HFl.out]; exact hf
                                             simp; omega
  have HX : Hid (1 ≤ x ∧ x ≤ 99) := hx
  have hx1 : ¬ x < 1 := by omega
  have hx2 : ¬ x > 99 := by omega
  clear hs hd hT hf hx
  go_enter Try.func5, Try.ntmps5
  go_wp2_with fail
  refine (Insert_at a ls.length cap ls w HS.out (by omega) rfl).mono ?_
  rintro e w1 ⟨v1, c1, q1, m1, rfl, hT1, hb1, hc1, hr1, -⟩
  rw [E.out] at hc1
  subst hc1
  obtain ⟨rfl, rfl⟩ := hr1 rfl
  have HB1 : Hid (Below w.heap.size w w1) := hb1
  have HT1 : Hid (Tbl w1 w.heap.size v1 (ins false x ls)) := hT1
  clear hT1 hb1 hr1
  go_wp2_with fail
  refine (InsertLeft_at a ls.length cap ls w1 (HS.out.below HB1.out) (by omega) rfl).mono ?_
  rintro e w2 ⟨v2, c2, q2, m2, rfl, hT2, hb2, hc2, hr2, -⟩
  rw [E.out] at hc2
  subst hc2
  obtain ⟨hq1, hq2, rfl⟩ := hr2 rfl
  obtain rfl := left_is hq1 hq2
  have HB2 : Hid (Below w.heap.size w w2) := HB1.out.trans (hb2.mono HB1.out.size)
  have HT1 : Hid (Tbl w2 w.heap.size v1 (ins false x ls)) := HT1.out.below hb2
  have HT2 : Hid (Tbl w2 w.heap.size v2 (cols (ins true x (cols ls)))) := hT2.mono HB1.out.size
  clear hT2 hb2 hr2 hq1 hq2
  go_wp2_with fail
  refine (RTab_is _ _ _ ls _ (HS.out.below HB2.out) rfl (by omega) (by have := HFw.out; omega) ET).mono ?_
  rintro e w3 ⟨rfl, hb3⟩
  have HB3 : Hid (Below w.heap.size w w3) := HB2.out.trans (hb3.mono HB2.out.size)
  have HT1 : Hid (Tbl w3 w.heap.size v1 (ins false x ls)) := HT1.out.below hb3
  have HT2 : Hid (Tbl w3 w.heap.size v2 (cols (ins true x (cols ls)))) := HT2.out.below hb3
  clear hb3
  go_wp2_with fail
  refine (RCount_at _ _ _ ls _ (HS.out.below HB3.out) rfl (by omega) (by have := HFw.out; omega)).mono ?_
  rintro e w4 ⟨rfl, hb4⟩
  have HB4 : Hid (Below w.heap.size w w4) := HB3.out.trans (hb4.mono HB3.out.size)
  have HT1 : Hid (Tbl w4 w.heap.size v1 (ins false x ls)) := HT1.out.below hb4
  have HT2 : Hid (Tbl w4 w.heap.size v2 (cols (ins true x (cols ls)))) := HT2.out.below hb4
  rw [HFl.out]
  clear hb4
  go_wp2_with fail
  refine (Into_at _ _ _ ls _ (HS.out.below HB4.out) rfl (by omega) (tab_rows HT.out)).mono ?_
  rintro e w5 ⟨v5, rfl, hT5, hb5⟩
  have HB5 : Hid (Below w.heap.size w w5) := HB4.out.trans (hb5.mono HB4.out.size)
  have HT1 : Hid (Tbl w5 w.heap.size v1 (ins false x ls)) := HT1.out.below hb5
  have HT2 : Hid (Tbl w5 w.heap.size v2 (cols (ins true x (cols ls)))) := HT2.out.below hb5
  have HT5 : Hid (Tbl w5 w.heap.size v5 (ins false x ls)) := hT5.mono HB4.out.size
  clear hb5 hT5
  go_wp2_with fail
  refine (Beside_at _ _ _ ls _ (HS.out.below HB5.out) rfl HT.out HX.out).mono ?_
  rintro e w6 ⟨v6, rfl, hT6, hb6⟩
  have HB6 : Hid (Below w.heap.size w w6) := HB5.out.trans (hb6.mono HB5.out.size)
  have hT1 : Tbl w6 w.heap.size v1 (ins false x ls) := HT1.out.below hb6
  have hT2 : Tbl w6 w.heap.size v2 (cols (ins true x (cols ls))) := HT2.out.below hb6
  have hT5 : Tbl w6 w.heap.size v5 (ins false x ls) := HT5.out.below hb6
  have hbd := ins_bd (s := false) HT.out HX.out
  have hTi : T (cols (ins true x (cols ls))) := TC_cols (insC_TC (T_cols HT.out.T))
  have hbd2 : ∀ l ∈ cols (ins true x (cols ls)), l.length ≤ 17592186044416 ∧ ∀ z ∈ l, -9223372036854775808 ≤ z ∧ z ≤ 9223372036854775807 := fun l hl => by
    obtain ⟨h1, h2, h3⟩ := insC_small HT.out HX.out
    obtain ⟨c, _, rfl⟩ := List.mem_map.1 hl
    refine ⟨by have := colOf_le (ins true x (cols ls)) c; omega, fun z hz => ?_⟩
    obtain ⟨r, hr, hz2⟩ := List.mem_flatten.1 (colOf_mem hz)
    exact (h3 r hr).2 z hz2
  have HL1 : Hid ((ins false x ls).length ≤ 17592186044416) := by have := ins_len_le (s := false) (x := x) ls; show _ ≤ _; omega
  have HL2 : Hid ((cols (ins true x (cols ls))).length ≤ 17592186044416) := by
    obtain ⟨h1, h2, h3⟩ := insC_small HT.out HX.out
    show _ ≤ _; rw [cols_length]; omega
  obtain ⟨b1, n1, k1, rfl, hB1, HN1⟩ := hT1.table hbd
  obtain ⟨b5, n5, k5, rfl, hB5, HN5⟩ := hT5.table hbd
  obtain ⟨b2, n2, k2, rfl, hB2, HN2⟩ := hT2.table hbd2
  obtain ⟨b6, n6, k6, rfl, hB6, HN6⟩ := hT6.table hbd2
  have HR1 : Hid (Table w6 b1 (ins false x ls) ∧ Table w6 b5 (ins false x ls)) := ⟨hB1, hB5⟩
  have HR2 : Hid (Table w6 b2 (cols (ins true x (cols ls))) ∧ Table w6 b6 (cols (ins true x (cols ls)))) := ⟨hB2, hB6⟩
  clear hT1 hT2 hT5 hT6 hB1 hB5 hB2 hB6 hbd hbd2 hb6 hTi
  go_wp2_with fail
  refine (RowsL_same _ _ _ _ _ _ (ins false x ls) _ HR1.out.1 HR1.out.2 HN1.out HN5.out HL1.out).mono ?_
  rintro e w7 ⟨rfl, d7, rfl⟩
  go_wp2_with fail
  refine (RowsL_same _ _ _ _ _ _ (cols (ins true x (cols ls))) _ (HR2.out.1.drewN _) (HR2.out.2.drewN _) HN2.out HN6.out HL2.out).mono ?_
  rintro e w8 ⟨rfl, d8, rfl⟩
  go_wp2
  go_ret
  exact ⟨rfl, below_drewN HB6.out (d7 + d8)⟩

theorem isays_any (a : Option Addr) (cap : Nat) (ls : List (List Int)) (x : Int) (w : World) (hs : Table w a ls) (hl : ls.length ≤ 2000000) (hf : ls.flatten.length ≤ 2000000) :
    Calls Try.prog 5 #[.slice a ls.length cap, .int .i64 x] w fun e w' => e = .returned (.bool true) ∧ Below w.heap.size w w' := by
  by_cases h : roomC ls x = 0
  · exact isays_ok a cap ls x w hs h
  · exact isays_err a cap ls x w hs hl hf _ rfl h

end Go.Proofs.Ytampjdebnaapaac
