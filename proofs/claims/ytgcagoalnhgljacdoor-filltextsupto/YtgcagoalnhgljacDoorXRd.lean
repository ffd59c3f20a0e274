/-
  The contract of fill.Read.
-/
import Derived.Test.YtgcagoalnhgljacDoorXRow
namespace Go.Proofs.YtgcagoalnhgljacDoor
open Go.RowKit

/-- What Read answers: the code, the place, the rows. -/
def ReadR (l : List UInt8) (c p : Int) (q : List (List Int)) : Prop :=
  (wrongAt 0 0 l ≠ -1 ∧ c = 4 ∧ p = wrongAt 0 0 l ∧ q = []) ∨ (wrongAt 0 0 l = -1 ∧ l = [] ∧ c = 0 ∧ p = 0 ∧ q = []) ∨
  ∃ ls, ls ≠ [] ∧ RowsOk ls ∧ l = ttxt ls ∧ ((tchk ls = 0 ∧ c = 0 ∧ p = 0 ∧ q = ls) ∨ (tchk ls ≠ 0 ∧ c = tchk ls ∧ p = -1 ∧ q = []))

theorem readR_any (l : List UInt8) : ∃ c p q, ReadR l c p q := by
  by_cases h : wrongAt 0 0 l = -1
  · cases l with
    | nil => exact ⟨0, 0, [], Or.inr (Or.inl ⟨h, rfl, rfl, rfl, rfl⟩)⟩
    | cons b l =>
      obtain ⟨ls, h1, h2, h3⟩ := text_of_ok ((wrongAt_ok (b :: l) 0 0 (Or.inr (by simp))).1 h)
      by_cases h4 : tchk ls = 0
      · exact ⟨0, 0, ls, Or.inr (Or.inr ⟨ls, h1, h2, h3, Or.inl ⟨h4, rfl, rfl, rfl⟩⟩)⟩
      · exact ⟨tchk ls, -1, [], Or.inr (Or.inr ⟨ls, h1, h2, h3, Or.inr ⟨h4, rfl, rfl, rfl⟩⟩)⟩
  · exact ⟨4, wrongAt 0 0 l, [], Or.inl ⟨h, rfl, rfl, rfl⟩⟩

theorem counts_le (l : List UInt8) : l.count 47 + l.count 32 ≤ l.length := by
  induction l with
  | nil => simp
  | cons b l ih =>
    rw [List.count_cons, List.count_cons, List.length_cons]
    by_cases h : b = 47
    · subst h; simp; omega
    · by_cases h2 : b = 32
      · subst h2; simp; omega
      · rw [if_neg (by simpa using h), if_neg (by simpa using h2)]; omega

set_option maxHeartbeats 4000000 in
set_option maxRecDepth 100000 in
theorem Read_wrong (s : ByteArray) (w : World) (hs : s.size ≤ maxLen) (h : wrongAt 0 0 s.data.toList ≠ -1) :
    Calls Tryd.prog 6 #[.string s] w fun e w' => e = .returned (.tuple #[.slice none 0 0, .agg #[.int .i64 4, .int .i64 (wrongAt 0 0 s.data.toList)]]) ∧ Below w.heap.size w w' := by
  obtain ⟨p, hp⟩ : ∃ p, p = wrongAt 0 0 s.data.toList := ⟨_, rfl⟩
  have HP : Hid (p = wrongAt 0 0 s.data.toList) := hp
  have hp0 : 0 ≤ p := by
    rcases wrongAt_range s.data.toList 0 0 with h1 | h1
    · exact absurd h1 h
    · rw [hp]; have := h1.1; omega
  rw [← hp]
  clear h hp
  go_enter Tryd.func6, Tryd.ntmps6
  go_wp2_with (go_at_call 19; refine (wrongByte_any s _ hs).mono ?_; rw [← HP.out]; rintro e w' ⟨rfl, n, rfl⟩)
  exact bodyPost_ret (v := .tuple #[.slice none 0 0, .agg #[.int .i64 4, .int .i64 p]]) (by simp [results, Tryd.results6, go_sem]) rfl ⟨rfl, ((below_drewN ((Below.refl _ _).alloc (Nat.le_refl _) _) n).setCell (p := ⟨w.heap.size, 0, none⟩) (Nat.le_refl _) _).setCell (p := ⟨w.heap.size, 1, none⟩) (Nat.le_refl _) _⟩

theorem isEmpty_no {s : ByteArray} (h : s.data.toList ≠ []) : s.toList.isEmpty = false := by
  rw [Lib.toList_data]
  cases e : s.data.toList with
  | nil => exact absurd e h
  | cons _ _ => rfl
theorem isEmpty_yes {s : ByteArray} (h : s.data.toList = []) : s.toList.isEmpty = true := by rw [Lib.toList_data, h]; rfl

set_option maxHeartbeats 4000000 in
set_option maxRecDepth 100000 in
theorem Read_empty (s : ByteArray) (w : World) (hs : s.size ≤ maxLen) (h : s.data.toList = []) :
    Calls Tryd.prog 6 #[.string s] w fun e w' => e = .returned (.tuple #[.slice none 0 0, .agg #[.int .i64 0, .int .i64 0]]) ∧ Below w.heap.size w w' := by
  have HP : Hid (wrongAt 0 0 s.data.toList = -1) := by rw [h]; rfl
  have he : s.toList.isEmpty = true := isEmpty_yes h
  clear h
  go_enter Tryd.func6, Tryd.ntmps6
  go_wp2_with (go_at_call 19; refine (wrongByte_any s _ hs).mono ?_; rw [HP.out]; rintro e w' ⟨rfl, n, rfl⟩)
  exact bodyPost_ret (v := .tuple #[.slice none 0 0, .agg #[.int .i64 0, .int .i64 0]]) (by simp [results, Tryd.results6, go_sem]) rfl ⟨rfl, ((below_drewN ((Below.refl _ _).alloc (Nat.le_refl _) _) n).setCell (p := ⟨w.heap.size, 0, none⟩) (Nat.le_refl _) _).setCell (p := ⟨w.heap.size, 1, none⟩) (Nat.le_refl _) _⟩

set_option maxHeartbeats 4000000 in
set_option maxRecDepth 100000 in
theorem Read_large (s : ByteArray) (ls : List (List Int)) (w : World) (hs : s.size ≤ maxLen) (h0 : ls ≠ []) (h : RowsOk ls) (hl : s.data.toList = ttxt ls) (h40 : 40 < ls.flatten.length) :
    Calls Tryd.prog 6 #[.string s] w fun e w' => e = .returned (.tuple #[.slice none 0 0, .agg #[.int .i64 2, .int .i64 (-1)]]) ∧ Below w.heap.size w w' := by
  have hpos := ttxt_pos h0 h
  have HP : Hid (wrongAt 0 0 s.data.toList = -1) := by rw [hl]; exact (wrongAt_ok _ 0 0 (Or.inr hpos)).2 (ok_of_text h0 h)
  have he : s.toList.isEmpty = false := isEmpty_no (by rw [hl]; intro e; rw [e] at hpos; simp at hpos)
  have hc := count_text h0 h
  have hb := counts_le s.data.toList
  obtain ⟨x, HX⟩ : ∃ x, Hid (x = Lib.countByte s.data.toList 47) := ⟨_, rfl⟩
  obtain ⟨y, HY⟩ : ∃ y, Hid (y = Lib.countByte s.data.toList 32) := ⟨_, rfl⟩
  have hxy : 40 ≤ x + y := by rw [HX.out, HY.out]; unfold Lib.countByte; rw [hl]; omega
  have hxb : x + y ≤ s.size := by rw [HX.out, HY.out, Lib.size_eq]; exact hb
  have hs' : s.size ≤ 9223372036854775807 := by unfold maxLen at hs; omega
  have g0 : decide ((x : Int) + (y : Int) ≥ 40) = true := decide_eq_true (by omega)
  clear hpos hc hb h0 h hl h40
  go_enter Tryd.func6, Tryd.ntmps6
  go_wp2_with fail
  refine (wrongByte_any s _ hs).mono ?_
  rw [HP.out]
  rintro e w' ⟨rfl, n, rfl⟩
  go_wp2_with fail
  refine (Go.Proofs.Tryd.strings_Count_one s 47 _).mono ?_
  rw [← HX.out]
  rintro e w' ⟨rfl, rfl⟩
  go_wp2_with fail
  refine (Go.Proofs.Tryd.strings_Count_one s 32 _).mono ?_
  rw [← HY.out]
  rintro e w' ⟨rfl, rfl⟩
  go_wp2
  exact bodyPost_ret (v := .tuple #[.slice none 0 0, .agg #[.int .i64 2, .int .i64 (-1)]]) (by simp [results, Tryd.results6, go_sem]) rfl ⟨rfl, ((below_drewN ((Below.refl _ _).alloc (Nat.le_refl _) _) n).setCell (p := ⟨w.heap.size, 0, none⟩) (Nat.le_refl _) _).setCell (p := ⟨w.heap.size, 1, none⟩) (Nat.le_refl _) _⟩

set_option maxHeartbeats 8000000 in
set_option maxRecDepth 100000 in
theorem Read_rows (s : ByteArray) (ls : List (List Int)) (m : Int) (w : World) (hs : s.size ≤ maxLen) (h0 : ls ≠ []) (h : RowsOk ls) (hl : s.data.toList = ttxt ls) (h40 : ls.flatten.length ≤ 40) (hm : w.cell? ⟨0, 0, none⟩ = some (.int .i64 m)) (hw0 : 0 < w.heap.size) (c p : Int) (q : List (List Int)) (E : Hid (tchk ls = c)) (hq : (c = 0 ∧ p = 0 ∧ q = ls) ∨ (c ≠ 0 ∧ p = -1 ∧ q = [])) :
    Calls Tryd.prog 6 #[.string s] w fun e w' => ∃ v, e = .returned (.tuple #[v, .agg #[.int .i64 c, .int .i64 p]]) ∧ Tbl w' w.heap.size v q ∧ Below w.heap.size w w' := by
  have hpos := ttxt_pos h0 h
  have HP : Hid (wrongAt 0 0 s.data.toList = -1) := by rw [hl]; exact (wrongAt_ok _ 0 0 (Or.inr hpos)).2 (ok_of_text h0 h)
  have he : s.toList.isEmpty = false := isEmpty_no (by rw [hl]; intro e; rw [e] at hpos; simp at hpos)
  have hc := count_text h0 h
  obtain ⟨x, HX⟩ : ∃ x, Hid (x = Lib.countByte s.data.toList 47) := ⟨_, rfl⟩
  obtain ⟨y, HY⟩ : ∃ y, Hid (y = Lib.countByte s.data.toList 32) := ⟨_, rfl⟩
  have hxy : x + y < 40 := by rw [HX.out, HY.out]; unfold Lib.countByte; rw [hl]; omega
  have g0 : decide ((x : Int) + (y : Int) ≥ 40) = false := decide_eq_false (by omega)
  have HOk : Hid (RowsOk ls) := h
  have HNe : Hid (ls ≠ []) := h0
  have HLt : Hid (s.data.toList = ttxt ls) := hl
  have HF : Hid (ls.flatten.length ≤ 40) := h40
  have HMx : Hid (∀ w', Below w.heap.size w w' → w'.cell? ⟨0, 0, none⟩ = some (.int .i64 m)) := fun w' hb => (hb.cell (p := ⟨0, 0, none⟩) hw0).trans hm
  have HSm : Hid (∀ l ∈ ls, l.length ≤ 17592186044416 ∧ ∀ z ∈ l, -9223372036854775808 ≤ z ∧ z ≤ 9223372036854775807) := fun l hl => by
    obtain ⟨a, ha, rfl⟩ := mem_row hl
    refine ⟨by have := row_le_flat ha; omega, fun z hz => ?_⟩
    have := (h _ hl).2 z hz
    unfold Lt at this; omega
  have hll : ls.length ≤ 40 := by
    have := len_le_flat (ls := ls) (fun a ha => List.length_pos_iff.2 (h _ (row_mem ha)).1)
    omega
  have HQ : Hid ((c = 0 ∧ p = 0 ∧ q = ls) ∨ (c ≠ 0 ∧ p = -1 ∧ q = [])) := hq
  clear hpos hc h0 h hl h40 hm hq
  go_enter Tryd.func6, Tryd.ntmps6
  go_wp2_with fail
  refine (wrongByte_any s _ hs).mono ?_
  rw [HP.out]
  rintro e w' ⟨rfl, n, rfl⟩
  go_wp2_with fail
  refine (Go.Proofs.Tryd.strings_Count_one s 47 _).mono ?_
  rw [← HX.out]
  rintro e w' ⟨rfl, rfl⟩
  go_wp2_with fail
  refine (Go.Proofs.Tryd.strings_Count_one s 32 _).mono ?_
  rw [← HY.out]
  rintro e w' ⟨rfl, rfl⟩
  have HB0 : Hid (Below w.heap.size w ((w.alloc (.cells #[.int .i64 0, .int .i64 0] 27)).drewN n)) := below_drewN ((Below.refl _ _).alloc (Nat.le_refl _) _) n
  go_wp2_with fail
  refine (rowsOf_at s ls m _ HLt.out HNe.out HOk.out HF.out (HMx.out _ HB0.out) (by simp)).mono ?_
  rintro e w3 ⟨v, rfl, hT, hb⟩
  have hb' : Below (w.heap.size + 1) ((w.alloc (.cells #[.int .i64 0, .int .i64 0] 27)).drewN n) w3 := by simpa using hb
  have HT3 : Hid (Tbl w3 (w.heap.size + 1) v ls) := by simpa [Hid] using hT
  have HB3 : Hid (Below w.heap.size w w3) := HB0.out.trans (hb'.mono (by omega))
  have hc0 : w3.cell? ⟨w.heap.size, 0, none⟩ = some (.int .i64 0) := by
    rw [hb'.cell (p := ⟨w.heap.size, 0, none⟩) (by simp)]
    show (w.alloc (.cells #[.int .i64 0, .int .i64 0] 27)).cell? ⟨w.heap.size, 0, none⟩ = _
    rw [World.cell?_alloc_at _ _ _ _ rfl]; rfl
  have hc1 : w3.cell? ⟨w.heap.size, 1, none⟩ = some (.int .i64 0) := by
    rw [hb'.cell (p := ⟨w.heap.size, 1, none⟩) (by simp)]
    show (w.alloc (.cells #[.int .i64 0, .int .i64 0] 27)).cell? ⟨w.heap.size, 1, none⟩ = _
    rw [World.cell?_alloc_at _ _ _ _ rfl]; rfl
  have hrow3 : w3.heap[w.heap.size]? = some (.cells #[.int .i64 0, .int .i64 0] 27 (0, 0)) := by
    rw [hb'.block w.heap.size (by omega)]
    show (w.heap.push (.cells #[.int .i64 0, .int .i64 0] 27 (0, 0)))[w.heap.size]? = _
    simp
  have hf0 : w3.frozen? ⟨w.heap.size, 0, none⟩ = false := frozen_of_row w3 _ 0 _ _ hrow3
  have hf1 : w3.frozen? ⟨w.heap.size, 1, none⟩ = false := frozen_of_row w3 _ 1 _ _ hrow3
  obtain ⟨av, nv, cv, rfl, hTb, HN⟩ := hT.table HSm.out
  clear hT hb hb' hrow3
  go_wp2_with fail
  refine (TCheck_is _ _ _ _ _ hTb (by omega) HN.out E).mono ?_
  rintro e w4 ⟨rfl, n4, rfl⟩
  rcases HQ.out with ⟨rfl, rfl, rfl⟩ | ⟨hc, rfl, rfl⟩
  · go_wp2
    exact bodyPost_ret (v := .tuple #[.slice av nv cv, .agg #[.int .i64 0, .int .i64 0]]) (by simp [results, Tryd.results6, go_sem, hc0, hc1]) rfl ⟨_, rfl, (HT3.out.same (fun k hk _ => by rw [heap_setCell_other _ _ _ _ (by simp only; omega), heap_setCell_other _ _ _ _ (by simp only; omega)]; rfl)).mono (by omega), ((below_drewN HB3.out n4).setCell (p := ⟨w.heap.size, 0, none⟩) (Nat.le_refl _) _).setCell (p := ⟨w.heap.size, 1, none⟩) (Nat.le_refl _) _⟩
  · have hcb : (c != 0) = true := bne_iff_ne.2 hc
    clear hc
    go_wp2
    exact bodyPost_ret (v := .tuple #[.slice none 0 0, .agg #[.int .i64 c, .int .i64 (-1)]]) (by simp [results, Tryd.results6, go_sem, hc0, hc1]) rfl ⟨_, rfl, Tbl.nil _ _, ((below_drewN HB3.out n4).setCell (p := ⟨w.heap.size, 0, none⟩) (Nat.le_refl _) _).setCell (p := ⟨w.heap.size, 1, none⟩) (Nat.le_refl _) _⟩

theorem Read_at (s : ByteArray) (m : Int) (w : World) (hs : s.size ≤ maxLen) (hm : w.cell? ⟨0, 0, none⟩ = some (.int .i64 m)) (hw0 : 0 < w.heap.size) {c p : Int} {q : List (List Int)} (hr : ReadR s.data.toList c p q) :
    Calls Tryd.prog 6 #[.string s] w fun e w' => ∃ v, e = .returned (.tuple #[v, .agg #[.int .i64 c, .int .i64 p]]) ∧ Tbl w' w.heap.size v q ∧ Below w.heap.size w w' := by
  rcases hr with ⟨h, rfl, rfl, rfl⟩ | ⟨_, h, rfl, rfl, rfl⟩ | ⟨ls, h0, h, hl, hq⟩
  · exact (Read_wrong s w hs h).mono fun e w' ⟨he, hb⟩ => ⟨_, he, Tbl.nil _ _, hb⟩
  · exact (Read_empty s w hs h).mono fun e w' ⟨he, hb⟩ => ⟨_, he, Tbl.nil _ _, hb⟩
  · by_cases h40 : 40 < ls.flatten.length
    · have h2 : tchk ls = 2 := by unfold tchk; rw [if_pos h40]
      rcases hq with ⟨h3, _⟩ | ⟨_, rfl, rfl, rfl⟩
      · omega
      · rw [h2]
        exact (Read_large s ls w hs h0 h hl h40).mono fun e w' ⟨he, hb⟩ => ⟨_, he, Tbl.nil _ _, hb⟩
    · exact Read_rows s ls m w hs h0 h hl (by omega) hm hw0 c p q (by
        rcases hq with ⟨h3, rfl, _⟩ | ⟨_, rfl, _⟩
        · exact h3
        · exact rfl) (by
        rcases hq with ⟨_, rfl, rfl, rfl⟩ | ⟨h3, rfl, rfl, rfl⟩
        · exact Or.inl ⟨rfl, rfl, rfl⟩
        · exact Or.inr ⟨h3, rfl, rfl⟩)

end Go.Proofs.YtgcagoalnhgljacDoor
