/-
  Tables of whole numbers, rows of one length, each in a block of its own; the contract of signs.noughts.
-/
import Derived.Test.YtfdhbnbmobmlpaaDoorCRow
import Derived.Test.YtfdhbnbmobmlpaaDoorJMth
import Derived.Deep.DeepCutAuto
import Derived.Deep.OwnRows
import Derived.Deep.RegionLaw
namespace Go.Proofs.YtfdhbnbmobmlpaaDoor
open Go.RowKit

def rvs (r c : Nat) (gs : Nat → Nat) : List Value := (List.range r).map fun i => .slice (some ⟨gs i, 0, none⟩) c c
theorem rvs_at {r c : Nat} {gs : Nat → Nat} {i : Nat} (hi : i < r) : rowv (rvs r c gs) i = .slice (some ⟨gs i, 0, none⟩) c c := by simp [rowv, rvs, List.getD, hi]

/-- v's block is g, row i lies in block gs i -/
structure Rez (w : World) (lo g r c : Nat) (gs : Nat → Nat) (P : Nat → Nat → Int) : Prop where
  t : TblV w lo (.slice (some ⟨g, 0, none⟩) r r) (rvs r c gs) (tz r c P)

theorem Rez.same {w w' : World} {lo g r c : Nat} {gs : Nat → Nat} {P : Nat → Nat → Int} (h : Rez w lo g r c gs P) (hk : ∀ k, lo ≤ k → k < w.heap.size → w'.heap[k]? = w.heap[k]?) : Rez w' lo g r c gs P := ⟨h.t.same hk⟩
theorem Rez.below {w w' : World} {lo g r c : Nat} {gs : Nat → Nat} {P : Nat → Nat → Int} (h : Rez w lo g r c gs P) (hb : Below w.heap.size w w') : Rez w' lo g r c gs P := h.same (fun k _ hk => hb.block k hk)
theorem Rez.congr {w : World} {lo g r c : Nat} {gs : Nat → Nat} {P Q : Nat → Nat → Int} (h : Rez w lo g r c gs P) (e : ∀ i, i < r → ∀ j, j < c → P i j = Q i j) : Rez w lo g r c gs Q := ⟨by rw [← tz_congr e]; exact h.t⟩
theorem Rez.tbl {w : World} {lo g r c : Nat} {gs : Nat → Nat} {P : Nat → Nat → Int} (h : Rez w lo g r c gs P) : Tbl w lo (.slice (some ⟨g, 0, none⟩) r r) (tz r c P) := ⟨_, h.t⟩
theorem Rez.head {w : World} {lo g r c : Nat} {gs : Nat → Nat} {P : Nat → Nat → Int} (h : Rez w lo g r c gs P) {i : Nat} (hi : i < r) : w.cell? ⟨g, i, none⟩ = some (.slice (some ⟨gs i, 0, none⟩) c c) := by
  obtain ⟨g9, n9, cap9, e9, -, _, _, _, hce9⟩ := h.t.head (by rw [tz_len]; omega)
  simp only [Value.slice.injEq, Option.some.injEq, Addr.mk.injEq, and_true] at e9
  obtain ⟨rfl, -, -⟩ := e9
  rw [hce9 i (by rw [tz_len]; exact hi), rvs_at hi]
theorem Rez.box {w : World} {lo g r c : Nat} {gs : Nat → Nat} {P : Nat → Nat → Int} (h : Rez w lo g r c gs P) {i j : Nat} (hi : i < r) (hj : j < c) :
    w.cell? ⟨gs i, j, none⟩ = some (.int .i64 (P i j)) ∧ w.frozen? ⟨gs i, j, none⟩ = false ∧ lo ≤ gs i ∧ gs i < w.heap.size := by
  have ho := h.t.rows i (by rw [tz_len]; exact hi)
  rw [rvs_at hi, tz_get hi] at ho
  obtain ⟨g8, cap8, e8, hg8, hgs8, hfr8, hce8⟩ := ho.head (by rw [tab_length]; omega)
  simp only [Value.slice.injEq, Option.some.injEq, Addr.mk.injEq, and_true] at e8
  obtain ⟨rfl, -, -⟩ := e8
  have := hce8 j (by rw [tab_length]; exact hj)
  rw [tab_getD _ _ _ hj] at this
  exact ⟨this, hfr8 j, hg8, hgs8⟩

def updz (P : Nat → Nat → Int) (i j : Nat) (x : Int) (a b : Nat) : Int := if a = i ∧ b = j then x else P a b
theorem tab_setz (c : Nat) (f : Nat → Int) (j : Nat) (x : Int) : (tab c f).set j x = tab c fun b => if b = j then x else f b := by
  refine ext_getD (by simp [tab_length]) (fun b hb => ?_)
  rw [List.length_set, tab_length] at hb
  rw [set_getD _ _ _ _ (by rw [tab_length]; exact hb), tab_getD _ _ _ hb, tab_getD _ _ _ hb]
theorem tz_set {r c : Nat} {P : Nat → Nat → Int} {i j : Nat} {x : Int} (hi : i < r) : (tz r c P).set i (((tz r c P).getD i []).set j x) = tz r c (updz P i j x) := by
  refine ext_row (by simp [tz_len]) (fun a ha => ?_)
  rw [List.length_set, tz_len] at ha
  unfold row
  rw [getD_set_rows _ _ _ _ (by rw [tz_len]; exact ha), tz_get hi, tz_get ha, tz_get ha, tab_setz]
  by_cases e : a = i
  · subst e
    rw [if_pos rfl]
    refine tab_congr (fun b hb => ?_)
    unfold updz
    by_cases e2 : b = j
    · rw [if_pos e2, if_pos ⟨rfl, e2⟩]
    · rw [if_neg e2, if_neg (fun h => e2 h.2)]
  · rw [if_neg e]
    refine tab_congr (fun b hb => ?_)
    unfold updz
    rw [if_neg (fun h => e h.1)]

theorem Rez.apart {w : World} {lo g r c : Nat} {gs : Nat → Nat} {P : Nat → Nat → Int} (h : Rez w lo g r c gs P) {i k : Nat} (hi : i < r) (hk : k < r) (hne : i ≠ k) : gs i ≠ gs k := fun e => by
  have := h.t.apart i k (by rw [tz_len]; exact hi) (by rw [tz_len]; exact hk) hne
  rw [rvs_at hi, rvs_at hk] at this
  exact this (gs i) rfl (by rw [e]; rfl)
theorem Rez.off {w : World} {lo g r c : Nat} {gs : Nat → Nat} {P : Nat → Nat → Int} (h : Rez w lo g r c gs P) {i : Nat} (hi : i < r) : g ≠ gs i := fun e => by
  have := h.t.off i (by rw [tz_len]; exact hi)
  rw [rvs_at hi] at this
  exact this g rfl (by rw [e]; rfl)

/-- a box is stored -/
theorem Rez.set {w W : World} {lo g r c : Nat} {gs : Nat → Nat} {P : Nat → Nat → Int} (h : Rez w lo g r c gs P) {i j : Nat} (hi : i < r) (x : Int) (hW : W.heap = w.heap) : Rez (W.setCell ⟨gs i, j, none⟩ (.int .i64 x)) lo g r c gs (updz P i j x) := by
  have h1 := (h.same (w' := W) (fun k _ _ => by rw [hW])).t
  have h2 := h1.storeBox (by rw [tz_len]; exact hi) (rvs_at hi) (by rw [tz_get hi, tab_length]) j x
  rw [tz_set hi] at h2
  exact ⟨h2⟩

def evs (r c : Nat) (gs : Nat → Nat) (i : Nat) : List Value := (List.range r).map fun k => if k < i then .slice (some ⟨gs k, 0, none⟩) c c else .slice none 0 0
def els (r c : Nat) (i : Nat) : List (List Int) := (List.range r).map fun k => if k < i then List.replicate c 0 else []
theorem els_len (r c i : Nat) : (els r c i).length = r := by simp [els]
theorem evs_len (r c : Nat) (gs : Nat → Nat) (i : Nat) : (evs r c gs i).length = r := by simp [evs]
theorem evs_set (r c : Nat) (gs : Nat → Nat) (i q : Nat) : (evs r c gs i).set i (.slice (some ⟨q, 0, none⟩) c c) = evs r c (fun k => if k = i then q else gs k) (i + 1) := by
  refine List.ext_getElem (by simp [evs]) (fun k h1 h2 => ?_)
  rw [List.getElem_set]
  simp only [evs, List.getElem_map, List.getElem_range]
  by_cases e : i = k
  · subst e; rw [if_pos rfl, if_pos (by omega), if_pos rfl]
  · rw [if_neg e]
    by_cases h : k < i
    · rw [if_pos h, if_pos (by omega), if_neg (fun x => e x.symm)]
    · rw [if_neg h, if_neg (by omega)]
theorem els_set (r c i : Nat) : (els r c i).set i (List.replicate c 0) = els r c (i + 1) := by
  refine List.ext_getElem (by simp [els]) (fun k h1 h2 => ?_)
  rw [List.getElem_set]
  simp only [els, List.getElem_map, List.getElem_range]
  by_cases e : i = k
  · subst e; rw [if_pos rfl, if_pos (by omega)]
  · rw [if_neg e]
    by_cases h : k < i
    · rw [if_pos h, if_pos (by omega)]
    · rw [if_neg h, if_neg (by omega)]
theorem els_zero (r c : Nat) : els r c 0 = List.replicate r [] := by
  rw [List.eq_replicate_iff]
  refine ⟨els_len _ _ _, fun x hx => ?_⟩
  obtain ⟨i, _, rfl⟩ := List.mem_map.1 hx
  rw [if_neg (by omega)]
theorem evs_zero (r c : Nat) (gs : Nat → Nat) : evs r c gs 0 = List.replicate r (.slice none 0 0) := by
  rw [List.eq_replicate_iff]
  refine ⟨evs_len _ _ _ _, fun x hx => ?_⟩
  obtain ⟨i, _, rfl⟩ := List.mem_map.1 hx
  rw [if_neg (by omega)]
theorem els_full (r c : Nat) : els r c r = tz r c fun _ _ => 0 := by
  refine List.map_congr_left (fun k hk => ?_)
  rw [if_pos (List.mem_range.1 hk)]
  symm
  rw [List.eq_replicate_iff]
  refine ⟨tab_length _ _, fun x hx => ?_⟩
  obtain ⟨_, _, rfl⟩ := tab_mem hx
  rfl
theorem evs_full (r c : Nat) (gs : Nat → Nat) : evs r c gs r = rvs r c gs := List.map_congr_left (fun k hk => by rw [if_pos (List.mem_range.1 hk)])

set_option maxHeartbeats 4000000 in
theorem noughts_at (n : Nat) (w : World) (h1 : 1 ≤ n) (hn : n ≤ 20) :
    Calls Tryd.prog 11 #[.int .i64 (n : Int)] w fun e w' => ∃ gs, e = .returned (.slice (some ⟨w.heap.size, 0, none⟩) n n) ∧ Hid (Rez w' w.heap.size w.heap.size n n gs fun _ _ => 0) ∧ Hid (Below w.heap.size w w') := by
  have hmR : ∀ W, (Instr.makeSlice 34 (.int .i64 (n : Int)) (.int .i64 (n : Int))).run Tryd.prog W = .ok (.slice (some ⟨W.heap.size, 0, none⟩) n n) (W.alloc (.cells (madeCells #[Value.slice none 0 0] n) 22)) := fun W => run_make_row' 34 22 (.slice none 0 0) 24 Tryd.underlying34 (by kernel_rfl) rfl .i64 .i64 n (by omega) (by omega) W
  have hmP : ∀ W, (Instr.makeSlice 22 (.int .i64 (n : Int)) (.int .i64 (n : Int))).run Tryd.prog W = .ok (.slice (some ⟨W.heap.size, 0, none⟩) n n) (W.alloc (.cells (madeCells #[Value.int .i64 0] n) 3)) := fun W =>
        run_make_row' (P := Tryd.prog) 22 3 (.int .i64 0) 8 Tryd.underlying22 (by kernel_rfl) rfl .i64 .i64 n (by omega) (by omega) W
  have HT0 : Hid (TblV (w.alloc (.cells (madeCells #[Value.slice none 0 0] n) 22)) w.heap.size (.slice (some ⟨w.heap.size, 0, none⟩) n n) (evs n n (fun _ => 0) 0) (els n n 0)) := by
    show TblV _ _ _ _ _
    rw [els_zero, evs_zero]
    refine tbl_made ⟨by rw [toList_madeCells_one]; simp, Or.inr ⟨w.heap.size, n, madeCells #[Value.slice none 0 0] n, rfl, Nat.le_refl _, heap_alloc_new _ _, Nat.le_refl _, by unfold maxLen; omega, by rw [← Array.length_toList, toList_madeCells_one]; simp, ?_⟩⟩
    rw [Nat.mul_one, List.take_of_length_le (by rw [toList_madeCells_one]; simp)]
  have HB0 : Hid (Below w.heap.size w (w.alloc (.cells (madeCells #[Value.slice none 0 0] n) 22))) := (Below.refl _ _).alloc (Nat.le_refl _) _
  go_enter Tryd.func11, Tryd.ntmps11
  go_wp2_with fail
  clear hmR
  obtain ⟨R, HR⟩ : ∃ R, Hid (R = w.heap.size) := ⟨_, rfl⟩
  rw [← HR.out] at HT0 ⊢
  go_loopw [9] (fun iv wr => ∃ (i : Nat) (gs : Nat → Nat), i ≤ n ∧ iv = .int .i64 (i : Int) ∧ Hid (TblV wr R (.slice (some ⟨R, 0, none⟩) n n) (evs n n gs i) (els n n i)) ∧ Hid (Below w.heap.size w wr)) (fun iv _ => n - (intOf iv).toNat)
  case atStart => exact ⟨0, _, Nat.zero_le _, rfl, HT0, HB0⟩
  case round =>
    clear HT0 HB0
    obtain ⟨i, gs, hi, rfl, HT, HB⟩ := hrel
    by_cases hlt : i < n
    · have hlt' : (i : Int) < (n : Int) := by omega
      obtain ⟨g9, n9, cap9, e9, -, hg9, hgs9, hfr9, hce9⟩ := HT.out.head (by rw [els_len]; omega)
      simp only [Value.slice.injEq, Option.some.injEq, Addr.mk.injEq, and_true] at e9
      obtain ⟨rfl, -, -⟩ := e9
      have cR : wr.cell? ⟨R, i, none⟩ = some (rowv (evs n n gs i) i) := hce9 i (by rw [els_len]; exact hlt)
      have fR : wr.frozen? ⟨R, i, none⟩ = false := hfr9 i
      have hB1 : Below wr.heap.size wr (wr.alloc (.cells (madeCells #[Value.int .i64 0] n) 3)) := (Below.refl _ _).alloc (Nat.le_refl _) _
      have cR1 : (wr.alloc (.cells (madeCells #[Value.int .i64 0] n) 3)).cell? ⟨R, i, none⟩ = some (rowv (evs n n gs i) i) := (hB1.cell (p := ⟨R, i, none⟩) hgs9).trans cR
      have fR1 : (wr.alloc (.cells (madeCells #[Value.int .i64 0] n) 3)).frozen? ⟨R, i, none⟩ = false := (hB1.frozen (p := ⟨R, i, none⟩) hgs9).trans fR
      have hmade : (madeCells #[Value.int .i64 0] n) = (List.replicate n (Value.int .i64 0)).toArray := by
        apply Array.toList_inj.1
        rw [toList_madeCells_one]
      have hRl : R ≤ wr.heap.size := by omega
      have hO : Owns (wr.alloc (.cells (madeCells #[Value.int .i64 0] n) 3)) R (.slice (some ⟨wr.heap.size, 0, none⟩) n n) (List.replicate n 0) := by
        refine owns_of_row hRl ?_ (by simp) (by simp; omega)
        rw [heap_alloc_new wr, hmade]; simp
      have HT2 : Hid (TblV ((wr.alloc (.cells (madeCells #[Value.int .i64 0] n) 3)).setCell ⟨R, i, none⟩ (.slice (some ⟨wr.heap.size, 0, none⟩) n n)) R (.slice (some ⟨R, 0, none⟩) n n) (evs n n (fun k => if k = i then wr.heap.size else gs k) (i + 1)) (els n n (i + 1))) := by
        show TblV _ _ _ _ _
        rw [← els_set, ← evs_set]
        exact HT.out.setRow (by rw [els_len]; exact hlt) hO ⟨hB1.size, fun k hk _ => hB1.block k hk, fun g hg => Or.inr (by cases hg; exact Nat.le_refl _)⟩
      have HB2 : Hid (Below w.heap.size w ((wr.alloc (.cells (madeCells #[Value.int .i64 0] n) 3)).setCell ⟨R, i, none⟩ (.slice (some ⟨wr.heap.size, 0, none⟩) n n))) := (HB.out.trans (hB1.mono HB.out.size)).setCell (p := ⟨R, i, none⟩) (by rw [← HR.out]; exact Nat.le_refl _) _
      rw [World.setCell_alloc_past _ _ _ _ hgs9] at HT2 HB2
      clear hce9 hfr9 hmade hO hB1
      go_wp2_with fail
      go_roundw
      case rel => exact ⟨i + 1, _, by omega, by go_num, HT2, HB2⟩
      case measure => simp [intOf]; omega
    · obtain rfl : i = n := by omega
      have HTe : Hid (Rez wr R R i i gs fun _ _ => 0) := by
        have h := HT.out
        rw [els_full, evs_full] at h
        exact ⟨h⟩
      go_wp2
      go_ret
      refine ⟨gs, ?_, by rw [← HR.out]; exact HTe, HB⟩
      rw [HR.out]
      rfl

end Go.Proofs.YtfdhbnbmobmlpaaDoor
