/-
  Tables of whole numbers, rows of one length, each in a block of its own; the contract of signs.noughts.
  The contracts of signs.areOfLength, mayCome, alternates, column.
-/
import Derived.Test.YtgcpconlmihilaaGreatDoorJMth
import Derived.Deep.DeepCutAuto
import Derived.Deep.OwnRows
import Derived.Deep.RegionLaw
namespace Go.Proofs.YtgcpconlmihilaaGreatDoor
open Go.RowKit

def rvs (r c : Nat) (gs : Nat → Nat) : List Value := (List.range r).map fun i => .slice (some ⟨gs i, 0, none⟩) c c
theorem rvs_at {r c : Nat} {gs : Nat → Nat} {i : Nat} (hi : i < r) : rowv (rvs r c gs) i = .slice (some ⟨gs i, 0, none⟩) c c := by simp [rowv, rvs, List.getD, hi]

/-- v's block is g, row i lies in block gs i -/
structure Rez (w : World) (lo g r c : Nat) (gs : Nat → Nat) (P : Nat → Nat → Int) : Prop where
  t : TblV w lo (.slice (some ⟨g, 0, none⟩) r r) (rvs r c gs) (tz r c P)

theorem Rez.same {w w' : World} {lo g r c : Nat} {gs : Nat → Nat} {P : Nat → Nat → Int} (h : Rez w lo g r c gs P) (hk : ∀ k, lo ≤ k → k < w.heap.size → w'.heap[k]? = w.heap[k]?) : Rez w' lo g r c gs P := ⟨h.t.same hk⟩
theorem Rez.below {w w' : World} {lo g r c : Nat} {gs : Nat → Nat} {P : Nat → Nat → Int} (h : Rez w lo g r c gs P) (hb : Below w.heap.size w w') : Rez w' lo g r c gs P := h.same (fun k _ hk => hb.block k hk)
theorem Rez.congr {w : World} {lo g r c : Nat} {gs : Nat → Nat} {P Q : Nat → Nat → Int} (h : Rez w lo g r c gs P) (e : ∀ i, i < r → ∀ j, j < c → P i j = Q i j) : Rez w lo g r c gs Q := ⟨by rw [← tz_congr e]; exact h.t⟩
theorem Rez.tbl {w : World} {lo g r c : Nat} {gs : Nat → Nat} {P : Nat → Nat → Int} (h : Rez w lo g r c gs P) : Tbl w lo (.slice (some ⟨g, 0, none⟩) r r) (tz r c P) := ⟨_, h.t⟩
theorem Rez.head {w : World} {lo g r c : Nat} {gs : Nat → Nat} {P : Nat → Nat → Int} (h : Rez w lo g r c gs P) {i : Nat} (hi : i < r) : w.cell? ⟨g, i, none⟩ = some (.slice (some ⟨gs i, 0, none⟩) c c) := by
  obtain ⟨g9, n9, cap9, e9, -, _, _, _, hce9⟩ := h.t.head (by rw [tz_len]; omega)
  simp only [Value.slice.injEq, Option.some.injEq, Addr.mk.injEq, and_true] at e9
  obtain ⟨rfl, -, -⟩ := e9
  rw [hce9 i (by rw [tz_len]; exact hi), rvs_at hi]
theorem Rez.box {w : World} {lo g r c : Nat} {gs : Nat → Nat} {P : Nat → Nat → Int} (h : Rez w lo g r c gs P) {i j : Nat} (hi : i < r) (hj : j < c) :
    w.cell? ⟨gs i, j, none⟩ = some (.int .i64 (P i j)) ∧ w.frozen? ⟨gs i, j, none⟩ = false ∧ lo ≤ gs i ∧ gs i < w.heap.size := by
  have ho := h.t.rows i (by rw [tz_len]; exact hi)
  rw [rvs_at hi, tz_get hi] at ho
  obtain ⟨g8, cap8, e8, hg8, hgs8, hfr8, hce8⟩ := ho.head (by rw [tab_length]; omega)
  simp only [Value.slice.injEq, Option.some.injEq, Addr.mk.injEq, and_true] at e8
  obtain ⟨rfl, -, -⟩ := e8
  have := hce8 j (by rw [tab_length]; exact hj)
  rw [tab_getD _ _ _ hj] at this
  exact ⟨this, hfr8 j, hg8, hgs8⟩

def updz (P : Nat → Nat → Int) (i j : Nat) (x : Int) (a b : Nat) : Int := if a = i ∧ b = j then x else P a b
theorem tab_setz (c : Nat) (f : Nat → Int) (j : Nat) (x : Int) : (tab c f).set j x = tab c fun b => if b = j then x else f b := by
  refine ext_getD (by simp [tab_length]) (fun b hb => ?_)
  rw [List.length_set, tab_length] at hb
  rw [set_getD _ _ _ _ (by rw [tab_length]; exact hb), tab_getD _ _ _ hb, tab_getD _ _ _ hb]
theorem tz_set {r c : Nat} {P : Nat → Nat → Int} {i j : Nat} {x : Int} (hi : i < r) : (tz r c P).set i (((tz r c P).getD i []).set j x) = tz r c (updz P i j x) := by
  refine ext_row (by simp [tz_len]) (fun a ha => ?_)
  rw [List.length_set, tz_len] at ha
  unfold row
  rw [getD_set_rows _ _ _ _ (by rw [tz_len]; exact ha), tz_get hi, tz_get ha, tz_get ha, tab_setz]
  by_cases e : a = i
  · subst e
    rw [if_pos rfl]
    refine tab_congr (fun b hb => ?_)
    unfold updz
    by_cases e2 : b = j
    · rw [if_pos e2, if_pos ⟨rfl, e2⟩]
    · rw [if_neg e2, if_neg (fun h => e2 h.2)]
  · rw [if_neg e]
    refine tab_congr (fun b hb => ?_)
    unfold updz
    rw [if_neg (fun h => e h.1)]

theorem Rez.apart {w : World} {lo g r c : Nat} {gs : Nat → Nat} {P : Nat → Nat → Int} (h : Rez w lo g r c gs P) {i k : Nat} (hi : i < r) (hk : k < r) (hne : i ≠ k) : gs i ≠ gs k := fun e => by
  have := h.t.apart i k (by rw [tz_len]; exact hi) (by rw [tz_len]; exact hk) hne
  rw [rvs_at hi, rvs_at hk] at this
  exact this (gs i) rfl (by rw [e]; rfl)
theorem Rez.off {w : World} {lo g r c : Nat} {gs : Nat → Nat} {P : Nat → Nat → Int} (h : Rez w lo g r c gs P) {i : Nat} (hi : i < r) : g ≠ gs i := fun e => by
  have := h.t.off i (by rw [tz_len]; exact hi)
  rw [rvs_at hi] at this
  exact this g rfl (by rw [e]; rfl)

/-- a box is stored -/
theorem Rez.set {w W : World} {lo g r c : Nat} {gs : Nat → Nat} {P : Nat → Nat → Int} (h : Rez w lo g r c gs P) {i j : Nat} (hi : i < r) (x : Int) (hW : W.heap = w.heap) : Rez (W.setCell ⟨gs i, j, none⟩ (.int .i64 x)) lo g r c gs (updz P i j x) := by
  have h1 := (h.same (w' := W) (fun k _ _ => by rw [hW])).t
  have h2 := h1.storeBox (by rw [tz_len]; exact hi) (rvs_at hi) (by rw [tz_get hi, tab_length]) j x
  rw [tz_set hi] at h2
  exact ⟨h2⟩

def evs (r c : Nat) (gs : Nat → Nat) (i : Nat) : List Value := (List.range r).map fun k => if k < i then .slice (some ⟨gs k, 0, none⟩) c c else .slice none 0 0
def els (r c : Nat) (i : Nat) : List (List Int) := (List.range r).map fun k => if k < i then List.replicate c 0 else []
theorem els_len (r c i : Nat) : (els r c i).length = r := by simp [els]
theorem evs_len (r c : Nat) (gs : Nat → Nat) (i : Nat) : (evs r c gs i).length = r := by simp [evs]
theorem evs_set (r c : Nat) (gs : Nat → Nat) (i q : Nat) : (evs r c gs i).set i (.slice (some ⟨q, 0, none⟩) c c) = evs r c (fun k => if k = i then q else gs k) (i + 1) := by
  refine List.ext_getElem (by simp [evs]) (fun k h1 h2 => ?_)
  rw [List.getElem_set]
  simp only [evs, List.getElem_map, List.getElem_range]
  by_cases e : i = k
  · subst e; rw [if_pos rfl, if_pos (by omega), if_pos rfl]
  · rw [if_neg e]
    by_cases h : k < i
    · rw [if_pos h, if_pos (by omega), if_neg (fun x => e x.symm)]
    · rw [if_neg h, if_neg (by omega)]
theorem els_set (r c i : Nat) : (els r c i).set i (List.replicate c 0) = els r c (i + 1) := by
  refine List.ext_getElem (by simp [els]) (fun k h1 h2 => ?_)
  rw [List.getElem_set]
  simp only [els, List.getElem_map, List.getElem_range]
  by_cases e : i = k
  · subst e; rw [if_pos rfl, if_pos (by omega)]
  · rw [if_neg e]
    by_cases h : k < i
    · rw [if_pos h, if_pos (by omega)]
    · rw [if_neg h, if_neg (by omega)]
theorem els_zero (r c : Nat) : els r c 0 = List.replicate r [] := by
  rw [List.eq_replicate_iff]
  refine ⟨els_len _ _ _, fun x hx => ?_⟩
  obtain ⟨i, _, rfl⟩ := List.mem_map.1 hx
  rw [if_neg (by omega)]
theorem evs_zero (r c : Nat) (gs : Nat → Nat) : evs r c gs 0 = List.replicate r (.slice none 0 0) := by
  rw [List.eq_replicate_iff]
  refine ⟨evs_len _ _ _ _, fun x hx => ?_⟩
  obtain ⟨i, _, rfl⟩ := List.mem_map.1 hx
  rw [if_neg (by omega)]
theorem els_full (r c : Nat) : els r c r = tz r c fun _ _ => 0 := by
  refine List.map_congr_left (fun k hk => ?_)
  rw [if_pos (List.mem_range.1 hk)]
  symm
  rw [List.eq_replicate_iff]
  refine ⟨tab_length _ _, fun x hx => ?_⟩
  obtain ⟨_, _, rfl⟩ := tab_mem hx
  rfl
theorem evs_full (r c : Nat) (gs : Nat → Nat) : evs r c gs r = rvs r c gs := List.map_congr_left (fun k hk => by rw [if_pos (List.mem_range.1 hk)])

set_option maxHeartbeats 4000000 in
theorem noughts_at (n : Nat) (w : World) (h1 : 1 ≤ n) (hn : n ≤ 20) :
    Calls Tryz.prog 23 #[.int .i64 (n : Int)] w fun e w' => ∃ gs, e = .returned (.slice (some ⟨w.heap.size, 0, none⟩) n n) ∧ Hid (Rez w' w.heap.size w.heap.size n n gs fun _ _ => 0) ∧ Hid (Below w.heap.size w w') := by
  have hmR : ∀ W, (Instr.makeSlice 22 (.int .i64 (n : Int)) (.int .i64 (n : Int))).run Tryz.prog W = .ok (.slice (some ⟨W.heap.size, 0, none⟩) n n) (W.alloc (.cells (madeCells #[Value.slice none 0 0] n) 36)) := fun W => run_make_row' 22 36 (.slice none 0 0) 24 Tryz.underlying22 (by kernel_rfl) rfl .i64 .i64 n (by omega) (by omega) W
  have hmP : ∀ W, (Instr.makeSlice 36 (.int .i64 (n : Int)) (.int .i64 (n : Int))).run Tryz.prog W = .ok (.slice (some ⟨W.heap.size, 0, none⟩) n n) (W.alloc (.cells (madeCells #[Value.int .i64 0] n) 3)) := fun W =>
        run_make_row' (P := Tryz.prog) 36 3 (.int .i64 0) 8 Tryz.underlying36 (by kernel_rfl) rfl .i64 .i64 n (by omega) (by omega) W
  have HT0 : Hid (TblV (w.alloc (.cells (madeCells #[Value.slice none 0 0] n) 36)) w.heap.size (.slice (some ⟨w.heap.size, 0, none⟩) n n) (evs n n (fun _ => 0) 0) (els n n 0)) := by
    show TblV _ _ _ _ _
    rw [els_zero, evs_zero]
    refine tbl_made ⟨by rw [toList_madeCells_one]; simp, Or.inr ⟨w.heap.size, n, madeCells #[Value.slice none 0 0] n, rfl, Nat.le_refl _, heap_alloc_new _ _, Nat.le_refl _, by unfold maxLen; omega, by rw [← Array.length_toList, toList_madeCells_one]; simp, ?_⟩⟩
    rw [Nat.mul_one, List.take_of_length_le (by rw [toList_madeCells_one]; simp)]
  have HB0 : Hid (Below w.heap.size w (w.alloc (.cells (madeCells #[Value.slice none 0 0] n) 36))) := (Below.refl _ _).alloc (Nat.le_refl _) _
  go_enter Tryz.func23, Tryz.ntmps23
  go_wp2_with fail
  clear hmR
  obtain ⟨R, HR⟩ : ∃ R, Hid (R = w.heap.size) := ⟨_, rfl⟩
  rw [← HR.out] at HT0 ⊢
  go_loopw [9] (fun iv wr => ∃ (i : Nat) (gs : Nat → Nat), i ≤ n ∧ iv = .int .i64 (i : Int) ∧ Hid (TblV wr R (.slice (some ⟨R, 0, none⟩) n n) (evs n n gs i) (els n n i)) ∧ Hid (Below w.heap.size w wr)) (fun iv _ => n - (intOf iv).toNat)
  case atStart => exact ⟨0, _, Nat.zero_le _, rfl, HT0, HB0⟩
  case round =>
    clear HT0 HB0
    obtain ⟨i, gs, hi, rfl, HT, HB⟩ := hrel
    by_cases hlt : i < n
    · have hlt' : (i : Int) < (n : Int) := by omega
      obtain ⟨g9, n9, cap9, e9, -, hg9, hgs9, hfr9, hce9⟩ := HT.out.head (by rw [els_len]; omega)
      simp only [Value.slice.injEq, Option.some.injEq, Addr.mk.injEq, and_true] at e9
      obtain ⟨rfl, -, -⟩ := e9
      have cR : wr.cell? ⟨R, i, none⟩ = some (rowv (evs n n gs i) i) := hce9 i (by rw [els_len]; exact hlt)
      have fR : wr.frozen? ⟨R, i, none⟩ = false := hfr9 i
      have hB1 : Below wr.heap.size wr (wr.alloc (.cells (madeCells #[Value.int .i64 0] n) 3)) := (Below.refl _ _).alloc (Nat.le_refl _) _
      have cR1 : (wr.alloc (.cells (madeCells #[Value.int .i64 0] n) 3)).cell? ⟨R, i, none⟩ = some (rowv (evs n n gs i) i) := (hB1.cell (p := ⟨R, i, none⟩) hgs9).trans cR
      have fR1 : (wr.alloc (.cells (madeCells #[Value.int .i64 0] n) 3)).frozen? ⟨R, i, none⟩ = false := (hB1.frozen (p := ⟨R, i, none⟩) hgs9).trans fR
      have hmade : (madeCells #[Value.int .i64 0] n) = (List.replicate n (Value.int .i64 0)).toArray := by
        apply Array.toList_inj.1
        rw [toList_madeCells_one]
      have hRl : R ≤ wr.heap.size := by omega
      have hO : Owns (wr.alloc (.cells (madeCells #[Value.int .i64 0] n) 3)) R (.slice (some ⟨wr.heap.size, 0, none⟩) n n) (List.replicate n 0) := by
        refine owns_of_row hRl ?_ (by simp) (by simp; omega)
        rw [heap_alloc_new wr, hmade]; simp
      have HT2 : Hid (TblV ((wr.alloc (.cells (madeCells #[Value.int .i64 0] n) 3)).setCell ⟨R, i, none⟩ (.slice (some ⟨wr.heap.size, 0, none⟩) n n)) R (.slice (some ⟨R, 0, none⟩) n n) (evs n n (fun k => if k = i then wr.heap.size else gs k) (i + 1)) (els n n (i + 1))) := by
        show TblV _ _ _ _ _
        rw [← els_set, ← evs_set]
        exact HT.out.setRow (by rw [els_len]; exact hlt) hO ⟨hB1.size, fun k hk _ => hB1.block k hk, fun g hg => Or.inr (by cases hg; exact Nat.le_refl _)⟩
      have HB2 : Hid (Below w.heap.size w ((wr.alloc (.cells (madeCells #[Value.int .i64 0] n) 3)).setCell ⟨R, i, none⟩ (.slice (some ⟨wr.heap.size, 0, none⟩) n n))) := (HB.out.trans (hB1.mono HB.out.size)).setCell (p := ⟨R, i, none⟩) (by rw [← HR.out]; exact Nat.le_refl _) _
      rw [World.setCell_alloc_past _ _ _ _ hgs9] at HT2 HB2
      clear hce9 hfr9 hmade hO hB1
      go_wp2_with fail
      go_roundw
      case rel => exact ⟨i + 1, _, by omega, by go_num, HT2, HB2⟩
      case measure => simp [intOf]; omega
    · obtain rfl : i = n := by omega
      have HTe : Hid (Rez wr R R i i gs fun _ _ => 0) := by
        have h := HT.out
        rw [els_full, evs_full] at h
        exact ⟨h⟩
      go_wp2
      go_ret
      refine ⟨gs, ?_, by rw [← HR.out]; exact HTe, HB⟩
      rw [HR.out]
      rfl

end Go.Proofs.YtgcpconlmihilaaGreatDoor

namespace Go.Proofs.YtgcpconlmihilaaGreatDoor
open Go.RowKit

set_option maxHeartbeats 1000000 in
theorem areOfLength_at (a : Option Addr) (n cap m : Nat) (ls : List (List Int)) (w : World) (B : Bool) (hs : Table w a ls) (hn : n = ls.length) (hl : ls.length ≤ 17592186044416) (hm : m ≤ 17592186044416) (HB : Hid (B = true ↔ ∀ i, i < ls.length → (row ls i).length = m)) :
    Calls Tryz.prog 11 #[.slice a n cap, .int .i64 (m : Int)] w fun e w' => e = .returned (.bool B) ∧ w' = w := by
  subst hn
  have HS : Hid (Table w a ls) := hs
  clear hs
  go_enter Tryz.func11, Tryz.ntmps11
  go_wp2
  go_loopw [9] (fun q wr => ∃ k : Nat, k ≤ ls.length ∧ q = .int .i64 k ∧ Hid (∀ i, i < k → (row ls i).length = m) ∧ wr = w) (fun q _ => ls.length - (intOf q).toNat)
  case atStart => exact ⟨0, Nat.zero_le _, rfl, fun i h => absurd h (by omega), rfl⟩
  case round =>
    obtain ⟨k, hk, rfl, HK, rfl⟩ := hrel
    by_cases hlt : k < ls.length
    · have hlt' : (k : Int) < (ls.length : Int) := by omega
      obtain ⟨b1, off1, a1, m1, c1, rfl, hc1, HM1, -, -, hmb⟩ := HS.out.elemR hlt
      by_cases e : m1 = m
      · subst e
        have hne : ((m1 : Int) != (m1 : Int)) = false := by simp
        go_wp2
        go_roundw
        case rel => exact ⟨k + 1, by omega, by go_num, fun i hi => by
          by_cases e : i = k
          · subst e; exact HM1.out.symm
          · exact HK.out i (by omega), trivial⟩
        case measure => simp [intOf]; omega
      · have hne : ((m1 : Int) != (m : Int)) = true := by rw [bne_iff_ne]; omega
        have hBf : B = false := by
          cases hB : B with
          | false => rfl
          | true => exact absurd (HM1.out.trans (HB.out.1 hB k hlt)) e
        subst hBf
        have HE : Hid (¬ m1 = m) := e
        clear e
        go_wp2
        go_ret
        exact ⟨rfl, rfl⟩
    · obtain rfl : k = ls.length := by omega
      have hBt : B = true := HB.out.2 HK.out
      subst hBt
      go_wp2
      go_ret
      exact ⟨rfl, rfl⟩

def mayB (s : Int) (l : Bool) : Bool := decide (s = 1) || (decide (s = 0) && !l)
set_option maxHeartbeats 1000000 in
theorem mayCome_sg (s : Int) (l B : Bool) (w : World) (hs : -9223372036854775808 ≤ s ∧ s ≤ 9223372036854775807) (HB : Hid (mayB s l = B)) :
    Calls Tryz.prog 26 #[.int .i64 s, .bool l] w fun e w' => e = .returned (.bool B) ∧ w' = w := by
  obtain ⟨hs1, hs2⟩ := hs
  by_cases h1 : s = 1
  · subst h1
    obtain rfl : B = true := by rw [← HB.out]; rfl
    go_enter Tryz.func26, Tryz.ntmps26
    go_wp2
    go_ret
    exact ⟨rfl, rfl⟩
  · by_cases h0 : s = 0
    · subst h0
      obtain rfl : B = !l := by rw [← HB.out]; rfl
      cases l with
      | true =>
        go_enter Tryz.func26, Tryz.ntmps26
        go_wp2
        go_ret
        exact ⟨rfl, rfl⟩
      | false =>
        go_enter Tryz.func26, Tryz.ntmps26
        go_wp2
        go_ret
        exact ⟨rfl, rfl⟩
    · obtain rfl : B = false := by rw [← HB.out]; unfold mayB; rw [decide_eq_false h1, decide_eq_false h0]; rfl
      have g1 : (s == 1) = false := by simpa using h1
      have g0 : (s == 0) = false := by simpa using h0
      clear h0 h1
      go_enter Tryz.func26, Tryz.ntmps26
      go_wp2
      go_ret
      exact ⟨rfl, rfl⟩

theorem wrap_one {s z : Int} (hs : s = 0 ∨ s = 1) (h1 : -9223372036854775808 ≤ z) (h2 : z ≤ 9223372036854775807) :
    (IntKind.i64.wrap (s + z) = 1 ↔ s + z = 1) ∧ (IntKind.i64.wrap (s + z) = 0 ↔ s + z = 0) ∧ -9223372036854775808 ≤ IntKind.i64.wrap (s + z) ∧ IntKind.i64.wrap (s + z) ≤ 9223372036854775807 := by
  rw [IntKind.wrap_i64]
  omega

set_option maxHeartbeats 1000000 in
theorem alternates_at (a : Option Addr) (n cap : Nat) (zs : List Int) (w : World) (B : Bool) (hs : Shows w a zs) (hn : n = zs.length) (h1 : 1 ≤ zs.length) (h7 : zs.length ≤ 1000) (HB : Hid (alt 0 zs = B)) :
    Calls Tryz.prog 12 #[.slice a n cap] w fun e w' => e = .returned (.bool B) ∧ w' = w := by
  subst hn
  have HS : Hid (Shows w a zs) := hs
  clear hs
  go_enter Tryz.func12, Tryz.ntmps12
  go_wp2
  go_loopw [3, 8] (fun v q wr => ∃ (k : Nat) (s : Int), k ≤ zs.length ∧ q = .int .i64 k ∧ v = .int .i64 s ∧ Hid (s = 0 ∨ s = 1) ∧ Hid (k = zs.length → s = 1) ∧ Hid (alt s (zs.drop k) = B) ∧ wr = w) (fun _ q _ => zs.length - (intOf q).toNat)
  case atStart => exact ⟨0, 0, Nat.zero_le _, rfl, rfl, Or.inl rfl, fun h => by omega, by rw [List.drop_zero]; exact HB, rfl⟩
  case round =>
    obtain ⟨k, s, hk, rfl, rfl, H01, HE, HA, rfl⟩ := hrel
    by_cases hlt : k < zs.length
    · have hlt' : (k : Int) < (zs.length : Int) := by omega
      obtain ⟨b1, o1, z, ha, HZ, hz1, hz2, hcz⟩ := HS.out.elem hlt
      subst ha
      have HA2 : Hid ((decide (s + z = 0 ∨ s + z = 1) && alt (s + z) (zs.drop (k + 1))) = B) := by
        have := HA.out
        rw [drop_cons _ _ hlt, alt, ← HZ.out] at this
        exact this
      have hw := wrap_one H01.out hz1 hz2
      obtain ⟨x, hx⟩ : ∃ x, IntKind.i64.wrap (s + z) = x := ⟨_, rfl⟩
      rw [hx] at hw
      obtain ⟨W1, W0, hx1, hx2⟩ := hw
      have HW1 : Hid (x = 1 ↔ s + z = 1) := W1
      have HW0 : Hid (x = 0 ↔ s + z = 0) := W0
      clear W1 W0 HA
      obtain ⟨l, HL⟩ : ∃ l : Bool, Hid (l = decide ((k : Int) = (zs.length : Int) - 1)) := ⟨_, rfl⟩
      have hlw : IntKind.i64.wrap ((zs.length : Int) - 1) = (zs.length : Int) - 1 := by rw [IntKind.wrap_i64]; omega
      have hlb : ((k : Int) == (zs.length : Int) - 1) = l := by rw [HL.out]; rfl
      obtain ⟨t, HT⟩ : ∃ t, Hid (mayB x l = t) := ⟨_, rfl⟩
      cases t with
      | true =>
        have HX : Hid (x = 1 ∨ (x = 0 ∧ ¬ (k : Int) = (zs.length : Int) - 1)) := by
          have := HT.out
          unfold mayB at this
          rw [HL.out] at this
          show _ ∨ _
          simpa using this
        have H01' : Hid (x = 0 ∨ x = 1) := by rcases HX.out with h | h; exact Or.inr h; exact Or.inl h.1
        have HA3 : Hid (alt x (zs.drop (k + 1)) = B) := by
          have e : s + z = x := by
            rcases H01'.out with h | h
            · rw [h]; exact HW0.out.1 h
            · rw [h]; exact HW1.out.1 h
          rw [← HA2.out, e, decide_eq_true H01'.out, Bool.true_and]
          rfl
        have HE' : Hid (k + 1 = zs.length → x = 1) := fun h => by rcases HX.out with h1 | h1; exact h1; exact absurd h1.2 (by simp; omega)
        go_wp2_with (go_at_call 26; refine (mayCome_sg x l true _ ⟨hx1, hx2⟩ HT).mono ?_; rintro e w' ⟨rfl, rfl⟩)
        go_roundw
        case rel => exact ⟨k + 1, x, by omega, by go_num, rfl, H01', HE', HA3, trivial⟩
        case measure => simp [intOf]; omega
      | false =>
        have hBf : B = false := by
          rw [← HA2.out]
          by_cases h : s + z = 0 ∨ s + z = 1
          · rw [decide_eq_true h, Bool.true_and]
            have hx0 : ¬ x = 1 := fun e => by
              have := HT.out
              rw [e] at this
              exact absurd this (by simp [mayB])
            have hs0 : s + z = 0 := by rcases h with h | h; exact h; exact absurd (HW1.out.2 h) hx0
            have hll : l = true := by
              have := HT.out
              rw [HW0.out.2 hs0] at this
              simpa [mayB] using this
            rw [HL.out, decide_eq_true_eq] at hll
            rw [List.drop_eq_nil_of_le (by omega), hs0]
            rfl
          · rw [decide_eq_false h]; rfl
        subst hBf
        go_wp2_with (go_at_call 26; refine (mayCome_sg x l false _ ⟨hx1, hx2⟩ HT).mono ?_; rintro e w' ⟨rfl, rfl⟩)
        go_ret
        exact ⟨rfl, rfl⟩
    · obtain rfl : k = zs.length := by omega
      have hBt : B = true := by rw [← HA.out, HE.out rfl, List.drop_length]; rfl
      subst hBt
      go_wp2
      go_ret
      exact ⟨rfl, rfl⟩

/-- a row of a square that came in -/
theorem Table.rowZ {w : World} {a : Option Addr} {r c : Nat} {P : Nat → Nat → Int} (h : Table w a (tz r c P)) {i : Nat} (hi : i < r) :
    ∃ b off ai ci, a = some ⟨b, off, none⟩ ∧ Hid (∀ W, Below w.heap.size w W → W.cell? ⟨b, off + i, none⟩ = some (.slice ai c ci)) ∧ Hid (∀ W, Below w.heap.size w W → Shows W ai (tab c (P i))) := by
  obtain ⟨b, off, ai, ci, h1, h2, h3, h4, _⟩ := h i (by rw [tz_len]; exact hi)
  rw [tz_get hi] at h3 h4
  rw [tab_length] at h3
  exact ⟨b, off, ai, ci, h1, fun W hW => (hW.cell (p := ⟨b, off + i, none⟩) h2).trans h3, fun W hW => h4.below hW⟩
theorem Shows.boxZ {w : World} {a : Option Addr} {c : Nat} {f : Nat → Int} (h : Shows w a (tab c f)) {j : Nat} (hj : j < c) :
    ∃ b off, a = some ⟨b, off, none⟩ ∧ w.cell? ⟨b, off + j, none⟩ = some (.int .i64 (f j)) ∧ -9223372036854775808 ≤ f j ∧ f j ≤ 9223372036854775807 := by
  obtain ⟨b, o, z, ha, HZ, h1, h2, hc⟩ := h.elem (k := j) (by rw [tab_length]; exact hj)
  have := HZ.out
  rw [tab_getD _ _ _ hj] at this
  subst this
  exact ⟨b, o, ha, hc, h1, h2⟩

/-- a list of numbers in block X -/
def Roz (w : World) (X n : Nat) (f : Nat → Int) : Prop := Owns w X (.slice (some ⟨X, 0, none⟩) n n) (tab n f)
theorem Roz.cell {w : World} {X n : Nat} {f : Nat → Int} (h : Roz w X n f) {i : Nat} (hi : i < n) : w.cell? ⟨X, i, none⟩ = some (.int .i64 (f i)) ∧ w.frozen? ⟨X, i, none⟩ = false ∧ X < w.heap.size := by
  obtain ⟨g8, cap8, e8, hg8, hgs8, hfr8, hce8⟩ := h.head (by rw [tab_length]; omega)
  simp only [Value.slice.injEq, Option.some.injEq, Addr.mk.injEq, and_true] at e8
  obtain ⟨rfl, -, -⟩ := e8
  have := hce8 i (by rw [tab_length]; exact hi)
  rw [tab_getD _ _ _ hi] at this
  exact ⟨this, hfr8 i, hgs8⟩
theorem Roz.congr {w : World} {X n : Nat} {f g : Nat → Int} (h : Roz w X n f) (e : ∀ i, i < n → f i = g i) : Roz w X n g := by
  unfold Roz; rw [← tab_congr e]; exact h
theorem Roz.below {w w' : World} {X n : Nat} {f : Nat → Int} (h : Roz w X n f) (hb : Below w.heap.size w w') : Roz w' X n f := Owns.below h hb
theorem Roz.set {w W : World} {X n : Nat} {f : Nat → Int} (h : Roz w X n f) (i : Nat) (x : Int) (hW : W.heap = w.heap) : Roz (W.setCell ⟨X, i, none⟩ (.int .i64 x)) X n fun k => if k = i then x else f k := by
  have h1 : Owns W X (.slice (some ⟨X, 0, none⟩) n n) (tab n f) := ownsRow_blocks h (fun k _ => by rw [hW])
  have h2 := h1.store (by rw [tab_length]) i x
  rw [tab_setz] at h2
  exact h2
theorem roz_made {w : World} {n : Nat} (hn : n ≤ 1000) : Roz (w.alloc (.cells (madeCells #[Value.int .i64 0] n) 3)) w.heap.size n fun _ => 0 := by
  have hmade : (madeCells #[Value.int .i64 0] n) = (List.replicate n (Value.int .i64 0)).toArray := by
    apply Array.toList_inj.1
    rw [toList_madeCells_one]
  have e : tab n (fun _ => 0) = List.replicate n 0 := by
    rw [List.eq_replicate_iff]
    exact ⟨tab_length _ _, fun x hx => by obtain ⟨_, _, rfl⟩ := tab_mem hx; rfl⟩
  unfold Roz
  rw [e]
  refine owns_of_row (Nat.le_refl _) ?_ (by simp) (by simp; omega)
  rw [heap_alloc_new w, hmade]; simp

set_option maxHeartbeats 2000000 in
theorem column_at (a : Option Addr) (n cap m j : Nat) (P : Nat → Nat → Int) (w : World) (hs : Table w a (tz n n P)) (hm : m = n) (hn : n ≤ 20) (hj : j < n) :
    Calls Tryz.prog 13 #[.slice a m cap, .int .i64 (j : Int)] w fun e w' => e = .returned (.slice (some ⟨w.heap.size, 0, none⟩) n n) ∧ Hid (Roz w' w.heap.size n fun i => P i j) ∧ Hid (Below w.heap.size w w') := by
  subst hm
  have HS : Hid (Table w a (tz m m P)) := hs
  clear hs
  have hj' : (j : Int) < (m : Int) := by omega
  have hmP : ∀ W, (Instr.makeSlice 36 (.int .i64 (m : Int)) (.int .i64 (m : Int))).run Tryz.prog W = .ok (.slice (some ⟨W.heap.size, 0, none⟩) m m) (W.alloc (.cells (madeCells #[Value.int .i64 0] m) 3)) := fun W =>
        run_make_row' (P := Tryz.prog) 36 3 (.int .i64 0) 8 Tryz.underlying36 (by kernel_rfl) rfl .i64 .i64 m (by omega) (by omega) W
  have HR0 : Hid (Roz (w.alloc (.cells (madeCells #[Value.int .i64 0] m) 3)) w.heap.size m fun i => if i < 0 then P i j else 0) := roz_made (by omega)
  have HB0 : Hid (Below w.heap.size w (w.alloc (.cells (madeCells #[Value.int .i64 0] m) 3))) := (Below.refl _ _).alloc (Nat.le_refl _) _
  go_enter Tryz.func13, Tryz.ntmps13
  go_wp2_with fail
  clear hmP
  obtain ⟨X, HX⟩ : ∃ X, Hid (X = w.heap.size) := ⟨_, rfl⟩
  rw [← HX.out] at HR0 HB0 ⊢
  go_loopw [13] (fun q wr => ∃ i : Nat, i ≤ m ∧ q = .int .i64 i ∧ Hid (Roz wr X m fun k => if k < i then P k j else 0) ∧ Hid (Below X w wr)) (fun q _ => m - (intOf q).toNat)
  case atStart => exact ⟨0, Nat.zero_le _, rfl, HR0, HB0⟩
  case round =>
    clear HR0 HB0
    obtain ⟨i, hi, rfl, HR, HB⟩ := hrel
    by_cases hlt : i < m
    · have hlt' : (i : Int) < (m : Int) := by omega
      obtain ⟨b, off, ai, ci, rfl, HCi, HSi⟩ := HS.out.rowZ (i := i) hlt
      have hb : Below w.heap.size w wr := by rw [← HX.out]; exact HB.out
      have hci := HCi.out wr hb
      obtain ⟨b1, o1, hai, hcx, -, -⟩ := (HSi.out wr hb).boxZ hj
      subst hai
      obtain ⟨x, HXx⟩ : ∃ x, Hid (x = P i j) := ⟨_, rfl⟩
      rw [← HXx.out] at hcx
      obtain ⟨cB, fB, hhi⟩ := HR.out.cell (i := i) hlt
      have HR3 : Hid (∀ W : World, W.heap = wr.heap → Roz (W.setCell ⟨X, i, none⟩ (.int .i64 x)) X m fun k => if k < i + 1 then P k j else 0) := fun W hW => by
        refine (HR.out.set i x hW).congr (fun k _ => ?_)
        by_cases e : k = i
        · subst e; rw [if_pos rfl, if_pos (by omega), HXx.out]
        · rw [if_neg e]
          by_cases h : k < i
          · rw [if_pos h, if_pos (by omega)]
          · rw [if_neg h, if_neg (by omega)]
      clear HCi HSi hb
      go_wp2
      go_roundw
      case rel => exact ⟨i + 1, by omega, by go_num, HR3.out _ rfl, HB.out.setCell (p := ⟨X, i, none⟩) (Nat.le_refl _) _⟩
      case measure => simp [intOf]; omega
    · obtain rfl : i = m := by omega
      have HRe : Hid (Roz wr X i fun k => P k j) := HR.out.congr (fun k hk => by rw [if_pos hk])
      go_wp2
      go_ret
      refine ⟨?_, by rw [← HX.out]; exact HRe, by rw [← HX.out]; exact HB⟩
      rw [HX.out]
      try rfl

end Go.Proofs.YtgcpconlmihilaaGreatDoor
