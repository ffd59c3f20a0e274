/-
  Tables of rows of one length, each in a block of its own; the contract of cubes.empty.
  The contracts of cubes.areSides, mostAt, Check.
  The contract of cubes.Check.
  The contracts of cubes.Turned, Mirrored, Rest, Volume.
-/
import Derived.Test.YtbiakncblkjmhaaGreatDoorRwD
import Derived.Test.YtbiakncblkjmhaaGreatDoorDQs
import Derived.Deep.DeepCutAuto
import Derived.Deep.OwnRows
import Derived.Deep.RegionLaw
namespace Go.Proofs.YtbiakncblkjmhaaGreatDoor
open Go.RowKit

def rvs (r c : Nat) (gs : Nat → Nat) : List Value := (List.range r).map fun i => .slice (some ⟨gs i, 0, none⟩) c c
theorem rvs_at {r c : Nat} {gs : Nat → Nat} {i : Nat} (hi : i < r) : rowv (rvs r c gs) i = .slice (some ⟨gs i, 0, none⟩) c c := by simp [rowv, rvs, List.getD, hi]
theorem tb_get {r c : Nat} {P : Nat → Nat → Nat} {i : Nat} (hi : i < r) : (tb r c P).getD i [] = tab c fun j => (P i j : Int) := tb_row hi

/-- v's block is g, row i lies in block gs i -/
structure Rec (w : World) (lo g r c : Nat) (gs : Nat → Nat) (P : Nat → Nat → Nat) : Prop where
  t : TblV w lo (.slice (some ⟨g, 0, none⟩) r r) (rvs r c gs) (tb r c P)

theorem Rec.same {w w' : World} {lo g r c : Nat} {gs : Nat → Nat} {P : Nat → Nat → Nat} (h : Rec w lo g r c gs P) (hk : ∀ k, lo ≤ k → k < w.heap.size → w'.heap[k]? = w.heap[k]?) : Rec w' lo g r c gs P := ⟨h.t.same hk⟩
theorem Rec.below {w w' : World} {lo g r c : Nat} {gs : Nat → Nat} {P : Nat → Nat → Nat} (h : Rec w lo g r c gs P) (hb : Below w.heap.size w w') : Rec w' lo g r c gs P := h.same (fun k _ hk => hb.block k hk)
theorem Rec.congr {w : World} {lo g r c : Nat} {gs : Nat → Nat} {P Q : Nat → Nat → Nat} (h : Rec w lo g r c gs P) (e : ∀ i, i < r → ∀ j, j < c → P i j = Q i j) : Rec w lo g r c gs Q := ⟨by rw [← tb_congr e]; exact h.t⟩
theorem Rec.tbl {w : World} {lo g r c : Nat} {gs : Nat → Nat} {P : Nat → Nat → Nat} (h : Rec w lo g r c gs P) : Tbl w lo (.slice (some ⟨g, 0, none⟩) r r) (tb r c P) := ⟨_, h.t⟩
theorem Rec.head {w : World} {lo g r c : Nat} {gs : Nat → Nat} {P : Nat → Nat → Nat} (h : Rec w lo g r c gs P) {i : Nat} (hi : i < r) : w.cell? ⟨g, i, none⟩ = some (.slice (some ⟨gs i, 0, none⟩) c c) := by
  obtain ⟨g9, n9, cap9, e9, -, _, _, _, hce9⟩ := h.t.head (by rw [tb_len]; omega)
  simp only [Value.slice.injEq, Option.some.injEq, Addr.mk.injEq, and_true] at e9
  obtain ⟨rfl, -, -⟩ := e9
  rw [hce9 i (by rw [tb_len]; exact hi), rvs_at hi]
theorem Rec.box {w : World} {lo g r c : Nat} {gs : Nat → Nat} {P : Nat → Nat → Nat} (h : Rec w lo g r c gs P) {i j : Nat} (hi : i < r) (hj : j < c) :
    w.cell? ⟨gs i, j, none⟩ = some (.int .i64 (P i j : Int)) ∧ w.frozen? ⟨gs i, j, none⟩ = false ∧ lo ≤ gs i ∧ gs i < w.heap.size := by
  have ho := h.t.rows i (by rw [tb_len]; exact hi)
  rw [rvs_at hi, tb_get hi] at ho
  obtain ⟨g8, cap8, e8, hg8, hgs8, hfr8, hce8⟩ := ho.head (by rw [tab_length]; omega)
  simp only [Value.slice.injEq, Option.some.injEq, Addr.mk.injEq, and_true] at e8
  obtain ⟨rfl, -, -⟩ := e8
  have := hce8 j (by rw [tab_length]; exact hj)
  rw [tab_getD _ _ _ hj] at this
  exact ⟨this, hfr8 j, hg8, hgs8⟩

def upd (P : Nat → Nat → Nat) (i j x : Nat) (a b : Nat) : Nat := if a = i ∧ b = j then x else P a b
theorem tab_set (c : Nat) (f : Nat → Int) (j : Nat) (x : Int) : (tab c f).set j x = tab c fun b => if b = j then x else f b := by
  refine ext_getD (by simp [tab_length]) (fun b hb => ?_)
  rw [List.length_set, tab_length] at hb
  rw [set_getD _ _ _ _ (by rw [tab_length]; exact hb), tab_getD _ _ _ hb, tab_getD _ _ _ hb]
theorem tb_set {r c : Nat} {P : Nat → Nat → Nat} {i j x : Nat} (hi : i < r) : (tb r c P).set i (((tb r c P).getD i []).set j (x : Int)) = tb r c (upd P i j x) := by
  refine ext_row (by simp [tb_len]) (fun a ha => ?_)
  rw [List.length_set, tb_len] at ha
  unfold row
  rw [getD_set_rows _ _ _ _ (by rw [tb_len]; exact ha), tb_get hi, tb_get ha, tb_get ha, tab_set]
  by_cases e : a = i
  · subst e
    rw [if_pos rfl]
    refine tab_congr (fun b hb => ?_)
    unfold upd
    by_cases e2 : b = j
    · rw [if_pos e2, if_pos ⟨rfl, e2⟩]
    · rw [if_neg e2, if_neg (fun h => e2 h.2)]
  · rw [if_neg e]
    refine tab_congr (fun b hb => ?_)
    unfold upd
    rw [if_neg (fun h => e h.1)]

/-- a box is stored -/
theorem Rec.set {w W : World} {lo g r c : Nat} {gs : Nat → Nat} {P : Nat → Nat → Nat} (h : Rec w lo g r c gs P) {i j : Nat} (hi : i < r) (x : Nat) (hW : W.heap = w.heap) : Rec (W.setCell ⟨gs i, j, none⟩ (.int .i64 (x : Int))) lo g r c gs (upd P i j x) := by
  have h1 := (h.same (w' := W) (fun k _ _ => by rw [hW])).t
  have h2 := h1.storeBox (by rw [tb_len]; exact hi) (rvs_at hi) (by rw [tb_get hi, tab_length]) j (x : Int)
  rw [tb_set hi] at h2
  exact ⟨h2⟩

def evs (r c : Nat) (gs : Nat → Nat) (i : Nat) : List Value := (List.range r).map fun k => if k < i then .slice (some ⟨gs k, 0, none⟩) c c else .slice none 0 0
def els (r c : Nat) (i : Nat) : List (List Int) := (List.range r).map fun k => if k < i then List.replicate c 0 else []
theorem els_len (r c i : Nat) : (els r c i).length = r := by simp [els]
theorem evs_len (r c : Nat) (gs : Nat → Nat) (i : Nat) : (evs r c gs i).length = r := by simp [evs]
theorem evs_set (r c : Nat) (gs : Nat → Nat) (i q : Nat) : (evs r c gs i).set i (.slice (some ⟨q, 0, none⟩) c c) = evs r c (fun k => if k = i then q else gs k) (i + 1) := by
  refine List.ext_getElem (by simp [evs]) (fun k h1 h2 => ?_)
  rw [List.getElem_set]
  simp only [evs, List.getElem_map, List.getElem_range]
  by_cases e : i = k
  · subst e; rw [if_pos rfl, if_pos (by omega), if_pos rfl]
  · rw [if_neg e]
    by_cases h : k < i
    · rw [if_pos h, if_pos (by omega), if_neg (fun x => e x.symm)]
    · rw [if_neg h, if_neg (by omega)]
theorem els_set (r c i : Nat) : (els r c i).set i (List.replicate c 0) = els r c (i + 1) := by
  refine List.ext_getElem (by simp [els]) (fun k h1 h2 => ?_)
  rw [List.getElem_set]
  simp only [els, List.getElem_map, List.getElem_range]
  by_cases e : i = k
  · subst e; rw [if_pos rfl, if_pos (by omega)]
  · rw [if_neg e]
    by_cases h : k < i
    · rw [if_pos h, if_pos (by omega)]
    · rw [if_neg h, if_neg (by omega)]
theorem els_zero (r c : Nat) : els r c 0 = List.replicate r [] := by
  rw [List.eq_replicate_iff]
  refine ⟨els_len _ _ _, fun x hx => ?_⟩
  obtain ⟨i, _, rfl⟩ := List.mem_map.1 hx
  rw [if_neg (by omega)]
theorem evs_zero (r c : Nat) (gs : Nat → Nat) : evs r c gs 0 = List.replicate r (.slice none 0 0) := by
  rw [List.eq_replicate_iff]
  refine ⟨evs_len _ _ _ _, fun x hx => ?_⟩
  obtain ⟨i, _, rfl⟩ := List.mem_map.1 hx
  rw [if_neg (by omega)]
theorem els_full (r c : Nat) : els r c r = tb r c fun _ _ => 0 := by
  refine List.map_congr_left (fun k hk => ?_)
  rw [if_pos (List.mem_range.1 hk)]
  symm
  rw [List.eq_replicate_iff]
  refine ⟨tab_length _ _, fun x hx => ?_⟩
  obtain ⟨_, _, rfl⟩ := tab_mem hx
  rfl
theorem evs_full (r c : Nat) (gs : Nat → Nat) : evs r c gs r = rvs r c gs := List.map_congr_left (fun k hk => by rw [if_pos (List.mem_range.1 hk)])

set_option maxHeartbeats 4000000 in
theorem empty_at (n p : Nat) (w : World) (h1 : 1 ≤ n) (hn : n ≤ 20) (hp : p ≤ 20) :
    Calls Tryz.prog 74 #[.int .i64 (n : Int), .int .i64 (p : Int)] w fun e w' => ∃ gs, e = .returned (.slice (some ⟨w.heap.size, 0, none⟩) n n) ∧ Hid (Rec w' w.heap.size w.heap.size n p gs fun _ _ => 0) ∧ Hid (Below w.heap.size w w') := by
  have hmR : ∀ W, (Instr.makeSlice 22 (.int .i64 (n : Int)) (.int .i64 (n : Int))).run Tryz.prog W = .ok (.slice (some ⟨W.heap.size, 0, none⟩) n n) (W.alloc (.cells (madeCells #[Value.slice none 0 0] n) 29)) := fun W => run_make_row' 22 29 (.slice none 0 0) 24 Tryz.underlying22 (by kernel_rfl) rfl .i64 .i64 n (by omega) (by omega) W
  have hmP : ∀ W, (Instr.makeSlice 29 (.int .i64 (p : Int)) (.int .i64 (p : Int))).run Tryz.prog W = .ok (.slice (some ⟨W.heap.size, 0, none⟩) p p) (W.alloc (.cells (madeCells #[Value.int .i64 0] p) 3)) := fun W =>
        run_make_row' (P := Tryz.prog) 29 3 (.int .i64 0) 8 Tryz.underlying29 (by kernel_rfl) rfl .i64 .i64 p (by omega) (by omega) W
  have HT0 : Hid (TblV (w.alloc (.cells (madeCells #[Value.slice none 0 0] n) 29)) w.heap.size (.slice (some ⟨w.heap.size, 0, none⟩) n n) (evs n p (fun _ => 0) 0) (els n p 0)) := by
    show TblV _ _ _ _ _
    rw [els_zero, evs_zero]
    refine tbl_made ⟨by rw [toList_madeCells_one]; simp, Or.inr ⟨w.heap.size, n, madeCells #[Value.slice none 0 0] n, rfl, Nat.le_refl _, heap_alloc_new _ _, Nat.le_refl _, by unfold maxLen; omega, by rw [← Array.length_toList, toList_madeCells_one]; simp, ?_⟩⟩
    rw [Nat.mul_one, List.take_of_length_le (by rw [toList_madeCells_one]; simp)]
  have HB0 : Hid (Below w.heap.size w (w.alloc (.cells (madeCells #[Value.slice none 0 0] n) 29))) := (Below.refl _ _).alloc (Nat.le_refl _) _
  go_enter Tryz.func74, Tryz.ntmps74
  go_wp2_with fail
  clear hmR
  obtain ⟨R, HR⟩ : ∃ R, Hid (R = w.heap.size) := ⟨_, rfl⟩
  rw [← HR.out] at HT0 ⊢
  go_loopw [11] (fun iv wr => ∃ (i : Nat) (gs : Nat → Nat), i ≤ n ∧ iv = .int .i64 (i : Int) ∧ Hid (TblV wr R (.slice (some ⟨R, 0, none⟩) n n) (evs n p gs i) (els n p i)) ∧ Hid (Below w.heap.size w wr)) (fun iv _ => n - (intOf iv).toNat)
  case atStart => exact ⟨0, _, Nat.zero_le _, rfl, HT0, HB0⟩
  case round =>
    clear HT0 HB0
    obtain ⟨i, gs, hi, rfl, HT, HB⟩ := hrel
    by_cases hlt : i < n
    · have hlt' : (i : Int) < (n : Int) := by omega
      obtain ⟨g9, n9, cap9, e9, -, hg9, hgs9, hfr9, hce9⟩ := HT.out.head (by rw [els_len]; omega)
      simp only [Value.slice.injEq, Option.some.injEq, Addr.mk.injEq, and_true] at e9
      obtain ⟨rfl, -, -⟩ := e9
      have cR : wr.cell? ⟨R, i, none⟩ = some (rowv (evs n p gs i) i) := hce9 i (by rw [els_len]; exact hlt)
      have fR : wr.frozen? ⟨R, i, none⟩ = false := hfr9 i
      have hB1 : Below wr.heap.size wr (wr.alloc (.cells (madeCells #[Value.int .i64 0] p) 3)) := (Below.refl _ _).alloc (Nat.le_refl _) _
      have cR1 : (wr.alloc (.cells (madeCells #[Value.int .i64 0] p) 3)).cell? ⟨R, i, none⟩ = some (rowv (evs n p gs i) i) := (hB1.cell (p := ⟨R, i, none⟩) hgs9).trans cR
      have fR1 : (wr.alloc (.cells (madeCells #[Value.int .i64 0] p) 3)).frozen? ⟨R, i, none⟩ = false := (hB1.frozen (p := ⟨R, i, none⟩) hgs9).trans fR
      have hmade : (madeCells #[Value.int .i64 0] p) = (List.replicate p (Value.int .i64 0)).toArray := by
        apply Array.toList_inj.1
        rw [toList_madeCells_one]
      have hRl : R ≤ wr.heap.size := by omega
      have hO : Owns (wr.alloc (.cells (madeCells #[Value.int .i64 0] p) 3)) R (.slice (some ⟨wr.heap.size, 0, none⟩) p p) (List.replicate p 0) := by
        refine owns_of_row hRl ?_ (by simp) (by simp; omega)
        rw [heap_alloc_new wr, hmade]; simp
      have HT2 : Hid (TblV ((wr.alloc (.cells (madeCells #[Value.int .i64 0] p) 3)).setCell ⟨R, i, none⟩ (.slice (some ⟨wr.heap.size, 0, none⟩) p p)) R (.slice (some ⟨R, 0, none⟩) n n) (evs n p (fun k => if k = i then wr.heap.size else gs k) (i + 1)) (els n p (i + 1))) := by
        show TblV _ _ _ _ _
        rw [← els_set, ← evs_set]
        exact HT.out.setRow (by rw [els_len]; exact hlt) hO ⟨hB1.size, fun k hk _ => hB1.block k hk, fun g hg => Or.inr (by cases hg; exact Nat.le_refl _)⟩
      have HB2 : Hid (Below w.heap.size w ((wr.alloc (.cells (madeCells #[Value.int .i64 0] p) 3)).setCell ⟨R, i, none⟩ (.slice (some ⟨wr.heap.size, 0, none⟩) p p))) := (HB.out.trans (hB1.mono HB.out.size)).setCell (p := ⟨R, i, none⟩) (by rw [← HR.out]; exact Nat.le_refl _) _
      rw [World.setCell_alloc_past _ _ _ _ hgs9] at HT2 HB2
      clear hce9 hfr9 hmade hO hB1
      go_wp2_with fail
      go_roundw
      case rel => exact ⟨i + 1, _, by omega, by go_num, HT2, HB2⟩
      case measure => simp [intOf]; omega
    · obtain rfl : i = n := by omega
      have HTe : Hid (Rec wr R R i p gs fun _ _ => 0) := by
        have h := HT.out
        rw [els_full, evs_full] at h
        exact ⟨h⟩
      go_wp2
      go_ret
      refine ⟨gs, ?_, by rw [← HR.out]; exact HTe, HB⟩
      rw [HR.out]
      rfl

end Go.Proofs.YtbiakncblkjmhaaGreatDoor

namespace Go.Proofs.YtbiakncblkjmhaaGreatDoor
open Go.RowKit

def sides (zs : List Int) : Prop := ∀ z ∈ zs, 1 ≤ z ∧ z ≤ 8
instance (zs : List Int) : Decidable (sides zs) := inferInstanceAs (Decidable (∀ z ∈ zs, _))

set_option maxHeartbeats 1000000 in
theorem areSides_at (a : Option Addr) (n cap : Nat) (zs : List Int) (w : World) (hs : Shows w a zs) (hn : n = zs.length) :
    Calls Tryz.prog 24 #[.slice a n cap] w fun e w' => e = .returned (.bool (decide (sides zs))) ∧ w' = w := by
  subst hn
  have hl := hs.len
  have HS : Hid (Shows w a zs) := hs
  clear hs
  go_enter Tryz.func24, Tryz.ntmps24
  go_wp2
  go_loopw [7] (fun q wr => ∃ k : Nat, k ≤ zs.length ∧ q = .int .i64 k ∧ Hid (∀ j, j < k → 1 ≤ zs.getD j 0 ∧ zs.getD j 0 ≤ 8) ∧ wr = w) (fun q _ => zs.length - (intOf q).toNat)
  case atStart => exact ⟨0, Nat.zero_le _, rfl, fun j h => absurd h (by omega), rfl⟩
  case round =>
    obtain ⟨k, hk, rfl, HK, rfl⟩ := hrel
    by_cases hlt : k < zs.length
    · have hlt' : (k : Int) < (zs.length : Int) := by omega
      obtain ⟨b1, o1, z, ha, HZ, hz1, hz2, hcz⟩ := HS.out.elem hlt
      subst ha
      by_cases hz : 1 ≤ z ∧ z ≤ 8
      · have h1 : ¬ (z < 1) := by omega
        have h2 : ¬ (8 < z) := by omega
        go_wp2
        go_roundw
        case rel => exact ⟨k + 1, by omega, by go_num, fun j hj => by
          by_cases e : j = k
          · subst e; rw [← HZ.out]; exact hz
          · exact HK.out j (by omega), trivial⟩
        case measure => simp [intOf]; omega
      · have hno : Hid (¬ sides zs) := fun h => hz (by rw [HZ.out]; exact h _ (getD_mem hlt))
        by_cases h1 : z < 1
        · go_wp2
          go_ret
          exact ⟨ret_bool (decide_eq_false hno.out).symm, rfl⟩
        · have h2 : 8 < z := by omega
          go_wp2
          go_ret
          exact ⟨ret_bool (decide_eq_false hno.out).symm, rfl⟩
    · obtain rfl : k = zs.length := by omega
      have hyes : Hid (sides zs) := fun z hz => by
        obtain ⟨j, hj, rfl⟩ := List.getElem_of_mem hz
        have := HK.out j hj
        simpa [List.getD, List.getElem?_eq_getElem hj] using this
      go_wp2
      go_ret
      exact ⟨ret_bool (decide_eq_true hyes.out).symm, rfl⟩

def most (ls : List (List Int)) (i j : Nat) (h : Int) : Int :=
  let m := if 0 < j then min h (box ls i (j - 1)) else h
  if 0 < i then min m (box ls (i - 1) j) else m

set_option maxHeartbeats 2000000 in
theorem mostAt_at (a : Option Addr) (n cap : Nat) (ls : List (List Int)) (w : World) (i j : Nat) (h : Int) (hs : Table w a ls) (hn : n = ls.length) (hl : ls.length ≤ 17592186044416)
    (hi : i < ls.length) (hj : 0 < j → j - 1 < (row ls i).length) (hu : 0 < i → j < (row ls (i - 1)).length) (hjb : j ≤ 17592186044416) :
    Calls Tryz.prog 25 #[.slice a n cap, .int .i64 (i : Int), .int .i64 (j : Int), .int .i64 h] w fun e w' => e = .returned (.int .i64 (most ls i j h)) ∧ w' = w := by
  subst hn
  have hi' : (i : Int) < (ls.length : Int) := by omega
  have HS : Hid (Table w a ls) := hs
  clear hs
  obtain ⟨b, off, ai, m, ci, rfl, hc, HM, HSi, -, hmb⟩ := HS.out.elemR hi
  by_cases j0 : 0 < j
  · have j0' : (0 : Int) < (j : Int) := by omega
    obtain ⟨b1, o1, z, ha, HZ, hz1, hz2, hcz⟩ := HSi.out.elem (k := j - 1) (hj j0)
    subst ha
    have e1 : (j : Int) - 1 = ((j - 1 : Nat) : Int) := by omega
    have hjm : j - 1 < m := by rw [HM.out]; exact hj j0
    have hjm' : ((j - 1 : Nat) : Int) < (m : Int) := by omega
    by_cases i0 : 0 < i
    · have i0' : (0 : Int) < (i : Int) := by omega
      obtain ⟨b2, off2, ai2, m2, ci2, e2, hc2, HM2, HSi2, -, hmb2⟩ := HS.out.elemR (k := i - 1) (by omega)
      simp only [Option.some.injEq, Addr.mk.injEq, and_true] at e2
      obtain ⟨rfl, rfl⟩ := e2
      have e3 : (i : Int) - 1 = ((i - 1 : Nat) : Int) := by omega
      have him' : ((i - 1 : Nat) : Int) < (ls.length : Int) := by omega
      obtain ⟨b4, o4, z4, ha4, HZ4, hz14, hz24, hcz4⟩ := HSi2.out.elem (k := j) (hu i0)
      subst ha4
      have hju : (j : Int) < (m2 : Int) := by rw [HM2.out]; have := hu i0; unfold row at this; omega
      have E : most ls i j h = min (min h z) z4 := by unfold most; simp only [if_pos j0, if_pos i0]; rw [HZ.out, HZ4.out]; rfl
      rw [E]
      go_enter Tryz.func25, Tryz.ntmps25
      go_wp2 <;> (go_ret; exact ⟨ret_int (by omega), rfl⟩)
    · have i0' : ¬ (0 : Int) < (i : Int) := by omega
      have E : most ls i j h = min h z := by unfold most; simp only [if_pos j0, if_neg i0]; rw [HZ.out]; rfl
      rw [E]
      go_enter Tryz.func25, Tryz.ntmps25
      go_wp2 <;> (go_ret; exact ⟨ret_int (by omega), rfl⟩)
  · have j0' : ¬ (0 : Int) < (j : Int) := by omega
    by_cases i0 : 0 < i
    · have i0' : (0 : Int) < (i : Int) := by omega
      obtain ⟨b2, off2, ai2, m2, ci2, e2, hc2, HM2, HSi2, -, hmb2⟩ := HS.out.elemR (k := i - 1) (by omega)
      simp only [Option.some.injEq, Addr.mk.injEq, and_true] at e2
      obtain ⟨rfl, rfl⟩ := e2
      have e3 : (i : Int) - 1 = ((i - 1 : Nat) : Int) := by omega
      have him' : ((i - 1 : Nat) : Int) < (ls.length : Int) := by omega
      obtain ⟨b4, o4, z4, ha4, HZ4, hz14, hz24, hcz4⟩ := HSi2.out.elem (k := j) (hu i0)
      subst ha4
      have hju : (j : Int) < (m2 : Int) := by rw [HM2.out]; have := hu i0; unfold row at this; omega
      have E : most ls i j h = min h z4 := by unfold most; simp only [if_neg j0, if_pos i0]; rw [HZ4.out]; rfl
      rw [E]
      go_enter Tryz.func25, Tryz.ntmps25
      go_wp2 <;> (go_ret; exact ⟨ret_int (by omega), rfl⟩)
    · have i0' : ¬ (0 : Int) < (i : Int) := by omega
      have E : most ls i j h = h := by unfold most; simp only [if_neg j0, if_neg i0]
      rw [E]
      go_enter Tryz.func25, Tryz.ntmps25
      go_wp2 <;> (go_ret; exact ⟨ret_int (by omega), rfl⟩)

end Go.Proofs.YtbiakncblkjmhaaGreatDoor

namespace Go.Proofs.YtbiakncblkjmhaaGreatDoor
open Go.RowKit

/-- the rows are a pile in a room of height h -/
structure PileL (ls : List (List Int)) (h : Int) : Prop where
  hs : 1 ≤ h ∧ h ≤ 8
  ls1 : 1 ≤ (ls.length : Int) ∧ (ls.length : Int) ≤ 8
  cs : 1 ≤ ((row ls 0).length : Int) ∧ ((row ls 0).length : Int) ≤ 8
  all : ∀ i, i < ls.length → (row ls i).length = (row ls 0).length ∧ ∀ j, j < (row ls i).length → 0 ≤ box ls i j ∧ box ls i j ≤ most ls i j h
open Classical in
noncomputable def pilC (ls : List (List Int)) (h : Int) : Int := if PileL ls h then 0 else 1
theorem pilC_yes {ls : List (List Int)} {h : Int} (p : PileL ls h) : pilC ls h = 0 := if_pos p
theorem pilC_no {ls : List (List Int)} {h : Int} (p : ¬ PileL ls h) : pilC ls h = 1 := if_neg p

theorem PileL.fn {ls : List (List Int)} {h : Int} (p : PileL ls h) : ∃ (r c k : Nat) (P : Nat → Nat → Nat), ls = tb r c P ∧ h = (k : Int) ∧ Pil r c k P := by
  refine ⟨ls.length, (row ls 0).length, h.toNat, fun i j => (box ls i j).toNat, ?_, by have := p.hs; omega, ?_⟩
  · refine ext_row (by rw [tb_len]) (fun i hi => ?_)
    rw [tb_row hi]
    refine ext_getD (by rw [tab_length, (p.all i hi).1]) (fun j hj => ?_)
    have h1 := ((p.all i hi).2 j hj).1
    rw [tab_getD _ _ _ (by rw [← (p.all i hi).1]; exact hj)]
    show box ls i j = _
    omega
  · have hb : ∀ i, i < ls.length → ∀ j, j < (row ls 0).length → 0 ≤ box ls i j ∧ box ls i j ≤ most ls i j h := fun i hi j hj => (p.all i hi).2 j (by rw [(p.all i hi).1]; exact hj)
    have hm : ∀ i j, most ls i j h ≤ h := fun i j => by unfold most; simp only []; split <;> split <;> omega
    have h1 := p.hs
    have h2 := p.ls1
    have h3 := p.cs
    refine ⟨by omega, by omega, by omega, by omega, by omega, by omega, fun i hi j hj => ?_, fun i hi j hj => ?_, fun i hi j hj => ?_⟩
    · have := hb i hi j hj; have := hm i j; show (box ls i j).toNat ≤ h.toNat; omega
    · have h4 := hb i hi (j + 1) hj
      have h5 : most ls i (j + 1) h ≤ box ls i j := by unfold most; simp only [Nat.zero_lt_succ, if_true, Nat.add_sub_cancel]; split <;> omega
      show (box ls i (j + 1)).toNat ≤ (box ls i j).toNat
      omega
    · have h4 := hb (i + 1) hi j hj
      have h5 : most ls (i + 1) j h ≤ box ls i j := by unfold most; simp only [Nat.zero_lt_succ, if_true, Nat.add_sub_cancel]; split <;> omega
      show (box ls (i + 1) j).toNat ≤ (box ls i j).toNat
      omega

theorem box_tb {r c : Nat} {P : Nat → Nat → Nat} {i j : Nat} (hi : i < r) (hj : j < c) : box (tb r c P) i j = (P i j : Int) := by unfold box; rw [tb_row hi, tab_getD _ _ _ hj]

theorem pil_list {r c k : Nat} {P : Nat → Nat → Nat} (p : Pil r c k P) : PileL (tb r c P) (k : Int) := by
  have e0 : (row (tb r c P) 0).length = c := by rw [tb_row (by have := p.r1; omega), tab_length]
  have h1 := p.r1; have h2 := p.r8; have h3 := p.c1; have h4 := p.c8; have h5 := p.h1; have h6 := p.h8
  refine ⟨by omega, by rw [tb_len]; omega, by rw [e0]; omega, fun i hi => ?_⟩
  rw [tb_len] at hi
  refine ⟨by rw [e0, tb_row hi, tab_length], fun j hj => ?_⟩
  rw [tb_row hi, tab_length] at hj
  refine ⟨by rw [box_tb hi hj]; omega, ?_⟩
  have hle := p.le i hi j hj
  unfold most
  rw [box_tb hi hj]
  have hA : 0 < j → box (tb r c P) i (j - 1) ≥ (P i j : Int) := fun h0 => by
    rw [box_tb hi (by omega)]
    have := p.row i hi (j - 1) (by omega)
    rw [show j - 1 + 1 = j by omega] at this
    omega
  have hB : 0 < i → box (tb r c P) (i - 1) j ≥ (P i j : Int) := fun h0 => by
    rw [box_tb (by omega) hj]
    have := p.col (i - 1) (by omega) j hj
    rw [show i - 1 + 1 = i by omega] at this
    omega
  by_cases a : 0 < j <;> by_cases b : 0 < i <;> simp only [a, b, if_true, if_false]
  · have := hA a; have := hB b; omega
  · have := hA a; omega
  · have := hB b; omega
  · omega

theorem sides2 (h : Int) (n : Int) : sides [h, n] ↔ (1 ≤ h ∧ h ≤ 8) ∧ (1 ≤ n ∧ n ≤ 8) := by simp [sides]
theorem sides1 (h : Int) : sides [h] ↔ (1 ≤ h ∧ h ≤ 8) := by simp [sides]

set_option maxHeartbeats 1000000 in
theorem Check_at (a : Option Addr) (n cap : Nat) (ls : List (List Int)) (h : Int) (w : World) (hh : -9223372036854775808 ≤ h ∧ h ≤ 9223372036854775807) (hs : Table w a ls) (hn : n = ls.length) (hl : ls.length ≤ 17592186044416) :
    Calls Tryz.prog 7 #[.slice a n cap, .int .i64 h] w fun e w' => e = .returned (.int .i64 (pilC ls h)) ∧ Hid (Below w.heap.size w w') := by
  subst hn
  have HS : Hid (Table w a ls) := hs
  have HW : Hid (-9223372036854775808 ≤ h ∧ h ≤ 9223372036854775807) := hh
  clear hs hh
  have SL1 : ∀ (W : World), Shows (W.alloc (.cells #[.int .i64 h, .int .i64 (ls.length : Int)] 3)) (some ⟨W.heap.size, 0, none⟩) [h, (ls.length : Int)] := fun W => shows_lit W [h, (ls.length : Int)] _ rfl (by simp) (by
    have := HW.out
    simp; omega)
  have HSL1 : Hid (∀ (W : World), Shows (W.alloc (.cells #[.int .i64 h, .int .i64 (ls.length : Int)] 3)) (some ⟨W.heap.size, 0, none⟩) [h, (ls.length : Int)]) := SL1
  clear SL1
  have HB1 : Hid (Below w.heap.size w (w.alloc (.cells #[.int .i64 h, .int .i64 (ls.length : Int)] 3))) := (Below.refl _ _).alloc (Nat.le_refl _) _
  by_cases hA : sides [h, (ls.length : Int)]
  · have HA : Hid (decide (sides [h, (ls.length : Int)]) = true) := decide_eq_true hA
    have HAs : Hid ((1 ≤ h ∧ h ≤ 8) ∧ 1 ≤ (ls.length : Int) ∧ (ls.length : Int) ≤ 8) := (sides2 _ _).1 hA
    have hl8 := HAs.out.2
    clear hA hl
    have hl0 : (0 : Int) < (ls.length : Int) := by omega
    obtain ⟨b, off, ai, m0, ci, rfl, hc0, HM0, -, -, hmb0⟩ := (HS.out.below HB1.out).elemR (k := 0) (by omega)
    rw [Nat.add_zero] at hc0
    have hbl : b < (w.alloc (.cells #[.int .i64 h, .int .i64 (ls.length : Int)] 3)).heap.size := by
      obtain ⟨b9, off9, _, _, e9, h9, _⟩ := (HS.out.below HB1.out) 0 (by omega)
      simp only [Option.some.injEq, Addr.mk.injEq, and_true] at e9
      rw [e9.1]; exact h9
    have HSL2 : Hid (Shows ((w.alloc (.cells #[.int .i64 h, .int .i64 (ls.length : Int)] 3)).alloc (.cells #[.int .i64 (m0 : Int)] 3)) (some ⟨w.heap.size + 1, 0, none⟩) [(m0 : Int)]) := by
      have := shows_lit (w.alloc (.cells #[.int .i64 h, .int .i64 (ls.length : Int)] 3)) [(m0 : Int)] _ rfl (by simp) (by simp; omega)
      rw [World.size_alloc] at this
      exact this
    have HB2 : Hid (Below w.heap.size w ((w.alloc (.cells #[.int .i64 h, .int .i64 (ls.length : Int)] 3)).alloc (.cells #[.int .i64 (m0 : Int)] 3))) := HB1.out.trans (((Below.refl _ _).alloc (Nat.le_refl _) _).mono HB1.out.size)
    by_cases hB : sides [(m0 : Int)]
    · have HD : Hid (decide (sides [(m0 : Int)]) = true) := decide_eq_true hB
      have hm8 : 1 ≤ (m0 : Int) ∧ (m0 : Int) ≤ 8 := (sides1 _).1 hB
      clear hB hmb0
      go_enter Tryz.func7, Tryz.ntmps7
      go_wp2_with fail
      refine (areSides_at _ _ _ _ _ (HSL1.out w) rfl).mono ?_
      rintro e w1 ⟨rfl, rfl⟩
      rw [HA.out]
      go_wp2_with fail
      refine (areSides_at _ _ _ _ _ HSL2.out rfl).mono ?_
      rintro e w1 ⟨rfl, rfl⟩
      rw [HD.out]
      have hcW : ((w.alloc (.cells #[.int .i64 h, .int .i64 (ls.length : Int)] 3)).alloc (.cells #[.int .i64 (m0 : Int)] 3)).cell? ⟨b, off, none⟩ = some (.slice ai m0 ci) := (((Below.refl _ _).alloc (Nat.le_refl _) _).cell (p := ⟨b, off, none⟩) hbl).trans hc0
      clear hc0
      obtain ⟨W, HWd⟩ : ∃ W, Hid (W = (w.alloc (.cells #[.int .i64 h, .int .i64 (ls.length : Int)] 3)).alloc (.cells #[.int .i64 (m0 : Int)] 3)) := ⟨_, rfl⟩
      rw [← HWd.out] at HB2 hcW ⊢
      clear HWd HB1 HSL1 HSL2
      have HT : Hid (Table W (some ⟨b, off, none⟩) ls) := HS.out.below HB2.out
      have HC0 : Hid (W.cell? ⟨b, off, none⟩ = some (.slice ai m0 ci)) := hcW
      clear HA HD hcW
      go_wp2
      go_loopw [26] (fun q wr => ∃ i : Nat, i ≤ ls.length ∧ q = .int .i64 i ∧ Hid (∀ k, k < i → (row ls k).length = (row ls 0).length ∧ ∀ j, j < (row ls k).length → 0 ≤ box ls k j ∧ box ls k j ≤ most ls k j h) ∧ W = wr) (fun q _ => ls.length - (intOf q).toNat)
      case atStart => exact ⟨0, Nat.zero_le _, rfl, fun k hk => absurd hk (by omega), rfl⟩
      case round =>
        obtain ⟨i, hi, rfl, HI, rfl⟩ := hrel
        by_cases hlt : i < ls.length
        · have hlt' : (i : Int) < (ls.length : Int) := by omega
          obtain ⟨b2, off2, ai2, m, ci2, e2, hc, HM, HSi, -, hmb⟩ := HT.out.elemR hlt
          simp only [Option.some.injEq, Addr.mk.injEq, and_true] at e2
          obtain ⟨rfl, rfl⟩ := e2
          have hc0 := HC0.out
          by_cases hmm : m = m0
          · subst hmm
            have hne : ((m : Int) != (m : Int)) = false := by simp
            go_wp2
            go_loopw [40] (fun q wr => ∃ j : Nat, j ≤ m ∧ q = .int .i64 j ∧ Hid (∀ k, k < j → 0 ≤ box ls i k ∧ box ls i k ≤ most ls i k h) ∧ W = wr) (fun q _ => m - (intOf q).toNat)
            case atStart => exact ⟨0, Nat.zero_le _, rfl, fun k hk => absurd hk (by omega), rfl⟩
            case round =>
              obtain ⟨j, hj, rfl, HJ, rfl⟩ := hrel
              by_cases hjl : j < m
              · have hjl' : (j : Int) < (m : Int) := by omega
                have HJR : Hid (j < (row ls i).length) := by show j < (ls.getD i []).length; rw [← HM.out]; exact hjl
                obtain ⟨b1, o1, z, ha, HZ, hz1, hz2, hcz⟩ := HSi.out.elem (k := j) HJR.out
                subst ha
                have HZ' : Hid (box ls i j = z) := HZ.out.symm
                by_cases hz0 : z < 0
                · have HN : Hid (pilC ls h = 1) := pilC_no (fun p => by have := ((p.all i hlt).2 j HJR.out).1; rw [HZ'.out] at this; omega)
                  go_wp2
                  go_ret
                  exact ⟨ret_int HN.out.symm, HB2⟩
                · have hup : 0 < i → j < (row ls (i - 1)).length := fun h0 => by
                    rw [(HI.out (i - 1) (by omega)).1]; show j < (ls.getD 0 []).length; rw [← HM0.out]; exact hjl
                  obtain ⟨t, HTt⟩ : ∃ t, Hid (t = most ls i j h) := ⟨_, rfl⟩
                  have HC : Hid (Calls Tryz.prog 25 #[.slice (some ⟨b, off, none⟩) ls.length cap, .int .i64 (i : Int), .int .i64 (j : Int), .int .i64 h] W fun e w' => e = .returned (.int .i64 t) ∧ w' = W) := by
                    rw [HTt.out]
                    exact mostAt_at _ _ _ ls W i j h HT.out rfl (by omega) hlt (fun h0 => by have := HJR.out; omega) hup (by omega)
                  clear hup
                  by_cases hzt : t < z
                  · have HN : Hid (pilC ls h = 1) := pilC_no (fun p => by have := ((p.all i hlt).2 j HJR.out).2; rw [HZ'.out, ← HTt.out] at this; omega)
                    go_wp2_with fail
                    refine HC.out.mono ?_
                    rintro e w1 ⟨rfl, rfl⟩
                    go_wp2
                    go_ret
                    exact ⟨ret_int HN.out.symm, HB2⟩
                  · go_wp2_with fail
                    refine HC.out.mono ?_
                    rintro e w1 ⟨rfl, rfl⟩
                    go_wp2
                    go_roundw
                    case rel => exact ⟨j + 1, by omega, by go_num, fun k hk => by
                      by_cases e : k = j
                      · subst e; rw [HZ'.out, ← HTt.out]; omega
                      · exact HJ.out k (by omega), trivial⟩
                    case measure => simp [intOf]; omega
              · obtain rfl : j = m := by omega
                go_wp2
                go_roundw
                case rel => exact ⟨i + 1, by omega, by go_num, fun k hk => by
                  by_cases e : k = i
                  · subst e
                    refine ⟨by show (ls.getD k []).length = (ls.getD 0 []).length; rw [← HM.out, ← HM0.out], fun q hq => HJ.out q ?_⟩
                    rw [HM.out]; exact hq
                  · exact HI.out k (by omega), trivial⟩
                case measure => simp [intOf]; omega
          · have hne : ((m : Int) != (m0 : Int)) = true := by simp; omega
            have HN : Hid (pilC ls h = 1) := pilC_no (fun p => hmm (by have := (p.all i hlt).1; rw [HM.out, HM0.out]; exact this))
            go_wp2
            go_ret
            exact ⟨ret_int HN.out.symm, HB2⟩
        · obtain rfl : i = ls.length := by omega
          have HY : Hid (pilC ls h = 0) := pilC_yes ⟨HAs.out.1, HAs.out.2, by have := hm8; rw [HM0.out] at this; exact this, HI.out⟩
          go_wp2
          go_ret
          exact ⟨ret_int HY.out.symm, HB2⟩
    · have HN : Hid (pilC ls h = 1) := pilC_no (fun p => hB ((sides1 _).2 (by have := p.cs; rw [HM0.out]; exact this)))
      have HD : Hid (decide (sides [(m0 : Int)]) = false) := decide_eq_false hB
      clear hB
      rw [HN.out]
      go_enter Tryz.func7, Tryz.ntmps7
      go_wp2_with fail
      refine (areSides_at _ _ _ _ _ (HSL1.out w) rfl).mono ?_
      rintro e w1 ⟨rfl, rfl⟩
      rw [HA.out]
      go_wp2_with fail
      refine (areSides_at _ _ _ _ _ HSL2.out rfl).mono ?_
      rintro e w1 ⟨rfl, rfl⟩
      rw [HD.out]
      go_wp2
      go_ret
      exact ⟨rfl, HB2⟩
  · have HN : Hid (pilC ls h = 1) := pilC_no (fun p => hA ((sides2 _ _).2 ⟨p.hs, p.ls1⟩))
    have HA : Hid (decide (sides [h, (ls.length : Int)]) = false) := decide_eq_false hA
    clear hA
    rw [HN.out]
    go_enter Tryz.func7, Tryz.ntmps7
    go_wp2_with fail
    refine (areSides_at _ _ _ _ _ (HSL1.out w) rfl).mono ?_
    rintro e w1 ⟨rfl, rfl⟩
    rw [HA.out]
    go_wp2
    go_ret
    exact ⟨rfl, HB1⟩

end Go.Proofs.YtbiakncblkjmhaaGreatDoor

namespace Go.Proofs.YtbiakncblkjmhaaGreatDoor
open Go.RowKit

theorem Check_yes (a : Option Addr) (n cap r c k : Nat) (P : Nat → Nat → Nat) (w : World) (hs : Table w a (tb r c P)) (hn : n = r) (p : Pil r c k P) :
    Calls Tryz.prog 7 #[.slice a n cap, .int .i64 (k : Int)] w fun e w' => e = .returned (.int .i64 0) ∧ Hid (Below w.heap.size w w') := by
  have := Check_at a n cap (tb r c P) k w (by have := p.h8; omega) hs (by rw [tb_len]; exact hn) (by rw [tb_len]; have := p.r8; omega)
  rw [pilC_yes (pil_list p)] at this
  exact this
theorem Check_no (a : Option Addr) (n cap : Nat) (ls : List (List Int)) (h : Int) (w : World) (hh : -9223372036854775808 ≤ h ∧ h ≤ 9223372036854775807) (hs : Table w a ls) (hn : n = ls.length) (hl : ls.length ≤ 17592186044416) (p : ¬ PileL ls h) :
    Calls Tryz.prog 7 #[.slice a n cap, .int .i64 h] w fun e w' => e = .returned (.int .i64 1) ∧ Hid (Below w.heap.size w w') := by
  have := Check_at a n cap ls h w hh hs hn hl
  rw [pilC_no p] at this
  exact this

/-- a row of a pile that came in -/
theorem Table.rowP {w : World} {a : Option Addr} {r c : Nat} {P : Nat → Nat → Nat} (h : Table w a (tb r c P)) {i : Nat} (hi : i < r) :
    ∃ b off ai ci, a = some ⟨b, off, none⟩ ∧ w.cell? ⟨b, off + i, none⟩ = some (.slice ai c ci) ∧ Hid (Shows w ai (tab c fun j => (P i j : Int))) := by
  obtain ⟨b, off, ai, ci, h1, _, h3, h4, _⟩ := h i (by rw [tb_len]; exact hi)
  rw [tb_get hi] at h3 h4
  rw [tab_length] at h3
  exact ⟨b, off, ai, ci, h1, h3, h4⟩
theorem Table.rowB {w : World} {a : Option Addr} {r c : Nat} {P : Nat → Nat → Nat} (h : Table w a (tb r c P)) {i : Nat} (hi : i < r) :
    ∃ b off ai ci, a = some ⟨b, off, none⟩ ∧ Hid (∀ W, Below w.heap.size w W → W.cell? ⟨b, off + i, none⟩ = some (.slice ai c ci)) ∧ Hid (∀ W, Below w.heap.size w W → Shows W ai (tab c fun j => (P i j : Int))) := by
  obtain ⟨b, off, ai, ci, h1, h2, h3, h4, _⟩ := h i (by rw [tb_len]; exact hi)
  rw [tb_get hi] at h3 h4
  rw [tab_length] at h3
  exact ⟨b, off, ai, ci, h1, fun W hW => (hW.cell (p := ⟨b, off + i, none⟩) h2).trans h3, fun W hW => h4.below hW⟩
theorem Shows.boxP {w : World} {a : Option Addr} {c : Nat} {f : Nat → Nat} (h : Shows w a (tab c fun j => (f j : Int))) {j : Nat} (hj : j < c) :
    ∃ b off, a = some ⟨b, off, none⟩ ∧ w.cell? ⟨b, off + j, none⟩ = some (.int .i64 (f j : Int)) := by
  obtain ⟨b, o, z, ha, HZ, _, _, hc⟩ := h.elem (k := j) (by rw [tab_length]; exact hj)
  have := HZ.out
  rw [tab_getD _ _ _ hj] at this
  subst this
  exact ⟨b, o, ha, hc⟩

def tq (P : Nat → Nat → Nat) (i j z a b : Nat) : Nat := cn i (fun k => b < P k a) + ind ((a < j ∧ b < P i a) ∨ (a = j ∧ b < z))
theorem tq_start (P : Nat → Nat → Nat) (a b : Nat) : tq P 0 0 0 a b = 0 := by
  unfold tq; rw [ind_neg (by omega)]; rfl
theorem tq_z {P : Nat → Nat → Nat} {i j z : Nat} (a b : Nat) : upd (tq P i j z) j z (tq P i j z j z + 1) a b = tq P i j (z + 1) a b := by
  unfold upd
  by_cases h : a = j ∧ b = z
  · obtain ⟨rfl, rfl⟩ := h
    rw [if_pos ⟨rfl, rfl⟩]
    unfold tq
    rw [ind_neg (by omega), ind_pos (by omega)]
  · rw [if_neg h]
    unfold tq
    congr 1
    exact ind_iff (by omega)
theorem tq_j {P : Nat → Nat → Nat} {i j : Nat} (a b : Nat) : tq P i j (P i j) a b = tq P i (j + 1) 0 a b := by
  unfold tq
  congr 1
  refine ind_iff ?_
  by_cases e : a = j
  · subst e; omega
  · omega
theorem tq_i {P : Nat → Nat → Nat} {i c : Nat} (a b : Nat) (ha : a < c) : tq P i c 0 a b = tq P (i + 1) 0 0 a b := by
  unfold tq
  rw [cn_succ, ind_neg (p := (a < 0 ∧ b < P (i + 1) a) ∨ (a = 0 ∧ b < 0)) (by omega), Nat.add_zero]
  congr 1
  exact ind_iff (by omega)
theorem tq_end {P : Nat → Nat → Nat} {r : Nat} (a b : Nat) : tq P r 0 0 a b = trn r P a b := by
  unfold tq trn
  rw [ind_neg (by omega), Nat.add_zero]
theorem tq_le (P : Nat → Nat → Nat) (i j z a b : Nat) : tq P i j z a b ≤ i + 1 := by
  unfold tq; have := cn_le i (fun k => b < P k a); have := ind_le ((a < j ∧ b < P i a) ∨ (a = j ∧ b < z)); omega


def mq (P : Nat → Nat → Nat) (i j a b : Nat) : Nat := if b < i ∨ (b = i ∧ a < j) then P b a else 0
theorem mq_j {P : Nat → Nat → Nat} {i j : Nat} (a b : Nat) : upd (mq P i j) j i (P i j) a b = mq P i (j + 1) a b := by
  unfold upd mq
  by_cases h : a = j ∧ b = i
  · obtain ⟨rfl, rfl⟩ := h
    rw [if_pos ⟨rfl, rfl⟩, if_pos (by omega)]
  · rw [if_neg h]
    by_cases h2 : b < i ∨ (b = i ∧ a < j)
    · rw [if_pos h2, if_pos (by omega)]
    · rw [if_neg h2, if_neg (by omega)]
theorem mq_i {P : Nat → Nat → Nat} {i c : Nat} (a b : Nat) (ha : a < c) : mq P i c a b = mq P (i + 1) 0 a b := by
  unfold mq
  by_cases h2 : b < i ∨ (b = i ∧ a < c)
  · rw [if_pos h2, if_pos (by omega)]
  · rw [if_neg h2, if_neg (by omega)]
theorem mq_start (P : Nat → Nat → Nat) (a b : Nat) : mq P 0 0 a b = 0 := if_neg (by omega)
theorem mq_end {P : Nat → Nat → Nat} {r : Nat} (a b : Nat) (hb : b < r) : mq P r 0 a b = mir P a b := if_pos (Or.inl hb)


def rq (r c h : Nat) (P : Nat → Nat → Nat) (i j a b : Nat) : Nat := if r - 1 - a < i ∨ (r - 1 - a = i ∧ c - 1 - b < j) then rst r c h P a b else 0
theorem rq_j {r c h : Nat} {P : Nat → Nat → Nat} {i j : Nat} (hi : i < r) (hj : j < c) (a b : Nat) (ha : a < r) (hb : b < c) : upd (rq r c h P i j) (r - 1 - i) (c - 1 - j) (h - P i j) a b = rq r c h P i (j + 1) a b := by
  unfold upd rq
  by_cases hh : a = r - 1 - i ∧ b = c - 1 - j
  · obtain ⟨rfl, rfl⟩ := hh
    rw [if_pos ⟨rfl, rfl⟩, if_pos (by omega)]
    unfold rst
    rw [show r - 1 - (r - 1 - i) = i by omega, show c - 1 - (c - 1 - j) = j by omega]
  · rw [if_neg hh]
    by_cases h2 : r - 1 - a < i ∨ (r - 1 - a = i ∧ c - 1 - b < j)
    · rw [if_pos h2, if_pos (by omega)]
    · rw [if_neg h2, if_neg (by omega)]
theorem rq_i {r c h : Nat} {P : Nat → Nat → Nat} {i : Nat} (a b : Nat) (hb : b < c) : rq r c h P i c a b = rq r c h P (i + 1) 0 a b := by
  unfold rq
  by_cases h2 : r - 1 - a < i ∨ (r - 1 - a = i ∧ c - 1 - b < c)
  · rw [if_pos h2, if_pos (by omega)]
  · rw [if_neg h2, if_neg (by omega)]
theorem rq_start (r c h : Nat) (P : Nat → Nat → Nat) (a b : Nat) : rq r c h P 0 0 a b = 0 := if_neg (by omega)
theorem rq_end {r c h : Nat} {P : Nat → Nat → Nat} (a b : Nat) (ha : a < r) : rq r c h P r 0 a b = rst r c h P a b := if_pos (Or.inl (by omega))


end Go.Proofs.YtbiakncblkjmhaaGreatDoor
