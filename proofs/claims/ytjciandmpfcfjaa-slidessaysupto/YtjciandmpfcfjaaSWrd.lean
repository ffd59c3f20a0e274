/-
  The contract of math/bits.Mul, as slices.Repeat calls it.
  The contract of slices.Repeat, of one number.
  The contracts of slides.Rectify, slides.Slide.
  The contract of slides.Word.
-/
import Derived.Test.YtjciandmpfcfjaaBOwn
import Derived.Test.YtjciandmpfcfjaaBApp
import Derived.Test.YtjciandmpfcfjaaSRhl
import Derived.Deep.RegionLaw
import Derived.Deep.RegionWith
namespace Go.Proofs.Ytjciandmpfcfjaa
open Go.RowKit

/-- The upper half of a product. -/
def mulHi (c : Int) : Int :=
  IntKind.u64.wrap (IntKind.u64.wrap (IntKind.u64.wrap (IntKind.u64.wrap (bits BinOp.and IntKind.u64 1 4294967295 * bits BinOp.and IntKind.u64 c 4294967295) / 4294967296) / 4294967296) +
    IntKind.u64.wrap (bits BinOp.and IntKind.u64 (IntKind.u64.wrap (IntKind.u64.wrap (bits BinOp.and IntKind.u64 1 4294967295 * bits BinOp.and IntKind.u64 c 4294967295) / 4294967296)) 4294967295 + IntKind.u64.wrap (bits BinOp.and IntKind.u64 1 4294967295 * (c / 4294967296))) / 4294967296)
theorem mulHi_zero : ∀ c : Nat, c < 41 → mulHi (c : Int) = 0 := by decide +kernel

set_option maxHeartbeats 4000000 in
theorem Mul64_one (c : Nat) (w : World) (hc : c < 41) : Calls Try.prog 85 #[.int .u64 1, .int .u64 c] w fun e w' => e = .returned (.tuple #[.int .u64 0, .int .u64 c]) ∧ w' = w := by
  go_enter Try.func85, Try.ntmps85
  go_wp2
  go_ret2
  refine ⟨?_, rfl⟩
  show Ending.returned (Value.tuple #[.int .u64 (mulHi (c : Int)), .int .u64 c]) = _
  rw [mulHi_zero c hc]
set_option maxHeartbeats 4000000 in
theorem Mul_one (c : Nat) (w : World) (hc : c < 41) : Calls Try.prog 78 #[.int .u64 1, .int .u64 c] w fun e w' => e = .returned (.tuple #[.int .u64 0, .int .u64 c]) ∧ w' = w := by
  go_enter Try.func78, Try.ntmps78
  go_wp2_with fail
  refine (Mul64_one c w hc).mono ?_
  rintro e w1 ⟨rfl, hw1⟩
  obtain rfl : w = w1 := hw1.symm
  clear hw1
  go_wp2
  go_ret2
  exact ⟨rfl, rfl⟩

end Go.Proofs.Ytjciandmpfcfjaa

namespace Go.Proofs.Ytjciandmpfcfjaa
open Go.RowKit

/-- The first n cells are x, the others 0. -/
def repC (x : Int) (n c : Nat) : List Value := List.replicate n (Value.int .i64 x) ++ List.replicate (c - n) (Value.int .i64 0)
theorem repC_step {x : Int} {n c m : Nat} (h : n + m ≤ c) : (repC x n c).take n ++ List.replicate m (Value.int .i64 x) ++ (repC x n c).drop (n + m) = repC x (n + m) c := by
  unfold repC
  rw [List.take_left' (by simp), List.drop_append, List.drop_eq_nil_of_le (by simp), List.nil_append, List.replicate_append_replicate]
  rw [List.length_replicate, List.drop_replicate]
  congr 2
  omega

set_option maxHeartbeats 8000000 in
theorem Repeat_at (a : Option Addr) (cap : Nat) (x : Int) (c : Nat) (w : World) (hs : Shows w a [x]) (h1 : 0 < c) (h2 : c < 41) :
    Calls Try.prog 52 #[.slice a 1 cap, .int .i64 c] w fun e w' => ∃ v, e = .returned v ∧ Owns w' w.heap.size v (List.replicate c x) ∧ Below w.heap.size w w' := by
  obtain ⟨i0, hi, hz0, hz1, hz2⟩ := info_parts Try.info3
  have HS : Hid (Shows w a [x]) := hs
  clear hs
  have hneg : ¬ (c : Int) < 0 := by omega
  go_enter Try.func52, Try.ntmps52
  go_wp2_with fail
  refine (Mul_one c w h2).mono ?_
  rintro e w1 ⟨rfl, hw1⟩
  obtain rfl : w = w1 := hw1.symm
  clear hw1
  go_wp2_with (at_make; refine wpList_make_full _ rfl _ _ 27 rfl w.heap.size 3 i0 (.int .i64 0) 1 Try.underlying27 hi hz0 hz1 _ _ _ _ c rfl rfl rfl rfl ?b1 ?b2 ?b3 ?_)
  case b1 => rw [hz2]; omega
  case b2 => unfold maxLen; omega
  case b3 => exact Nat.le_refl _
  intro w1 hown hgrow
  have HB1 : Hid (Below w.heap.size w w1) := (Below.refl _ _).grown hgrow (Nat.le_refl _) (fun k h => by cases h)
  have hrow : w1.heap[w.heap.size]? = some (.cells (List.replicate c (Value.int .i64 0)).toArray 3 (0, 0)) := by
    rcases hown.2 with ⟨h2, _⟩ | ⟨g', cap', cur, hv, hg, hh, h4, h5, h6, h7⟩
    · cases h2
    · simp only [Value.slice.injEq, Option.some.injEq, Addr.mk.injEq, and_true, true_and] at hv
      obtain ⟨rfl, rfl⟩ := hv
      rw [hh]
      have e0 : cur.toList = List.replicate c (Value.int .i64 0) := by
        rw [← toList_madeCells_one, List.take_of_length_le (by simp [h6])] at *
        rw [h7]
        try simp [Value.cells]
      rw [← e0]
  obtain ⟨b, off, ha, _, hcell⟩ := (HS.out.below HB1.out).cells (by simp)
  subst ha
  have hrun := run_copy_row (P := Try.prog) w1 27 27 3 3 w.heap.size 0 c c ⟨b, off, none⟩ 1 cap _ 3 [Value.int .i64 x] Try.underlying27 Try.sz3 hrow (show 1 = Nat.min 1 c from (Nat.min_eq_left (by omega : 1 ≤ c)).symm) (fun j v hj => by
    match j, hj with
    | 0, hj => simp at hj; subst hj; rw [Addr.add_lit, hcell 0 (by simp)]; rfl) (by simp; omega) (by simp [Value.oneCell'])
  simp only [List.length_singleton] at hrun
  obtain ⟨w2, HW2⟩ : ∃ w2, Hid (w2 = w1.setRow w.heap.size ((List.replicate c (Value.int IntKind.i64 0)).toArray.toList.take 0 ++ [Value.int .i64 x] ++ (List.replicate c (Value.int IntKind.i64 0)).toArray.toList.drop (0 + 1)).toArray) := ⟨_, rfl⟩
  rw [← HW2.out] at hrun
  have HR2 : Hid (w2.heap[w.heap.size]? = some (.cells (repC x 1 c).toArray 3 (0, 0))) := by
    rw [HW2.out]
    show _ = _
    rw [setRow_heap w1 w.heap.size _ _ 3 _ hrow]
    congr 2
    unfold repC
    simp [List.drop_replicate]
  have HB2 : Hid (Below w.heap.size w w2) := by rw [HW2.out]; exact below_setRow HB1.out (Nat.le_refl _) _
  clear hrow hown hgrow hcell
  go_wp2
  go_loopw [8] (fun q wr => ∃ n : Nat, 0 < n ∧ n ≤ c ∧ q = .int .i64 n ∧ Hid (wr.heap[w.heap.size]? = some (.cells (repC x n c).toArray 3 (0, 0))) ∧ Hid (Below w.heap.size w wr)) (fun q _ => c - (intOf q).toNat)
  case atStart => exact ⟨1, by omega, by omega, rfl, HR2, HB2⟩
  case round =>
    obtain ⟨n, hn0, hnc, rfl, HR, HB⟩ := hrel
    by_cases hlt : n < c
    · have hlt' : (n : Int) < (c : Int) := by omega
      have hle : (n : Int) ≤ (c : Int) := by omega
      have hnz : ¬ c = n := by omega
      obtain ⟨m, HM⟩ : ∃ m, Hid (m = Nat.min n (c - n)) := ⟨_, rfl⟩
      have hm : m ≤ n ∧ n + m ≤ c ∧ 0 < m := by rw [HM.out]; simp [Nat.min_def]; split <;> omega
      have hcell : ∀ j, j < n → wr.drew.cell? ⟨w.heap.size, j, none⟩ = some (Value.int .i64 x) := fun j hj => by
        have ho : Owns wr w.heap.size (.slice (some ⟨w.heap.size, 0, none⟩) c c) (List.replicate n x ++ List.replicate (c - n) 0) := by
          refine owns_of_row (Nat.le_refl _) ?_ (by simp; omega) (by simp; omega)
          rw [HR.out]; simp [repC]
        have := (ho.at (by simp; omega)).2.2 j (by simp; omega)
        have e : (List.replicate n x ++ List.replicate (c - n) (0 : Int)).getD j 0 = x := by
          simp [List.getD, List.getElem?_append_left (show j < (List.replicate n x).length by simp; exact hj), hj]
        rw [e] at this
        exact this
      have hrun := run_copy_row (P := Try.prog) wr.drew 27 27 3 3 w.heap.size n (c - n) (c - n) ⟨w.heap.size, 0, none⟩ n c _ 3 (List.replicate m (Value.int .i64 x)) Try.underlying27 Try.sz3 HR.out (by simp [HM.out]) (fun j v hj => by
        have hj' : j < m := by have := (List.getElem?_eq_some_iff.1 hj).1; simpa using this
        rw [List.getElem?_replicate, if_pos hj'] at hj
        simp only [Option.some.injEq] at hj
        subst hj
        rw [Addr.add_lit, Nat.zero_add]; exact hcell j (by omega)) (by simp [repC]; omega) (by intro v hv; rw [(List.mem_replicate.1 hv).2]; rfl)
      simp only [List.length_replicate] at hrun
      obtain ⟨w3, HW3⟩ : ∃ w3, Hid (w3 = wr.drew.setRow w.heap.size ((repC x n c).toArray.toList.take n ++ List.replicate m (Value.int .i64 x) ++ (repC x n c).toArray.toList.drop (n + m)).toArray) := ⟨_, rfl⟩
      rw [← HW3.out] at hrun
      have HR3 : Hid (w3.heap[w.heap.size]? = some (.cells (repC x (n + m) c).toArray 3 (0, 0))) := by
        rw [HW3.out]
        show _ = _
        rw [setRow_heap wr.drew w.heap.size _ _ 3 _ HR.out]
        congr 2
        have := repC_step (x := x) (n := n) (c := c) (m := m) (by omega)
        simpa using this
      have HB3 : Hid (Below w.heap.size w w3) := by rw [HW3.out]; exact below_setRow (below_drewN HB.out 1) (Nat.le_refl _) _
      have hnm : IntKind.i64.wrap ((n : Int) + (m : Int)) = ((n + m : Nat) : Int) := by rw [IntWalk.i64_left, IntWalk.wrap64_in _ (by omega)]; omega
      clear hcell
      go_wp2_with fail
      go_region
      go_wp2
      go_roundw
      case rel => exact ⟨n + m, by omega, by omega, by first | rfl | go_num, HR3, HB3⟩
      case measure => simp [intOf]; omega
    · obtain rfl : n = c := by omega
      have hlt' : ¬ (n : Int) < (n : Int) := by omega
      have HO : Hid (Owns wr w.heap.size (.slice (some ⟨w.heap.size, 0, none⟩) n n) (List.replicate n x)) := by
        refine owns_of_row (Nat.le_refl _) ?_ (by simp) (by simp; omega)
        rw [HR.out]; simp [repC]
      go_wp2
      go_ret
      exact ⟨_, rfl, by simpa using HO.out, HB.out⟩

end Go.Proofs.Ytjciandmpfcfjaa

namespace Go.Proofs.Ytjciandmpfcfjaa
open Go.RowKit

theorem IsSk.fews {ls : List (List Int)} (h : IsSk ls) : Few ls := by
  have hlen : ls.length ≤ 40 := Nat.le_trans (len_le_flat (fun a ha => (h.ok a ha).one)) h.few
  refine ⟨by omega, fun r hr => ?_, fun r hr z hz => ?_⟩
  · obtain ⟨k, hk, rfl⟩ := mem_row hr
    have := row_le_flat hk
    have := h.few
    exact ⟨(h.ok k hk).one, by omega⟩
  · obtain ⟨k, hk, rfl⟩ := mem_row hr
    obtain ⟨b, hb, rfl⟩ := List.mem_iff_getElem.1 hz
    have e : (row ls k)[b] = box ls k b := by unfold box; simp [List.getD, List.getElem?_eq_getElem hb]
    rw [e]
    by_cases c : b < hol (row ls k)
    · have := hol_zero (row ls k) b c
      unfold box; omega
    · have := (h.ok k hk).low b (by omega) hb
      unfold box; omega
/-- What is left when no hole is. -/
def recT (ls : List (List Int)) : List (List Int) := insW [] (sword (H ls) ls)
theorem recT_is {ls : List (List Int)} (h : IsSk ls) : recS (byRow 0 (hsF ls ls.length)).reverse ls = recT ls :=
  rec_is (hsF_lat h.sk) h.sk (fun a => (hsF_count h.sk a).symm)
theorem hs_bd {ls : List (List Int)} (h : IsSk ls) : ∀ z ∈ hsF ls ls.length, 1 ≤ z ∧ z ≤ 40 := fun z hz => by
  obtain ⟨j, h1, h2, h3, h4⟩ := hsF_tab h.sk ls.length
  rw [h2] at hz
  obtain ⟨a, ha, rfl⟩ := tab_mem hz
  have := h4 a ha
  have := hol_le (row ls a)
  have := row_le_flat (ls := ls) (a := a) (by omega)
  have := h.few
  unfold H at *
  omega
theorem hs_sum {ls : List (List Int)} (h : IsSk ls) : (byRow 0 (hsF ls ls.length)).length ≤ 40 := by
  have gen : ∀ (l : List Nat) (N : Nat), (∀ a ∈ l, a < N) → l.length = S N (fun a => l.count a) := by
    intro l N
    induction l with
    | nil => intro _; exact (show 0 = S N (fun _ => 0) from (S_zero N).symm)
    | cons x l ih =>
      intro hx
      have h1 := ih (fun a ha => hx a (by simp [ha]))
      have h2 : S N (fun a => (x :: l).count a) = S N (fun a => l.count a + ind (a = x)) := S_congr (fun a _ => by
        rw [List.count_cons]
        by_cases e : x = a
        · subst e; simp [ind]
        · have e2 : ¬ a = x := fun q => e q.symm
          simp [ind, e, e2])
      rw [h2, S_add, S_just (p := fun a => a = x) (hx x (by simp)) rfl (fun i _ q => q), List.length_cons, h1]
  have hin : ∀ a ∈ byRow 0 (hsF ls ls.length), a < ls.length := fun a ha => by
    have := List.count_pos_iff.2 ha
    rw [hsF_count h.sk] at this
    refine Nat.lt_of_not_le (fun c => ?_)
    unfold H at this
    rw [row_out c] at this
    simp [hol] at this
  rw [gen _ _ hin, S_congr (g := fun a => hol (row ls a)) (fun a _ => hsF_count h.sk a)]
  have h1 : S ls.length (fun a => hol (row ls a)) ≤ S ls.length (fun a => (row ls a).length) := S_le (fun a _ => hol_le _)
  rw [← flat_sum] at h1
  have := h.few
  omega
theorem byRow_take (l : List Int) {k : Nat} (hk : k < l.length) : byRow 0 (l.take (k + 1)) = byRow 0 (l.take k) ++ List.replicate (l.getD k 0).toNat k := by
  rw [take_snoc l k hk, byRow_snoc, List.length_take, show min k l.length = k by omega]
theorem byRow_take_len (l : List Int) (k : Nat) : (byRow 0 (l.take k)).length ≤ (byRow 0 l).length := by
  have gen : ∀ (u v : List Int) (i : Nat), (byRow i u).length ≤ (byRow i (u ++ v)).length := by
    intro u v
    induction u with
    | nil => intro i; simp [byRow]
    | cons x u ih => intro i; simp only [List.cons_append, byRow, List.length_append]; have := ih (i + 1); omega
  have := gen (l.take k) (l.drop k) 0
  rw [List.take_append_drop] at this; exact this

set_option maxHeartbeats 8000000 in
theorem Rectify_ok (a : Option Addr) (n cap : Nat) (ls : List (List Int)) (w : World) (hs : TableX w a ls) (hn : n = ls.length) (hl : ls.length ≤ 17592186044416) (hc : schk ls = 0) :
    Calls Try.prog 16 #[.slice a n cap] w fun e w' => ∃ v, e = .returned (.tuple #[v, .int .i64 0]) ∧ Tbl w' w.heap.size v (recT ls) ∧ Below w.heap.size w w' := by
  subst hn
  have hI := schk_ok.1 hc
  have HS : Hid (TableX w a ls) := hs
  have HI : Hid (IsSk ls) := hI
  have HC : Hid (schk ls = 0) := hc
  have HF : Hid (Few ls) := hI.fews
  have hl2 : ls.length ≤ 1000 := hI.fews.len
  obtain ⟨R, HR⟩ : ∃ R, Hid (R = hsF ls ls.length) := ⟨_, rfl⟩
  have HRb : Hid (∀ z ∈ R, 1 ≤ z ∧ z ≤ 40) := by rw [HR.out]; exact hs_bd hI
  have HRl : Hid (R.length ≤ 1000) := by rw [HR.out]; have := hsF_len ls ls.length; show _ ≤ _; omega
  have HRs : Hid ((byRow 0 R).length ≤ 40) := by rw [HR.out]; exact hs_sum hI
  clear hs hc hI
  go_enter Try.func16, Try.ntmps16
  go_wp2_with fail
  refine (SkCheck_is a _ cap ls w HS.out hl rfl HC).mono ?_
  rintro e w1 ⟨rfl, d1, hw1⟩
  have HB1 : Hid (Below w.heap.size w w1) := by rw [hw1]; exact below_drewN (Below.refl _ _) d1
  clear hw1
  go_wp2_with fail
  refine (shapeOfHoles_at a _ cap ls w1 (HS.out.below HB1.out).table rfl hl2).mono ?_
  rintro e w2 ⟨v2, rfl, hO2, hb2⟩
  rw [← HR.out] at hO2
  have HB2 : Hid (Below w.heap.size w w2) := HB1.out.trans (hb2.mono HB1.out.size)
  obtain ⟨a2, n2, c2, rfl, hS2, hn2, -⟩ := hO2.opened (by have := HRl.out; omega) (small_wf (fun z hz => by have := HRb.out z hz; omega))
  have HS2 : Hid (Shows w2 a2 R) := hS2
  have HN2 : Hid (n2 = R.length) := hn2
  have hn2b : n2 ≤ 1000 := by rw [hn2]; exact HRl.out
  clear hO2 hb2 hS2 hn2
  go_wp2
  go_loopw [5, 16] (fun v iv wr => ∃ k : Nat, k ≤ n2 ∧ iv = .int .i64 k ∧ Hid (Owns wr w2.heap.size v ((byRow 0 (R.take k)).map (fun k : Nat => (k : Int)))) ∧ Hid (Below w2.heap.size w2 wr)) (fun _ iv _ => n2 - (intOf iv).toNat)
  case atStart => exact ⟨0, Nat.zero_le _, rfl, World.ownsRow_nil _ _ _ _, Below.refl _ _⟩
  case round =>
    obtain ⟨k, hk, rfl, HO, HB⟩ := hrel
    by_cases hlt : k < n2
    · have hlt' : (k : Int) < (n2 : Int) := by omega
      have HKl : Hid (k < R.length) := by rw [← HN2.out]; exact hlt
      obtain ⟨b, off, z, rfl, HZ, -, -, hcz⟩ := (HS2.out.below HB.out).elem HKl.out
      have hzb : 1 ≤ z ∧ z ≤ 40 := by rw [HZ.out]; exact HRb.out _ (getD_mem HKl.out)
      obtain ⟨c, HCc⟩ : ∃ c : Nat, Hid (z = (c : Int)) := ⟨z.toNat, by show _ = _; omega⟩
      have hzc := HCc.out
      subst hzc
      have hc1 : 0 < c := by omega
      have hc2 : c < 41 := by omega
      have HNx : Hid (byRow 0 (R.take (k + 1)) = byRow 0 (R.take k) ++ List.replicate c k) := by
        show _ = _
        rw [byRow_take R HKl.out, ← HZ.out]; simp
      have HLn : Hid ((byRow 0 (R.take k)).length ≤ 40) := Nat.le_trans (byRow_take_len R k) HRs.out
      clear hzb
      go_wp2_with fail
      refine (Repeat_at _ _ (k : Int) c _ (shows_lit wr [(k : Int)] _ rfl (by simp) (by simp; omega)) hc1 hc2).mono ?_
      rintro e w3 ⟨v3, rfl, hO3, hb3⟩
      have hbl : Below wr.heap.size wr w3 := ((Below.refl _ _).alloc (Nat.le_refl _) _).trans (hb3.mono (by simp))
      have HO3 : Hid (Owns w3 w2.heap.size _ ((byRow 0 (R.take k)).map (fun k : Nat => (k : Int)))) := HO.out.below hbl
      have HB3 : Hid (Below w2.heap.size w2 w3) := HB.out.trans (hbl.mono HB.out.size)
      obtain ⟨a3, n3, c3, rfl, hS3, hn3, -⟩ := hO3.opened (by simp; omega) (fun z hz => by rw [(List.mem_replicate.1 hz).2]; omega)
      have HS3 : Hid (Shows w3 a3 (List.replicate c (k : Int))) := hS3
      have HN3 : Hid (n3 = (List.replicate c (k : Int)).length) := hn3
      have HNn : Hid (a3 = none → List.replicate c (k : Int) = [] ∧ c3 = 0) := fun q => by
        obtain ⟨b', off', e', _⟩ := hS3.cells (fun q2 => by have := congrArg List.length q2; simp at this; omega)
        rw [q] at e'; cases e'
      clear hO3 hb3 hbl hS3 hn3
      go_wp2_with (at_builtin; refine append_src rfl _ _ rfl rfl rfl HO3.out HS3.out HN3.out HNn.out ?c1 ?c2 ?_)
      case c1 => have := HLn.out; simp; omega
      case c2 => exact HB3.out.size
      intro v' w4 hO4 hb4 _
      have HO4 : Hid (Owns w4 w2.heap.size v' ((byRow 0 (R.take (k + 1))).map (fun k : Nat => (k : Int)))) := by
        show Owns _ _ _ _
        rw [HNx.out, List.map_append, List.map_replicate]; exact hO4
      have HB4 : Hid (Below w2.heap.size w2 w4) := HB3.out.trans hb4
      clear hO4 hb4
      go_wp2
      go_roundw
      case rel => exact ⟨k + 1, by omega, by go_num, HO4, HB4⟩
      case measure => simp [intOf]; omega
    · obtain rfl : k = n2 := by omega
      have hlt' : ¬ (k : Int) < (k : Int) := by omega
      have hO := HO.out
      rw [List.take_of_length_le (by rw [HN2.out]; exact Nat.le_refl _)] at hO
      have HBw : Hid (Below w.heap.size w wr) := HB2.out.trans (HB.out.mono HB2.out.size)
      obtain ⟨a5, n5, c5, hv5, hS5, hn5, -⟩ := hO.opened (by rw [List.length_map]; have := HRs.out; omega) (fun z hz => by
        obtain ⟨y, hy, rfl⟩ := List.mem_map.1 hz
        have := List.count_pos_iff.2 hy
        rw [HR.out, hsF_count HI.out.sk] at this
        have : y < ls.length := Nat.lt_of_not_le (fun q => by unfold H at this; rw [row_out q] at this; simp [hol] at this)
        omega)
      subst hv5
      have HS5 : Hid (Shows wr a5 ((byRow 0 R).map (fun k : Nat => (k : Int)))) := hS5
      have HN5 : Hid (n5 = (byRow 0 R).length) := by show _ = _; rw [hn5, List.length_map]
      have HE : Hid (recS (byRow 0 R).reverse ls = recT ls) := by rw [HR.out]; exact recT_is HI.out
      have HLt : Hid (Lat (byRow 0 R) ∧ ∀ a, H ls a = (byRow 0 R).count a) := by rw [HR.out]; exact ⟨hsF_lat HI.out.sk, fun a => (hsF_count HI.out.sk a).symm⟩
      clear hO hS5 hn5 HO
      go_wp2_with fail
      refine (rectified_at a a5 _ n5 cap c5 ls (byRow 0 R) wr (HS.out.below HBw.out).table HS5.out rfl HN5.out (by have := HRs.out; omega) HF.out HI.out.sk HLt.out.2 HLt.out.1).mono ?_
      rintro e w6 ⟨v6, rfl, hT6, hb6⟩
      rw [HE.out] at hT6
      have HB6 : Hid (Below w.heap.size w w6) := HBw.out.trans (hb6.mono HBw.out.size)
      have HT6 : Hid (Tbl w6 w.heap.size v6 (recT ls)) := hT6.mono HBw.out.size
      obtain ⟨a6, n6, c6, hv6⟩ : ∃ a6 n6 c6, v6 = .slice a6 n6 c6 := by obtain ⟨q, hq⟩ := hT6; obtain ⟨x, y, e⟩ := hq.shape; exact ⟨_, _, _, e⟩
      subst hv6
      clear hT6 hb6
      go_wp2
      go_ret2
      exact ⟨_, rfl, HT6.out, HB6.out⟩
set_option maxHeartbeats 2000000 in
theorem Rectify_err (a : Option Addr) (n cap : Nat) (ls : List (List Int)) (w : World) (hs : TableX w a ls) (hn : n = ls.length) (hl : ls.length ≤ 17592186044416) (hc : schk ls ≠ 0) :
    Calls Try.prog 16 #[.slice a n cap] w fun e w' => e = .returned (.tuple #[.slice none 0 0, .int .i64 (schk ls)]) ∧ Below w.heap.size w w' := by
  subst hn
  have HS : Hid (TableX w a ls) := hs
  obtain ⟨c, HC⟩ : ∃ c, Hid (schk ls = c) := ⟨_, rfl⟩
  have hc0 : (c != 0) = true := by rw [← HC.out]; exact bne_iff_ne.2 hc
  rw [HC.out]
  clear hs hc
  go_enter Try.func16, Try.ntmps16
  go_wp2_with fail
  refine (SkCheck_is a _ cap ls w HS.out hl rfl HC).mono ?_
  rintro e w1 ⟨rfl, d1, hw1⟩
  have HB1 : Hid (Below w.heap.size w w1) := by rw [hw1]; exact below_drewN (Below.refl _ _) d1
  clear hw1
  go_wp2
  go_ret2
  exact ⟨rfl, HB1.out⟩
theorem Rectify_at (a : Option Addr) (n cap : Nat) (ls : List (List Int)) (w : World) (hs : TableX w a ls) (hn : n = ls.length) (hl : ls.length ≤ 17592186044416) :
    Calls Try.prog 16 #[.slice a n cap] w fun e w' => ∃ v, e = .returned (.tuple #[v, .int .i64 (schk ls)]) ∧ Tbl w' w.heap.size v (if schk ls = 0 then recT ls else []) ∧ Below w.heap.size w w' := by
  by_cases c : schk ls = 0
  · refine (Rectify_ok a n cap ls w hs hn hl c).mono ?_
    rintro e w' ⟨v, rfl, h1, h2⟩
    exact ⟨v, by rw [c], by rw [if_pos c]; exact h1, h2⟩
  · refine (Rectify_err a n cap ls w hs hn hl c).mono ?_
    rintro e w' ⟨rfl, h2⟩
    exact ⟨_, rfl, by rw [if_neg c]; exact Tbl.nil _ _, h2⟩
def slC (ls : List (List Int)) (r : Int) : Int := if schk ls ≠ 0 then schk ls else if 0 ≤ r ∧ r < (ls.length : Int) ∧ H ls (r.toNat + 1) < H ls r.toNat then 0 else 5
set_option maxHeartbeats 8000000 in
theorem Slide_full {cc ii : Int} {Qq : List (List Int)} (a : Option Addr) (n cap : Nat) (ls : List (List Int)) (r : Int) (w : World) (hs : TableX w a ls) (hn : n = ls.length) (hl : ls.length ≤ 17592186044416) (E1 : Hid (slC ls r = cc)) (E2 : Hid (Qq = if slC ls r = 0 then (slR ls r.toNat).1 else [])) (E3 : Hid (ii = if slC ls r = 0 then ((slR ls r.toNat).2 : Int) else 0)) :
    Calls Try.prog 15 #[.slice a n cap, .int .i64 r] w fun e w' => ∃ v : Value, e = .returned (.tuple #[v, .int .i64 ii, .int .i64 cc]) ∧ Tbl w' w.heap.size v Qq ∧ Below w.heap.size w w' := by
  subst hn
  have HS : Hid (TableX w a ls) := hs
  clear hs
  by_cases hc : schk ls = 0
  · have HC : Hid (schk ls = 0) := hc
    have HI : Hid (IsSk ls) := schk_ok.1 hc
    have HF : Hid (Few ls) := HI.out.fews
    have hl2 : ls.length ≤ 1000 := HF.out.len
    have HQ : Hid (slC ls r = if 0 ≤ r ∧ r < (ls.length : Int) ∧ H ls (r.toNat + 1) < H ls r.toNat then 0 else 5) := by show _ = _; unfold slC; rw [if_neg (by rw [hc]; simp)]
    clear hc
    by_cases hr : 0 ≤ r ∧ r < (ls.length : Int)
    · obtain ⟨i, HIi⟩ : ∃ i : Nat, Hid (r = (i : Int)) := ⟨r.toNat, by show _ = _; omega⟩
      have e1 := HIi.out
      subst e1
      have HIl : Hid (i < ls.length) := by show _ < _; omega
      have g1 : ¬ (i : Int) < 0 := by omega
      have g2 : ¬ (i : Int) ≥ (ls.length : Int) := by omega
      have g3 : (i : Int) < (ls.length : Int) := by omega
      by_cases hk : H ls (i + 1) < H ls i
      · have HK : Hid (decide (H ls (i + 1) < H ls i) = true) := decide_eq_true hk
        have HK2 : Hid (H ls (i + 1) < H ls i) := hk
        have HE0 : slC ls (i : Int) = 0 := by rw [HQ.out, if_pos ⟨hr.1, hr.2, by simpa using hk⟩]
        have HE : Hid (cc = 0 ∧ Qq = (slR ls i).1 ∧ ii = ((slR ls i).2 : Int)) := by rw [← E1.out, E2.out, E3.out, HE0]; exact ⟨rfl, by simp, by simp⟩
        clear HE0
        clear hr hk
        go_enter Try.func15, Try.ntmps15
        go_wp2_with fail
        refine (SkCheck_is a _ cap ls w HS.out hl rfl HC).mono ?_
        rintro e w1 ⟨rfl, d1, hw1⟩
        have HB1 : Hid (Below w.heap.size w w1) := by rw [hw1]; exact below_drewN (Below.refl _ _) d1
        clear hw1
        go_wp2_with fail
        refine (endsInCorner_is a _ cap ls i w1 (HS.out.below HB1.out).table rfl hl2 HIl.out HK).mono ?_
        rintro e w2 ⟨rfl, hw2⟩
        obtain rfl : w1 = w2 := hw2.symm
        clear hw2
        go_wp2_with fail
        refine (scopied_at a _ cap ls w1 (HS.out.below HB1.out).table rfl HF.out.len HF.out.one).mono ?_
        rintro e w3 ⟨v3, rfl, hT3, hb3⟩
        have HB3 : Hid (Below w.heap.size w w3) := HB1.out.trans (hb3.mono HB1.out.size)
        obtain ⟨vs, hI3⟩ := TIn.of_tbl (hT3.mono HB1.out.size)
        obtain ⟨va, vc, hv⟩ := hI3.t.shape
        subst hv
        have HI3 : Hid (TblIn w3 w.heap.size (fun k => w.heap.size ≤ k ∧ k < w3.heap.size) (.slice va ls.length vc) vs ls) := hI3
        clear hT3 hb3 hI3
        go_wp2_with fail
        refine (sslid_at _ _ _ _ i w3 HI3.out HF.out HI.out.sk HK2.out).mono ?_
        rintro e w4 ⟨v4, rfl, hT4, hO4, hz4, hF4⟩
        have HB4 : Hid (Below w.heap.size w w4) := HB3.out.trans (hO4.below HB3.out.size (fun q hq => hq.1))
        have HT4 : Hid (Tbl w4 w.heap.size v4 (slR ls i).1) := hT4.tbl
        obtain ⟨a4, n4, c4, hv4⟩ : ∃ a4 n4 c4, v4 = .slice a4 n4 c4 := by obtain ⟨q, hq⟩ := hT4; obtain ⟨x, y, e⟩ := hq.t.shape; exact ⟨_, _, _, e⟩
        subst hv4
        clear hT4 hO4 hz4 hF4
        go_wp2
        go_ret3
        exact ⟨_, by rw [HE.out.1, HE.out.2.2]; rfl, by rw [HE.out.2.1]; exact HT4.out, HB4.out⟩
      · have HK : Hid (decide (H ls (i + 1) < H ls i) = false) := decide_eq_false hk
        have HE0 : slC ls (i : Int) = 5 := by rw [HQ.out, if_neg (fun q => hk (by simpa using q.2.2))]
        have HE : Hid (cc = 5 ∧ Qq = [] ∧ ii = 0) := by rw [← E1.out, E2.out, E3.out, HE0]; exact ⟨rfl, by simp, by simp⟩
        clear HE0
        clear hr hk
        go_enter Try.func15, Try.ntmps15
        go_wp2_with fail
        refine (SkCheck_is a _ cap ls w HS.out hl rfl HC).mono ?_
        rintro e w1 ⟨rfl, d1, hw1⟩
        have HB1 : Hid (Below w.heap.size w w1) := by rw [hw1]; exact below_drewN (Below.refl _ _) d1
        clear hw1
        go_wp2_with fail
        refine (endsInCorner_is a _ cap ls i w1 (HS.out.below HB1.out).table rfl hl2 HIl.out HK).mono ?_
        rintro e w2 ⟨rfl, hw2⟩
        obtain rfl : w1 = w2 := hw2.symm
        clear hw2
        go_wp2
        go_ret3
        exact ⟨_, by rw [HE.out.1, HE.out.2.2]; rfl, by rw [HE.out.2.1]; exact Tbl.nil _ _, HB1.out⟩
    · have HE0 : slC ls r = 5 := by rw [HQ.out, if_neg (fun q => hr ⟨q.1, q.2.1⟩)]
      have HE : Hid (cc = 5 ∧ Qq = [] ∧ ii = 0) := by rw [← E1.out, E2.out, E3.out, HE0]; exact ⟨rfl, by simp, by simp⟩
      clear HE0
      by_cases g0 : r < 0
      all_goals
        try (have g1 : r ≥ (ls.length : Int) := by omega)
        clear hr
        go_enter Try.func15, Try.ntmps15
        go_wp2_with fail
        refine (SkCheck_is a _ cap ls w HS.out hl rfl HC).mono ?_
        rintro e w1 ⟨rfl, d1, hw1⟩
        have HB1 : Hid (Below w.heap.size w w1) := by rw [hw1]; exact below_drewN (Below.refl _ _) d1
        clear hw1
        go_wp2
        go_ret3
        exact ⟨_, by rw [HE.out.1, HE.out.2.2]; rfl, by rw [HE.out.2.1]; exact Tbl.nil _ _, HB1.out⟩
  · obtain ⟨c, HC⟩ : ∃ c, Hid (schk ls = c) := ⟨_, rfl⟩
    have hc0 : (c != 0) = true := by rw [← HC.out]; exact bne_iff_ne.2 hc
    have HE0 : slC ls r = c := by unfold slC; rw [if_pos hc, HC.out]
    have HE : Hid (cc = c ∧ Qq = [] ∧ ii = 0) := by rw [← E1.out, E2.out, E3.out, HE0]; exact ⟨rfl, by rw [if_neg (by rw [← HC.out]; exact hc)], by rw [if_neg (by rw [← HC.out]; exact hc)]⟩
    clear HE0
    clear hc
    go_enter Try.func15, Try.ntmps15
    go_wp2_with fail
    refine (SkCheck_is a _ cap ls w HS.out hl rfl HC).mono ?_
    rintro e w1 ⟨rfl, d1, hw1⟩
    have HB1 : Hid (Below w.heap.size w w1) := by rw [hw1]; exact below_drewN (Below.refl _ _) d1
    clear hw1
    go_wp2
    go_ret3
    exact ⟨_, by rw [HE.out.1, HE.out.2.2]; rfl, by rw [HE.out.2.1]; exact Tbl.nil _ _, HB1.out⟩
theorem Slide_at {cc : Int} {Qq : List (List Int)} (a : Option Addr) (n cap : Nat) (ls : List (List Int)) (r : Int) (w : World) (hs : TableX w a ls) (hn : n = ls.length) (hl : ls.length ≤ 17592186044416) (E1 : Hid (slC ls r = cc)) (E2 : Hid (Qq = if slC ls r = 0 then (slR ls r.toNat).1 else [])) :
    Calls Try.prog 15 #[.slice a n cap, .int .i64 r] w fun e w' => ∃ (v : Value) (i : Int), e = .returned (.tuple #[v, .int .i64 i, .int .i64 cc]) ∧ Tbl w' w.heap.size v Qq ∧ Below w.heap.size w w' :=
  (Slide_full a n cap ls r w hs hn hl E1 E2 rfl).mono (fun _ _ ⟨v, h1, h2, h3⟩ => ⟨v, _, h1, h2, h3⟩)

end Go.Proofs.Ytjciandmpfcfjaa

namespace Go.Proofs.Ytjciandmpfcfjaa
open Go.RowKit

/-- A call of holesOf, in a region that draws its order. -/
theorem step_holes {w : World} {x r : Value} {ops : Array Oper} {o : Oper} {a : Act} {K : Act → World → Prop} {Q : Exit → Act → World → Prop} {EE : Prop} (hgd : o.guard = none) (y : Operand)
    (ho : o.op = .call { callee := .value (.func 47), args := #[y], argTypes := #[27] }) (hx : a.eval y = x) (hc : Calls Try.prog 47 #[x] w fun e w' => e = .returned r ∧ w' = w) (h : K (a.put o.dst r) w) :
    if Region.wanted o (yielded ops a.tmps) = true then Oper.wp Try.prog o a w K Q else EE := by
  have hw : Region.wanted o (yielded ops a.tmps) = true := by simp [Region.wanted, hgd]
  rw [if_pos hw]
  unfold Oper.wp
  simp [execOp, ho, resolve, invoke, hx]
  simp [Act.eval, Deferred.ofValue, callFunc, Try.func47]
  refine hc.mono ?_
  rintro e w' ⟨rfl, rfl⟩
  exact h

/-- The word of the rows from k on. -/
def swF (ls : List (List Int)) : Nat → List Int
  | 0 => []
  | k + 1 => swF ls k ++ (row ls (ls.length - 1 - k)).drop (H ls (ls.length - 1 - k))
set_option maxHeartbeats 8000000 in
theorem Word_ok (a : Option Addr) (n cap : Nat) (ls : List (List Int)) (w : World) (hs : TableX w a ls) (hn : n = ls.length) (hl : ls.length ≤ 17592186044416) (hc : schk ls = 0) :
    Calls Try.prog 14 #[.slice a n cap] w fun e w' => ∃ v, e = .returned (.tuple #[v, .int .i64 0]) ∧ Owns w' w.heap.size v (swF ls ls.length) ∧ Below w.heap.size w w' := by
  subst hn
  have hI := schk_ok.1 hc
  have HS : Hid (TableX w a ls) := hs
  have HI : Hid (IsSk ls) := hI
  have HC : Hid (schk ls = 0) := hc
  have HF : Hid (Few ls) := hI.fews
  have hl2 : ls.length ≤ 1000 := hI.fews.len
  clear hs hc hI
  go_enter Try.func14, Try.ntmps14
  go_wp2_with fail
  refine (SkCheck_is a _ cap ls w HS.out hl rfl HC).mono ?_
  rintro e w1 ⟨rfl, d1, hw1⟩
  have HB1 : Hid (Below w.heap.size w w1) := by rw [hw1]; exact below_drewN (Below.refl _ _) d1
  clear hw1
  have hsub : IntKind.i64.wrap ((ls.length : Int) - 1) = (ls.length : Int) - 1 := by rw [IntWalk.i64_left, IntWalk.wrap64_in _ (by omega)]
  go_wp2
  go_loopw [5, 6] (fun v iv wr => ∃ k : Nat, k ≤ ls.length ∧ iv = .int .i64 ((ls.length : Int) - 1 - (k : Int)) ∧ Hid (Owns wr w1.heap.size v (swF ls k) ∧ (swF ls k).length ≤ 1000 * k) ∧ Hid (Below w1.heap.size w1 wr)) (fun _ iv _ => ((intOf iv) + 1).toNat)
  case atStart => exact ⟨0, Nat.zero_le _, by simp, ⟨World.ownsRow_nil _ _ _ _, by simp [swF]⟩, Below.refl _ _⟩
  case round =>
    obtain ⟨k, hk, rfl, HO, HB⟩ := hrel
    by_cases hlt : k < ls.length
    · obtain ⟨m, HM⟩ : ∃ m, Hid (m = ls.length - 1 - k) := ⟨_, rfl⟩
      have hm : (ls.length : Int) - 1 - (k : Int) = (m : Int) := by rw [HM.out]; omega
      rw [hm]
      have hge : (m : Int) ≥ 0 := by omega
      have hml : (m : Int) < (ls.length : Int) := by rw [HM.out]; omega
      have HMl : Hid (m < ls.length) := by show _ < _; rw [HM.out]; omega
      have hms : IntKind.i64.wrap ((m : Int) - 1) = (m : Int) - 1 := by rw [IntWalk.i64_left, IntWalk.wrap64_in _ (by omega)]
      have HMe : Hid ((m : Int) - 1 = (ls.length : Int) - 1 - ((k + 1 : Nat) : Int)) := by show _ = _; rw [HM.out]; omega
      have HBw : Hid (Below w.heap.size w wr) := HB1.out.trans (HB.out.mono HB1.out.size)
      obtain ⟨b, off, ai, q, ci, rfl, hcr, HQ, HSk, hqc, hqb⟩ := (HS.out.below HBw.out).elem HMl.out
      have hrp := HF.out.one _ (row_mem HMl.out)
      obtain ⟨b2, off2, hai, -, -⟩ := HSk.out.cells (fun e => by have := hrp.1; rw [e] at this; simp at this)
      subst hai
      obtain ⟨h, HH⟩ : ∃ h, Hid (hol (row ls m) = h) := ⟨_, rfl⟩
      have hhq : h ≤ q := by rw [← HH.out, HQ.out]; exact hol_le _
      have hhq' : (h : Int) ≤ (q : Int) := by omega
      have hqc' : (q : Int) ≤ (ci : Int) := by omega
      have HCall : Hid (Calls Try.prog 47 #[.slice (some ⟨b2, off2, none⟩) q ci] wr.drew fun e w' => e = .returned (.int .i64 h) ∧ w' = wr.drew) := holesOf_is _ _ _ (row ls m) _ (HSk.out.below (below_drewN (Below.refl _ _) 1)) HQ.out HH
      have HNx : Hid (swF ls (k + 1) = swF ls k ++ (row ls m).drop h) := by show _ = _; simp only [swF]; unfold H; rw [← HM.out, HH.out]
      have HLd : Hid (q - h = ((row ls m).drop h).length) := by show _ = _; rw [List.length_drop, HQ.out]
      have HLen : Hid ((swF ls k).length + ((row ls m).drop h).length ≤ 17592186044414) := by have := HO.out.2; have := (HF.out.one _ (row_mem HMl.out)).2; show _ ≤ _; rw [List.length_drop]; omega
      have HLx : Hid ((swF ls (k + 1)).length ≤ 1000 * (k + 1)) := by rw [HNx.out]; have := HO.out.2; have := (HF.out.one _ (row_mem HMl.out)).2; show _ ≤ _; rw [List.length_append, List.length_drop]; omega
      clear hm hrp
      by_cases hch : ci = h
      · subst hch
        have HSd : Hid (Shows wr.drew (some ⟨b2, off2, none⟩) ((row ls m).drop ci)) := by
          show Shows _ _ _
          rw [List.drop_eq_nil_of_le (by have := HQ.out; omega)]
          exact ⟨by simp, fun z hz => by simp at hz, fun hne => absurd rfl hne⟩
        have HOd := HO.out.1.below (below_drewN (Below.refl _ _) 1)
        have hqe : q - ci = 0 := by omega
        have HLd0 : Hid (0 = ((row ls m).drop ci).length) := by rw [← HLd.out]; exact hqe.symm
        go_wp2_with fail
        go_region_law (first | (refine step_holes rfl (.tmp 27) rfl (by first | (simp [Act.eval]; done) | (simp [Act.eval, Act.put]; done)) HCall.out ?_) | (refine step_src rfl (.tmp 19) (.tmp 29) rfl (by first | (simp [Act.eval]; done) | (simp [Act.eval, Act.put]; done)) (show _ = Value.slice (some ⟨b2, off2, none⟩) 0 0 from (by first | (simp [Act.eval]; done) | (simp [Act.eval, Act.put]; done))) HOd HSd.out HLd0.out (fun z => by cases z) HLen.out HB.out.size ?_; intro v' w2 hO' hb' _; clear HOd))
        all_goals (
          have HO2 : Hid (Owns w2 w1.heap.size v' (swF ls (k + 1)) ∧ (swF ls (k + 1)).length ≤ 1000 * (k + 1)) := ⟨by rw [HNx.out]; exact hO', HLx.out⟩
          have HB2 : Hid (Below w1.heap.size w1 w2) := (below_drewN HB.out 1).trans hb'
          clear hO' hb'
          go_wp2
          go_roundw
          case rel => exact ⟨k + 1, by omega, by rw [HMe.out], HO2, HB2⟩
          case measure => simp [intOf])
      · have HSd : Hid (Shows wr.drew (some ⟨b2, off2 + h, none⟩) ((row ls m).drop h)) := (HSk.out.dropO h).below (below_drewN (Below.refl _ _) 1)
        have HOd := HO.out.1.below (below_drewN (Below.refl _ _) 1)
        go_wp2_with fail
        go_region_law (first | (refine step_holes rfl (.tmp 27) rfl (by first | (simp [Act.eval]; done) | (simp [Act.eval, Act.put]; done)) HCall.out ?_) | (refine step_src rfl (.tmp 19) (.tmp 29) rfl (by first | (simp [Act.eval]; done) | (simp [Act.eval, Act.put]; done)) (show _ = Value.slice (some ⟨b2, off2 + h, none⟩) (q - h) (ci - h) from (by first | (simp [Act.eval]; done) | (simp [Act.eval, Act.put]; done))) HOd HSd.out HLd.out (fun z => by cases z) HLen.out HB.out.size ?_; intro v' w2 hO' hb' _; clear HOd))
        all_goals (
          have HO2 : Hid (Owns w2 w1.heap.size v' (swF ls (k + 1)) ∧ (swF ls (k + 1)).length ≤ 1000 * (k + 1)) := ⟨by rw [HNx.out]; exact hO', HLx.out⟩
          have HB2 : Hid (Below w1.heap.size w1 w2) := (below_drewN HB.out 1).trans hb'
          clear hO' hb'
          go_wp2
          go_roundw
          case rel => exact ⟨k + 1, by omega, by rw [HMe.out], HO2, HB2⟩
          case measure => simp [intOf])
    · obtain rfl : k = ls.length := by omega
      have hm : (ls.length : Int) - 1 - (ls.length : Int) = -1 := by omega
      rw [hm]
      have hge : ¬ (-1 : Int) ≥ 0 := by omega
      have HOe := HO.out.1.mono HB1.out.size
      have HBe : Hid (Below w.heap.size w wr) := HB1.out.trans (HB.out.mono HB1.out.size)
      clear hm
      go_wp2
      go_ret2
      exact ⟨_, rfl, HOe, HBe.out⟩
set_option maxHeartbeats 2000000 in
theorem Word_err (a : Option Addr) (n cap : Nat) (ls : List (List Int)) (w : World) (hs : TableX w a ls) (hn : n = ls.length) (hl : ls.length ≤ 17592186044416) (hc : schk ls ≠ 0) :
    Calls Try.prog 14 #[.slice a n cap] w fun e w' => e = .returned (.tuple #[.slice none 0 0, .int .i64 (schk ls)]) ∧ Below w.heap.size w w' := by
  subst hn
  have HS : Hid (TableX w a ls) := hs
  obtain ⟨c, HC⟩ : ∃ c, Hid (schk ls = c) := ⟨_, rfl⟩
  have hc0 : (c != 0) = true := by rw [← HC.out]; exact bne_iff_ne.2 hc
  rw [HC.out]
  clear hs hc
  go_enter Try.func14, Try.ntmps14
  go_wp2_with fail
  refine (SkCheck_is a _ cap ls w HS.out hl rfl HC).mono ?_
  rintro e w1 ⟨rfl, d1, hw1⟩
  have HB1 : Hid (Below w.heap.size w w1) := by rw [hw1]; exact below_drewN (Below.refl _ _) d1
  clear hw1
  go_wp2
  go_ret2
  exact ⟨rfl, HB1.out⟩
/-- The word is the rows' letters, the last row first. -/
theorem swF_is (ls : List (List Int)) : swF ls ls.length = sword (H ls) ls := by
  have gen : ∀ k, k ≤ ls.length → swF ls k = sword (fun a => H ls (a + (ls.length - k))) (ls.drop (ls.length - k)) := by
    intro k
    induction k with
    | zero => intro _; simp [swF, sword]
    | succ k ih =>
      intro hk
      have hlt : ls.length - (k + 1) < ls.length := by omega
      rw [List.drop_eq_getElem_cons hlt]
      simp only [swF, sword, Nat.zero_add]
      rw [ih (by omega), show ls.length - 1 - k = ls.length - (k + 1) by omega, show ls.length - (k + 1) + 1 = ls.length - k by omega]
      congr 1
      · refine sword_congr _ _ _ (fun a _ => ?_)
        congr 1; omega
      · simp [row, List.getD, List.getElem?_eq_getElem hlt]
  have := gen ls.length (Nat.le_refl _)
  rw [this]
  simp

end Go.Proofs.Ytjciandmpfcfjaa
