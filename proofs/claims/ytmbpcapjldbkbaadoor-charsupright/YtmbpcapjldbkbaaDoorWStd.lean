/-
  The contracts of hooks.Standard: and of what is no partition.
-/
import Derived.Test.YtmbpcapjldbkbaaDoorWHok
import Derived.Test.YtmbpcapjldbkbaaDoorWCat
namespace Go.Proofs.YtmbpcapjldbkbaaDoor
open Go.RowKit

theorem castT_flatX (t : List (List Nat)) : (castT t).flatten = castL t.flatten := by
  induction t with
  | nil => rfl
  | cons l t ih => simp only [castT, List.map_cons, List.flatten_cons] at ih ⊢; rw [ih]; simp [castL]
theorem szN_le {zs : List Int} (h : IsPt zs) : szN zs ≤ 40 := by
  have h1 := szN_sum (zs := zs) (Nat.le_refl _)
  rw [← sum_sZ zs (fun z hz => by have := h.range z hz; omega)] at h1
  have h2 := ptRoom_sum zs 40 h.fits
  have := h.fits
  omega
theorem hkR_bd {zs : List Int} (h : IsPt zs) : (castT (hkR zs)).length ≤ 1000 ∧ (∀ l ∈ castT (hkR zs), l.length ≤ 1000) ∧ ∀ l ∈ castT (hkR zs), l.length ≤ 17592186044416 ∧ ∀ z ∈ l, -9223372036854775808 ≤ z ∧ z ≤ 9223372036854775807 := by
  have hl := h.len
  have key : ∀ l ∈ castT (hkR zs), l.length ≤ 40 ∧ ∀ z ∈ l, 0 ≤ z ∧ z ≤ 1000 := fun l hl => by
    unfold castT hkR at hl
    rw [List.map_map] at hl
    obtain ⟨i, hi, rfl⟩ := List.mem_map.1 hl
    refine ⟨?_, fun z hz => ?_⟩
    · simp only [Function.comp, castL_len, List.length_map, List.length_range]; exact pF_le h i
    · simp only [Function.comp, castL, List.map_map] at hz
      obtain ⟨j, hj, rfl⟩ := List.mem_map.1 hz
      have h1 := hkR_le h (hkN zs i j) (List.mem_flatten.2 ⟨(List.range (pF zs i)).map (hkN zs i), by unfold hkR; exact List.mem_map.2 ⟨i, hi, rfl⟩, List.mem_map.2 ⟨j, hj, rfl⟩⟩)
      simp only [Function.comp]; omega
  refine ⟨by rw [castT_len]; unfold hkR; simp; omega, fun l hl => by have := (key l hl).1; omega, fun l hl => ⟨by have := (key l hl).1; omega, fun z hz => by have := (key l hl).2 z hz; omega⟩⟩

/-- The hooks in one list, as both calls make it. -/
theorem cat_hooks {zs : List Int} (h : IsPt zs) (a : Option Addr) (n c : Nat) (W : World) (ht : Table W a (castT (hkR zs))) (hn : n = zs.length) :
    Calls Tryd.prog 17 #[.slice a n c] W fun e w' => ∃ a2 c2, e = .returned (.slice a2 (szN zs) c2) ∧ Shows w' a2 (castL (hkR zs).flatten) ∧ Below W.heap.size W w' := by
  have hb := hkR_bd h
  refine (Concat_at a n c (castT (hkR zs)) W ht (by rw [castT_len, hn]; simp [hkR]) hb.1 hb.2.1).mono ?_
  rintro e w' ⟨v, rfl, ho, hB⟩
  rw [castT_flatX] at ho
  have hs := szN_le h
  obtain ⟨a2, c2, rfl, hS⟩ := ho.shows (by rw [castL_len]; unfold szN at hs; omega) (fun z hz => by have := castL_lt (b := 1000) (fun y hy => (hkR_le h y hy).2) z hz; omega)
  exact ⟨a2, c2, by rw [castL_len]; rfl, hS, hB⟩
theorem hooks_tab {zs : List Int} (h : IsPt zs) (a : Option Addr) (n cap : Nat) (w : World) (hs : Shows w a zs) (hn : n = zs.length) :
    Calls Tryd.prog 16 #[.slice a n cap] w fun e w' => ∃ a1 c1, e = .returned (.tuple #[.slice a1 n c1, .int .i64 0]) ∧ Table w' a1 (castT (hkR zs)) ∧ Below w.heap.size w w' := by
  refine (HHooks_ok a n cap zs w hs hn h).mono ?_
  rintro e w' ⟨v, rfl, ht, hb⟩
  obtain ⟨a1, n1, c1, rfl, hT, HN⟩ := ht.table (hkR_bd h).2.2
  exact ⟨a1, c1, by rw [HN.out, castT_len, hn]; simp [hkR], hT, hb⟩

/-- The number of standard tableaux. -/
def stdN (zs : List Int) : Nat := pL (lows (hkR zs).flatten (upTo (szN zs)))
theorem stdN_prod {zs : List Int} (h : IsPt zs) : stdN zs * pL (hkR zs).flatten = pL (upTo (szN zs)) := lows_prod _ _ (hkR_pos zs) (std_dvd h)
theorem stdN_conj {zs : List Int} (h : IsPt zs) : stdN (ptConj zs) = stdN zs := by
  have h1 := stdN_prod h
  have h2 := stdN_prod (conj_pt h)
  obtain ⟨e1, e2⟩ := conj_hook h
  rw [e1, e2, ← h1] at h2
  exact Nat.eq_of_mul_eq_mul_right (pL_pos (hkR_pos zs)) h2
/-- 1 .. n, i of them laid. -/
def upI (n i : Nat) : List Nat := (List.range n).map fun q => if q < i then q + 1 else 0
theorem upI_zero (n : Nat) : upI n 0 = List.replicate n 0 := by
  unfold upI; rw [List.eq_replicate_iff]; exact ⟨by simp, fun b hb => by obtain ⟨q, _, rfl⟩ := List.mem_map.1 hb; simp⟩
theorem upI_len (n i : Nat) : (upI n i).length = n := by simp [upI]
theorem upI_set (n i : Nat) : (upI n i).set i (i + 1) = upI n (i + 1) := by
  refine List.ext_getElem (by simp [upI]) fun q h1 h2 => ?_
  simp only [upI, List.getElem_set, List.getElem_map, List.getElem_range]
  by_cases e : i = q
  · subst e; simp
  · rw [if_neg e]
    by_cases e2 : q < i
    · rw [if_pos e2, if_pos (by omega)]
    · rw [if_neg e2, if_neg (by omega)]
theorem upI_full (n : Nat) : upI n n = upTo n := by
  unfold upI upTo; exact List.map_congr_left fun q hq => if_pos (List.mem_range.1 hq)

set_option maxHeartbeats 4000000 in
set_option maxRecDepth 100000 in
theorem HStd_ok (a : Option Addr) (n cap : Nat) (zs : List Int) (w : World) (hs : Shows w a zs) (hn : n = zs.length) (hp : IsPt zs) (htab : Lib.TabIs Tryd.prog w "internal/strconv.uint64pow10" .u64 Lib.pow10Tab) :
    Calls Tryd.prog 7 #[.slice a n cap] w fun e w' => e = .returned (.tuple #[.string ⟨(numT (stdN zs)).toArray⟩, .int .i64 0]) ∧ Below w.heap.size w w' := by
  obtain ⟨s, HS⟩ : ∃ s : ByteArray, Hid (s = ⟨(numT (stdN zs)).toArray⟩) := ⟨_, rfl⟩
  rw [← HS.out]
  obtain ⟨N, HN⟩ : ∃ N, Hid (N = szN zs) := ⟨_, rfl⟩
  have hN40 : N ≤ 40 := by rw [HN.out]; exact szN_le hp
  have HP : Hid (IsPt zs) := hp
  have H1 : Hid (Calls Tryd.prog 16 #[.slice a n cap] w fun e w' => ∃ a1 c1, e = .returned (.tuple #[.slice a1 n c1, .int .i64 0]) ∧ Hid (Table w' a1 (castT (hkR zs))) ∧ Hid (Below w.heap.size w w')) := hooks_tab hp a n cap w hs hn
  have H2 : Hid (∀ W a1 c1, Table W a1 (castT (hkR zs)) → Calls Tryd.prog 17 #[.slice a1 n c1] W fun e w' => ∃ a2 c2, e = .returned (.slice a2 N c2) ∧ Hid (Shows w' a2 (castL (hkR zs).flatten)) ∧ Hid (Below W.heap.size W w')) := fun W a1 c1 ht => by rw [HN.out]; exact cat_hooks hp a1 n c1 W ht hn
  have HTab : Hid (∀ W, Below w.heap.size w W → Lib.TabIs Tryd.prog W "internal/strconv.uint64pow10" .u64 Lib.pow10Tab) := fun W hW => Lib.tabBelow_of_tabIs htab W hW
  have hmP : ∀ W, (Instr.makeSlice 22 (.int .i64 (N : Int)) (.int .i64 (N : Int))).run Tryd.prog W = .ok (.slice (some ⟨W.heap.size, 0, none⟩) N N) (W.alloc (.cells (madeCells #[Value.int .i64 0] N) 3)) := fun W =>
    run_make_row' (P := Tryd.prog) 22 3 (.int .i64 0) 8 Tryd.underlying22 (by kernel_rfl) rfl .i64 .i64 N (by omega) (by omega) W
  clear hs hn hp htab
  go_enter Tryd.func7, Tryd.ntmps7
  go_wp2_with fail
  refine H1.out.mono ?_
  rintro e w1 ⟨a1, c1, rfl, HT1, HB1⟩
  have H2c := hid_w (H2.out w1 a1 c1 HT1.out)
  clear H1 H2
  go_wp2_with fail
  refine H2c.out.mono ?_
  rintro e w2 ⟨a2, c2, rfl, HS2, HB2⟩
  have HBw : Hid (Below w.heap.size w w2) := HB1.out.trans (HB2.out.mono HB1.out.size)
  have HO0 : Hid (Owns (w2.alloc (.cells (madeCells #[Value.int .i64 0] N) 3)) w2.heap.size (.slice (some ⟨w2.heap.size, 0, none⟩) N N) (castL (upI N 0))) := by
    show Owns _ _ _ _
    rw [upI_zero, show castL (List.replicate N 0) = List.replicate N 0 by simp [castL]]
    have hmade : (madeCells #[Value.int .i64 0] N) = (List.replicate N (Value.int .i64 0)).toArray := by
      apply Array.toList_inj.1
      rw [toList_madeCells_one]
    refine owns_of_row (Nat.le_refl _) ?_ (by simp) (by simp; omega)
    rw [heap_alloc_new w2, hmade]; simp
  have HB0 : Hid (Below w2.heap.size w2 (w2.alloc (.cells (madeCells #[Value.int .i64 0] N) 3))) := (Below.refl _ _).alloc (Nat.le_refl _) _
  clear H2c HT1
  go_wp2_with fail
  clear hmP
  obtain ⟨G, HG⟩ : ∃ G, Hid (G = w2.heap.size) := ⟨_, rfl⟩
  rw [← HG.out] at HO0 ⊢
  go_loopw [24] (fun iv wr => ∃ i : Nat, i ≤ N ∧ iv = .int .i64 (i : Int) ∧ Hid (Owns wr G (.slice (some ⟨G, 0, none⟩) N N) (castL (upI N i))) ∧ Hid (Below w2.heap.size w2 wr)) (fun iv _ => N - (intOf iv).toNat)
  case atStart => exact ⟨0, Nat.zero_le _, rfl, HO0, HB0⟩
  case round =>
    clear HO0 HB0
    obtain ⟨i, hi, rfl, HO, HB⟩ := hrel
    by_cases hlt : i < N
    · have hlt' : (i : Int) < (N : Int) := by omega
      obtain ⟨g, cg, hvg, hg1, hg2, hfr, hcg⟩ := HO.out.head (by rw [castL_len, upI_len]; omega)
      simp only [Value.slice.injEq, Option.some.injEq, Addr.mk.injEq, and_true] at hvg
      obtain ⟨rfl, -, -⟩ := hvg
      have cg0 := hcg i (by rw [castL_len, upI_len]; exact hlt)
      have fg0 := hfr i
      have HO2 : Hid (Owns (wr.setCell ⟨G, i, none⟩ (.int .i64 ((i : Int) + 1))) G (.slice (some ⟨G, 0, none⟩) N N) (castL (upI N (i + 1)))) := by
        have h := HO.out.store (by rw [castL_len, upI_len]) i (((i + 1 : Nat)) : Int)
        rw [← castL_setX, upI_set] at h
        exact h
      have HB2' : Hid (Below w2.heap.size w2 (wr.setCell ⟨G, i, none⟩ (.int .i64 ((i : Int) + 1)))) := HB.out.setCell (p := ⟨G, i, none⟩) (by rw [← HG.out]; exact Nat.le_refl _) _
      clear hcg hfr
      go_wp2
      go_roundw
      case rel => exact ⟨i + 1, by omega, by go_num, HO2, HB2'⟩
      case measure => simp [intOf]; omega
    · obtain rfl : i = N := by omega
      have hO := HO.out
      rw [upI_full] at hO
      obtain ⟨a7, c7, hv7, hs7⟩ := hO.shows (by rw [castL_len]; simp [upTo]; omega) (fun z hz => by
        have := castL_lt (b := 1000) (l := upTo i) (fun y hy => by unfold upTo at hy; obtain ⟨q, hq, rfl⟩ := List.mem_map.1 hy; have := List.mem_range.1 hq; omega) z hz
        omega)
      have HQ : Hid (Calls Tryd.prog 18 #[.slice (some ⟨G, 0, none⟩) i i, .slice a2 i c2] wr fun e w' => e = .returned (.string s) ∧ Hid (Below wr.heap.size wr w')) := by
        rw [castL_len] at hv7
        simp only [Value.slice.injEq] at hv7
        obtain ⟨rfl, -, rfl⟩ := hv7
        have hlk : (hkR zs).flatten.length ≤ 10000 := by have : (hkR zs).flatten.length = i := HN.out.symm; omega
        have h := Quotient_at (some ⟨G, 0, none⟩) a2 i i i c2 (upTo i) (hkR zs).flatten wr hs7 (HS2.out.below HB.out) (by simp [upTo]) (by rw [HN.out]; rfl) (by simp [upTo]; omega) hlk (fun z hz => by unfold upTo at hz; obtain ⟨q, hq, rfl⟩ := List.mem_map.1 hz; have := List.mem_range.1 hq; omega) (hkR_le HP.out) (HTab.out wr (HBw.out.trans (HB.out.mono HBw.out.size)))
        rw [HS.out]
        unfold stdN
        rw [← HN.out]
        exact h
      have HBe : Hid (Below w.heap.size w wr) := HBw.out.trans (HB.out.mono HBw.out.size)
      clear hO hs7 hv7
      go_wp2_with fail
      refine HQ.out.mono ?_
      rintro e w5 ⟨rfl, HB5⟩
      have HB6 : Hid (Below w.heap.size w w5) := HBe.out.trans (HB5.out.mono HBe.out.size)
      go_wp2
      go_ret2
      exact ⟨rfl, HB6.out⟩

end Go.Proofs.YtmbpcapjldbkbaaDoor
