/-
  The contracts of fill.Content in both cases, fill.IsStandard, fill.lettersAhead, fill.widthOf, fill.copied.
-/
import Derived.Test.YtampjdebnaapaacUCon
import Derived.Test.YtampjdebnaapaacTTab
namespace Go.Proofs.Ytampjdebnaapaac
open Go.RowKit

set_option maxHeartbeats 2000000 in
theorem Content_err (a : Option Addr) (cap : Nat) (ls : List (List Int)) (w : World) (hs : Table w a ls) (hl : ls.length ≤ 17592186044416) (c : Int) (h : tchk ls = c) (hc : (c != 0) = true) :
    Calls Try.prog 11 #[.slice a ls.length cap] w fun e w' => e = .returned (.tuple #[.slice none 0 0, .int .i64 c]) ∧ Below w.heap.size w w' := by
  have E : Hid (tchk ls = c) := h
  clear h
  go_enter Try.func11, Try.ntmps11
  go_wp2_with fail
  refine (TCheck_is _ _ _ _ _ hs hl rfl E).mono ?_
  rintro e w' ⟨rfl, n, rfl⟩
  go_wp2_with fail
  go_ret2
  exact ⟨rfl, below_drew n⟩

theorem Content_at {ls : List (List Int)} {q : List Int} {c : Int} (a : Option Addr) (n cap : Nat) (w : World) (hs : Table w a ls) (hl : ls.length ≤ 17592186044416) (hn : n = ls.length) (hr : TabL contL ls c q) :
    Calls Try.prog 11 #[.slice a n cap] w fun e w' => ∃ v, e = .returned (.tuple #[v, .int .i64 c]) ∧ Owns w' w.heap.size v q ∧ Below w.heap.size w w' := by
  subst hn
  obtain ⟨h, rfl⟩ := hr
  by_cases hc : c = 0
  · subst hc; exact Content_ok a cap ls w hs (tchk_ok.1 h)
  · rw [if_neg hc]
    exact (Content_err a cap ls w hs hl c h (bne_iff_ne.2 hc)).mono fun e w' ⟨he, hw⟩ => ⟨_, he, World.ownsRow_nil _ _ _ _, hw⟩

theorem had_small {l : List Int} (h : l.length ≤ 40) (hm : mx l ≤ 99) : (had l).length ≤ 99 ∧ ∀ z ∈ had l, 0 ≤ z ∧ z ≤ 1000 := by
  refine ⟨by rw [had_length]; exact hm, fun z hz => ?_⟩
  obtain ⟨j, _, rfl⟩ := tab_mem hz
  have := cnt_bd l j; omega
theorem IsTab.mx {ls : List (List Int)} (h : IsTab ls) : mx ls.flatten ≤ 99 := mx_le (fun _ hz => (h.mem hz).2)
theorem cont_small {ls : List (List Int)} (h : IsTab ls) : (contL ls).length ≤ 99 ∧ ∀ z ∈ contL ls, 0 ≤ z ∧ z ≤ 1000 := had_small h.few h.mx

def stdB (ls : List (List Int)) : Bool := onesB (contL ls)
def StdR (ls : List (List Int)) (c : Int) (t : Bool) : Prop := tchk ls = c ∧ t = if c = 0 then stdB ls else false
theorem onesB_no {l : List Int} {k : Nat} (hk : k < l.length) (h : l.getD k 0 ≠ 1) : onesB l = false := by
  cases e : onesB l with
  | false => rfl
  | true => exact absurd (onesB_iff.1 e k hk) h

set_option maxHeartbeats 2000000 in
theorem IsStd_at {ls : List (List Int)} {t : Bool} {c : Int} (a : Option Addr) (n cap : Nat) (w : World) (hs : Table w a ls) (hl : ls.length ≤ 17592186044416) (hn : n = ls.length) (hr : StdR ls c t) :
    Calls Try.prog 13 #[.slice a n cap] w fun e w' => e = .returned (.tuple #[.bool t, .int .i64 c]) ∧ Below w.heap.size w w' := by
  subst hn
  obtain ⟨h, ht⟩ := hr
  by_cases hc : c = 0
  · subst hc
    have hT := tchk_ok.1 h
    rw [if_pos rfl] at ht
    have HTt : Hid (t = stdB ls) := ht
    have hsm := cont_small hT
    have HL : Hid (TabL contL ls 0 (contL ls)) := TabL.ok hT
    clear ht h hT
    go_enter Try.func13, Try.ntmps13
    go_wp2_with fail
    refine (Content_at _ _ _ _ hs hl rfl HL.out).mono ?_
    rintro e w1 ⟨v, rfl, hown, hb⟩
    obtain ⟨av, nv, cv, rfl, hS, hnv, -⟩ := hown.opened (by omega) (small_wf hsm.2)
    have HN : Hid (nv = (contL ls).length) := hnv
    have hn99 : nv ≤ 99 := by omega
    have HS1 : Hid (Shows w1 av (contL ls)) := hS
    have HB1 : Hid (Below w.heap.size w w1) := hb
    clear hnv hS hb hown hsm
    go_wp2
    go_loop [18] (fun i => ∃ k : Nat, k ≤ nv ∧ i = .int .i64 k ∧ Hid (∀ j, j < k → (contL ls).getD j 0 = 1)) (fun i => nv - (intOf i).toNat)
    case atStart => exact ⟨0, Nat.zero_le _, rfl, fun j hj => by omega⟩
    case round =>
      obtain ⟨k, hk, rfl, HR⟩ := hrel
      by_cases hlt : k < nv
      · have hlt' : (k : Int) < (nv : Int) := by omega
        have hk2 : Hid (k < (contL ls).length) := by rw [← HN.out]; exact hlt
        obtain ⟨b, off, z, rfl, HZ, hz1, hz2, hc⟩ := HS1.out.elem hk2.out
        by_cases h1 : z = 1
        · subst h1
          go_wp2
          go_round
          case rel => exact ⟨k + 1, by omega, by go_num, fun j hj => by
                        by_cases hj' : j < k
                        · exact HR.out j hj'
                        · obtain rfl : j = k := by omega
                          exact HZ.out.symm⟩
          case measure => simp [intOf]; omega
        · have HF : Hid (t = false) := by show _ = _; rw [HTt.out]; exact onesB_no hk2.out (by rw [← HZ.out]; exact h1)
          have hb1 : (z != 1) = true := by simpa using h1
          clear h1
          go_wp2
          go_ret2
          exact ⟨by rw [HF.out]; rfl, HB1.out⟩
      · obtain rfl : k = nv := by omega
        have HF : Hid (t = true) := by show _ = _; rw [HTt.out]; exact onesB_iff.2 (fun j hj => HR.out j (by rw [HN.out]; exact hj))
        go_wp2
        go_ret2
        exact ⟨by rw [HF.out]; rfl, HB1.out⟩
  · rw [if_neg hc] at ht
    subst ht
    have HL : Hid (TabL contL ls c []) := TabL.err h hc
    have hcb : (c != 0) = true := bne_iff_ne.2 hc
    clear h hc
    go_enter Try.func13, Try.ntmps13
    go_wp2_with fail
    refine (Content_at _ _ _ _ hs hl rfl HL.out).mono ?_
    rintro e w1 ⟨v, rfl, hown, hb⟩
    go_wp2
    go_ret2
    exact ⟨rfl, hb⟩

/-- Sums of what is ahead. -/
def aheadF (c : List Int) (k : Nat) : Int := ((S k (fun m => (c.getD m 0).toNat) : Nat) : Int)
theorem aheadF_succ {c : List Int} {k : Nat} (h : 0 ≤ c.getD k 0) : aheadF c (k + 1) = aheadF c k + c.getD k 0 := by
  unfold aheadF; rw [S]; omega
theorem aheadF_bd {c : List Int} (h : ∀ z ∈ c, 0 ≤ z ∧ z ≤ 1000) : ∀ k, k ≤ c.length → 0 ≤ aheadF c k ∧ aheadF c k ≤ 1000 * k := by
  intro k
  induction k with
  | zero => intro _; simp [aheadF, S]
  | succ k ih =>
    intro hk
    have h1 := h _ (getD_mem (zs := c) (j := k) (by omega))
    have h2 := ih (by omega)
    rw [aheadF_succ h1.1]; omega
def aheadL (c : List Int) : List Int := tab c.length (aheadF c)

set_option maxHeartbeats 4000000 in
set_option maxRecDepth 100000 in
theorem lettersAhead_at (a : Option Addr) (n cap : Nat) (c : List Int) (w : World) (hs : Shows w a c) (hn : n = c.length) (hl : c.length ≤ 99) (hsm : ∀ z ∈ c, 0 ≤ z ∧ z ≤ 1000) :
    Calls Try.prog 35 #[.slice a n cap] w fun e w' => ∃ v, e = .returned v ∧ Owns w' w.heap.size v (aheadL c) ∧ Below w.heap.size w w' := by
  subst hn
  obtain ⟨i0, hi, hz0, hz1, hz2⟩ := info_parts Try.info3
  have HSM : Hid (∀ z ∈ c, 0 ≤ z ∧ z ≤ 1000) := hsm
  clear hsm
  go_enter Try.func35, Try.ntmps35
  go_wp2_with (at_make; refine wpList_make_full _ rfl _ _ 22 rfl w.heap.size 3 i0 (.int .i64 0) 1 Try.underlying22 hi hz0 hz1 _ _ _ _ c.length rfl rfl rfl rfl ?b1 ?b2 ?b3 ?_)
  case b1 => rw [hz2]; omega
  case b2 => unfold maxLen; omega
  case b3 => exact Nat.le_refl _
  intro w1 hown hgrow
  have HB1 : Hid (Below w.heap.size w w1) := (Below.refl _ _).grown hgrow (Nat.le_refl _) (fun k h => by cases h)
  have HO1 : Hid (Owns w1 w.heap.size (.slice (some ⟨w.heap.size, 0, none⟩) c.length c.length) (tab c.length (fun j => if j < 1 then aheadF c j else 0))) := (owns_made hown).tabCongr (fun j _ => by
    by_cases h : j < 1
    · obtain rfl : j = 0 := by omega
      simp [aheadF, S]
    · rw [if_neg h])
  clear hown hgrow
  go_wp2
  go_loopw [4] (fun i wr => ∃ k : Nat, 1 ≤ k ∧ (k ≤ c.length ∨ k = 1) ∧ i = .int .i64 k ∧ Hid (Owns wr w.heap.size (.slice (some ⟨w.heap.size, 0, none⟩) c.length c.length) (tab c.length (fun j => if j < k then aheadF c j else 0))) ∧ Hid (Below w.heap.size w wr)) (fun i _ => c.length - (intOf i).toNat)
  case atStart => exact ⟨1, by omega, Or.inr rfl, rfl, HO1, HB1⟩
  case round =>
    obtain ⟨k, hk1, hk, rfl, HO, HB⟩ := hrel
    by_cases hlt : k < c.length
    · obtain ⟨j, rfl⟩ : ∃ j, k = j + 1 := ⟨k - 1, by omega⟩
      have hlt' : ((j + 1 : Nat) : Int) < (c.length : Int) := by omega
      have hj : j < c.length := by omega
      have hj' : (j : Int) < (c.length : Int) := by omega
      obtain ⟨b, off, z, rfl, HZ, -, -, hcz⟩ := (hs.below HB.out).elem hj
      have hzb := HSM.out z (by rw [HZ.out]; exact getD_mem hj)
      obtain ⟨hz0', hz1'⟩ := hzb
      obtain ⟨hfz, hcc⟩ := HO.out.tabAt hj
      obtain ⟨hfk, hck⟩ := HO.out.tabAt hlt
      rw [if_pos (by omega)] at hcc
      have hub := aheadF_bd HSM.out j (by omega)
      obtain ⟨u, HU⟩ : ∃ u, Hid (u = aheadF c j) := ⟨_, rfl⟩
      rw [← HU.out] at hcc hub
      obtain ⟨hu0, hu1⟩ := hub
      have HX : Hid (aheadF c (j + 1) = u + z) := by show _ = _; rw [HU.out, HZ.out]; exact aheadF_succ (by rw [← HZ.out]; exact hz0')
      have hw1 : IntKind.i64.wrap (((j + 1 : Nat) : Int) - 1) = (j : Int) := by rw [IntWalk.i64_left, IntWalk.wrap64_in _ (by omega)]; omega
      have hw2 : IntKind.i64.wrap ((j : Int) + 1 - 1) = (j : Int) := by rw [IntWalk.i64_left, IntWalk.wrap64_in _ (by omega)]; omega
      have hbc : b < w.heap.size := by
        obtain ⟨b', off', e1, e2, _⟩ := hs.cells (fun e => by rw [e] at hj; simp at hj)
        cases e1; exact e2
      go_wp2_with fail
      go_region
      go_wp2
      go_roundw
      case rel => exact ⟨j + 2, by omega, Or.inl (by omega), by go_num, (HO.out.tabStore (j + 1) (u + z)).tabCongr (fun i _ => by
                    unfold upd
                    by_cases e : i = j + 1
                    · subst e; rw [if_pos rfl, if_pos (by omega), HX.out]
                    · rw [if_neg e]
                      show (if i < j + 1 then aheadF c i else 0) = if i < j + 2 then aheadF c i else 0
                      by_cases h : i < j + 1
                      · rw [if_pos h, if_pos (by omega)]
                      · rw [if_neg h, if_neg (by omega)]), (HB.out.setCell (p := ⟨w.heap.size, j + 1, none⟩) (Nat.le_refl _) _).drew⟩
      case measure => simp [intOf]; omega
    · have HE : Hid (Owns wr w.heap.size (.slice (some ⟨w.heap.size, 0, none⟩) c.length c.length) (aheadL c)) := HO.out.tabCongr (fun j hj => by rw [if_pos (by omega)])
      have hnl : ¬ (k : Int) < (c.length : Int) := by omega
      go_wp2
      go_ret
      exact ⟨_, rfl, HE.out, HB.out⟩

set_option maxHeartbeats 2000000 in
theorem widthOf_at (a : Option Addr) (n cap : Nat) (ls : List (List Int)) (w : World) (hs : Table w a ls) (hn : n = ls.length) (hl : ls.length ≤ 17592186044416) :
    Calls Try.prog 37 #[.slice a n cap] w fun e w' => e = .returned (.int .i64 (width ls : Nat)) ∧ w' = w := by
  subst hn
  have HS : Hid (Table w a ls) := hs
  clear hs
  by_cases h0 : 0 < ls.length
  · have hb : ((ls.length : Int) == 0) = false := by simp; intro e; subst e; simp at h0
    have h0' : (0 : Int) < (ls.length : Int) := by omega
    obtain ⟨b, off, ai, m, ci, rfl, hc, HM, -, -, hmb⟩ := HS.out.elem h0
    rw [Nat.add_zero] at hc
    go_enter Try.func37, Try.ntmps37
    go_wp2
    go_ret
    exact ⟨ret_int (by rw [HM.out]; rfl), rfl⟩
  · obtain rfl : ls = [] := List.eq_nil_of_length_eq_zero (by omega)
    go_enter Try.func37, Try.ntmps37
    go_wp2
    go_ret
    exact ⟨rfl, rfl⟩

/-- 'copy(q, p)' into a new row of the same length; every other block is as it was. -/
theorem run_copy_all2 {w0 w : World} {a : Option Addr} {cap g B : Nat} {zs : List Int} (hs : Shows w a zs) (hrow : w.heap[g]? = some (.cells (List.replicate zs.length (Value.int .i64 0)).toArray 3 (0, 0))) (hb : Below B w0 w) (hB : B ≤ g) :
    ∃ w2, Sem.run Try.prog (Builtin.copy_ #[22, 22] 3 #[.slice (some ⟨g, 0, none⟩) zs.length zs.length, .slice a zs.length cap]) w = .ok (.int .i64 zs.length) w2 ∧
      Hid (w2.heap[g]? = some (.cells (zs.map (Value.int .i64)).toArray 3 (0, 0))) ∧ Below B w0 w2 ∧ ∀ q, q ≠ g → w2.heap[q]? = w.heap[q]? := by
  by_cases hne : zs = []
  · subst hne
    exact ⟨w, run_copy_none (P := Try.prog) w 22 22 3 3 _ _ _ _ _ _ Try.underlying22 Try.sz3 (by simp), by simpa [Hid] using hrow, hb, fun _ _ => rfl⟩
  · obtain ⟨b, off, ha, _, hc⟩ := hs.cells hne
    subst ha
    have hrun := run_copy_row (P := Try.prog) w 22 22 3 3 g 0 zs.length zs.length ⟨b, off, none⟩ zs.length cap _ 3 (zs.map (Value.int .i64)) Try.underlying22 Try.sz3 hrow (by simp) (fun j v hj => by
      have hj' : j < zs.length := by have := (List.getElem?_eq_some_iff.1 hj).1; simpa using this
      rw [Addr.add_lit, hc j hj', ← hj]; simp [List.getD, List.getElem?_eq_getElem hj']) (by simp) (ints_oneCell _ _)
    refine ⟨_, by rw [hrun]; simp only [List.length_map]; rfl, ?_, below_setRow hb hB _, fun q hq => setRow_other w g q _ hq⟩
    show _ = _
    rw [setRow_heap w g _ _ 3 _ hrow]
    simp

theorem rowv_rep (n : Nat) (i : Nat) : rowv (List.replicate n (Value.slice none 0 0)) i = .slice none 0 0 := by
  unfold rowv
  simp only [List.getD, List.getElem?_replicate]
  split <;> rfl

/-- The first k rows, nothing in the others. -/
def firstRows (ls : List (List Int)) (k : Nat) : List (List Int) := (List.range ls.length).map fun i => if i < k then row ls i else []
theorem firstRows_length (ls : List (List Int)) (k : Nat) : (firstRows ls k).length = ls.length := by simp [firstRows]
theorem firstRows_get {ls : List (List Int)} {k i : Nat} (hi : i < ls.length) : (firstRows ls k).getD i [] = if i < k then row ls i else [] := by simp [firstRows, List.getD, hi]
theorem firstRows_zero (ls : List (List Int)) : firstRows ls 0 = List.replicate ls.length [] := by
  rw [List.eq_replicate_iff]
  refine ⟨firstRows_length _ _, fun r hr => ?_⟩
  obtain ⟨i, _, rfl⟩ := List.mem_map.1 hr
  rw [if_neg (by omega)]
theorem firstRows_all (ls : List (List Int)) : firstRows ls ls.length = ls := by
  refine ext_row (firstRows_length _ _) (fun a ha => ?_)
  rw [firstRows_length] at ha
  unfold row
  rw [firstRows_get ha, if_pos ha]; rfl
theorem firstRows_set {ls : List (List Int)} {k : Nat} (hk : k < ls.length) : (firstRows ls k).set k (row ls k) = firstRows ls (k + 1) := by
  refine ext_row (by simp [firstRows_length]) (fun a ha => ?_)
  rw [List.length_set, firstRows_length] at ha
  unfold row
  rw [getD_set_rows _ _ _ _ (by rw [firstRows_length]; exact ha), firstRows_get ha, firstRows_get ha]
  by_cases e : a = k
  · subst e; rw [if_pos rfl, if_pos (by omega)]; rfl
  · rw [if_neg e]
    by_cases h : a < k
    · rw [if_pos h, if_pos (by omega)]
    · rw [if_neg h, if_neg (by omega)]

set_option maxHeartbeats 4000000 in
theorem tcopied_at (a : Option Addr) (n cap : Nat) (ls : List (List Int)) (w : World) (hs : Table w a ls) (hn : n = ls.length) (hl : ls.length ≤ 1000) :
    Calls Try.prog 36 #[.slice a n cap] w fun e w' => ∃ v, e = .returned v ∧ Tbl w' w.heap.size v ls ∧ Below w.heap.size w w' := by
  subst hn
  have HS : Hid (Table w a ls) := hs
  clear hs
  obtain ⟨i0, hi, hz0, hz1, hz2⟩ := info_parts Try.info3
  obtain ⟨i1, hi1, hy0, hy1, hy2⟩ := info_parts Try.info22
  go_enter Try.func36, Try.ntmps36
  go_wp2_with (at_make; refine wpList_make_full _ rfl _ _ 29 rfl w.heap.size 22 i1 (.slice none 0 0) 1 Try.underlying29 hi1 hy0 hy1 _ _ _ _ ls.length rfl rfl rfl rfl ?b1 ?b2 ?b3 ?_)
  case b1 => rw [hy2]; omega
  case b2 => unfold maxLen; omega
  case b3 => exact Nat.le_refl _
  intro w1 hown hgrow
  have HB1 : Hid (Below w.heap.size w w1) := (Below.refl _ _).grown hgrow (Nat.le_refl _) (fun k h => by cases h)
  have HT1 : Hid (Tbl w1 w.heap.size (.slice (some ⟨w.heap.size, 0, none⟩) ls.length ls.length) (firstRows ls 0)) := by
    show Tbl _ _ _ _
    rw [firstRows_zero]; exact ⟨_, tbl_made (by simpa [Value.cells] using hown)⟩
  clear hown hgrow
  go_wp2
  go_loopw [11] (fun i wr => ∃ k : Nat, k ≤ ls.length ∧ i = .int .i64 k ∧ Hid (Tbl wr w.heap.size (.slice (some ⟨w.heap.size, 0, none⟩) ls.length ls.length) (firstRows ls k)) ∧ Hid (Below w.heap.size w wr)) (fun i _ => ls.length - (intOf i).toNat)
  case atStart => exact ⟨0, Nat.zero_le _, rfl, HT1, HB1⟩
  case round =>
    obtain ⟨k, hk, rfl, HT, HB⟩ := hrel
    by_cases hlt : k < ls.length
    · have hlt' : (k : Int) < (ls.length : Int) := by omega
      obtain ⟨b, off, ai, m, ci, rfl, HC, HM, HSk, -, hmb⟩ := HS.out.elemB hlt
      have hc := HC.out _ HB.out
      go_wp2_with (at_make; refine wpList_make_full _ rfl _ _ 22 rfl w.heap.size 3 i0 (.int .i64 0) 1 Try.underlying22 hi hz0 hz1 _ _ _ _ m rfl rfl rfl rfl ?b1 ?b2 ?b3 ?_)
      case b1 => rw [hz2]; omega
      case b2 => unfold maxLen; omega
      case b3 => exact HB.out.size
      intro w2 hown2 hgrow2
      have hbr : Below wr.heap.size wr w2 := (Below.refl _ _).grown hgrow2 (Nat.le_refl _) (fun k h => by cases h)
      have HB2 : Hid (Below w.heap.size w w2) := HB.out.trans (hbr.mono HB.out.size)
      obtain ⟨g, hg⟩ : ∃ g, g = wr.heap.size := ⟨_, rfl⟩
      rw [← hg] at hown2
      obtain ⟨vs, hV⟩ := HT.out
      have hk0 : k < (firstRows ls k).length := by rw [firstRows_length]; exact hlt
      have hO2 : Owns w2 w.heap.size (.slice (some ⟨g, 0, none⟩) m m) (tab m (fun _ => 0)) := owns_made hown2
      have hrow2 : w2.heap[g]? = some (.cells (List.replicate m (Value.int .i64 0)).toArray 3 (0, 0)) := by
        rcases hown2.2 with ⟨h2, _⟩ | ⟨g', cap', cur, hv, _, hh, h4, h5, h6, h7⟩
        · cases h2
        · simp only [Value.slice.injEq, Option.some.injEq, Addr.mk.injEq, and_true, true_and] at hv
          obtain ⟨rfl, rfl⟩ := hv
          rw [hh]
          have e0 : cur.toList = List.replicate m (Value.int .i64 0) := by
            rw [← toList_madeCells_one, List.take_of_length_le (by simp [h6])] at *
            rw [h7]
            try simp [Value.cells]
          rw [← e0]
      have hkeep : KeepB (rowv vs k) (.slice (some ⟨g, 0, none⟩) m m) wr w2 := ⟨hgrow2.size, fun q hq _ => hbr.block q hq, fun q e => by
        simp only [Value.ownBlock, Option.some.injEq] at e; right; omega⟩
      have hgl : w.heap.size < wr.heap.size := by
        have := hV.own.lt w.heap.size rfl
        exact this.2
      have hS3 := hV.setRow hk0 hO2 hkeep
      have hne : w.heap.size ≠ g := by omega
      have hfz : w2.frozen? ⟨w.heap.size, k, none⟩ = false := by
        rw [hbr.frozen (p := ⟨w.heap.size, k, none⟩) hgl]; exact World.ownsRow.frozenAt (by have := hV.own; rw [hV.len, firstRows_length] at this; exact this) k
      have hcl : ∃ u0, w2.cell? ⟨w.heap.size, k, none⟩ = some u0 := by
        refine ⟨rowv vs k, ?_⟩
        rw [hbr.cell (p := ⟨w.heap.size, k, none⟩) hgl, World.ownsRow.cellAt (by have := hV.own; rw [hV.len, firstRows_length] at this; exact this) k (by omega), rowv_get (by rw [hV.len]; exact hk0)]
      obtain ⟨u0, hcl⟩ := hcl
      have hrow3 : (w2.setCell ⟨w.heap.size, k, none⟩ (.slice (some ⟨g, 0, none⟩) m m)).heap[g]? = some (.cells (List.replicate m (Value.int .i64 0)).toArray 3 (0, 0)) := by
        rw [heap_setCell_other _ _ _ _ (fun e => hne e.symm)]; exact hrow2
      have HB3 : Hid (Below w.heap.size w (w2.setCell ⟨w.heap.size, k, none⟩ (.slice (some ⟨g, 0, none⟩) m m))) := HB2.out.setCell (p := ⟨w.heap.size, k, none⟩) (Nat.le_refl _) _
      have hcp := run_copy_all2 (cap := ci) (w0 := w2.setCell ⟨w.heap.size, k, none⟩ (.slice (some ⟨g, 0, none⟩) m m)) (w := w2.setCell ⟨w.heap.size, k, none⟩ (.slice (some ⟨g, 0, none⟩) m m)) (B := g) (g := g) (HSk.out.below HB3.out) (by rw [← HM.out]; exact hrow3) (Below.refl _ _) (Nat.le_refl _)
      rw [← HM.out] at hcp
      obtain ⟨w4, hrun, HR4, hb4, hso⟩ := hcp
      have HT4 : Hid (Tbl w4 w.heap.size (.slice (some ⟨w.heap.size, 0, none⟩) ls.length ls.length) (firstRows ls (k + 1))) := by
        refine ⟨vs.set k (.slice (some ⟨g, 0, none⟩) m m), ?_⟩
        have hrv : rowv (vs.set k (.slice (some ⟨g, 0, none⟩) m m)) k = .slice (some ⟨g, 0, none⟩) m m := by rw [rowv_set _ _ _ _ (by rw [hV.len]; exact hk0), if_pos rfl]
        have h4 := hS3.refill (i := k) (w' := w4) (zs := row ls k) (by rw [List.length_set]; exact hk0) (fun q hq hq2 => by
          rw [hrv] at hq
          exact hso q (fun e => hq (by rw [e]; rfl))) (by rw [hrv]; exact owns_of_row (by have := HB.out.size; omega) HR4.out HM.out (by rw [← HM.out]; exact hmb))
        rw [List.set_set, firstRows_set hlt] at h4
        exact h4
      have HB4 : Hid (Below w.heap.size w w4) := HB3.out.trans (hb4.mono (by have := HB.out.size; omega))
      clear hrow2 hrow3 hO2 hown2 hgrow2 hkeep hS3 hV hbr hb4 hso HR4 HB2 HB3
      rw [← hg]
      clear hg
      go_wp2
      go_roundw
      case rel => exact ⟨k + 1, by omega, by go_num, HT4, HB4⟩
      case measure => simp [intOf]; omega
    · obtain rfl : k = ls.length := by omega
      have HE : Hid (Tbl wr w.heap.size (.slice (some ⟨w.heap.size, 0, none⟩) ls.length ls.length) ls) := by have := HT.out; rw [firstRows_all] at this; exact this
      go_wp2
      go_ret
      exact ⟨_, rfl, HE.out, HB.out⟩

end Go.Proofs.Ytampjdebnaapaac
