/-
  The contracts of fill.Content in both cases, fill.IsStandard, fill.lettersAhead, fill.widthOf, fill.copied.
-/
import Derived.Test.YtpbmcaoomcippadUCon
import Derived.Test.YtpbmcaoomcippadTTab
namespace Go.Proofs.Ytpbmcaoomcippad
open Go.RowKit

set_option maxHeartbeats 2000000 in
theorem Content_err (a : Option Addr) (cap : Nat) (ls : List (List Int)) (w : World) (hs : Table w a ls) (hl : ls.length ≤ 17592186044416) (c : Int) (h : tchk ls = c) (hc : (c != 0) = true) :
    Calls Try.prog 65 #[.slice a ls.length cap] w fun e w' => e = .returned (.tuple #[.slice none 0 0, .int .i64 c]) ∧ Below w.heap.size w w' := by
  have E : Hid (tchk ls = c) := h
  clear h
  go_enter Try.func65, Try.ntmps65
  go_wp2_with fail
  refine (TCheck_is _ _ _ _ _ hs hl rfl E).mono ?_
  rintro e w' ⟨rfl, n, rfl⟩
  go_wp2_with fail
  go_ret2
  exact ⟨rfl, below_drew n⟩

theorem Content_at {ls : List (List Int)} {q : List Int} {c : Int} (a : Option Addr) (n cap : Nat) (w : World) (hs : Table w a ls) (hl : ls.length ≤ 17592186044416) (hn : n = ls.length) (hr : TabL contL ls c q) :
    Calls Try.prog 65 #[.slice a n cap] w fun e w' => ∃ v, e = .returned (.tuple #[v, .int .i64 c]) ∧ Owns w' w.heap.size v q ∧ Below w.heap.size w w' := by
  subst hn
  obtain ⟨h, rfl⟩ := hr
  by_cases hc : c = 0
  · subst hc; exact Content_ok a cap ls w hs (tchk_ok.1 h)
  · rw [if_neg hc]
    exact (Content_err a cap ls w hs hl c h (bne_iff_ne.2 hc)).mono fun e w' ⟨he, hw⟩ => ⟨_, he, World.ownsRow_nil _ _ _ _, hw⟩

theorem had_small {l : List Int} (h : l.length ≤ 40) (hm : mx l ≤ 99) : (had l).length ≤ 99 ∧ ∀ z ∈ had l, 0 ≤ z ∧ z ≤ 1000 := by
  refine ⟨by rw [had_length]; exact hm, fun z hz => ?_⟩
  obtain ⟨j, _, rfl⟩ := tab_mem hz
  have := cnt_bd l j; omega
theorem IsTab.mx {ls : List (List Int)} (h : IsTab ls) : mx ls.flatten ≤ 99 := mx_le (fun _ hz => (h.mem hz).2)
theorem cont_small {ls : List (List Int)} (h : IsTab ls) : (contL ls).length ≤ 99 ∧ ∀ z ∈ contL ls, 0 ≤ z ∧ z ≤ 1000 := had_small h.few h.mx

def stdB (ls : List (List Int)) : Bool := onesB (contL ls)
def StdR (ls : List (List Int)) (c : Int) (t : Bool) : Prop := tchk ls = c ∧ t = if c = 0 then stdB ls else false
theorem onesB_no {l : List Int} {k : Nat} (hk : k < l.length) (h : l.getD k 0 ≠ 1) : onesB l = false := by
  cases e : onesB l with
  | false => rfl
  | true => exact absurd (onesB_iff.1 e k hk) h

set_option maxHeartbeats 2000000 in
theorem IsStd_at {ls : List (List Int)} {t : Bool} {c : Int} (a : Option Addr) (n cap : Nat) (w : World) (hs : Table w a ls) (hl : ls.length ≤ 17592186044416) (hn : n = ls.length) (hr : StdR ls c t) :
    Calls Try.prog 40 #[.slice a n cap] w fun e w' => e = .returned (.tuple #[.bool t, .int .i64 c]) ∧ Below w.heap.size w w' := by
  subst hn
  obtain ⟨h, ht⟩ := hr
  by_cases hc : c = 0
  · subst hc
    have hT := tchk_ok.1 h
    rw [if_pos rfl] at ht
    have HTt : Hid (t = stdB ls) := ht
    have hsm := cont_small hT
    have HL : Hid (TabL contL ls 0 (contL ls)) := TabL.ok hT
    clear ht h hT
    go_enter Try.func40, Try.ntmps40
    go_wp2_with fail
    refine (Content_at _ _ _ _ hs hl rfl HL.out).mono ?_
    rintro e w1 ⟨v, rfl, hown, hb⟩
    obtain ⟨av, nv, cv, rfl, hS, hnv, -⟩ := hown.opened (by omega) (small_wf hsm.2)
    have HN : Hid (nv = (contL ls).length) := hnv
    have hn99 : nv ≤ 99 := by omega
    have HS1 : Hid (Shows w1 av (contL ls)) := hS
    have HB1 : Hid (Below w.heap.size w w1) := hb
    clear hnv hS hb hown hsm
    go_wp2
    go_loop [18] (fun i => ∃ k : Nat, k ≤ nv ∧ i = .int .i64 k ∧ Hid (∀ j, j < k → (contL ls).getD j 0 = 1)) (fun i => nv - (intOf i).toNat)
    case atStart => exact ⟨0, Nat.zero_le _, rfl, fun j hj => by omega⟩
    case round =>
      obtain ⟨k, hk, rfl, HR⟩ := hrel
      by_cases hlt : k < nv
      · have hlt' : (k : Int) < (nv : Int) := by omega
        have hk2 : Hid (k < (contL ls).length) := by rw [← HN.out]; exact hlt
        obtain ⟨b, off, z, rfl, HZ, hz1, hz2, hc⟩ := HS1.out.elem hk2.out
        by_cases h1 : z = 1
        · subst h1
          go_wp2
          go_round
          case rel => exact ⟨k + 1, by omega, by go_num, fun j hj => by
                        by_cases hj' : j < k
                        · exact HR.out j hj'
                        · obtain rfl : j = k := by omega
                          exact HZ.out.symm⟩
          case measure => simp [intOf]; omega
        · have HF : Hid (t = false) := by show _ = _; rw [HTt.out]; exact onesB_no hk2.out (by rw [← HZ.out]; exact h1)
          have hb1 : (z != 1) = true := by simpa using h1
          clear h1
          go_wp2
          go_ret2
          exact ⟨by rw [HF.out]; rfl, HB1.out⟩
      · obtain rfl : k = nv := by omega
        have HF : Hid (t = true) := by show _ = _; rw [HTt.out]; exact onesB_iff.2 (fun j hj => HR.out j (by rw [HN.out]; exact hj))
        go_wp2
        go_ret2
        exact ⟨by rw [HF.out]; rfl, HB1.out⟩
  · rw [if_neg hc] at ht
    subst ht
    have HL : Hid (TabL contL ls c []) := TabL.err h hc
    have hcb : (c != 0) = true := bne_iff_ne.2 hc
    clear h hc
    go_enter Try.func40, Try.ntmps40
    go_wp2_with fail
    refine (Content_at _ _ _ _ hs hl rfl HL.out).mono ?_
    rintro e w1 ⟨v, rfl, hown, hb⟩
    go_wp2
    go_ret2
    exact ⟨rfl, hb⟩

/-- Sums of what is ahead. -/
def aheadF (c : List Int) (k : Nat) : Int := ((S k (fun m => (c.getD m 0).toNat) : Nat) : Int)
theorem aheadF_succ {c : List Int} {k : Nat} (h : 0 ≤ c.getD k 0) : aheadF c (k + 1) = aheadF c k + c.getD k 0 := by
  unfold aheadF; rw [S]; omega
theorem aheadF_bd {c : List Int} (h : ∀ z ∈ c, 0 ≤ z ∧ z ≤ 1000) : ∀ k, k ≤ c.length → 0 ≤ aheadF c k ∧ aheadF c k ≤ 1000 * k := by
  intro k
  induction k with
  | zero => intro _; simp [aheadF, S]
  | succ k ih =>
    intro hk
    have h1 := h _ (getD_mem (zs := c) (j := k) (by omega))
    have h2 := ih (by omega)
    rw [aheadF_succ h1.1]; omega
def aheadL (c : List Int) : List Int := tab c.length (aheadF c)


/-- 'copy(q, p)' into a new row of the same length; every other block is as it was. -/
theorem run_copy_all2 {w0 w : World} {a : Option Addr} {cap g B : Nat} {zs : List Int} (hs : Shows w a zs) (hrow : w.heap[g]? = some (.cells (List.replicate zs.length (Value.int .i64 0)).toArray 3 (0, 0))) (hb : Below B w0 w) (hB : B ≤ g) :
    ∃ w2, Sem.run Try.prog (Builtin.copy_ #[22, 22] 3 #[.slice (some ⟨g, 0, none⟩) zs.length zs.length, .slice a zs.length cap]) w = .ok (.int .i64 zs.length) w2 ∧
      Hid (w2.heap[g]? = some (.cells (zs.map (Value.int .i64)).toArray 3 (0, 0))) ∧ Below B w0 w2 ∧ ∀ q, q ≠ g → w2.heap[q]? = w.heap[q]? := by
  by_cases hne : zs = []
  · subst hne
    exact ⟨w, run_copy_none (P := Try.prog) w 22 22 3 3 _ _ _ _ _ _ Try.underlying22 Try.sz3 (by simp), by simpa [Hid] using hrow, hb, fun _ _ => rfl⟩
  · obtain ⟨b, off, ha, _, hc⟩ := hs.cells hne
    subst ha
    have hrun := run_copy_row (P := Try.prog) w 22 22 3 3 g 0 zs.length zs.length ⟨b, off, none⟩ zs.length cap _ 3 (zs.map (Value.int .i64)) Try.underlying22 Try.sz3 hrow (by simp) (fun j v hj => by
      have hj' : j < zs.length := by have := (List.getElem?_eq_some_iff.1 hj).1; simpa using this
      rw [Addr.add_lit, hc j hj', ← hj]; simp [List.getD, List.getElem?_eq_getElem hj']) (by simp) (ints_oneCell _ _)
    refine ⟨_, by rw [hrun]; simp only [List.length_map]; rfl, ?_, below_setRow hb hB _, fun q hq => setRow_other w g q _ hq⟩
    show _ = _
    rw [setRow_heap w g _ _ 3 _ hrow]
    simp

theorem rowv_rep (n : Nat) (i : Nat) : rowv (List.replicate n (Value.slice none 0 0)) i = .slice none 0 0 := by
  unfold rowv
  simp only [List.getD, List.getElem?_replicate]
  split <;> rfl

/-- The first k rows, nothing in the others. -/
def firstRows (ls : List (List Int)) (k : Nat) : List (List Int) := (List.range ls.length).map fun i => if i < k then row ls i else []
theorem firstRows_length (ls : List (List Int)) (k : Nat) : (firstRows ls k).length = ls.length := by simp [firstRows]
theorem firstRows_get {ls : List (List Int)} {k i : Nat} (hi : i < ls.length) : (firstRows ls k).getD i [] = if i < k then row ls i else [] := by simp [firstRows, List.getD, hi]
theorem firstRows_zero (ls : List (List Int)) : firstRows ls 0 = List.replicate ls.length [] := by
  rw [List.eq_replicate_iff]
  refine ⟨firstRows_length _ _, fun r hr => ?_⟩
  obtain ⟨i, _, rfl⟩ := List.mem_map.1 hr
  rw [if_neg (by omega)]
theorem firstRows_all (ls : List (List Int)) : firstRows ls ls.length = ls := by
  refine ext_row (firstRows_length _ _) (fun a ha => ?_)
  rw [firstRows_length] at ha
  unfold row
  rw [firstRows_get ha, if_pos ha]; rfl
theorem firstRows_set {ls : List (List Int)} {k : Nat} (hk : k < ls.length) : (firstRows ls k).set k (row ls k) = firstRows ls (k + 1) := by
  refine ext_row (by simp [firstRows_length]) (fun a ha => ?_)
  rw [List.length_set, firstRows_length] at ha
  unfold row
  rw [getD_set_rows _ _ _ _ (by rw [firstRows_length]; exact ha), firstRows_get ha, firstRows_get ha]
  by_cases e : a = k
  · subst e; rw [if_pos rfl, if_pos (by omega)]; rfl
  · rw [if_neg e]
    by_cases h : a < k
    · rw [if_pos h, if_pos (by omega)]
    · rw [if_neg h, if_neg (by omega)]


end Go.Proofs.Ytpbmcaoomcippad
