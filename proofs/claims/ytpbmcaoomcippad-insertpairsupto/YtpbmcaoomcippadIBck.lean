/-
  The contracts of slices.Equal[[]int,int], insert.checkBoth, insert.BackPairs, insert.Back.
-/
import Derived.Test.YtpbmcaoomcippadIPrs
import Derived.Test.YtpbmcaoomcippadUStd
namespace Go.Proofs.Ytpbmcaoomcippad
open Go.RowKit

set_option maxHeartbeats 1000000 in
theorem Equal_any (a b : Option Addr) (ca cb : Nat) (zs ys : List Int) (w : World) (hs : Shows w a zs) (ht : Shows w b ys) :
    Calls Try.prog 59 #[.slice a zs.length ca, .slice b ys.length cb] w fun e w' => e = .returned (.bool (decide (zs = ys))) ∧ ∃ n, w' = w.drewN n := by
  have hl := hs.len
  have hl2 := ht.len
  by_cases hlen : zs.length = ys.length
  · have HL : Hid (zs.length = ys.length) := hlen
    have hb : ((zs.length : Int) != (ys.length : Int)) = false := by rw [hlen]; simp
    clear hlen
    go_enter Try.func59, Try.ntmps59
    go_wp2
    go_loopw [13] (fun i wr => ∃ k : Nat, k ≤ zs.length ∧ i = .int .i64 k ∧ Hid (∀ i, i < k → zs.getD i 0 = ys.getD i 0) ∧ ∃ n, wr = w.drewN n) (fun i _ => zs.length - (intOf i).toNat)
    case atStart => exact ⟨0, Nat.zero_le _, rfl, fun j hj => by omega, 0, rfl⟩
    case round =>
      obtain ⟨k, hk, rfl, HR, n, rfl⟩ := hrel
      by_cases hlt : k < zs.length
      · have hlt' : (k : Int) < (zs.length : Int) := by omega
        have hltn : k < ys.length := by have := HL.out; omega
        have hlt2 : (k : Int) < (ys.length : Int) := by omega
        obtain ⟨b1, off, z, rfl, HZ, hz1, hz2, hc⟩ := hs.elem hlt
        obtain ⟨b2, off2, y, rfl, HY, hy1, hy2, hcy⟩ := ht.elem hltn
        by_cases he : z = y
        · subst he
          go_wp2_with fail
          go_quiet (fail)
          go_wp2
          go_roundw
          case rel => exact ⟨k + 1, by omega, by go_num, fun j hj => by
                        by_cases hj' : j < k
                        · exact HR.out j hj'
                        · obtain rfl : j = k := by omega
                          rw [← HZ.out, ← HY.out], _, by first | exact rfl | exact drewN_two _ _ _⟩
          case measure => simp [intOf]; omega
        · have HE : Hid (¬ z = y) := he
          have hbn : (z != y) = true := by simpa using he
          clear he
          go_wp2_with fail
          go_quiet (fail)
          go_wp2
          go_ret
          exact ⟨ret_bool (by rw [decide_eq_false (fun h => HE.out (by rw [HZ.out, HY.out, h]))]), _, by first | exact rfl | exact drewN_two _ _ _⟩
      · go_wp2
        go_ret
        refine ⟨ret_bool ?_, n, rfl⟩
        have : zs = ys := by
          refine List.ext_getElem HL.out (fun j h1 h2 => ?_)
          have := HR.out j (by omega)
          simpa [List.getD, List.getElem?_eq_getElem h1, List.getElem?_eq_getElem h2] using this
        rw [decide_eq_true this]
  · have hb : ((zs.length : Int) != (ys.length : Int)) = true := by rw [bne_iff_ne]; omega
    have HL : Hid (¬ zs.length = ys.length) := hlen
    clear hlen
    go_enter Try.func59, Try.ntmps59
    go_wp2
    go_ret
    exact ⟨ret_bool (by rw [decide_eq_false (fun h => HL.out (by rw [h]))]), 0, rfl⟩

/-- What is wrong with two tableaux of one shape. -/
def bothC (p q : List (List Int)) : Int := if tchk p ≠ 0 then tchk p else if tchk q ≠ 0 then tchk q else if shapeL p = shapeL q then 0 else 3
theorem bothC_ok {p q : List (List Int)} : bothC p q = 0 ↔ IsTab p ∧ IsTab q ∧ shapeL p = shapeL q := by
  unfold bothC
  by_cases h1 : tchk p ≠ 0
  · rw [if_pos h1]; exact ⟨fun h => absurd h h1, fun h => absurd (tchk_ok.2 h.1) h1⟩
  · rw [if_neg h1]
    have h1 := tchk_ok.1 (Decidable.not_not.1 h1)
    by_cases h2 : tchk q ≠ 0
    · rw [if_pos h2]; exact ⟨fun h => absurd h h2, fun h => absurd (tchk_ok.2 h.2.1) h2⟩
    · rw [if_neg h2]
      have h2 := tchk_ok.1 (Decidable.not_not.1 h2)
      by_cases h3 : shapeL p = shapeL q
      · rw [if_pos h3]; exact ⟨fun _ => ⟨h1, h2, h3⟩, fun _ => rfl⟩
      · rw [if_neg h3]; exact ⟨fun h => by omega, fun h => absurd h.2.2 h3⟩
theorem shapeL_lens {p q : List (List Int)} (h : shapeL p = shapeL q) : (∀ i, (row p i).length = (row q i).length) ∧ p.length = q.length := by
  have hl : p.length = q.length := by have := congrArg List.length h; unfold shapeL at this; rw [tab_length, tab_length] at this; exact this
  refine ⟨fun i => ?_, hl⟩
  by_cases hi : i < p.length
  · have := congrArg (fun l => l.getD i 0) h
    unfold shapeL at this
    simp only [tab_getD _ _ _ hi, tab_getD _ _ _ (show i < q.length by omega)] at this
    omega
  · rw [row_out (by omega), row_out (by omega)]
theorem PQ.of_both {p q : List (List Int)} (h : bothC p q = 0) : PQ q.flatten.length p q ∧ q.flatten.length ≤ 40 ∧ (∀ z ∈ p.flatten, 1 ≤ z ∧ z ≤ 99) := by
  obtain ⟨h1, h2, h3⟩ := bothC_ok.1 h
  obtain ⟨h4, h5⟩ := shapeL_lens h3
  exact ⟨⟨h1.T, h2.T, h4, h5, rfl, fun z hz => h2.mem hz⟩, h2.few, fun z hz => h1.mem hz⟩
theorem shape_small {p : List (List Int)} (h : IsTab p) : (shapeL p).length ≤ 40 ∧ ∀ z ∈ shapeL p, 0 ≤ z ∧ z ≤ 1000 := by
  refine ⟨by unfold shapeL; rw [tab_length]; exact h.rows, fun z hz => ?_⟩
  obtain ⟨j, hj, rfl⟩ := tab_mem hz
  have := h.width hj
  omega

set_option maxHeartbeats 2000000 in
theorem checkBoth_at {p q : List (List Int)} {c : Int} (a b : Option Addr) (n m ca cb : Nat) (w : World) (hp : Table w a p) (hq : Table w b q) (hn : n = p.length) (hm : m = q.length) (hlp : p.length ≤ 17592186044416) (hlq : q.length ≤ 17592186044416) (hc : Hid (bothC p q = c)) :
    Calls Try.prog 39 #[.slice a n ca, .slice b m cb] w fun e w' => e = .returned (.int .i64 c) ∧ Below w.heap.size w w' := by
  subst hn; subst hm
  have HP : Hid (Table w a p) := hp
  have HQ : Hid (Table w b q) := hq
  clear hp hq
  obtain ⟨d, hd⟩ : ∃ d, tchk p = d := ⟨_, rfl⟩
  by_cases hd0 : d = 0
  · subst hd0
    have hTp := tchk_ok.1 hd
    have HRp : Hid (TabL shapeL p 0 (shapeL p)) := TabL.ok hTp
    obtain ⟨e, he⟩ : ∃ e, tchk q = e := ⟨_, rfl⟩
    by_cases he0 : e = 0
    · subst he0
      have hTq := tchk_ok.1 he
      have HRq : Hid (TabL shapeL q 0 (shapeL q)) := TabL.ok hTq
      have s1 := shape_small hTp
      have s2 := shape_small hTq
      have HS1 : Hid ((shapeL p).length ≤ 40 ∧ ∀ z ∈ shapeL p, 0 ≤ z ∧ z ≤ 1000) := s1
      have HS2 : Hid ((shapeL q).length ≤ 40 ∧ ∀ z ∈ shapeL q, 0 ≤ z ∧ z ≤ 1000) := s2
      obtain ⟨t, ht⟩ : ∃ t, decide (shapeL p = shapeL q) = t := ⟨_, rfl⟩
      have HD : Hid (decide (shapeL p = shapeL q) = t) := ht
      have HC : Hid (c = if t = true then 0 else 3) := by
        rw [← hc.out]; unfold bothC
        rw [if_neg (by rw [hd]; simp), if_neg (by rw [he]; simp), ← ht]
        show _ = _
        by_cases h : shapeL p = shapeL q
        · rw [if_pos h, if_pos (decide_eq_true h)]
        · rw [if_neg h, if_neg (by simpa using h)]
      clear hd he hTp hTq s1 s2 ht
      go_enter Try.func39, Try.ntmps39
      go_wp2_with fail
      refine (Shape_at _ _ _ _ HP.out hlp rfl HRp.out).mono ?_
      rintro e w1 ⟨v1, rfl, hO1, hb1⟩
      have HO1 : Hid (Owns w1 w.heap.size v1 (shapeL p)) := hO1
      have HB1 : Hid (Below w.heap.size w w1) := hb1
      clear hO1 hb1
      go_wp2_with fail
      refine (Shape_at _ _ _ _ (HQ.out.below HB1.out) hlq rfl HRq.out).mono ?_
      rintro e w2 ⟨v2, rfl, hO2, hb2⟩
      have HB2 : Hid (Below w.heap.size w w2) := HB1.out.trans (hb2.mono HB1.out.size)
      obtain ⟨a1, c1, rfl, hS1⟩ := (HO1.out.below hb2).shows (by have := HS1.out.1; omega) (small_wf HS1.out.2)
      obtain ⟨a2, c2, rfl, hS2⟩ := hO2.shows (by have := HS2.out.1; omega) (small_wf HS2.out.2)
      have HE1 : Hid (Shows w2 a1 (shapeL p)) := hS1
      have HE2 : Hid (Shows w2 a2 (shapeL q)) := hS2
      clear hO2 hb2 hS1 hS2
      go_wp2_with fail
      refine (Equal_any _ _ _ _ _ _ _ HE1.out HE2.out).mono ?_
      rintro e w3 ⟨rfl, d3, rfl⟩
      rw [HD.out]
      cases t with
      | true =>
        go_wp2
        go_ret
        exact ⟨by rw [HC.out]; rfl, below_drewN HB2.out d3⟩
      | false =>
        go_wp2
        go_ret
        exact ⟨by rw [HC.out]; rfl, below_drewN HB2.out d3⟩
    · have HRq : Hid (TabL shapeL q e []) := TabL.err he he0
      have heb : (e != 0) = true := bne_iff_ne.2 he0
      have HC : Hid (c = e) := by
        rw [← hc.out]; unfold bothC
        rw [if_neg (by rw [hd]; simp), if_pos (by rw [he]; exact he0), he]; rfl
      clear hd he hTp
      go_enter Try.func39, Try.ntmps39
      go_wp2_with fail
      refine (Shape_at _ _ _ _ HP.out hlp rfl HRp.out).mono ?_
      rintro e w1 ⟨v1, rfl, hO1, hb1⟩
      have HB1 : Hid (Below w.heap.size w w1) := hb1
      clear hO1 hb1
      go_wp2_with fail
      refine (Shape_at _ _ _ _ (HQ.out.below HB1.out) hlq rfl HRq.out).mono ?_
      rintro e w2 ⟨v2, rfl, hO2, hb2⟩
      have HB2 : Hid (Below w.heap.size w w2) := HB1.out.trans (hb2.mono HB1.out.size)
      clear hO2 hb2
      go_wp2
      go_ret
      exact ⟨by rw [HC.out]; rfl, HB2.out⟩
  · have HRp : Hid (TabL shapeL p d []) := TabL.err hd hd0
    have hdb : (d != 0) = true := bne_iff_ne.2 hd0
    have HC : Hid (c = d) := by
      rw [← hc.out]; unfold bothC
      rw [if_pos (by rw [hd]; exact hd0), hd]; rfl
    clear hd
    go_enter Try.func39, Try.ntmps39
    go_wp2_with fail
    refine (Shape_at _ _ _ _ HP.out hlp rfl HRp.out).mono ?_
    rintro e w1 ⟨v1, rfl, hO1, hb1⟩
    go_wp2
    go_ret
    exact ⟨by rw [HC.out]; rfl, hb1⟩
/-- What BackPairs answers. -/
def BpR (p q : List (List Int)) (c : Int) (l : List (Int × Int)) : Prop := c = bothC p q ∧ l = if c = 0 then undo q.flatten.length p q else []
set_option maxHeartbeats 2000000 in
theorem BackPairs_at {p q : List (List Int)} {c : Int} {l : List (Int × Int)} (a b : Option Addr) (n m ca cb : Nat) (w : World) (hp : Table w a p) (hq : Table w b q) (hn : n = p.length) (hm : m = q.length) (hlp : p.length ≤ 17592186044416) (hlq : q.length ≤ 17592186044416) (hr : BpR p q c l) :
    Calls Try.prog 20 #[.slice a n ca, .slice b m cb] w fun e w' => ∃ v, e = .returned (.tuple #[v, .int .i64 c]) ∧ OwnsP w' w.heap.size v l ∧ Below w.heap.size w w' := by
  subst hn; subst hm
  obtain ⟨hc, hl⟩ := hr
  have HC : Hid (bothC p q = c) := hc.symm
  have HP : Hid (Table w a p) := hp
  have HQ : Hid (Table w b q) := hq
  clear hp hq
  by_cases h0 : c = 0
  · subst h0
    rw [if_pos rfl] at hl
    subst hl
    obtain ⟨q1, q2, q3⟩ := PQ.of_both hc.symm
    have HPQ : Hid (PQ q.flatten.length p q) := q1
    have HB3 : Hid (∀ z ∈ p.flatten, 1 ≤ z ∧ z ≤ 99) := q3
    have HN : Hid (q.flatten.length ≤ 40) := q2
    clear hc q1 q2 q3
    go_enter Try.func20, Try.ntmps20
    go_wp2_with fail
    refine (checkBoth_at _ _ _ _ _ _ _ HP.out HQ.out rfl rfl hlp hlq HC).mono ?_
    rintro e w1 ⟨rfl, hb1⟩
    have HB1 : Hid (Below w.heap.size w w1) := hb1
    clear hb1
    go_wp2_with fail
    refine (takenPairs_at _ _ _ _ _ _ _ (HP.out.below HB1.out) (HQ.out.below HB1.out) rfl rfl HPQ.out HN.out HB3.out).mono ?_
    rintro e w2 ⟨v2, rfl, hO2, hb2⟩
    have HO2 : Hid (OwnsP w2 w.heap.size v2 (undo q.flatten.length p q)) := hO2.mono HB1.out.size
    have HB2 : Hid (Below w.heap.size w w2) := HB1.out.trans (hb2.mono HB1.out.size)
    clear hO2 hb2
    go_wp2
    go_ret2
    exact ⟨_, rfl, HO2.out, HB2.out⟩
  · rw [if_neg h0] at hl
    subst hl
    have hcb : (c != 0) = true := bne_iff_ne.2 h0
    clear hc h0
    go_enter Try.func20, Try.ntmps20
    go_wp2_with fail
    refine (checkBoth_at _ _ _ _ _ _ _ HP.out HQ.out rfl rfl hlp hlq HC).mono ?_
    rintro e w1 ⟨rfl, hb1⟩
    go_wp2
    go_ret2
    exact ⟨_, rfl, World.ownsRow_nil _ _ _ _, hb1⟩

end Go.Proofs.Ytpbmcaoomcippad
