/-
  Pairs as an address shows them; the contracts of slices.IsSortedFunc over pairs, insert.MakePairs.
-/
import Derived.Test.YtpbmcaoomcippadISrt
namespace Go.Proofs.Ytpbmcaoomcippad
open Go.RowKit

structure ShowsP (w : World) (a : Option Addr) (l : List (Int × Int)) : Prop where
  len : l.length ≤ 8796093022208
  cells : l ≠ [] → ∃ b off, a = some ⟨b, off, none⟩ ∧ b < w.heap.size ∧ ∀ i, i < l.length → w.cell? ⟨b, off + i * 2, none⟩ = some (.int .i64 (l.getD i (0, 0)).1) ∧ w.cell? ⟨b, off + i * 2 + 1, none⟩ = some (.int .i64 (l.getD i (0, 0)).2)
theorem ShowsP.below {w w' : World} {a : Option Addr} {l : List (Int × Int)} (h : ShowsP w a l) (hb : Below w.heap.size w w') : ShowsP w' a l := by
  refine ⟨h.len, fun hne => ?_⟩
  obtain ⟨b, off, ha, hlt, hc⟩ := h.cells hne
  exact ⟨b, off, ha, Nat.lt_of_lt_of_le hlt hb.size, fun i hi => ⟨(hb.cell (p := ⟨b, off + i * 2, none⟩) hlt).trans (hc i hi).1, (hb.cell (p := ⟨b, off + i * 2 + 1, none⟩) hlt).trans (hc i hi).2⟩⟩
theorem ShowsP.elem {w : World} {a : Option Addr} {l : List (Int × Int)} (h : ShowsP w a l) {k : Nat} (hk : k < l.length) :
    ∃ (b off : Nat) (x y : Int), a = some ⟨b, off, none⟩ ∧ b < w.heap.size ∧ Hid ((x, y) = l.getD k (0, 0)) ∧ w.cell? ⟨b, off + k * 2, none⟩ = some (.int .i64 x) ∧ w.cell? ⟨b, off + k * 2 + 1, none⟩ = some (.int .i64 y) := by
  obtain ⟨b, off, ha, hlt, hc⟩ := h.cells (fun e => by subst e; simp at hk)
  exact ⟨b, off, _, _, ha, hlt, rfl, (hc k hk).1, (hc k hk).2⟩
theorem OwnsP.shows {w : World} {lo : Nat} {v : Value} {l : List (Int × Int)} (h : OwnsP w lo v l) (hl : l.length ≤ 8796093022208) : ∃ a c, v = .slice a l.length c ∧ ShowsP w a l := by
  have h1 : w.ownsRow lo 39 2 v l.length (pc l) := h
  rcases h1.2 with ⟨h2, h3⟩ | ⟨g, cap, cur, hv, hg, hh, _⟩
  · exact ⟨none, 0, by rw [h2, h3], hl, fun hne => absurd (List.eq_nil_of_length_eq_zero h3) hne⟩
  · subst hv
    refine ⟨_, _, rfl, hl, fun _ => ⟨g, 0, rfl, (Array.getElem?_eq_some_iff.1 hh).1, fun i hi => ?_⟩⟩
    rw [Nat.zero_add, World.ownsRow.cellAt h1 (i * 2) (by omega), World.ownsRow.cellAt h1 (i * 2 + 1) (by omega)]
    exact pc_get l i hi

set_option maxHeartbeats 4000000 in
set_option maxRecDepth 100000 in
theorem IsSortedP_at (a : Option Addr) (n cap : Nat) (l : List (Int × Int)) (w : World) (hs : ShowsP w a l) (hn : n = l.length) {t : Bool} (ht : Hid (t = true ↔ Ordered l)) :
    Calls Try.prog 48 #[.slice a n cap, .func (.func 49) #[] #[]] w fun e w' => e = .returned (.bool t) ∧ Below w.heap.size w w' := by
  subst hn
  have HS : Hid (ShowsP w a l) := hs
  have hl := hs.len
  obtain ⟨n1, Hn1⟩ : ∃ n1 : Int, Hid (n1 = (l.length : Int) - 1) := ⟨_, rfl⟩
  have hsub : IntKind.i64.wrap ((l.length : Int) - 1) = n1 := by rw [IntWalk.i64_left, IntWalk.wrap64_in _ (by omega)]; exact Hn1.out.symm
  have hn1a : -1 ≤ n1 := by rw [Hn1.out]; omega
  clear hs
  go_enter Try.func48, Try.ntmps48
  go_wp2
  go_loopw [5] (fun q wr => ∃ k : Nat, k ≤ l.length ∧ q = .int .i64 ((k : Int) - 1) ∧ Hid (∀ j, k ≤ j + 1 → j + 1 < l.length → Ord2 (l.getD j (0, 0)) (l.getD (j + 1) (0, 0))) ∧ Hid (Below w.heap.size w wr)) (fun q _ => ((intOf q) + 1).toNat)
  case atStart => exact ⟨l.length, Nat.le_refl _, by rw [Hn1.out], fun j h1 h2 => by omega, Below.refl _ _⟩
  case round =>
    obtain ⟨k, hk, rfl, HI, HB⟩ := hrel
    by_cases hk2 : 2 ≤ k
    · obtain ⟨m, hm⟩ : ∃ m, k = m + 2 := ⟨k - 2, by omega⟩
      subst hm
      obtain ⟨i, HIm⟩ : ∃ i, Hid (i = m + 1) := ⟨_, rfl⟩
      have hk1 : ((m + 2 : Nat) : Int) - 1 = (i : Int) := by rw [HIm.out]; omega
      rw [hk1]
      have hi0 : (i : Int) > 0 := by rw [HIm.out]; omega
      have hg : decide ((i : Int) > 0) = true := decide_eq_true hi0
      have hi1 : (i : Int) < (l.length : Int) := by rw [HIm.out]; omega
      have hi2 : (m : Int) < (l.length : Int) := by omega
      have hsub2 : IntKind.i64.wrap ((i : Int) - 1) = (m : Int) := by rw [IntWalk.i64_left, IntWalk.wrap64_in _ (by rw [HIm.out]; omega), HIm.out]; omega
      obtain ⟨b, off, x1, y1, rfl, hbl, HE1, hc1, hd1⟩ := (HS.out.below HB.out).elem (k := i) (by rw [HIm.out]; omega)
      obtain ⟨b', off', x0, y0, hbb, -, HE0, hc0, hd0⟩ := (HS.out.below HB.out).elem (k := m) (by omega)
      simp only [Option.some.injEq, Addr.mk.injEq, and_true] at hbb
      obtain ⟨rfl, rfl⟩ := hbb
      obtain ⟨r, HR⟩ : ∃ r, Hid (r = ordI (x1, y1) (x0, y0)) := ⟨_, rfl⟩
      have HBy : Hid (Calls Try.prog 49 #[.agg #[.int .i64 x1, .int .i64 y1], .agg #[.int .i64 x0, .int .i64 y0]] wr.drew fun e w' => e = .returned (.int .i64 r) ∧ Below wr.heap.size wr w') := by
        rw [HR.out]
        exact (byLetters_at (x1, y1) (x0, y0) wr.drew).mono fun e w' ⟨he, hb⟩ => ⟨he, (below_drewN (Below.refl _ wr) 1).trans hb⟩
      have HO : Hid (r < 0 ↔ ¬ Ord2 (l.getD m (0, 0)) (l.getD (m + 1) (0, 0))) := by
        rw [← HIm.out, ← HE1.out, ← HE0.out, HR.out]; exact ordI_lt (x0, y0) (x1, y1)
      clear HR HE0 HE1
      by_cases hr : r < 0
      · have HF : Hid (t = false) := by
          show _ = _
          cases t with
          | false => rfl
          | true => exact absurd (ht.out.1 rfl m (by omega)) (HO.out.1 hr)
        go_wp2_with fail
        go_region_with (first | (go_at_call 49; with_reducible (refine HBy.out.mono ?_); rintro e W1 ⟨rfl, hb1⟩))
        all_goals (
          go_wp2
          go_ret
          exact ⟨by rw [HF.out]; rfl, HB.out.trans (hb1.mono HB.out.size)⟩)
      · have HNr : Hid (¬ r < 0) := hr
        go_wp2_with fail
        go_region_with (first | (go_at_call 49; with_reducible (refine HBy.out.mono ?_); rintro e W1 ⟨rfl, hb1⟩))
        all_goals (
          have HB1 : Hid (Below w.heap.size w W1) := HB.out.trans (hb1.mono HB.out.size)
          clear hb1
          go_wp2
          go_roundw
          case rel =>
            refine ⟨m + 1, by omega, by rw [show ((m + 1 : Nat) : Int) - 1 = (m : Int) by omega], fun j h1 h2 => ?_, HB1⟩
            by_cases e : j = m
            · subst e; exact Classical.byContradiction (fun hne => by have h1 := HNr.out; have h2 := HO.out.2 hne; omega)
            · exact HI.out j (by omega) h2
          case measure => have := HIm.out; simp [intOf]; omega)
    · have hg : decide (((k : Nat) : Int) - 1 > 0) = false := by simp; omega
      have HF : Hid (t = true) := ht.out.2 (fun j hj => HI.out j (by omega) hj)
      go_wp2
      go_ret
      exact ⟨by rw [HF.out]; rfl, HB.out⟩

/-- All letters of pairs are letters. -/
def PLet (l : List (Int × Int)) : Prop := ∀ c ∈ l, (1 ≤ c.1 ∧ c.1 ≤ 99) ∧ 1 ≤ c.2 ∧ c.2 ≤ 99
/-- What is wrong with pairs. -/
def PairC (l : List (Int × Int)) (c : Int) : Prop := (40 < l.length ∧ c = 2) ∨ (l.length ≤ 40 ∧ PLet l ∧ Ordered l ∧ c = 0) ∨ (l.length ≤ 40 ∧ ¬ (PLet l ∧ Ordered l) ∧ c = 1)
theorem PairC.ex (l : List (Int × Int)) : ∃ c, PairC l c := by
  by_cases h : 40 < l.length
  · exact ⟨2, Or.inl ⟨h, rfl⟩⟩
  · by_cases h2 : PLet l ∧ Ordered l
    · exact ⟨0, Or.inr (Or.inl ⟨by omega, h2.1, h2.2, rfl⟩)⟩
    · exact ⟨1, Or.inr (Or.inr ⟨by omega, h2, rfl⟩)⟩
theorem PairC.uniq {l : List (Int × Int)} {c d : Int} (h : PairC l c) (k : PairC l d) : c = d := by
  rcases h with ⟨h1, rfl⟩ | ⟨h1, h2, h3, rfl⟩ | ⟨h1, h2, rfl⟩ <;> rcases k with ⟨k1, rfl⟩ | ⟨k1, k2, k3, rfl⟩ | ⟨k1, k2, rfl⟩ <;> first | rfl | omega | exact absurd ⟨h2, h3⟩ k2 | exact absurd ⟨k2, k3⟩ h2
theorem pair_mem {l : List (Int × Int)} {k : Nat} (hk : k < l.length) : l.getD k (0, 0) ∈ l := by simp [List.getD, List.getElem?_eq_getElem hk]
theorem plet_of {l : List (Int × Int)} (h : ∀ k, k < l.length → (1 ≤ (l.getD k (0, 0)).1 ∧ (l.getD k (0, 0)).1 ≤ 99) ∧ 1 ≤ (l.getD k (0, 0)).2 ∧ (l.getD k (0, 0)).2 ≤ 99) : PLet l := fun c hc => by
  obtain ⟨k, hk, rfl⟩ := List.mem_iff_getElem.1 hc
  have := h k hk
  simpa [List.getD, List.getElem?_eq_getElem hk] using this

/-- What MakePairs answers. -/
def MpR (l : List (Int × Int)) (c : Int) (p q : List (List Int)) : Prop := PairC l c ∧ p = (if c = 0 then (mk l).1 else []) ∧ q = (if c = 0 then (mk l).2 else [])

set_option maxHeartbeats 4000000 in
set_option maxRecDepth 100000 in
theorem MakePairs_at {l : List (Int × Int)} {c : Int} {p q : List (List Int)} (a : Option Addr) (n cap : Nat) (w : World) (hs : ShowsP w a l) (hn : n = l.length) (hr : MpR l c p q) :
    Calls Try.prog 19 #[.slice a n cap] w fun e w' => ∃ v u, e = .returned (.tuple #[v, u, .int .i64 c]) ∧ Two w' w.heap.size v u p q ∧ Below w.heap.size w w' := by
  subst hn
  obtain ⟨hC, hp, hq⟩ := hr
  have HS : Hid (ShowsP w a l) := hs
  have hl := hs.len
  clear hs
  by_cases h40 : 40 < l.length
  · have HC : Hid (c = 2) := hC.uniq (Or.inl ⟨h40, rfl⟩)
    have hc2 := HC.out
    subst hc2
    rw [if_neg (by omega)] at hp hq
    subst hp; subst hq
    have hb : decide ((l.length : Int) > 40) = true := by simp; omega
    clear hC h40
    go_enter Try.func19, Try.ntmps19
    go_wp2
    go_ret3
    exact ⟨_, _, rfl, Two.nil _ _, Below.refl _ _⟩
  · have h40' : l.length ≤ 40 := by omega
    have hb : decide ((l.length : Int) > 40) = false := by simp; omega
    have HC : Hid (PairC l c) := hC
    have HPQ : Hid (p = (if c = 0 then (mk l).1 else []) ∧ q = (if c = 0 then (mk l).2 else [])) := ⟨hp, hq⟩
    clear hC hp hq h40
    go_enter Try.func19, Try.ntmps19
    go_wp2
    go_loopw [2, 3, 14] (fun v u iv wr => ∃ k : Nat, k ≤ l.length ∧ iv = .int .i64 k ∧ v = .slice none 0 0 ∧ u = .slice none 0 0 ∧ Hid (∀ j, j < k → (1 ≤ (l.getD j (0, 0)).1 ∧ (l.getD j (0, 0)).1 ≤ 99) ∧ 1 ≤ (l.getD j (0, 0)).2 ∧ (l.getD j (0, 0)).2 ≤ 99) ∧ Hid (Below w.heap.size w wr)) (fun _ _ iv _ => l.length - (intOf iv).toNat)
    case atStart => exact ⟨0, Nat.zero_le _, rfl, rfl, rfl, fun j hj => by omega, Below.refl _ _⟩
    case round =>
      obtain ⟨k, hk, rfl, rfl, rfl, HL, HB⟩ := hrel
      by_cases hlt : k < l.length
      · have hlt' : (k : Int) < (l.length : Int) := by omega
        obtain ⟨b, off, x, y, rfl, hbl, HE, hc0, hc1⟩ := (HS.out.below HB.out).elem hlt
        have hA0 : (wr.alloc (.cells #[.int .i64 x, .int .i64 y] 39)).cell? ⟨wr.heap.size, 0, none⟩ = some (.int .i64 x) := by rw [World.cell?_alloc_at _ _ _ _ rfl]; rfl
        have hA1 : (wr.alloc (.cells #[.int .i64 x, .int .i64 y] 39)).cell? ⟨wr.heap.size, 1, none⟩ = some (.int .i64 y) := by rw [World.cell?_alloc_at _ _ _ _ rfl]; rfl
        have HBa : Hid (Below w.heap.size w (wr.alloc (.cells #[.int .i64 x, .int .i64 y] 39))) := HB.out.alloc HB.out.size _
        have HBad : Hid (¬ ((1 ≤ x ∧ x ≤ 99) ∧ 1 ≤ y ∧ y ≤ 99) → c = 1 ∧ p = [] ∧ q = []) := fun hne => by
          have h1 : c = 1 := HC.out.uniq (Or.inr (Or.inr ⟨h40', fun h => hne (by have := h.1 _ (pair_mem hlt); rw [← HE.out] at this; exact this), rfl⟩))
          have := HPQ.out
          rw [h1, if_neg (by omega), if_neg (by omega)] at this
          exact ⟨h1, this⟩
        obtain ⟨w2, HW2⟩ : ∃ w2, Hid (w2 = wr.alloc (.cells #[.int .i64 x, .int .i64 y] 39)) := ⟨_, rfl⟩
        by_cases hx : 1 ≤ x ∧ x ≤ 99
        · have HX : Hid (decide (1 ≤ x ∧ x ≤ 99) = true) := decide_eq_true hx
          by_cases hy : 1 ≤ y ∧ y ≤ 99
          · have HY : Hid (decide (1 ≤ y ∧ y ≤ 99) = true) := decide_eq_true hy
            have HXY : Hid ((1 ≤ x ∧ x ≤ 99) ∧ 1 ≤ y ∧ y ≤ 99) := ⟨hx, hy⟩
            clear hx hy
            go_wp2_with fail
            rw [← HW2.out]
            rw [← HW2.out] at hA0 hA1 HBa
            refine (isLetter_at x _ HX).mono ?_
            rintro e w3 ⟨rfl, hw3⟩
            obtain rfl : w2 = w3 := hw3.symm
            go_wp2_with fail
            refine (isLetter_at y _ HY).mono ?_
            rintro e w4 ⟨rfl, hw4⟩
            obtain rfl : w2 = w4 := hw4.symm
            go_wp2
            go_roundw
            case rel => exact ⟨k + 1, by omega, by go_num, rfl, rfl, fun j hj => by
                          by_cases e : j = k
                          · subst e; rw [← HE.out]; exact HXY.out
                          · exact HL.out j (by omega), HBa⟩
            case measure => simp [intOf]; omega
          · have HY : Hid (decide (1 ≤ y ∧ y ≤ 99) = false) := decide_eq_false hy
            have HF : Hid (c = 1 ∧ p = [] ∧ q = []) := HBad.out (fun h => hy h.2)
            clear hx hy
            go_wp2_with fail
            rw [← HW2.out]
            rw [← HW2.out] at hA0 hA1 HBa
            refine (isLetter_at x _ HX).mono ?_
            rintro e w3 ⟨rfl, hw3⟩
            obtain rfl : w2 = w3 := hw3.symm
            go_wp2_with fail
            refine (isLetter_at y _ HY).mono ?_
            rintro e w4 ⟨rfl, hw4⟩
            obtain rfl : w2 = w4 := hw4.symm
            go_wp2
            go_ret3
            exact ⟨_, _, by rw [HF.out.1]; rfl, by rw [HF.out.2.1, HF.out.2.2]; exact Two.nil _ _, HBa.out⟩
        · have HX : Hid (decide (1 ≤ x ∧ x ≤ 99) = false) := decide_eq_false hx
          have HF : Hid (c = 1 ∧ p = [] ∧ q = []) := HBad.out (fun h => hx h.1)
          clear hx
          go_wp2_with fail
          rw [← HW2.out]
          rw [← HW2.out] at hA0 hA1 HBa
          refine (isLetter_at x _ HX).mono ?_
          rintro e w3 ⟨rfl, hw3⟩
          obtain rfl : w2 = w3 := hw3.symm
          go_wp2
          go_ret3
          exact ⟨_, _, by rw [HF.out.1]; rfl, by rw [HF.out.2.1, HF.out.2.2]; exact Two.nil _ _, HBa.out⟩
      · obtain rfl : k = l.length := by omega
        have HPl : Hid (PLet l) := plet_of HL.out
        by_cases ho : Ordered l
        · have HOd : Hid (Ordered l) := ho
          have HF : Hid (c = 0 ∧ p = (mk l).1 ∧ q = (mk l).2) := by
            have h1 : c = 0 := HC.out.uniq (Or.inr (Or.inl ⟨h40', HPl.out, ho, rfl⟩))
            have := HPQ.out
            rw [h1, if_pos rfl, if_pos rfl] at this
            exact ⟨h1, this⟩
          clear ho
          go_wp2_with fail
          refine (IsSortedP_at (t := true) _ _ _ l _ (HS.out.below HB.out) rfl (Iff.intro (fun _ => HOd.out) (fun _ => rfl))).mono ?_
          rintro e w2 ⟨rfl, hb2⟩
          have HB2 : Hid (Below w.heap.size w w2) := HB.out.trans (hb2.mono HB.out.size)
          clear hb2
          go_wp2
          go_loopw [2, 3, 34] (fun v u iv wq => ∃ k : Nat, k ≤ l.length ∧ iv = .int .i64 k ∧ Hid (Two wq w.heap.size v u (mk (l.take k)).1 (mk (l.take k)).2) ∧ Hid (Below w.heap.size w wq)) (fun _ _ iv _ => l.length - (intOf iv).toNat)
          case atStart => exact ⟨0, Nat.zero_le _, rfl, Two.nil _ _, HB2⟩
          case round =>
            obtain ⟨k, hk, rfl, HT2, HB3⟩ := hrel
            by_cases hlt : k < l.length
            · have hlt' : (k : Int) < (l.length : Int) := by omega
              obtain ⟨b, off, x, y, rfl, hbl, HE, hc0, hc1⟩ := (HS.out.below HB3.out).elem hlt
              have hA0 : (wr.alloc (.cells #[.int .i64 x, .int .i64 y] 39)).cell? ⟨wr.heap.size, 0, none⟩ = some (.int .i64 x) := by rw [World.cell?_alloc_at _ _ _ _ rfl]; rfl
              have hA1 : (wr.alloc (.cells #[.int .i64 x, .int .i64 y] 39)).cell? ⟨wr.heap.size, 1, none⟩ = some (.int .i64 y) := by rw [World.cell?_alloc_at _ _ _ _ rfl]; rfl
              have HBa : Hid (Below w.heap.size w (wr.alloc (.cells #[.int .i64 x, .int .i64 y] 39))) := HB3.out.alloc HB3.out.size _
              obtain ⟨⟨av, cv, hv⟩, ⟨au, cu, hu⟩⟩ := HT2.out.shape
              obtain ⟨np, HNp⟩ : ∃ np, Hid (np = (mk (l.take k)).1.length) := ⟨_, rfl⟩
              obtain ⟨nq, HNq⟩ : ∃ nq, Hid (nq = (mk (l.take k)).2.length) := ⟨_, rfl⟩
              rw [← HNp.out] at hv
              rw [← HNq.out] at hu
              subst hv; subst hu
              have HTa : Hid (Two (wr.alloc (.cells #[.int .i64 x, .int .i64 y] 39)) w.heap.size (.slice av np cv) (.slice au nq cu) (mk (l.take k)).1 (mk (l.take k)).2) := HT2.out.below ((Below.refl _ _).alloc (Nat.le_refl _) _)
              have HW : Hid (OnWay k (mk (l.take k)).1 (mk (l.take k)).2) := onWay_mk k (l.take k) (by rw [List.length_take]; omega)
              have HSt : Hid (put1 ((mk (l.take k)).1, (mk (l.take k)).2) (x, y) = mk (l.take (k + 1))) := by
                show _ = _
                have e : l.take (k + 1) = l.take k ++ [l.getD k (0, 0)] := by rw [List.take_succ_eq_append_getElem hlt]; simp [List.getD, List.getElem?_eq_getElem hlt]
                rw [e, mk_snoc, HE.out]
              obtain ⟨w3, HW3⟩ : ∃ w3, Hid (w3 = wr.alloc (.cells #[.int .i64 x, .int .i64 y] 39)) := ⟨_, rfl⟩
              go_wp2_with fail
              rw [← HW3.out]
              rw [← HW3.out] at hA0 hA1 HBa HTa
              refine (putPair_at (p := (mk (l.take k)).1) (q := (mk (l.take k)).2) _ _ x y w3 HTa.out HBa.out.size (HW.out.sml (by omega)).1 (HW.out.sml (by omega)).2 HW.out.len).mono ?_
              rintro e w4 ⟨v4, u4, rfl, hT4, hb4⟩
              have HT4 : Hid (Two w4 w.heap.size v4 u4 (mk (l.take (k + 1))).1 (mk (l.take (k + 1))).2) := by rw [← HSt.out]; exact hT4
              have HB4 : Hid (Below w.heap.size w w4) := HBa.out.trans hb4
              clear hT4 hb4
              go_wp2
              go_roundw
              case rel => exact ⟨k + 1, by omega, by go_num, HT4, HB4⟩
              case measure => simp [intOf]; omega
            · obtain rfl : k = l.length := by omega
              have HE : Hid (Two wr w.heap.size u2 u3 p q) := by
                have := HT2.out
                rw [List.take_length] at this
                rw [HF.out.2.1, HF.out.2.2]; exact this
              go_wp2
              go_ret3
              exact ⟨_, _, by rw [HF.out.1]; rfl, HE.out, HB3.out⟩
        · have HOd : Hid (¬ Ordered l) := ho
          have HF : Hid (c = 1 ∧ p = [] ∧ q = []) := by
            have h1 : c = 1 := HC.out.uniq (Or.inr (Or.inr ⟨h40', fun h => ho h.2, rfl⟩))
            have := HPQ.out
            rw [h1, if_neg (by omega), if_neg (by omega)] at this
            exact ⟨h1, this⟩
          clear ho
          go_wp2_with fail
          refine (IsSortedP_at (t := false) _ _ _ l _ (HS.out.below HB.out) rfl (Iff.intro (fun h => absurd h (by simp)) (fun h => absurd h HOd.out))).mono ?_
          rintro e w2 ⟨rfl, hb2⟩
          have HB2 : Hid (Below w.heap.size w w2) := HB.out.trans (hb2.mono HB.out.size)
          clear hb2
          go_wp2
          go_ret3
          exact ⟨_, _, by rw [HF.out.1]; rfl, by rw [HF.out.2.1, HF.out.2.2]; exact Two.nil _ _, HB2.out⟩

end Go.Proofs.Ytpbmcaoomcippad
