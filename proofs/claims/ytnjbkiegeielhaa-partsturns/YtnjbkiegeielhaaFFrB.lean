/-
  The contract of parts.FromFrobenius: the lists are good.
-/
import Derived.Test.YtnjbkiegeielhaaFFr
namespace Go.Proofs.Ytnjbkiegeielhaa
open Go.RowKit

/-- Within round k, the rows below r done. -/
def ffMid (xs ys : List Int) (k r j : Nat) : Int := ffv xs ys k j + (if j = k then xs.getD k 0 + 1 else 0) + (if k < j ∧ j < r then 1 else 0)
theorem ffMid_start (xs ys : List Int) (k : Nat) : upd (ffv xs ys k) k (ffv xs ys k k + (xs.getD k 0 + 1)) = ffMid xs ys k (k + 1) := by
  funext j
  unfold ffMid upd
  by_cases h : j = k
  · subst h; rw [if_pos rfl, if_pos rfl, if_neg (by omega)]; omega
  · rw [if_neg h, if_neg h, if_neg (by omega)]; omega
theorem ffMid_step (xs ys : List Int) (k r : Nat) (hr : k < r) : upd (ffMid xs ys k r) r (ffMid xs ys k r r + 1) = ffMid xs ys k (r + 1) := by
  funext j
  unfold ffMid upd
  by_cases h : j = r
  · subst h; rw [if_pos rfl, if_neg (show ¬ (k < j ∧ j < j) by omega), if_pos (show k < j ∧ j < j + 1 by omega)]; omega
  · rw [if_neg h]
    by_cases h2 : k < j ∧ j < r
    · show _ + _ + (if k < j ∧ j < r then (1 : Int) else 0) = _
      rw [if_pos h2, if_pos (show k < j ∧ j < r + 1 by omega)]
    · show _ + _ + (if k < j ∧ j < r then (1 : Int) else 0) = _
      rw [if_neg h2, if_neg (show ¬ (k < j ∧ j < r + 1) by omega)]
theorem ffMid_end (xs ys : List Int) (k m : Nat) (hm : ys.getD k 0 = m) : ffMid xs ys k (k + m + 1) = ffv xs ys (k + 1) := by
  funext j
  unfold ffMid
  rw [ffv, hm]
  by_cases h : k < j ∧ j < k + m + 1
  · rw [if_pos h, if_pos (show k < j ∧ (j : Int) ≤ (k : Int) + (m : Int) by omega)]
  · rw [if_neg h, if_neg (show ¬ (k < j ∧ (j : Int) ≤ (k : Int) + (m : Int)) by omega)]
theorem ffv_bound (xs ys : List Int) (hx : ∀ i, 0 ≤ xs.getD i 0 ∧ xs.getD i 0 ≤ 40) : ∀ k j, 0 ≤ ffv xs ys k j ∧ ffv xs ys k j ≤ 42 * k := by
  intro k
  induction k with
  | zero => intro j; simp [ffv]
  | succ k ih => intro j; have h1 := ih j; have h2 := hx k; rw [ffv]; split <;> split <;> omega
theorem ffMid_bound (xs ys : List Int) (hx : ∀ i, 0 ≤ xs.getD i 0 ∧ xs.getD i 0 ≤ 40) (k r j : Nat) : 0 ≤ ffMid xs ys k r j ∧ ffMid xs ys k r j ≤ 42 * k + 42 := by
  have h1 := ffv_bound xs ys hx k j
  have h2 := hx k
  unfold ffMid; split <;> split <;> omega

theorem bound_of_sum {zs : List Int} (h : ∀ z ∈ zs, 0 ≤ z) (hs : sum zs ≤ 40) (i : Nat) : 0 ≤ zs.getD i 0 ∧ zs.getD i 0 ≤ 40 := by
  by_cases hi : i < zs.length
  · have h1 := h _ (getD_mem hi)
    have h2 := mem_le_sum h _ (getD_mem hi)
    omega
  · simp [List.getD, List.getElem?_eq_none (show zs.length ≤ i by omega)]

/-- A store into a table of the call's own. -/
theorem Owns.tabStore {w : World} {base g cap n : Nat} {f : Nat → Int} (h : Owns w base (.slice (some ⟨g, 0, none⟩) n cap) (tab n f)) (j : Nat) (x : Int) :
    Owns (w.setCell ⟨g, j, none⟩ (.int .i64 x)) base (.slice (some ⟨g, 0, none⟩) n cap) (tab n (upd f j x)) := by
  rw [← tab_set]; exact h.store (by rw [tab_length]) j x
theorem Owns.tabAt {w : World} {base g cap n : Nat} {f : Nat → Int} (h : Owns w base (.slice (some ⟨g, 0, none⟩) n cap) (tab n f)) {j : Nat} (hj : j < n) :
    base ≤ g ∧ w.frozen? ⟨g, j, none⟩ = false ∧ w.cell? ⟨g, j, none⟩ = some (.int .i64 (f j)) := by
  obtain ⟨h1, h2, h3⟩ := h.at (by rw [tab_length])
  refine ⟨h1, h2 j, ?_⟩
  rw [h3 j (by rw [tab_length]; exact hj), tab_getD _ _ _ hj]

set_option maxHeartbeats 4000000 in
theorem FF_ok (a b : Option Addr) (ca cb : Nat) (xs ys : List Int) (w : World) (hs : Shows w a xs) (ht : Shows w b ys) (h1 : xs.length = ys.length) (h2 : Goes 0 1 xs) (h3 : Goes 0 1 ys) (hL : (xs.length : Int) + sum xs + sum ys ≤ 40) :
    Calls Try.prog 15 #[.slice a xs.length ca, .slice b ys.length cb] w fun e w' => ∃ v, e = .returned (.tuple #[v, .int .i64 0]) ∧ Owns w' w.heap.size v (fromF xs ys) ∧ Below w.heap.size w w' := by
  obtain ⟨i0, hi, hz0, hz1, hz2⟩ := info_parts Try.info3
  have n1 := sum_nonneg h2.nonneg
  have n2 := sum_nonneg h3.nonneg
  have hl : xs.length ≤ 40 := by omega
  have hl2 : ys.length ≤ 40 := by omega
  have hb : ((xs.length : Int) != (ys.length : Int)) = false := by rw [h1]; simp
  have H2 : Hid (goesB 0 1 xs = true) := goesB_pos h2
  have H3 : Hid (goesB 0 1 ys = true) := goesB_pos h3
  have hrr := room_range xs (40 - xs.length) h2.nonneg (by omega) (by omega)
  have hneg : ¬ room (room (40 - xs.length) xs) ys < 0 := fun h => (room_two xs ys h2.nonneg h3.nonneg (40 - xs.length)).1 h (by omega)
  obtain ⟨R, HR⟩ : ∃ R, Hid (R = room (40 - xs.length) xs) := ⟨_, rfl⟩
  rw [← HR.out] at hrr hneg
  obtain ⟨S, HS⟩ : ∃ S, Hid (S = room R ys) := ⟨_, rfl⟩
  rw [← HS.out] at hneg
  have H4 : Hid _ := h2.nonneg
  have H5 : Hid _ := h3.nonneg
  have c1 : Hid (∀ w, Shows w a xs → Calls Try.prog 31 #[.int .i64 (40 - (xs.length : Int)), .slice a xs.length ca] w fun e w' => e = .returned (.int .i64 R) ∧ w' = w) := fun w hs => by
    rw [HR.out]; exact roomLeft_any _ _ _ _ _ hs H4.out (by omega) (by omega)
  have c2 : Hid (∀ w, Shows w b ys → Calls Try.prog 31 #[.int .i64 R, .slice b ys.length cb] w fun e w' => e = .returned (.int .i64 S) ∧ w' = w) := fun w ht => by
    rw [HS.out]; exact roomLeft_any _ _ _ _ _ ht H5.out (by omega) (by omega)
  have HXB : Hid (∀ i, 0 ≤ xs.getD i 0 ∧ xs.getD i 0 ≤ 40) := bound_of_sum H4.out (by omega)
  have HYB : Hid (∀ i, 0 ≤ ys.getD i 0 ∧ ys.getD i 0 ≤ 40) := bound_of_sum H5.out (by omega)
  have HF : Hid (Goes 0 1 ys) := h3
  have HLen : Hid (xs.length = ys.length) := h1
  clear h1 h2 h3
  by_cases hd : 0 < xs.length
  · obtain ⟨by0, offy, y0, rfl, HY0, -, -, hcy0⟩ := ht.elem (show 0 < ys.length by have := HLen.out; omega)
    rw [Nat.add_zero] at hcy0
    have hy0 := HYB.out 0
    rw [← HY0.out] at hy0
    obtain ⟨L, rfl⟩ : ∃ L : Nat, y0 = L := ⟨y0.toNat, by omega⟩
    have hL40 : L ≤ 40 := by omega
    have hdz : ((xs.length : Int) == 0) = false := beq_eq_false_iff_ne.2 (by omega)
    have hyp : (0 : Int) < (ys.length : Int) := by have := HLen.out; omega
    have hfall : Hid (∀ k, k < xs.length → ys.getD k 0 + k ≤ L) := fun k hk => by
      have := HF.out.fall k 0 (by have := HLen.out; omega)
      rw [Nat.zero_add, ← HY0.out] at this; exact this
    go_enter Try.func15, Try.ntmps15
    go_wp2_with fail
    refine (falls_is _ _ _ _ hs H2).mono ?_
    rintro e w' ⟨rfl, rfl⟩
    go_wp2_with fail
    refine (falls_is _ _ _ _ ht H3).mono ?_
    rintro e w'' ⟨rfl, rfl⟩
    go_wp2_with fail
    refine (c1.out _ hs).mono ?_
    rintro e w3 ⟨rfl, rfl⟩
    go_wp2_with fail
    refine (c2.out _ ht).mono ?_
    rintro e w ⟨rfl, rfl⟩
    go_wp2_with (at_make; refine wpList_make_full _ rfl _ _ 22 rfl w.heap.size 3 i0 (.int .i64 0) 1 Try.underlying22 hi hz0 hz1 _ _ _ _ (L + 1) rfl rfl (by omega) (by omega) ?b1 ?b2 ?b3 ?_)
    case b1 => rw [hz2]; omega
    case b2 => unfold maxLen; omega
    case b3 => exact Nat.le_refl _
    intro w1 hown hgrow
    have HB1 : Hid (Below w.heap.size w w1) := (Below.refl _ _).grown hgrow (Nat.le_refl _) (fun k h => by cases h)
    have HO1 : Hid (Owns w1 w.heap.size (.slice (some ⟨w.heap.size, 0, none⟩) (L + 1) (L + 1)) (tab (L + 1) (ffv xs ys 0))) := by
      show Owns _ _ _ _
      unfold Owns
      rw [tab_length]
      have e : (tab (L + 1) (ffv xs ys 0)).map (Value.int .i64) = (madeCells #[Value.int .i64 0] (L + 1)).toList := by
        rw [toList_madeCells_one]
        simp only [tab, List.map_map]
        rw [List.eq_replicate_iff]
        refine ⟨by simp, fun v hv => ?_⟩
        obtain ⟨j, _, rfl⟩ := List.mem_map.1 hv
        rfl
      rw [e]; simpa using hown
    clear hown hgrow
    go_wp2
    go_loopw [42] (fun i wr => ∃ k : Nat, k ≤ xs.length ∧ i = .int .i64 k ∧ Hid (Owns wr w.heap.size (.slice (some ⟨w.heap.size, 0, none⟩) (L + 1) (L + 1)) (tab (L + 1) (ffv xs ys k))) ∧ Hid (Below w.heap.size w wr)) (fun i _ => xs.length - (intOf i).toNat)
    case atStart => exact ⟨0, Nat.zero_le _, rfl, HO1, HB1⟩
    case round =>
      obtain ⟨k, hk, rfl, HK, HBk⟩ := hrel
      by_cases hlt : k < xs.length
      · obtain ⟨bx, offx, x, rfl, HX, -, -, hcx⟩ := (hs.below HBk.out).elem hlt
        have hlty : k < ys.length := by have := HLen.out; omega
        obtain ⟨by1, offy1, y, hbo, HY, -, -, hcy⟩ := (ht.below HBk.out).elem hlty
        simp only [Option.some.injEq, Addr.mk.injEq, and_true] at hbo
        obtain ⟨rfl, rfl⟩ := hbo
        have hx := HXB.out k
        rw [← HX.out] at hx
        obtain ⟨hx1, hx2⟩ := hx
        have hy := HYB.out k
        rw [← HY.out] at hy
        obtain ⟨m, rfl⟩ : ∃ m : Nat, y = m := ⟨y.toNat, by omega⟩
        have hfk := hfall.out k hlt
        rw [← HY.out] at hfk
        have hkm : k + m ≤ L := by omega
        clear hfk hy
        have hltI : (k : Int) < (xs.length : Int) := by omega
        have hltyI : (k : Int) < (ys.length : Int) := by omega
        obtain ⟨-, hf0, hc0⟩ := HK.out.tabAt (show k < L + 1 by omega)
        have hfb := ffv_bound xs ys HXB.out k k
        obtain ⟨z, HZ⟩ : ∃ z, Hid (z = ffv xs ys k k) := ⟨_, rfl⟩
        rw [← HZ.out] at hc0 hfb
        obtain ⟨hzb1, hzb2⟩ := hfb
        have hk40 : k ≤ 40 := by omega
        have HM : Hid (Owns (wr.setCell ⟨w.heap.size, k, none⟩ (.int .i64 (z + (x + 1)))) w.heap.size (.slice (some ⟨w.heap.size, 0, none⟩) (L + 1) (L + 1)) (tab (L + 1) (ffMid xs ys k (k + 1)))) := by
          show Owns _ _ _ _
          have := HK.out.tabStore k (z + (x + 1))
          rw [HZ.out, HX.out, ffMid_start] at this
          rw [HZ.out, HX.out]; exact this
        have HBM : Hid (Below w.heap.size w (wr.setCell ⟨w.heap.size, k, none⟩ (.int .i64 (z + (x + 1))))) := HBk.out.setCell (Nat.le_refl _) _
        have hkL : (k : Int) < (L : Int) + 1 := by omega
        have hkLn : k < L + 1 := by omega
        go_wp2_with fail
        go_region
        go_wp2_with fail
        go_loopw [8] (fun i wq => ∃ r : Nat, k < r ∧ r ≤ k + m + 1 ∧ i = .int .i64 r ∧ Hid (Owns wq w.heap.size (.slice (some ⟨w.heap.size, 0, none⟩) (L + 1) (L + 1)) (tab (L + 1) (ffMid xs ys k r))) ∧ Hid (Below w.heap.size w wq)) (fun i _ => k + m + 1 - (intOf i).toNat)
        case atStart => exact ⟨k + 1, by omega, by omega, by go_num, HM, HBM.out.drew⟩
        case round =>
          obtain ⟨r, hr1, hr2, rfl, HQ, HBq⟩ := hrel
          have hcyq : wr.cell? ⟨by0, offy + k, none⟩ = some (.int .i64 (m : Int)) := by
            obtain ⟨b2, o2, y2, hbo, HY2, -, -, hc2⟩ := (ht.below HBq.out).elem hlty
            simp only [Option.some.injEq, Addr.mk.injEq, and_true] at hbo
            obtain ⟨rfl, rfl⟩ := hbo
            rw [hc2, HY2.out, ← HY.out]
          by_cases hrl : r ≤ k + m
          · obtain ⟨-, hf1, hc1⟩ := HQ.out.tabAt (show r < L + 1 by omega)
            have hmb := ffMid_bound xs ys HXB.out k r r
            obtain ⟨t, HT⟩ : ∃ t, Hid (t = ffMid xs ys k r r) := ⟨_, rfl⟩
            rw [← HT.out] at hc1 hmb
            obtain ⟨htb1, htb2⟩ := hmb
            have HS2 : Hid (Owns (wr.setCell ⟨w.heap.size, r, none⟩ (.int .i64 (t + 1))) w.heap.size (.slice (some ⟨w.heap.size, 0, none⟩) (L + 1) (L + 1)) (tab (L + 1) (ffMid xs ys k (r + 1)))) := by
              show Owns _ _ _ _
              have := HQ.out.tabStore r (t + 1)
              rw [HT.out, ffMid_step _ _ _ _ hr1] at this
              rw [HT.out]; exact this
            have hrI : (r : Int) ≤ (k : Int) + (m : Int) := by omega
            have hrL : (r : Int) < (L : Int) + 1 := by omega
            have hrLn : r < L + 1 := by omega
            go_wp2
            go_roundw
            case rel => exact ⟨r + 1, by omega, by omega, by go_num, HS2, HBq.out.setCell (Nat.le_refl _) _⟩
            case measure => simp [intOf]; omega
          · obtain rfl : r = k + m + 1 := by omega
            rw [ffMid_end _ _ _ _ HY.out.symm] at HQ
            have hrI : decide (((k + m + 1 : Nat) : Int) ≤ (k : Int) + (m : Int)) = false := by simp; omega
            go_wp2
            go_roundw
            case rel => exact ⟨k + 1, by omega, by go_num, HQ, HBq⟩
            case measure => simp [intOf]; omega
      · obtain rfl : k = xs.length := by omega
        go_wp2
        go_ret2
        refine ⟨_, rfl, ?_, HBk.out⟩
        unfold fromF
        rw [if_neg (by omega), ← HY0.out, show ((L : Int) + 1).toNat = L + 1 by omega]
        exact HK.out
  · have hx0 : xs = [] := List.eq_nil_of_length_eq_zero (by omega)
    have hy0 : ys = [] := List.eq_nil_of_length_eq_zero (by have := HLen.out; omega)
    have HE : Hid (fromF xs ys = []) := by show _ = _; unfold fromF; rw [if_pos (by omega)]
    have hdz : ((xs.length : Int) == 0) = true := beq_iff_eq.2 (by omega)
    clear hx0 hy0
    go_enter Try.func15, Try.ntmps15
    go_wp2_with fail
    refine (falls_is _ _ _ _ hs H2).mono ?_
    rintro e w' ⟨rfl, rfl⟩
    go_wp2_with fail
    refine (falls_is _ _ _ _ ht H3).mono ?_
    rintro e w'' ⟨rfl, rfl⟩
    go_wp2_with fail
    refine (c1.out _ hs).mono ?_
    rintro e w3 ⟨rfl, rfl⟩
    go_wp2_with fail
    refine (c2.out _ ht).mono ?_
    rintro e w ⟨rfl, rfl⟩
    go_wp2_with fail
    go_ret2
    exact ⟨_, rfl, by rw [HE.out]; exact World.ownsRow_nil _ _ _ _, Below.refl _ _⟩

/-- What FromFrobenius answers. -/
def FFR (xs ys : List Int) (c : Int) (q : List Int) : Prop :=
  (¬ (xs.length = ys.length ∧ Goes 0 1 xs ∧ Goes 0 1 ys) ∧ c = 1 ∧ q = []) ∨ (xs.length = ys.length ∧ Goes 0 1 xs ∧ Goes 0 1 ys ∧ ¬ (xs.length : Int) + sum xs + sum ys ≤ 40 ∧ c = 2 ∧ q = []) ∨
  (xs.length = ys.length ∧ Goes 0 1 xs ∧ Goes 0 1 ys ∧ (xs.length : Int) + sum xs + sum ys ≤ 40 ∧ c = 0 ∧ q = fromF xs ys)
theorem FromFrobenius_at {xs ys q : List Int} {c : Int} (a b : Option Addr) (n m ca cb : Nat) (w : World) (hs : Shows w a xs) (ht : Shows w b ys) (hn : n = xs.length) (hm : m = ys.length) (hr : FFR xs ys c q) :
    Calls Try.prog 15 #[.slice a n ca, .slice b m cb] w fun e w' => ∃ v, e = .returned (.tuple #[v, .int .i64 c]) ∧ Owns w' w.heap.size v q ∧ Below w.heap.size w w' := by
  subst hn; subst hm
  rcases hr with ⟨h, hc, hq⟩ | ⟨h1, h2, h3, h4, hc, hq⟩ | ⟨h1, h2, h3, h4, hc, hq⟩
  · rw [hc, hq]; exact (FF_arg a b ca cb xs ys w hs ht (fun hh => h ⟨hh.1, goesB_iff.1 hh.2.1, goesB_iff.1 hh.2.2⟩)).mono fun e w' ⟨he, hw⟩ => ⟨_, he, World.ownsRow_nil _ _ _ _, hw ▸ Below.refl _ _⟩
  · rw [hc, hq]; exact (FF_large a b ca cb xs ys w hs ht h1 h2 h3 h4).mono fun e w' ⟨he, hw⟩ => ⟨_, he, World.ownsRow_nil _ _ _ _, hw ▸ Below.refl _ _⟩
  · rw [hc, hq]; exact FF_ok a b ca cb xs ys w hs ht h1 h2 h3 h4

#print axioms FromFrobenius_at
end Go.Proofs.Ytnjbkiegeielhaa
