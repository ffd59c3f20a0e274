/-
  The contracts of perms.inOrder, perms.firstDescent, perms.swap, perms.Times.
-/
import Derived.Test.YtnjbkiegeielhabGDel
namespace Go.Proofs.Ytnjbkiegeielhab
open Go.RowKit

def orderL (n : Nat) : List Int := tab n (fun j => (j : Int) + 1)
def orderTo (k : Nat) : Nat → Int := fun j => if j < k then (j : Int) + 1 else 0

set_option maxHeartbeats 2000000 in
theorem inOrder_ok (n : Nat) (w : World) (h40 : n ≤ 40) :
    Calls Try.prog 43 #[.int .i64 (n : Int)] w fun e w' => ∃ v, e = .returned v ∧ Owns w' w.heap.size v (orderL n) ∧ Below w.heap.size w w' := by
  obtain ⟨i0, hi, hz0, hz1, hz2⟩ := info_parts Try.info3
  go_enter Try.func43, Try.ntmps43
  go_wp2_with (at_make; refine wpList_make_full _ rfl _ _ 22 rfl w.heap.size 3 i0 (.int .i64 0) 1 Try.underlying22 hi hz0 hz1 _ _ _ _ n rfl rfl rfl rfl ?b1 ?b2 ?b3 ?_)
  case b1 => rw [hz2]; omega
  case b2 => unfold maxLen; omega
  case b3 => exact Nat.le_refl _
  intro w1 hown hgrow
  have HB1 : Hid (Below w.heap.size w w1) := (Below.refl _ _).grown hgrow (Nat.le_refl _) (fun k h => by cases h)
  have HO1 : Hid (Owns w1 w.heap.size (.slice (some ⟨w.heap.size, 0, none⟩) n n) (tab n (orderTo 0))) := (owns_made hown).tabCongr (fun j _ => by simp [orderTo])
  clear hown hgrow
  go_wp2
  go_loopw [9] (fun i wr => ∃ k : Nat, k ≤ n ∧ i = .int .i64 k ∧ Hid (Owns wr w.heap.size (.slice (some ⟨w.heap.size, 0, none⟩) n n) (tab n (orderTo k))) ∧ Hid (Below w.heap.size w wr)) (fun i _ => n - (intOf i).toNat)
  case atStart => exact ⟨0, Nat.zero_le _, rfl, HO1, HB1⟩
  case round =>
    obtain ⟨k, hk, rfl, HO, HB⟩ := hrel
    by_cases hlt : k < n
    · have hlt' : (k : Int) < (n : Int) := by omega
      obtain ⟨hfz, hcz⟩ := HO.out.tabAt hlt
      obtain ⟨u, HU⟩ : ∃ u, Hid (u = orderTo k k) := ⟨_, rfl⟩
      rw [← HU.out] at hcz
      go_wp2
      go_roundw
      case rel => exact ⟨k + 1, by omega, by go_num, (HO.out.tabStore k ((k : Int) + 1)).tabCongr (fun j _ => by
                    unfold upd orderTo
                    by_cases e : j = k
                    · rw [if_pos e, if_pos (by omega), e]
                    · rw [if_neg e]
                      by_cases h : j < k
                      · rw [if_pos h, if_pos (by omega)]
                      · rw [if_neg h, if_neg (by omega)]), HB.out.setCell (Nat.le_refl _) _⟩
      case measure => simp [intOf]; omega
    · obtain rfl : k = n := by omega
      go_wp2
      go_ret
      exact ⟨_, rfl, HO.out.tabCongr (fun j hj => by unfold orderTo; rw [if_pos hj]), HB.out⟩

/-- The first descent, 0 if there is none. -/
def FD (zs : List Int) (d : Nat) : Prop := (∀ i, 1 ≤ i → i < d → zs.getD (i - 1) 0 ≤ zs.getD i 0) ∧ (d = 0 → ∀ i, 1 ≤ i → i < zs.length → zs.getD (i - 1) 0 ≤ zs.getD i 0) ∧ (0 < d → d < zs.length ∧ zs.getD d 0 < zs.getD (d - 1) 0)

theorem FD.uniq {zs : List Int} {d e : Nat} (h : FD zs d) (h2 : FD zs e) : d = e := by
  rcases Nat.eq_zero_or_pos d with h0 | h0
  · rcases Nat.eq_zero_or_pos e with h1 | h1
    · omega
    · have a := h2.2.2 h1
      have b := h.2.1 h0 e (by omega) a.1
      omega
  · have a := h.2.2 h0
    rcases Nat.eq_zero_or_pos e with h1 | h1
    · have b := h2.2.1 h1 d (by omega) a.1
      omega
    · have b := h2.2.2 h1
      rcases Nat.lt_trichotomy d e with h3 | h3 | h3
      · have := h2.1 d (by omega) h3; omega
      · exact h3
      · have := h.1 e (by omega) h3; omega
theorem FD_ex (zs : List Int) : ∃ d, FD zs d := by
  by_cases h : ∃ i, 1 ≤ i ∧ i < zs.length ∧ zs.getD i 0 < zs.getD (i - 1) 0
  · have : ∀ n, (1 ≤ n ∧ n < zs.length ∧ zs.getD n 0 < zs.getD (n - 1) 0) → ∃ k, (1 ≤ k ∧ k < zs.length ∧ zs.getD k 0 < zs.getD (k - 1) 0) ∧ ∀ j, 1 ≤ j → j < k → ¬ zs.getD j 0 < zs.getD (j - 1) 0 := by
      intro n
      induction n using Nat.strongRecOn with
      | _ n ih =>
        intro hn
        by_cases h : ∃ j, j < n ∧ (1 ≤ j ∧ j < zs.length ∧ zs.getD j 0 < zs.getD (j - 1) 0)
        · obtain ⟨j, hj, hq⟩ := h
          exact ih j hj hq
        · exact ⟨n, hn, fun j h1 h2 h3 => h ⟨j, h2, h1, by omega, h3⟩⟩
    obtain ⟨i, hi⟩ := h
    obtain ⟨k, hk, hk2⟩ := this i hi
    exact ⟨k, fun j h1 h2 => by have := hk2 j h1 h2; omega, fun h => by omega, fun _ => ⟨hk.2.1, hk.2.2⟩⟩
  · refine ⟨0, fun i h1 h2 => by omega, fun _ i h1 h2 => ?_, fun h => by omega⟩
    apply Int.not_lt.1
    intro h3
    exact h ⟨i, h1, h2, h3⟩

set_option maxHeartbeats 2000000 in
theorem firstDescent_any (a : Option Addr) (n cap : Nat) (zs : List Int) (d : Nat) (w : World) (hs : Shows w a zs) (hn : n = zs.length) (h40 : zs.length ≤ 40) (hd : FD zs d) :
    Calls Try.prog 47 #[.slice a n cap] w fun e w' => e = .returned (.int .i64 (d : Nat)) ∧ ∃ n, w' = w.drewN n := by
  subst hn
  have HD : Hid (FD zs d) := hd
  clear hd
  go_enter Try.func47, Try.ntmps47
  go_wp2
  go_loopw [3] (fun i wr => ∃ k : Nat, 1 ≤ k ∧ (k ≤ 1 ∨ k ≤ zs.length) ∧ i = .int .i64 k ∧ Hid (∀ i, 1 ≤ i → i < k → zs.getD (i - 1) 0 ≤ zs.getD i 0) ∧ ∃ n, wr = w.drewN n) (fun i _ => zs.length - (intOf i).toNat)
  case atStart => exact ⟨1, Nat.le_refl _, Or.inl (Nat.le_refl _), rfl, fun i h1 h2 => by omega, 0, rfl⟩
  case round =>
    obtain ⟨k, hk1, hk2, rfl, HR, n0, rfl⟩ := hrel
    have HK2 : Hid (k ≤ 1 ∨ k ≤ zs.length) := hk2
    clear hk2
    by_cases hlt : k < zs.length
    · have hlt' : (k : Int) < (zs.length : Int) := by omega
      obtain ⟨k1, hk1'⟩ : ∃ k1, k1 = k - 1 := ⟨_, rfl⟩
      have hw1 : IntKind.i64.wrap ((k : Int) - 1) = (k1 : Int) := by rw [IntWalk.i64_left, IntWalk.wrap64_in _ (by omega)]; omega
      obtain ⟨b, off, z, y, rfl, HZ, HY, hz1, hz2, hy1, hy2, hc, hcy⟩ := hs.elem2 hlt (show k1 < zs.length by omega)
      have hk1l : (k1 : Int) < (zs.length : Int) := by omega
      have HK1 : Hid (k1 = k - 1) := hk1'
      clear hk1'
      by_cases hzy : z < y
      · have hb : decide (y > z) = true := by simpa using hzy
        have HE : Hid (d = k) := by
          apply HD.out.uniq
          refine ⟨HR.out, fun h => by omega, fun _ => ⟨hlt, ?_⟩⟩
          have h1 := HZ.out; have h2 := HY.out; rw [HK1.out] at h2; omega
        obtain rfl := HE.out
        go_wp2_with fail
        go_quiet (fail)
        go_wp2
        go_ret
        exact ⟨rfl, _, by first | exact rfl | exact drewN_two _ _ _⟩
      · have hb : decide (y > z) = false := by simpa using hzy
        have HE : Hid (y ≤ z) := by show _ ≤ _; omega
        clear hzy
        go_wp2_with fail
        go_quiet (fail)
        go_wp2
        go_roundw
        case rel => exact ⟨k + 1, by omega, by omega, by go_num, fun i h1 h2 => by
                      by_cases e : i < k
                      · exact HR.out i h1 e
                      · obtain rfl : i = k := by omega
                        have h3 := HZ.out; have h4 := HY.out; rw [HK1.out] at h4; have := HE.out; omega, _, by first | exact rfl | exact drewN_two _ _ _⟩
        case measure => simp [intOf]; omega
    · have hdl : decide ((k : Int) < (zs.length : Int)) = false := by simp; omega
      have HE : Hid (d = 0) := by
        apply HD.out.uniq
        refine ⟨fun i h1 h2 => by omega, fun _ i h1 h2 => HR.out i h1 (by omega), fun h => by omega⟩
      obtain rfl := HE.out
      go_wp2
      go_ret
      exact ⟨rfl, n0, rfl⟩

/-- What stands at the places k and k + 1 (from 0 on) changes places. -/
def swapAt (k : Nat) (zs : List Int) : List Int := (zs.set k (zs.getD (k + 1) 0)).set (k + 1) (zs.getD k 0)
theorem swapAt_len (k : Nat) (zs : List Int) : (swapAt k zs).length = zs.length := by simp [swapAt]
theorem swapAt_getD (k : Nat) (zs : List Int) (j : Nat) (hj : j < zs.length) : (swapAt k zs).getD j 0 = if j = k then zs.getD (k + 1) 0 else if j = k + 1 then zs.getD k 0 else zs.getD j 0 := by
  unfold swapAt
  rw [set_getD _ _ _ _ (by simpa using hj)]
  by_cases h1 : j = k + 1
  · rw [if_pos h1, if_neg (by omega), if_pos h1]
  · rw [if_neg h1, set_getD _ _ _ _ hj]
    by_cases h2 : j = k
    · rw [if_pos h2, if_pos h2]
    · rw [if_neg h2, if_neg h2, if_neg h1]

set_option maxHeartbeats 2000000 in
theorem swap_own (g n cap base : Nat) (k : Nat) (zs : List Int) (w : World) (hO : Owns w base (.slice (some ⟨g, 0, none⟩) n cap) zs) (hn : Hid (n = zs.length)) (hk : k + 1 < n) (h40 : n ≤ 40) :
    Calls Try.prog 48 #[.slice (some ⟨g, 0, none⟩) n cap, .int .i64 ((k : Int) + 1)] w fun e w' => e = .returned (.tuple #[]) ∧ Owns w' base (.slice (some ⟨g, 0, none⟩) n cap) (swapAt k zs) ∧ Below base w w' ∧ But g w w' := by
  obtain ⟨hbg, hfz, hcl⟩ := hO.at hn.out
  have h1 := hcl k (by have := hn.out; omega)
  have h2 := hcl (k + 1) (by have := hn.out; omega)
  have f1 := hfz k
  have f2 := hfz (k + 1)
  obtain ⟨k1, hk1⟩ : ∃ k1, k1 = k + 1 := ⟨_, rfl⟩
  rw [← hk1] at h2 f2
  have hii : (k : Int) + 1 = (k1 : Int) := by omega
  have hw1 : IntKind.i64.wrap ((k1 : Int) - 1) = (k : Int) := by rw [IntWalk.i64_left, IntWalk.wrap64_in _ (by omega)]; omega
  have HO : Hid (Owns w base (.slice (some ⟨g, 0, none⟩) n cap) zs) := hO
  have HB0 : Hid (Below base w w) := Below.refl _ _
  have b1 : (k : Int) < (n : Int) := by omega
  have b2 : (k1 : Int) < (n : Int) := by omega
  have hne : ¬ k = k1 := by omega
  have hne' : ¬ k1 = k := by omega
  obtain ⟨x, HX⟩ : ∃ x, Hid (x = zs.getD k 0) := ⟨_, rfl⟩
  obtain ⟨y, HY⟩ : ∃ y, Hid (y = zs.getD (k + 1) 0) := ⟨_, rfl⟩
  rw [← HX.out] at h1
  rw [hk1, ← HY.out, ← hk1] at h2
  have HK1 : Hid (k1 = k + 1) := hk1
  rw [hii]
  clear hii hk1 hO hcl hfz
  go_enter Try.func48, Try.ntmps48
  go_wp2_with fail
  go_region
  go_end0
  refine ⟨rfl, ?_, ((HB0.out.setCell hbg _).setCell hbg _).trans (below_drewN (Below.refl _ _) 1), ((HO.out.but hn.out k y).trans ((HO.out.store hn.out k y).but (by simpa using hn.out) k1 x)).trans (but_drewN g _ 1)⟩
  have h3 := (HO.out.store hn.out k y).store (by simpa using hn.out) k1 x
  have h4 : Owns ((w.setCell ⟨g, k, none⟩ (.int .i64 y)).setCell ⟨g, k1, none⟩ (.int .i64 x)).drew base (.slice (some ⟨g, 0, none⟩) n cap) ((zs.set k y).set k1 x) := h3.below (below_drewN (Below.refl _ _) 1)
  unfold swapAt
  rw [← HX.out, ← HY.out, ← HK1.out]; exact h4

/-- The product: at place i stands a(b(i)). -/
def timesF (xs ys : List Int) : Nat → Int := fun i => xs.getD ((ys.getD i 0).toNat - 1) 0
def timesL (xs ys : List Int) : List Int := tab ys.length (timesF xs ys)
def timesTo (xs ys : List Int) (k : Nat) : Nat → Int := fun i => if i < k then timesF xs ys i else 0

set_option maxHeartbeats 2000000 in
theorem Times_ok (a b : Option Addr) (ca cb : Nat) (xs ys : List Int) (w : World) (hs : Shows w a xs) (ht : Shows w b ys) (hx : IsPerm xs) (hy : IsPerm ys) (hl : xs.length = ys.length) :
    Calls Try.prog 21 #[.slice a xs.length ca, .slice b ys.length cb] w fun e w' => ∃ v, e = .returned (.tuple #[v, .int .i64 0]) ∧ Owns w' w.heap.size v (timesL xs ys) ∧ Below w.heap.size w w' := by
  have E : Hid (two xs ys = 0) := two_ok.2 ⟨hx, hy, hl⟩
  have h40 := hy.len
  have HY : Hid (IsPerm ys) := hy
  have HL : Hid (xs.length = ys.length) := hl
  clear hx hy hl
  obtain ⟨i0, hi, hz0, hz1, hz2⟩ := info_parts Try.info3
  go_enter Try.func21, Try.ntmps21
  go_wp2_with fail
  refine (checkTwo_is _ _ _ _ _ _ _ _ _ hs ht rfl rfl E).mono ?_
  rintro e w0 ⟨rfl, hb0⟩
  have HB0 : Hid (Below w.heap.size w w0) := hb0
  clear hb0
  go_wp2_with (at_make; refine wpList_make_full _ rfl _ _ 22 rfl w.heap.size 3 i0 (.int .i64 0) 1 Try.underlying22 hi hz0 hz1 _ _ _ _ ys.length rfl rfl rfl rfl ?b1 ?b2 ?b3 ?_)
  case b1 => rw [hz2]; omega
  case b2 => unfold maxLen; omega
  case b3 => exact HB0.out.size
  intro w1 hown hgrow
  have HB1 : Hid (Below w.heap.size w w1) := HB0.out.grown hgrow HB0.out.size (fun k h => by cases h)
  obtain ⟨g, hg⟩ : ∃ g, g = w0.heap.size := ⟨_, rfl⟩
  have HG : Hid (w.heap.size ≤ g) := by show _ ≤ _; rw [hg]; exact HB0.out.size
  have HO1 : Hid (Owns w1 w.heap.size (.slice (some ⟨g, 0, none⟩) ys.length ys.length) (tab ys.length (timesTo xs ys 0))) := by rw [hg]; exact (owns_made hown).tabCongr (fun j _ => by simp [timesTo])
  rw [← hg]
  clear hown hgrow hg
  go_wp2
  go_loopw [21] (fun i wr => ∃ k : Nat, k ≤ ys.length ∧ i = .int .i64 k ∧ Hid (Owns wr w.heap.size (.slice (some ⟨g, 0, none⟩) ys.length ys.length) (tab ys.length (timesTo xs ys k))) ∧ Hid (Below w.heap.size w wr)) (fun i _ => ys.length - (intOf i).toNat)
  case atStart => exact ⟨0, Nat.zero_le _, rfl, HO1, HB1⟩
  case round =>
    obtain ⟨k, hk, rfl, HO, HB⟩ := hrel
    by_cases hlt : k < ys.length
    · have hlt' : (k : Int) < (ys.length : Int) := by omega
      obtain ⟨b2, off, z, rfl, HZ, -, -, hc⟩ := (ht.below HB.out).elem hlt
      have hzb := HY.out.bounds hlt
      rw [← HZ.out] at hzb
      obtain ⟨j, rfl⟩ : ∃ j : Nat, z = (j : Int) + 1 := ⟨(z - 1).toNat, by omega⟩
      have hj : j < xs.length := by have := HL.out; omega
      have hj' : (j : Int) < (xs.length : Int) := by omega
      obtain ⟨b3, off3, x, rfl, HX, -, -, hcx⟩ := (hs.below HB.out).elem hj
      have hw1 : IntKind.i64.wrap ((j : Int) + 1 - 1) = (j : Int) := by rw [IntWalk.i64_left, IntWalk.wrap64_in _ (by omega)]; omega
      obtain ⟨hfz, hcz⟩ := HO.out.tabAt hlt
      obtain ⟨u, HU⟩ : ∃ u, Hid (u = timesTo xs ys k k) := ⟨_, rfl⟩
      rw [← HU.out] at hcz
      go_wp2
      go_roundw
      case rel => exact ⟨k + 1, by omega, by go_num, (HO.out.tabStore k x).tabCongr (fun i _ => by
                    unfold upd timesTo
                    by_cases e : i = k
                    · subst e
                      rw [if_pos rfl, if_pos (by omega)]
                      unfold timesF
                      rw [← HZ.out, show ((j : Int) + 1).toNat - 1 = j by omega, HX.out]
                    · rw [if_neg e]
                      by_cases h : i < k
                      · rw [if_pos h, if_pos (by omega)]
                      · rw [if_neg h, if_neg (by omega)]), HB.out.setCell HG.out _⟩
      case measure => simp [intOf]; omega
    · obtain rfl : k = ys.length := by omega
      go_wp2
      go_ret2
      exact ⟨_, rfl, HO.out.tabCongr (fun j hj => by unfold timesTo; rw [if_pos hj]), HB.out⟩

theorem Times_err (a b : Option Addr) (ca cb : Nat) (xs ys : List Int) (c : Int) (w : World) (hs : Shows w a xs) (ht : Shows w b ys) (h : two xs ys = c) (hc : (c != 0) = true) :
    Calls Try.prog 21 #[.slice a xs.length ca, .slice b ys.length cb] w fun e w' => e = .returned (.tuple #[.slice none 0 0, .int .i64 c]) ∧ Below w.heap.size w w' := by
  have E : Hid (two xs ys = c) := h
  clear h
  go_enter Try.func21, Try.ntmps21
  go_wp2_with fail
  refine (checkTwo_is _ _ _ _ _ _ _ _ _ hs ht rfl rfl E).mono ?_
  rintro e w' ⟨rfl, hb⟩
  go_wp2_with fail
  go_ret2
  exact ⟨rfl, hb⟩

/-- What Times answers. -/
def TimR (xs ys : List Int) (c : Int) (q : List Int) : Prop := two xs ys = c ∧ q = if c = 0 then timesL xs ys else []
theorem Times_at {xs ys q : List Int} {c : Int} (a b : Option Addr) (n m ca cb : Nat) (w : World) (hs : Shows w a xs) (ht : Shows w b ys) (hn : n = xs.length) (hm : m = ys.length) (hr : TimR xs ys c q) :
    Calls Try.prog 21 #[.slice a n ca, .slice b m cb] w fun e w' => ∃ v, e = .returned (.tuple #[v, .int .i64 c]) ∧ Owns w' w.heap.size v q ∧ Below w.heap.size w w' := by
  subst hn; subst hm
  obtain ⟨h, rfl⟩ := hr
  by_cases hc : c = 0
  · subst hc
    obtain ⟨hx, hy, hl⟩ := two_ok.1 h
    exact Times_ok a b ca cb xs ys w hs ht hx hy hl
  · rw [if_neg hc]
    exact (Times_err a b ca cb xs ys c w hs ht h (bne_iff_ne.2 hc)).mono fun e w' ⟨he, hw⟩ => ⟨_, he, World.ownsRow_nil _ _ _ _, hw⟩

end Go.Proofs.Ytnjbkiegeielhab
