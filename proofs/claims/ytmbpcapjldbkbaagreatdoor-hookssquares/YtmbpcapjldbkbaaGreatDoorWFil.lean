/-
  The contract of hooks.Fillings; what is no partition.
-/
import Derived.Test.YtmbpcapjldbkbaaGreatDoorWStd
namespace Go.Proofs.YtmbpcapjldbkbaaGreatDoor
open Go.RowKit

set_option maxHeartbeats 2000000 in
theorem Conjugate_no (a : Option Addr) (n cap : Nat) (zs : List Int) (w : World) (hs : Shows w a zs) (hn : n = zs.length) (hp : ptC zs ≠ 0) :
    Calls Tryz.prog 44 #[.slice a n cap] w fun e w' => e = .returned (.tuple #[.slice none 0 0, .int .i64 (ptC zs)]) ∧ w' = w := by
  subst hn
  obtain ⟨k, HK⟩ : ∃ k, Hid (k = ptC zs) := ⟨_, rfl⟩
  rw [← HK.out] at hp ⊢
  have H1 := hid_w (PaCheck_any a cap zs w hs)
  rw [← HK.out] at H1
  have hk1 : (k == 0) = false := by simp [hp]
  have hk2 : (k != 0) = true := by simp [hp]
  clear hs
  go_enter Tryz.func44, Tryz.ntmps44
  go_wp2_with fail
  refine H1.out.mono ?_
  rintro e w1 ⟨rfl, hw1⟩
  obtain rfl := hw1
  go_wp2
  go_ret2
  exact ⟨rfl, rfl⟩

set_option maxHeartbeats 2000000 in
theorem HHooks_no (a : Option Addr) (n cap : Nat) (zs : List Int) (w : World) (hs : Shows w a zs) (hn : n = zs.length) (hp : ptC zs ≠ 0) :
    Calls Tryz.prog 12 #[.slice a n cap] w fun e w' => e = .returned (.tuple #[.slice none 0 0, .int .i64 (ptC zs)]) ∧ w' = w := by
  obtain ⟨k, HK⟩ : ∃ k, Hid (k = ptC zs) := ⟨_, rfl⟩
  have H1 := hid_w (Conjugate_no a n cap zs w hs hn hp)
  rw [← HK.out] at hp H1 ⊢
  have hk1 : (k == 0) = false := by simp [hp]
  have hk2 : (k != 0) = true := by simp [hp]
  clear hs hn
  go_enter Tryz.func12, Tryz.ntmps12
  go_wp2_with fail
  refine H1.out.mono ?_
  rintro e w1 ⟨rfl, hw1⟩
  obtain rfl := hw1
  go_wp2
  go_ret2
  exact ⟨rfl, rfl⟩

set_option maxHeartbeats 2000000 in
theorem HFil_no (a : Option Addr) (n cap : Nat) (most : Int) (zs : List Int) (w : World) (hs : Shows w a zs) (hn : n = zs.length) (hp : ptC zs ≠ 0) :
    Calls Tryz.prog 14 #[.slice a n cap, .int .i64 most] w fun e w' => e = .returned (.tuple #[.string ⟨#[]⟩, .int .i64 (ptC zs)]) ∧ w' = w := by
  obtain ⟨k, HK⟩ : ∃ k, Hid (k = ptC zs) := ⟨_, rfl⟩
  have H1 := hid_w (HHooks_no a n cap zs w hs hn hp)
  rw [← HK.out] at hp H1 ⊢
  have hk1 : (k == 0) = false := by simp [hp]
  have hk2 : (k != 0) = true := by simp [hp]
  clear hs hn
  go_enter Tryz.func14, Tryz.ntmps14
  go_wp2_with fail
  refine H1.out.mono ?_
  rintro e w1 ⟨rfl, hw1⟩
  obtain rfl := hw1
  go_wp2
  go_ret2
  exact ⟨rfl, rfl⟩

set_option maxHeartbeats 2000000 in
theorem HFil_arg (a : Option Addr) (n cap : Nat) (most : Int) (zs : List Int) (w : World) (hs : Shows w a zs) (hn : n = zs.length) (hp : IsPt zs) (hm : most < 0 ∨ 99 < most) :
    Calls Tryz.prog 14 #[.slice a n cap, .int .i64 most] w fun e w' => e = .returned (.tuple #[.string ⟨#[]⟩, .int .i64 1]) ∧ Below w.heap.size w w' := by
  have H1 : Hid (Calls Tryz.prog 12 #[.slice a n cap] w fun e w' => ∃ a1 c1, e = .returned (.tuple #[.slice a1 n c1, .int .i64 0]) ∧ Hid (Table w' a1 (castT (hkR zs))) ∧ Hid (Below w.heap.size w w')) := hooks_tab hp a n cap w hs hn
  clear hs hn hp
  go_enter Tryz.func14, Tryz.ntmps14
  go_wp2_with fail
  refine H1.out.mono ?_
  rintro e w1 ⟨a1, c1, rfl, HT1, HB1⟩
  by_cases h0 : most < 0
  · clear hm
    go_wp2
    go_ret2
    exact ⟨rfl, HB1.out⟩
  · have h1 : most > 99 := by omega
    clear hm
    go_wp2
    go_ret2
    exact ⟨rfl, HB1.out⟩

set_option maxHeartbeats 2000000 in
theorem HFil_zero (a : Option Addr) (n cap M : Nat) (zs : List Int) (w : World) (hs : Shows w a zs) (hn : n = zs.length) (hp : IsPt zs) (hM : M ≤ 99) (hlt : M < n) :
    Calls Tryz.prog 14 #[.slice a n cap, .int .i64 (M : Int)] w fun e w' => e = .returned (.tuple #[.string ⟨#[48]⟩, .int .i64 0]) ∧ Below w.heap.size w w' := by
  have H1 : Hid (Calls Tryz.prog 12 #[.slice a n cap] w fun e w' => ∃ a1 c1, e = .returned (.tuple #[.slice a1 n c1, .int .i64 0]) ∧ Hid (Table w' a1 (castT (hkR zs))) ∧ Hid (Below w.heap.size w w')) := hooks_tab hp a n cap w hs hn
  have g0 : ¬ ((M : Int) < 0) := by omega
  have g1 : ¬ ((M : Int) > 99) := by omega
  have g2 : (n : Int) > (M : Int) := by omega
  clear hs hn hp
  go_enter Tryz.func14, Tryz.ntmps14
  go_wp2_with fail
  refine H1.out.mono ?_
  rintro e w1 ⟨a1, c1, rfl, HT1, HB1⟩
  go_wp2
  go_ret2
  exact ⟨rfl, HB1.out⟩

/-- The factors, j of row i's laid. -/
def ctI (zs : List Int) (M i j : Nat) : List Nat := ((ctR zs M).take i).flatten ++ ((List.range (pF zs i)).map fun q => M + q - i).take j
theorem ctI_succ (zs : List Int) (M i : Nat) {j : Nat} (h : j < pF zs i) : ctI zs M i (j + 1) = ctI zs M i j ++ [M + j - i] := by
  unfold ctI
  rw [List.take_succ_eq_append_getElem (by simp; exact h), List.append_assoc]
  simp
theorem ctI_row (zs : List Int) (M : Nat) {i : Nat} (h : i < zs.length) : ctI zs M i (pF zs i) = ctI zs M (i + 1) 0 := by
  unfold ctI
  have hl : i < (ctR zs M).length := by simp [ctR]; exact h
  have e : ((List.range (pF zs i)).map fun q => M + q - i).take (pF zs i) = (List.range (pF zs i)).map fun q => M + q - i := List.take_of_length_le (by simp)
  rw [e, List.take_succ_eq_append_getElem hl, List.flatten_append]
  simp [ctR]
theorem ctI_full (zs : List Int) (M : Nat) : ctI zs M zs.length 0 = (ctR zs M).flatten := by
  unfold ctI
  rw [List.take_of_length_le (by simp [ctR])]
  simp
theorem ctI_len {zs : List Int} (h : IsPt zs) (M : Nat) {i j : Nat} (hj : j ≤ pF zs i) : (ctI zs M i j).length ≤ 1600 + 40 := by
  unfold ctI
  rw [List.length_append, List.length_take]
  have h1 : (((ctR zs M).take i).flatten).length ≤ (ctR zs M).flatten.length := by
    conv => rhs; rw [← List.take_append_drop i (ctR zs M), List.flatten_append, List.length_append]
    exact Nat.le_add_right _ _
  have h2 : ((ctR zs M).flatten.length : Int) = (szN zs : Int) := by
    unfold ctR szN hkR
    rw [len_rows (fun i j => M + j - i) (pF zs), len_rows (hkN zs) (pF zs)]
  have h3 := szN_le h
  have h4 := pF_le h i
  omega

set_option maxHeartbeats 4000000 in
set_option maxRecDepth 100000 in
theorem HFil_ok (a : Option Addr) (n cap M : Nat) (zs : List Int) (w : World) (hs : Shows w a zs) (hn : n = zs.length) (hp : IsPt zs) (hM : M ≤ 99) (hle : n ≤ M) (htab : Lib.TabIs Tryz.prog w "internal/strconv.uint64pow10" .u64 Lib.pow10Tab) :
    Calls Tryz.prog 14 #[.slice a n cap, .int .i64 (M : Int)] w fun e w' => e = .returned (.tuple #[.string ⟨(numT (tabsOf zs M).length).toArray⟩, .int .i64 0]) ∧ Below w.heap.size w w' := by
  obtain ⟨s, HS⟩ : ∃ s : ByteArray, Hid (s = ⟨(numT (tabsOf zs M).length).toArray⟩) := ⟨_, rfl⟩
  rw [← HS.out]
  obtain ⟨N, HN⟩ : ∃ N, Hid (N = szN zs) := ⟨_, rfl⟩
  have hN40 : N ≤ 40 := by rw [HN.out]; exact szN_le hp
  have HP : Hid (IsPt zs) := hp
  have HSh : Hid (Shows w a zs) := hs
  have HNn : Hid (n = zs.length) := hn
  have hn40 : n ≤ 40 := by rw [hn]; exact hp.len
  have H1 : Hid (Calls Tryz.prog 12 #[.slice a n cap] w fun e w' => ∃ a1 c1, e = .returned (.tuple #[.slice a1 n c1, .int .i64 0]) ∧ Hid (Table w' a1 (castT (hkR zs))) ∧ Hid (Below w.heap.size w w')) := hooks_tab hp a n cap w hs hn
  have H2 : Hid (∀ W a1 c1, Table W a1 (castT (hkR zs)) → Calls Tryz.prog 45 #[.slice a1 n c1] W fun e w' => ∃ a2 c2, e = .returned (.slice a2 N c2) ∧ Hid (Shows w' a2 (castL (hkR zs).flatten)) ∧ Hid (Below W.heap.size W w')) := fun W a1 c1 ht => by rw [HN.out]; exact cat_hooks hp a1 n c1 W ht hn
  have HTab : Hid (∀ W, Below w.heap.size w W → Lib.TabIs Tryz.prog W "internal/strconv.uint64pow10" .u64 Lib.pow10Tab) := fun W hW => Lib.tabBelow_of_tabIs htab W hW
  have g0 : ¬ ((M : Int) < 0) := by omega
  have g1 : ¬ ((M : Int) > 99) := by omega
  have g2 : ¬ ((n : Int) > (M : Int)) := by omega
  have g3 : decide (M < n) = false := decide_eq_false (by omega)
  have g4 : decide ((M : Int) < (n : Int)) = false := decide_eq_false (by omega)
  clear hs hn hp htab
  go_enter Tryz.func14, Tryz.ntmps14
  go_wp2_with fail
  refine H1.out.mono ?_
  rintro e w1 ⟨a1, c1, rfl, HT1, HB1⟩
  have HTW : Hid (∀ W, Below w1.heap.size w1 W → Table W a1 (castT (hkR zs))) := fun W hW => HT1.out.below hW
  clear H1 HT1
  go_wp2_with fail
  go_loopw [8, 32] (fun fv iv wr => ∃ i : Nat, i ≤ n ∧ iv = .int .i64 (i : Int) ∧ Hid (Owns wr w1.heap.size fv (castL (ctI zs M i 0))) ∧ Hid (Below w1.heap.size w1 wr)) (fun _ iv _ => n - (intOf iv).toNat)
  case atStart => exact ⟨0, Nat.zero_le _, rfl, by show Owns _ _ _ _; rw [show ctI zs M 0 0 = [] by simp [ctI]]; exact World.ownsRow_nil _ _ _ _, Below.refl _ _⟩
  case round =>
    obtain ⟨i, hi, rfl, HO, HB⟩ := hrel
    have HBw : Hid (Below w.heap.size w wr) := HB1.out.trans (HB.out.mono HB1.out.size)
    by_cases hlt : i < n
    · have hlt' : (i : Int) < (n : Int) := by omega
      have hiz : i < zs.length := by rw [← HNn.out]; exact hlt
      obtain ⟨b1, o1, z, ha, HZ, hz1, hz2, hcz⟩ := (HSh.out.below HBw.out).elem (k := i) hiz
      subst ha
      obtain ⟨p, HPp⟩ : ∃ p, Hid (p = pF zs i) := ⟨_, rfl⟩
      have hzp : z = (p : Int) := by rw [HZ.out, HPp.out, pF_cast HP.out]
      subst hzp
      have hp40 : p ≤ 40 := by rw [HPp.out]; exact pF_le HP.out i
      clear HBw
      go_wp2_with fail
      go_loopw [8, 38] (fun fv jv wr => ∃ j : Nat, j ≤ p ∧ jv = .int .i64 (j : Int) ∧ Hid (Owns wr w1.heap.size fv (castL (ctI zs M i j))) ∧ Hid (Below w1.heap.size w1 wr)) (fun _ jv _ => p - (intOf jv).toNat)
      case atStart => exact ⟨0, Nat.zero_le _, rfl, HO, HB⟩
      case round =>
        clear HO HB hcz
        obtain ⟨j, hj, rfl, HO, HB⟩ := hrel
        by_cases hltj : j < p
        · have hltj' : (j : Int) < (p : Int) := by omega
          obtain ⟨x, HX⟩ : ∃ x, Hid (x = M + j - i) := ⟨_, rfl⟩
          have e1 : (M : Int) + (j : Int) - (i : Int) = (x : Int) := by rw [HX.out]; omega
          have hx : x ≤ 1000 := by rw [HX.out]; omega
          have HLl : Hid ((castL (ctI zs M i j)).length ≤ 2000) := by show _ ≤ _; rw [castL_len]; have := ctI_len HP.out M (i := i) (j := j) (by rw [← HPp.out]; omega); omega
          have HOv := hid_w (vals_of_owns HO.out)
          obtain ⟨xs, HXs⟩ : ∃ xs, Hid (xs = (castL (ctI zs M i j)).map (Value.int .i64)) := ⟨_, rfl⟩
          have HXl : Hid (xs.length ≤ 2000) := by show _ ≤ _; rw [HXs.out, List.length_map]; exact HLl.out
          rw [← HXs.out] at HOv
          go_wp2_with (at_builtin; refine append_one elem_int (x := .int .i64 (x : Int)) rfl _ _ rfl rfl rfl (by first | rfl | simp) HOv.out rfl ?c3 ?c4 ?c5 ?_)
          case c3 => have := HXl.out; unfold maxLen; omega
          case c4 => have := HXl.out; omega
          case c5 => exact HB.out.size
          intro v2 w3 hO3 hb3 hk3
          have HO4 : Hid (Owns w3 w1.heap.size v2 (castL (ctI zs M i (j + 1)))) := by
            show Owns _ _ _ _
            rw [ctI_succ zs M i (by rw [← HPp.out]; exact hltj), castL_app, ← HX.out]
            rw [HXs.out] at hO3
            exact owns_of_vals (by simpa using hO3)
          have HB4 : Hid (Below w1.heap.size w1 w3) := HB.out.trans hb3
          clear hO3 hb3 hk3
          go_wp2
          go_roundw
          case rel => exact ⟨j + 1, by omega, by go_num, HO4, HB4⟩
          case measure => simp [intOf]; omega
        · obtain rfl : j = p := by omega
          have HO5 : Hid (Owns wr w1.heap.size u8 (castL (ctI zs M (i + 1) 0))) := by
            have h := HO.out
            rw [HPp.out, ctI_row zs M hiz] at h
            exact h
          go_wp2
          go_roundw
          case rel => exact ⟨i + 1, by omega, by go_num, HO5, HB⟩
          case measure => simp [intOf]; omega
    · obtain rfl : i = n := by omega
      have hO := HO.out
      rw [HNn.out, ctI_full] at hO
      obtain ⟨a8, c8, hv8, hs8⟩ := hO.shows (by rw [castL_len, ← ctI_full]; have := ctI_len HP.out M (i := zs.length) (j := 0) (Nat.zero_le _); omega) (fun z hz => by
        have := castL_lt (b := 1000) (l := (ctR zs M).flatten) (fun y hy => (ctR_le HP.out (by rw [← HNn.out]; exact hle) hM y hy).2) z hz
        omega)
      obtain ⟨n8, HN8⟩ : ∃ n8, Hid (n8 = (ctR zs M).flatten.length) := ⟨_, rfl⟩
      rw [castL_len, ← HN8.out] at hv8
      subst hv8
      have H2c := hid_w (H2.out wr a1 c1 (HTW.out wr HB.out))
      have HQ : Hid (∀ W a2 c2, Below wr.heap.size wr W → Shows W a2 (castL (hkR zs).flatten) → Calls Tryz.prog 46 #[.slice a8 n8 c8, .slice a2 N c2] W fun e w' => e = .returned (.string s) ∧ Hid (Below W.heap.size W w')) := fun W a2 c2 hW hs2 => by
        have hlk : (hkR zs).flatten.length ≤ 10000 := by have : (hkR zs).flatten.length = N := HN.out.symm; omega
        have hl8 : (ctR zs M).flatten.length ≤ 10000 := by rw [← ctI_full]; have := ctI_len HP.out M (i := zs.length) (j := 0) (Nat.zero_le _); omega
        have h := Quotient_at a8 a2 n8 c8 N c2 (ctR zs M).flatten (hkR zs).flatten W (hs8.below hW) hs2 HN8.out HN.out hl8 hlk (fun z hz => (ctR_le HP.out (by rw [← HNn.out]; exact hle) hM z hz).2) (hkR_le HP.out) (HTab.out W (HBw.out.trans (hW.mono HBw.out.size)))
        have e : pL (lows (hkR zs).flatten (ctR zs M).flatten) = (tabsOf zs M).length := by
          have h1 := fil_prod HP.out (M := M) (by rw [← HNn.out]; exact hle)
          have h2 := lows_prod (hkR zs).flatten (ctR zs M).flatten (hkR_pos zs) ⟨_, h1.symm⟩
          rw [← h1, Nat.mul_comm] at h2
          exact Nat.eq_of_mul_eq_mul_left (pL_pos (hkR_pos zs)) h2
        rw [e] at h
        rw [HS.out]; exact h
      clear hO hs8 H2 HO
      go_wp2_with fail
      refine H2c.out.mono ?_
      rintro e w5 ⟨a2, c2, rfl, HS5, HB5⟩
      have HQc := hid_w (HQ.out w5 a2 c2 HB5.out HS5.out)
      have HB6 : Hid (Below w.heap.size w w5) := HBw.out.trans (HB5.out.mono HBw.out.size)
      clear HQ H2c
      go_wp2_with fail
      refine HQc.out.mono ?_
      rintro e w6 ⟨rfl, HB7⟩
      have HB8 : Hid (Below w.heap.size w w6) := HB6.out.trans (HB7.out.mono HB6.out.size)
      go_wp2
      go_ret2
      exact ⟨rfl, HB8.out⟩

end Go.Proofs.YtmbpcapjldbkbaaGreatDoor
