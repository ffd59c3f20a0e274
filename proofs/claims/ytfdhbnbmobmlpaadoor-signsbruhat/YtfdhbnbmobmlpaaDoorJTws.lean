/-
  The contracts of signs.checkTwo, Below.
-/
import Derived.Test.YtfdhbnbmobmlpaaDoorJCor
namespace Go.Proofs.YtfdhbnbmobmlpaaDoor
open Go.RowKit

structure TwoE (ls ms : List (List Int)) (E : Int) : Prop where
  ok : SgL ls → SgL ms → ls.length = ms.length → E = 0
  bad : ¬ (SgL ls ∧ SgL ms) → E = 1
  shape : SgL ls → SgL ms → ls.length ≠ ms.length → E = 3
theorem two_ex (ls ms : List (List Int)) : ∃ E, TwoE ls ms E := by
  by_cases h1 : SgL ls ∧ SgL ms
  · by_cases h2 : ls.length = ms.length
    · exact ⟨0, (fun _ _ _ => rfl), (fun h => absurd h1 h), (fun _ _ h => absurd h2 h)⟩
    · exact ⟨3, (fun _ _ h => absurd h h2), (fun h => absurd h1 h), (fun _ _ _ => rfl)⟩
  · exact ⟨1, (fun a b _ => absurd ⟨a, b⟩ h1), (fun _ => rfl), (fun a b _ => absurd ⟨a, b⟩ h1)⟩
theorem one_ex (ls : List (List Int)) : ∃ E, Hid ((SgL ls → E = (0 : Int)) ∧ (¬ SgL ls → E = 1)) := by
  by_cases h1 : SgL ls
  · exact ⟨0, (fun _ => rfl), (fun h => absurd h1 h)⟩
  · exact ⟨1, (fun h => absurd h h1), (fun _ => rfl)⟩

set_option maxHeartbeats 2000000 in
theorem checkTwo_at (a b : Option Addr) (n m ca cb : Nat) (ls ms : List (List Int)) (w : World) (E : Int) (hs : Table w a ls) (ht : Table w b ms) (hn : n = ls.length) (hm : m = ms.length) (hl : ls.length ≤ 17592186044416) (hk : ms.length ≤ 17592186044416) (HE : Hid (TwoE ls ms E)) :
    Calls Tryd.prog 19 #[.slice a n ca, .slice b m cb] w fun e w' => e = .returned (.int .i64 E) ∧ Hid (Below w.heap.size w w') := by
  subst hn
  subst hm
  have HS : Hid (Table w a ls) := hs
  have HT : Hid (Table w b ms) := ht
  clear hs ht
  by_cases h1 : SgL ls
  · have HC1 : Hid (Calls Tryd.prog 27 #[.slice a ls.length ca] w fun e w' => e = .returned (.int .i64 0) ∧ Hid (Below w.heap.size w w')) := SgCheck_at a _ ca ls w 0 HS.out rfl hl ⟨fun _ => rfl, fun h => absurd h1 h⟩
    by_cases h2 : SgL ms
    · have HC2 : Hid (∀ W, Below w.heap.size w W → Calls Tryd.prog 27 #[.slice b ms.length cb] W fun e w' => e = .returned (.int .i64 0) ∧ Hid (Below W.heap.size W w')) := fun W hW => SgCheck_at b _ cb ms W 0 (HT.out.below hW) rfl hk ⟨fun _ => rfl, fun h => absurd h2 h⟩
      by_cases h3 : ls.length = ms.length
      · have hE : E = 0 := HE.out.ok h1 h2 h3
        subst hE
        have hne : ((ls.length : Int) != (ms.length : Int)) = false := by rw [h3]; simp
        clear h1 h2 h3
        go_enter Tryd.func19, Tryd.ntmps19
        go_wp2_with fail
        refine HC1.out.mono ?_
        rintro e w1 ⟨rfl, HB1⟩
        go_wp2_with fail
        refine (HC2.out w1 HB1.out).mono ?_
        rintro e w2 ⟨rfl, HB2⟩
        go_wp2
        go_ret
        exact ⟨rfl, HB1.out.trans (HB2.out.mono HB1.out.size)⟩
      · have hE : E = 3 := HE.out.shape h1 h2 h3
        subst hE
        have hne : ((ls.length : Int) != (ms.length : Int)) = true := by rw [bne_iff_ne]; omega
        clear h1 h2 h3
        go_enter Tryd.func19, Tryd.ntmps19
        go_wp2_with fail
        refine HC1.out.mono ?_
        rintro e w1 ⟨rfl, HB1⟩
        go_wp2_with fail
        refine (HC2.out w1 HB1.out).mono ?_
        rintro e w2 ⟨rfl, HB2⟩
        go_wp2
        go_ret
        exact ⟨rfl, HB1.out.trans (HB2.out.mono HB1.out.size)⟩
    · have HC2 : Hid (∀ W, Below w.heap.size w W → Calls Tryd.prog 27 #[.slice b ms.length cb] W fun e w' => e = .returned (.int .i64 1) ∧ Hid (Below W.heap.size W w')) := fun W hW => SgCheck_at b _ cb ms W 1 (HT.out.below hW) rfl hk ⟨fun h => absurd h h2, fun _ => rfl⟩
      have hE : E = 1 := HE.out.bad (fun h => h2 h.2)
      subst hE
      clear h1 h2
      go_enter Tryd.func19, Tryd.ntmps19
      go_wp2_with fail
      refine HC1.out.mono ?_
      rintro e w1 ⟨rfl, HB1⟩
      go_wp2_with fail
      refine (HC2.out w1 HB1.out).mono ?_
      rintro e w2 ⟨rfl, HB2⟩
      go_wp2
      go_ret
      exact ⟨rfl, HB1.out.trans (HB2.out.mono HB1.out.size)⟩
  · have HC1 : Hid (Calls Tryd.prog 27 #[.slice a ls.length ca] w fun e w' => e = .returned (.int .i64 1) ∧ Hid (Below w.heap.size w w')) := SgCheck_at a _ ca ls w 1 HS.out rfl hl ⟨fun h => absurd h h1, fun _ => rfl⟩
    have hE : E = 1 := HE.out.bad (fun h => h1 h.1)
    subst hE
    clear h1
    go_enter Tryd.func19, Tryd.ntmps19
    go_wp2_with fail
    refine HC1.out.mono ?_
    rintro e w1 ⟨rfl, HB1⟩
    go_wp2
    go_ret
    exact ⟨rfl, HB1⟩

theorem sg2_ok {n : Nat} {A B : Nat → Nat → Int} (p : Sg n A) (q : Sg n B) : TwoE (tz n n A) (tz n n B) 0 :=
  ⟨fun _ _ _ => rfl, fun h => absurd ⟨sg_list.2 p, sg_list.2 q⟩ h, fun _ _ h => absurd (by rw [tz_len, tz_len]) h⟩

set_option maxHeartbeats 2000000 in
theorem SgBelow_no (a b : Option Addr) (n m ca cb : Nat) (ls ms : List (List Int)) (w : World) (E : Int) (hs : Table w a ls) (ht : Table w b ms) (hn : n = ls.length) (hm : m = ms.length) (hl : ls.length ≤ 17592186044416) (hk : ms.length ≤ 17592186044416) (HE : Hid (TwoE ls ms E)) (h0 : (E != 0) = true) :
    Calls Tryd.prog 9 #[.slice a n ca, .slice b m cb] w fun e w' => e = .returned (.tuple #[.bool false, .int .i64 E]) ∧ Hid (Below w.heap.size w w') := by
  have HC1 : Hid (Calls Tryd.prog 19 #[.slice a n ca, .slice b m cb] w fun e w' => e = .returned (.int .i64 E) ∧ Hid (Below w.heap.size w w')) := checkTwo_at a b n m ca cb _ _ w E hs ht hn hm hl hk HE
  clear hs ht hn hm hl hk HE
  go_enter Tryd.func9, Tryd.ntmps9
  go_wp2_with fail
  refine HC1.out.mono ?_
  rintro e w1 ⟨rfl, HB1⟩
  go_wp2
  go_ret2
  exact ⟨rfl, HB1⟩

set_option maxHeartbeats 4000000 in
theorem SgBelow_ok (a b : Option Addr) (n m1 m2 ca cb : Nat) (A B : Nat → Nat → Int) (w : World) (t : Bool) (hs : Table w a (tz n n A)) (ht : Table w b (tz n n B)) (hm1 : m1 = n) (hm2 : m2 = n) (p : Sg n A) (q : Sg n B) (Ht : Hid (t = true ↔ Bel n A B)) :
    Calls Tryd.prog 9 #[.slice a m1 ca, .slice b m2 cb] w fun e w' => e = .returned (.tuple #[.bool t, .int .i64 0]) ∧ Hid (Below w.heap.size w w') := by
  have n7 := p.n7
  have HC1 : Hid (Calls Tryd.prog 19 #[.slice a m1 ca, .slice b m2 cb] w fun e w' => e = .returned (.int .i64 0) ∧ Hid (Below w.heap.size w w')) := checkTwo_at a b m1 m2 ca cb _ _ w 0 hs ht (by rw [tz_len]; exact hm1) (by rw [tz_len]; exact hm2) (by rw [tz_len]; omega) (by rw [tz_len]; omega) (sg2_ok p q)
  obtain ⟨N, HN⟩ : ∃ N, Hid (N = n + 1) := ⟨_, rfl⟩
  have hN8 : N ≤ 8 := by rw [HN.out]; omega
  have HC2 : Hid (∀ W, Below w.heap.size w W → Calls Tryd.prog 20 #[.slice a m1 ca] W fun e w' => ∃ gs, e = .returned (.slice (some ⟨W.heap.size, 0, none⟩) N N) ∧ Hid (Rez w' W.heap.size W.heap.size N N gs (cor A)) ∧ Hid (Below W.heap.size W w')) := fun W hW => by rw [HN.out]; exact corner_at a n m1 ca A W (hs.below hW) hm1 p
  have HC3 : Hid (∀ W, Below w.heap.size w W → Calls Tryd.prog 20 #[.slice b m2 cb] W fun e w' => ∃ gs, e = .returned (.slice (some ⟨W.heap.size, 0, none⟩) N N) ∧ Hid (Rez w' W.heap.size W.heap.size N N gs (cor B)) ∧ Hid (Below W.heap.size W w')) := fun W hW => by rw [HN.out]; exact corner_at b n m2 cb B W (ht.below hW) hm2 q
  clear hs ht p q hm1 hm2
  go_enter Tryd.func9, Tryd.ntmps9
  go_wp2_with fail
  refine HC1.out.mono ?_
  rintro e w1 ⟨rfl, HB1⟩
  go_wp2_with fail
  refine (HC2.out w1 HB1.out).mono ?_
  rintro e w2 ⟨gs, rfl, HR2, HB2⟩
  have HB3 : Hid (Below w.heap.size w w2) := HB1.out.trans (HB2.out.mono HB1.out.size)
  go_wp2_with fail
  refine (HC3.out w2 HB3.out).mono ?_
  rintro e w3 ⟨gs2, rfl, HR3, HBx⟩
  have HB4 : Hid (Below w.heap.size w w3) := HB3.out.trans (HBx.out.mono HB3.out.size)
  have HRa : Hid (Rez w3 w1.heap.size w1.heap.size N N gs (cor A)) := HR2.out.below HBx.out
  clear HC1 HC2 HC3 HR2 HB2 HB3 HBx HB1
  obtain ⟨R, HRr⟩ : ∃ R, Hid (R = w1.heap.size) := ⟨_, rfl⟩
  obtain ⟨R2, HRr2⟩ : ∃ R, Hid (R = w2.heap.size) := ⟨_, rfl⟩
  rw [← HRr.out] at HRa ⊢
  rw [← HRr2.out] at HR3 ⊢
  go_wp2
  go_loopw [25] (fun q wr => ∃ i : Nat, i ≤ N ∧ q = .int .i64 i ∧ Hid (∀ a, a < i → ∀ b, b < N → cor B a b ≤ cor A a b) ∧ wr = w3) (fun q _ => N - (intOf q).toNat)
  case atStart => exact ⟨0, Nat.zero_le _, rfl, fun a h => absurd h (by omega), rfl⟩
  case round =>
    obtain ⟨i, hi, rfl, HI, rfl⟩ := hrel
    by_cases hlt : i < N
    · have hlt' : (i : Int) < (N : Int) := by omega
      have ch := HRa.out.head hlt
      have ch2 := HR3.out.head hlt
      obtain ⟨g1, Hg1⟩ : ∃ g, Hid (g = gs i) := ⟨_, rfl⟩
      obtain ⟨g2, Hg2⟩ : ∃ g, Hid (g = gs2 i) := ⟨_, rfl⟩
      rw [← Hg1.out] at ch
      rw [← Hg2.out] at ch2
      go_wp2
      go_loopw [32] (fun q wr2 => ∃ j : Nat, j ≤ N ∧ q = .int .i64 j ∧ Hid (∀ b, b < j → cor B i b ≤ cor A i b) ∧ wr2 = wr) (fun q _ => N - (intOf q).toNat)
      case atStart => exact ⟨0, Nat.zero_le _, rfl, fun a h => absurd h (by omega), rfl⟩
      case round =>
        obtain ⟨j, hj, rfl, HJ, rfl⟩ := hrel
        by_cases hjl : j < N
        · have hjl' : (j : Int) < (N : Int) := by omega
          obtain ⟨cA, -, -, -⟩ := HRa.out.box hlt hjl
          obtain ⟨cB, -, -, -⟩ := HR3.out.box hlt hjl
          obtain ⟨x, HX⟩ : ∃ z, Hid (z = cor A i j) := ⟨_, rfl⟩
          obtain ⟨y, HY⟩ : ∃ z, Hid (z = cor B i j) := ⟨_, rfl⟩
          rw [← HX.out, ← Hg1.out] at cA
          rw [← HY.out, ← Hg2.out] at cB
          by_cases hxy : x < y
          · have htf : t = false := by
              cases ht : t with
              | false => rfl
              | true =>
                have h1 := HN.out
                have := Ht.out.1 ht i (by omega) j (by omega)
                rw [← HX.out, ← HY.out] at this
                omega
            subst htf
            go_wp2
            go_ret2
            exact ⟨rfl, HB4⟩
          · go_wp2
            go_roundw
            case rel => exact ⟨j + 1, by omega, by go_num, fun b hb => by
              by_cases e : b = j
              · subst e; rw [← HX.out, ← HY.out]; omega
              · exact HJ.out b (by omega), trivial⟩
            case measure => simp [intOf]; omega
        · obtain rfl : j = N := by omega
          go_wp2
          go_roundw
          case rel => exact ⟨i + 1, by omega, by go_num, fun a ha => by
            by_cases e : a = i
            · subst e; exact HJ.out
            · exact HI.out a (by omega), trivial⟩
          case measure => simp [intOf]; omega
    · obtain rfl : i = N := by omega
      have htt : t = true := Ht.out.2 (fun a ha b hb => HI.out a (by rw [HN.out]; omega) b (by rw [HN.out]; omega))
      subst htt
      go_wp2
      go_ret2
      exact ⟨rfl, HB4⟩

end Go.Proofs.YtfdhbnbmobmlpaaDoor
