/-
  The law ferlaw.SignsBounds.
-/
import Derived.Test.YtfpbccahmipliaaJBnd
namespace Go.Proofs.Ytfpbccahmipliaa
open Go.RowKit

theorem tz_succ (r c : Nat) (P : Nat → Nat → Int) : tz (r + 1) c P = tz r c P ++ [tab c (P r)] := by simp [tz, List.range_succ]
theorem tab_append (a b : Nat) (f : Nat → Int) : tab (a + b) f = tab a f ++ tab b (fun k => f (a + k)) := by
  unfold tab
  rw [List.range_add, List.map_append, List.map_map]
  rfl
theorem flat_tz (c : Nat) (P : Nat → Nat → Int) (hc : 0 < c) : ∀ r, (tz r c P).flatten = tab (r * c) fun k => P (k / c) (k % c)
  | 0 => by simp [tz, tab]
  | r + 1 => by
    rw [tz_succ, List.flatten_append, flat_tz c P hc r, Nat.succ_mul, tab_append]
    congr 1
    rw [List.flatten_cons, List.flatten_nil, List.append_nil]
    refine tab_congr (fun k hk => ?_)
    show P r k = P ((r * c + k) / c) ((r * c + k) % c)
    rw [Nat.mul_comm r c, Nat.mul_add_div hc, Nat.mul_add_mod, Nat.div_eq_of_lt hk, Nat.mod_eq_of_lt hk, Nat.add_zero]
theorem flat_all {N : Nat} {A B : Nat → Nat → Int} (hN : 0 < N) : (∀ k, k < N * N → B (k / N) (k % N) ≤ A (k / N) (k % N)) ↔ ∀ i, i < N → ∀ j, j < N → B i j ≤ A i j := by
  constructor
  · intro h i hi j hj
    have hk : i * N + j < N * N := by
      have := Nat.mul_le_mul_right N (show i + 1 ≤ N by omega)
      rw [Nat.succ_mul] at this
      omega
    have := h (i * N + j) hk
    rw [Nat.mul_comm i N, Nat.mul_add_div hN, Nat.mul_add_mod, Nat.div_eq_of_lt hj, Nat.mod_eq_of_lt hj, Nat.add_zero] at this
    exact this
  · intro h k hk
    exact h _ ((Nat.div_lt_iff_lt_mul hN).2 hk) _ (Nat.mod_lt _ hN)

set_option maxHeartbeats 1000000 in
theorem tabz_ok (a b : Option Addr) (ca cb n m : Nat) (w : World) (ls : List (List Int)) (hs : Table w a ls) (ht : Table w b ls) (hn : n = ls.length) (hm : m = ls.length) (hl : ls.length ≤ 17592186044416) :
    Calls Try.prog 12 #[.slice a n ca, .int .i64 0, .slice b m cb, .int .i64 0] w fun e w' => e = .returned (.bool true) ∧ ∃ n, w' = w.drewN n := by
  have HR : Hid (Calls Try.prog 19 #[.slice a n ca, .slice b m cb] w fun e w' => e = .returned (.bool true) ∧ ∃ n, w' = w.drewN n) := RowsL_r _ _ _ _ _ _ ls _ hs ht hn hm hl
  clear hs ht hn hm hl
  go_enter Try.func12, Try.ntmps12
  go_wp2_with (go_at_call 19; refine HR.out.mono ?_; rintro e w1 ⟨rfl, hd⟩)
  go_ret
  exact ⟨rfl, hd⟩

theorem fut {w w' : World} {Q : World → Prop} (h : ∀ W, Below w.heap.size w W → Q W) (hb : Below w.heap.size w w') : ∀ W, Below w'.heap.size w' W → Q W := fun W hW => h W (hb.trans (hW.mono hb.size))
theorem Sg.low {n : Nat} {P : Nat → Nat → Int} (p : Sg n P) : ∀ i, i < n → ∀ j, j < n → -9223372036854775808 ≤ P i j ∧ P i j ≤ 9223372036854775807 := fun _ hi _ hj => p.wide hi hj
theorem Kc.low {n : Nat} {c : Nat → Nat → Int} (k : Kc n c) : ∀ i, i < n + 1 → ∀ j, j < n + 1 → -9223372036854775808 ≤ c i j ∧ c i j ≤ 9223372036854775807 := fun i hi j hj => by have := k.bound7 (i := i) (j := j) (by omega) (by omega); omega

set_option maxHeartbeats 4000000 in
set_option maxRecDepth 100000 in
theorem sbounds_no (a b : Option Addr) (n m ca cb : Nat) (ls ms : List (List Int)) (w : World) (hs : Table w a ls) (ht : Table w b ms) (hn : n = ls.length) (hm : m = ms.length) (hl : ls.length ≤ 17592186044416) (hk : ms.length ≤ 17592186044416) (hno : ¬ (SgL ls ∧ SgL ms ∧ ls.length = ms.length)) :
    Calls Try.prog 3 #[.slice a n ca, .slice b m cb] w fun e w' => e = .returned (.bool true) ∧ Below w.heap.size w w' := by
  obtain ⟨E, hE⟩ := two_ex ls ms
  have HE : Hid (TwoE ls ms E) := hE
  have hE0 : (E != 0) = true := by
    by_cases h : SgL ls ∧ SgL ms
    · rw [hE.shape h.1 h.2 (fun e => hno ⟨h.1, h.2, e⟩)]; rfl
    · rw [hE.bad h]; rfl
  have HS : Hid (Table w a ls) := hs
  have HT : Hid (Table w b ms) := ht
  have HN : Hid (n = ls.length) := hn
  have HM : Hid (m = ms.length) := hm
  have HL : Hid (ls.length ≤ 17592186044416) := hl
  have HK : Hid (ms.length ≤ 17592186044416) := hk
  have C1 : Hid (∀ W, Below w.heap.size w W → Calls Try.prog 6 #[.slice a n ca, .slice b m cb] W fun e w' => e = .returned (.tuple #[.slice none 0 0, .int .i64 E]) ∧ Hid (Below W.heap.size W w')) := fun W hW => Meet_no a b n m ca cb ls ms W E (HS.out.below hW) (HT.out.below hW) hn hm hl hk HE hE0
  have C2 : Hid (∀ W, Below w.heap.size w W → Calls Try.prog 7 #[.slice a n ca, .slice b m cb] W fun e w' => e = .returned (.tuple #[.slice none 0 0, .int .i64 E]) ∧ Hid (Below W.heap.size W w')) := fun W hW => Join_no a b n m ca cb ls ms W E (HS.out.below hW) (HT.out.below hW) hn hm hl hk HE hE0
  have C3 : Hid (∀ W, Below w.heap.size w W → Calls Try.prog 8 #[.slice a n ca, .slice b m cb] W fun e w' => e = .returned (.tuple #[.bool false, .int .i64 E]) ∧ Hid (Below W.heap.size W w')) := fun W hW => SgBelow_no a b n m ca cb ls ms W E (HS.out.below hW) (HT.out.below hW) hn hm hl hk HE hE0
  have S1 : Hid (∀ t : Bool, (t = true ↔ SgL ls) → ∀ W, Below w.heap.size w W → Calls Try.prog 9 #[.slice a n ca] W fun e w' => e = .returned (.bool t) ∧ Hid (Below W.heap.size W w')) := fun t ht W hW => Signs_at a n ca ls W t (HS.out.below hW) hn hl ht
  have S2 : Hid (∀ t : Bool, (t = true ↔ SgL ms) → ∀ W, Below w.heap.size w W → Calls Try.prog 9 #[.slice b m cb] W fun e w' => e = .returned (.bool t) ∧ Hid (Below W.heap.size W w')) := fun t ht W hW => Signs_at b m cb ms W t (HT.out.below hW) hm hk ht
  have hnb : n ≤ 17592186044416 := by omega
  have hmb : m ≤ 17592186044416 := by omega
  have HNo : Hid (¬ (SgL ls ∧ SgL ms ∧ ls.length = ms.length)) := hno
  clear hs ht hn hm hl hk hno hE
  go_enter Try.func3, Try.ntmps3
  go_wp2_with fail
  refine (C1.out w (Below.refl _ _)).mono ?_
  rintro e w1 ⟨rfl, HB1⟩
  go_wp2_with fail
  refine (C2.out w1 HB1.out).mono ?_
  rintro e w2 ⟨rfl, Hb⟩
  have HB2 : Hid (Below w.heap.size w w2) := HB1.out.trans (Hb.out.mono HB1.out.size)
  clear Hb HB1
  go_wp2_with fail
  refine (C3.out w2 HB2.out).mono ?_
  rintro e w3 ⟨rfl, Hb⟩
  have HB3 : Hid (Below w.heap.size w w3) := HB2.out.trans (Hb.out.mono HB2.out.size)
  clear Hb HB2 C1 C2 C3
  by_cases h1 : SgL ls
  · have S1t := S1.out true ⟨fun _ => h1, fun _ => rfl⟩ w3 HB3.out
    by_cases h2 : SgL ms
    · have hlen : ls.length ≠ ms.length := fun e => HNo.out ⟨h1, h2, e⟩
      have hE3 : E = 3 := HE.out.shape h1 h2 hlen
      subst hE3
      have hne : ((n : Int) != (m : Int)) = true := by rw [bne_iff_ne]; have h3 := HN.out; have h4 := HM.out; omega
      have S2t := S2.out true ⟨fun _ => h2, fun _ => rfl⟩
      clear h1 h2 hlen
      go_wp2_with fail
      refine S1t.mono ?_
      rintro e w4 ⟨rfl, Hb⟩
      have HB4 : Hid (Below w.heap.size w w4) := HB3.out.trans (Hb.out.mono HB3.out.size)
      go_wp2_with fail
      refine (S2t w4 HB4.out).mono ?_
      rintro e w5 ⟨rfl, Hb2⟩
      have HB5 : Hid (Below w.heap.size w w5) := HB4.out.trans (Hb2.out.mono HB4.out.size)
      clear S1t S2t Hb Hb2 HB4 HB3
      go_wp2
      go_ret
      exact ⟨rfl, HB5.out⟩
    · have hE1 : E = 1 := HE.out.bad (fun h => h2 h.2)
      subst hE1
      have S2t := S2.out false ⟨(fun h => by cases h), (fun h => absurd h h2)⟩
      clear h1 h2
      go_wp2_with fail
      refine S1t.mono ?_
      rintro e w4 ⟨rfl, Hb⟩
      have HB4 : Hid (Below w.heap.size w w4) := HB3.out.trans (Hb.out.mono HB3.out.size)
      go_wp2_with fail
      refine (S2t w4 HB4.out).mono ?_
      rintro e w5 ⟨rfl, Hb2⟩
      have HB5 : Hid (Below w.heap.size w w5) := HB4.out.trans (Hb2.out.mono HB4.out.size)
      clear S1t S2t Hb Hb2 HB4 HB3
      go_wp2
      go_ret
      exact ⟨rfl, HB5.out⟩
  · have hE1 : E = 1 := HE.out.bad (fun h => h1 h.1)
    subst hE1
    have S1t := S1.out false ⟨(fun h => by cases h), (fun h => absurd h h1)⟩ w3 HB3.out
    clear h1
    go_wp2_with fail
    refine S1t.mono ?_
    rintro e w4 ⟨rfl, Hb⟩
    have HB4 : Hid (Below w.heap.size w w4) := HB3.out.trans (Hb.out.mono HB3.out.size)
    clear S1t Hb HB3
    go_wp2
    go_ret
    exact ⟨rfl, HB4.out⟩

set_option maxHeartbeats 8000000 in
set_option maxRecDepth 100000 in
theorem sbounds_ok (a b : Option Addr) (n ca cb : Nat) (A B : Nat → Nat → Int) (w : World) (hs : TableX w a (tz n n A)) (ht : TableX w b (tz n n B)) (p : Sg n A) (q : Sg n B) :
    Calls Try.prog 3 #[.slice a n ca, .slice b n cb] w fun e w' => e = .returned (.bool true) ∧ Below w.heap.size w w' := by
  obtain ⟨t, Ht⟩ : ∃ t : Bool, Hid (t = true ↔ Bel n A B) := by
    by_cases h : Bel n A B
    · exact ⟨true, (fun _ => h), (fun _ => rfl)⟩
    · exact ⟨false, (fun e => by cases e), (fun e => absurd e h)⟩
  have n1 := p.n1
  have n7 := p.n7
  have HP : Hid (Sg n A) := p
  have HQ : Hid (Sg n B) := q
  have HPm : Hid (Sg n (mee A B)) := p.mee q
  have HPj : Hid (Sg n (joi A B)) := p.joi q
  have HS : Hid (∀ W, Below w.heap.size w W → TableX W a (tz n n A)) := fun W hW => hs.below hW
  have HT : Hid (∀ W, Below w.heap.size w W → TableX W b (tz n n B)) := fun W hW => ht.below hW
  have C1 : Hid (∀ W, Below w.heap.size w W → Calls Try.prog 6 #[.slice a n ca, .slice b n cb] W fun e w' => ∃ g gs, e = .returned (.tuple #[.slice (some ⟨g, 0, none⟩) n n, .int .i64 0]) ∧ W.heap.size ≤ g ∧ Hid (Rez w' g g n n gs (mee A B)) ∧ Hid (Below W.heap.size W w')) := fun W hW => Meet_ok a b n n n ca cb A B W (HS.out W hW).table (HT.out W hW).table rfl rfl HP.out HQ.out
  have C2 : Hid (∀ W, Below w.heap.size w W → Calls Try.prog 7 #[.slice a n ca, .slice b n cb] W fun e w' => ∃ g gs, e = .returned (.tuple #[.slice (some ⟨g, 0, none⟩) n n, .int .i64 0]) ∧ W.heap.size ≤ g ∧ Hid (Rez w' g g n n gs (joi A B)) ∧ Hid (Below W.heap.size W w')) := fun W hW => Join_ok a b n n n ca cb A B W (HS.out W hW).table (HT.out W hW).table rfl rfl HP.out HQ.out
  have C3 : Hid (∀ W, Below w.heap.size w W → Calls Try.prog 8 #[.slice a n ca, .slice b n cb] W fun e w' => e = .returned (.tuple #[.bool t, .int .i64 0]) ∧ Hid (Below W.heap.size W w')) := fun W hW => SgBelow_ok a b n n n ca cb A B W t (HS.out W hW).table (HT.out W hW).table rfl rfl HP.out HQ.out Ht
  have S1 : Hid (∀ W, Below w.heap.size w W → Calls Try.prog 9 #[.slice a n ca] W fun e w' => e = .returned (.bool true) ∧ Hid (Below W.heap.size W w')) := fun W hW => Signs_at a n ca _ W true (HS.out W hW).table (by rw [tz_len]) (by rw [tz_len]; omega) ⟨fun _ => sg_list.2 HP.out, fun _ => rfl⟩
  have S2 : Hid (∀ W, Below w.heap.size w W → Calls Try.prog 9 #[.slice b n cb] W fun e w' => e = .returned (.bool true) ∧ Hid (Below W.heap.size W w')) := fun W hW => Signs_at b n cb _ W true (HT.out W hW).table (by rw [tz_len]) (by rw [tz_len]; omega) ⟨fun _ => sg_list.2 HQ.out, fun _ => rfl⟩
  obtain ⟨N, HN⟩ : ∃ N, Hid (N = n + 1) := ⟨_, rfl⟩
  have hN8 : N ≤ 8 := by rw [HN.out]; omega
  have hN1 : 1 ≤ N := by rw [HN.out]; omega
  have K1 : Hid (∀ W, Below w.heap.size w W → Calls Try.prog 11 #[.slice a n ca] W fun e w' => ∃ v, e = .returned v ∧ Hid (Tbl w' W.heap.size v (tz N N (cor A))) ∧ Hid (Below W.heap.size W w')) := fun W hW => by rw [HN.out]; exact Corners_at a n n ca A W (HS.out W hW) rfl HP.out
  have K2 : Hid (∀ W, Below w.heap.size w W → Calls Try.prog 11 #[.slice b n cb] W fun e w' => ∃ v, e = .returned v ∧ Hid (Tbl w' W.heap.size v (tz N N (cor B))) ∧ Hid (Below W.heap.size W w')) := fun W hW => by rw [HN.out]; exact Corners_at b n n cb B W (HT.out W hW) rfl HQ.out
  have B1 : Hid (∀ W, Below w.heap.size w W → Calls Try.prog 13 #[.slice a n ca, .slice b n cb, .bool true] W fun e w' => ∃ v, e = .returned v ∧ Hid (Tbl w' W.heap.size v (tz n n (mee A B))) ∧ Hid (Below W.heap.size W w')) := fun W hW => Bounds_max a b n n n ca cb A B W (HS.out W hW) (HT.out W hW) rfl rfl HP.out HQ.out
  have B2 : Hid (∀ W, Below w.heap.size w W → Calls Try.prog 13 #[.slice a n ca, .slice b n cb, .bool false] W fun e w' => ∃ v, e = .returned v ∧ Hid (Tbl w' W.heap.size v (tz n n (joi A B))) ∧ Hid (Below W.heap.size W w')) := fun W hW => Bounds_min a b n n n ca cb A B W (HS.out W hW) (HT.out W hW) rfl rfl HP.out HQ.out
  have HKa : Hid (∀ i, i < N → ∀ j, j < N → -9223372036854775808 ≤ cor A i j ∧ cor A i j ≤ 9223372036854775807) := by rw [HN.out]; exact p.kc.low
  have HKb : Hid (∀ i, i < N → ∀ j, j < N → -9223372036854775808 ≤ cor B i j ∧ cor B i j ≤ 9223372036854775807) := by rw [HN.out]; exact q.kc.low
  clear hs ht p q
  go_enter Try.func3, Try.ntmps3
  go_wp2_with fail
  refine (C1.out w (Below.refl _ _)).mono ?_
  rintro e w1 ⟨gx, gsx, rfl, hgx, HRx, HB1⟩
  have FX : Hid (∀ W, Below w1.heap.size w1 W → Table W (some ⟨gx, 0, none⟩) (tz n n (mee A B))) := fun W hW => (HRx.out.below hW).table (by omega) HPm.out.low
  clear hgx HRx
  go_wp2_with fail
  refine (C2.out w1 HB1.out).mono ?_
  rintro e w2 ⟨gy, gsy, rfl, hgy, HRy, Hb⟩
  have HB2 : Hid (Below w.heap.size w w2) := HB1.out.trans (Hb.out.mono HB1.out.size)
  have FX2 : Hid (∀ W, Below w2.heap.size w2 W → Table W (some ⟨gx, 0, none⟩) (tz n n (mee A B))) := fut FX.out Hb.out
  have FY2 : Hid (∀ W, Below w2.heap.size w2 W → Table W (some ⟨gy, 0, none⟩) (tz n n (joi A B))) := fun W hW => (HRy.out.below hW).table (by omega) HPj.out.low
  clear hgy HRy FX Hb HB1
  go_wp2_with fail
  refine (C3.out w2 HB2.out).mono ?_
  rintro e w3 ⟨rfl, Hb⟩
  have HB3 : Hid (Below w.heap.size w w3) := HB2.out.trans (Hb.out.mono HB2.out.size)
  have FX3 : Hid (∀ W, Below w3.heap.size w3 W → Table W (some ⟨gx, 0, none⟩) (tz n n (mee A B))) := fut FX2.out Hb.out
  have FY3 : Hid (∀ W, Below w3.heap.size w3 W → Table W (some ⟨gy, 0, none⟩) (tz n n (joi A B))) := fut FY2.out Hb.out
  clear FX2 FY2 Hb HB2 C1 C2 C3
  have hne : ((n : Int) != (n : Int)) = false := by simp
  go_wp2_with fail
  refine (S1.out w3 HB3.out).mono ?_
  rintro e w4 ⟨rfl, Hb⟩
  have Hb4 : Hid (Below w3.heap.size w3 w4) := Hb
  have HB4 : Hid (Below w.heap.size w w4) := HB3.out.trans (Hb.out.mono HB3.out.size)
  clear Hb
  go_wp2_with fail
  refine (S2.out w4 HB4.out).mono ?_
  rintro e w5 ⟨rfl, Hb⟩
  have Hb5 : Hid (Below w3.heap.size w3 w5) := Hb4.out.trans (Hb.out.mono Hb4.out.size)
  have HB5 : Hid (Below w.heap.size w w5) := HB4.out.trans (Hb.out.mono HB4.out.size)
  clear Hb Hb4 HB4 S1 S2
  go_wp2_with fail
  refine (K1.out w5 HB5.out).mono ?_
  rintro e w6 ⟨v6, rfl, HT6, Hb⟩
  have Hb6 : Hid (Below w3.heap.size w3 w6) := Hb5.out.trans (Hb.out.mono Hb5.out.size)
  have HB6 : Hid (Below w.heap.size w w6) := HB5.out.trans (Hb.out.mono HB5.out.size)
  obtain ⟨a6, n6, c6, rfl, hT6, HN6⟩ := HT6.out.table (tz_wf (by omega) HKa.out)
  have HTa : Hid (Table w6 a6 (tz N N (cor A))) := hT6
  have hn6 : n6 = N := by rw [HN6.out, tz_len]
  subst hn6
  clear Hb HT6 hT6 HN6 K1 Hb5 HB5
  have J1 : Hid (Calls Try.prog 10 #[.slice a6 n6 c6] w6 fun e w' => ∃ v, e = .returned v ∧ Owns w' w6.heap.size v (tz n6 n6 (cor A)).flatten ∧ Below w6.heap.size w6 w') := Joined_is a6 n6 c6 _ w6 HTa.out (by rw [tz_len]) (by rw [tz_len]; omega) (by rw [flat_tz _ _ hN1, tab_length]; have := Nat.mul_le_mul hN8 hN8; omega)
  go_wp2_with fail
  refine J1.out.mono ?_
  rintro e w7 ⟨v7, rfl, hO7, hb⟩
  have Hb7 : Hid (Below w3.heap.size w3 w7) := Hb6.out.trans (hb.mono Hb6.out.size)
  have HB7 : Hid (Below w.heap.size w w7) := HB6.out.trans (hb.mono HB6.out.size)
  obtain ⟨fA, HfA⟩ : ∃ f : Nat → Int, Hid (f = fun k => cor A (k / n6) (k % n6)) := ⟨_, rfl⟩
  obtain ⟨fB, HfB⟩ : ∃ f : Nat → Int, Hid (f = fun k => cor B (k / n6) (k % n6)) := ⟨_, rfl⟩
  obtain ⟨M, HM⟩ : ∃ M, Hid (M = n6 * n6) := ⟨_, rfl⟩
  have hM : M ≤ 64 := by rw [HM.out]; have := Nat.mul_le_mul hN8 hN8; omega
  have HWA : Hid (∀ k, k < M → -9223372036854775808 ≤ fA k ∧ fA k ≤ 9223372036854775807) := fun k hk => by
    rw [HM.out] at hk
    rw [HfA.out]
    exact HKa.out _ ((Nat.div_lt_iff_lt_mul hN1).2 hk) _ (Nat.mod_lt _ hN1)
  have HWB : Hid (∀ k, k < M → -9223372036854775808 ≤ fB k ∧ fB k ≤ 9223372036854775807) := fun k hk => by
    rw [HM.out] at hk
    rw [HfB.out]
    exact HKb.out _ ((Nat.div_lt_iff_lt_mul hN1).2 hk) _ (Nat.mod_lt _ hN1)
  rw [flat_tz _ _ hN1, ← HM.out, ← HfA.out] at hO7
  obtain ⟨a7, c7, hv7, hS7⟩ := hO7.shows (by rw [tab_length]; omega) (fun z hz => by obtain ⟨k, hk, rfl⟩ := tab_mem hz; exact HWA.out k hk)
  rw [tab_length] at hv7
  subst hv7
  have FA7 : Hid (∀ W, Below w7.heap.size w7 W → Shows W a7 (tab M fA)) := fun W hW => hS7.below hW
  clear hO7 hS7 hb J1 Hb6 HB6 HTa
  go_wp2_with fail
  refine (K2.out w7 HB7.out).mono ?_
  rintro e w8 ⟨v8, rfl, HT8, Hb⟩
  have Hb8 : Hid (Below w3.heap.size w3 w8) := Hb7.out.trans (Hb.out.mono Hb7.out.size)
  have HB8 : Hid (Below w.heap.size w w8) := HB7.out.trans (Hb.out.mono HB7.out.size)
  have FA8 : Hid (∀ W, Below w8.heap.size w8 W → Shows W a7 (tab M fA)) := fut FA7.out Hb.out
  obtain ⟨a8, n8, c8, rfl, hT8, HN8⟩ := HT8.out.table (tz_wf (by omega) HKb.out)
  have HTb : Hid (Table w8 a8 (tz n6 n6 (cor B))) := hT8
  have hn8 : n8 = n6 := by rw [HN8.out, tz_len]
  subst hn8
  clear Hb HT8 hT8 HN8 K2 Hb7 HB7 FA7
  have J2 : Hid (Calls Try.prog 10 #[.slice a8 n8 c8] w8 fun e w' => ∃ v, e = .returned v ∧ Owns w' w8.heap.size v (tz n8 n8 (cor B)).flatten ∧ Below w8.heap.size w8 w') := Joined_is a8 n8 c8 _ w8 HTb.out (by rw [tz_len]) (by rw [tz_len]; omega) (by rw [flat_tz _ _ hN1, tab_length, ← HM.out]; omega)
  go_wp2_with fail
  refine J2.out.mono ?_
  rintro e w9 ⟨v9, rfl, hO9, hb⟩
  have Hb9 : Hid (Below w3.heap.size w3 w9) := Hb8.out.trans (hb.mono Hb8.out.size)
  have HB9 : Hid (Below w.heap.size w w9) := HB8.out.trans (hb.mono HB8.out.size)
  have FA9 : Hid (∀ W, Below w9.heap.size w9 W → Shows W a7 (tab M fA)) := fut FA8.out hb
  rw [flat_tz _ _ hN1, ← HM.out, ← HfB.out] at hO9
  obtain ⟨a9, c9, hv9, hS9⟩ := hO9.shows (by rw [tab_length]; omega) (fun z hz => by obtain ⟨k, hk, rfl⟩ := tab_mem hz; exact HWB.out k hk)
  rw [tab_length] at hv9
  subst hv9
  have FB9 : Hid (∀ W, Below w9.heap.size w9 W → Shows W a9 (tab M fB)) := fun W hW => hS9.below hW
  clear hO9 hS9 hb J2 Hb8 HB8 HTb FA8
  have FX9 : Hid (∀ W, Below w9.heap.size w9 W → Table W (some ⟨gx, 0, none⟩) (tz n n (mee A B))) := fut FX3.out Hb9.out
  have FY9 : Hid (∀ W, Below w9.heap.size w9 W → Table W (some ⟨gy, 0, none⟩) (tz n n (joi A B))) := fut FY3.out Hb9.out
  clear FX3 FY3 Hb9 HB3
  go_wp2
  go_loopw [14, 84] (fun v q wr => ∃ (k : Nat) (s : Bool), k ≤ M ∧ q = .int .i64 k ∧ v = .bool s ∧ Hid (s = true ↔ ∀ q, q < k → fB q ≤ fA q) ∧ Hid (Below w9.heap.size w9 wr)) (fun _ q _ => M - (intOf q).toNat)
  case atStart => exact ⟨0, true, Nat.zero_le _, rfl, rfl, ⟨fun _ q h => absurd h (by omega), fun _ => rfl⟩, Below.refl _ _⟩
  case round =>
    obtain ⟨k, s, hk, rfl, rfl, HSs, HB⟩ := hrel
    by_cases hlt : k < M
    · have hlt' : (k : Int) < (M : Int) := by omega
      obtain ⟨b1, o1, e1, cA, -, -⟩ := (FA9.out wr HB.out).boxZ hlt
      subst e1
      obtain ⟨b2, o2, e2, cB, -, -⟩ := (FB9.out wr HB.out).boxZ hlt
      subst e2
      obtain ⟨x, HX⟩ : ∃ x, Hid (x = fA k) := ⟨_, rfl⟩
      obtain ⟨y, HY⟩ : ∃ x, Hid (x = fB k) := ⟨_, rfl⟩
      rw [← HX.out] at cA
      rw [← HY.out] at cB
      cases s with
      | false =>
        have HS2 : Hid (false = true ↔ ∀ q, q < k + 1 → fB q ≤ fA q) := ⟨(fun h => by cases h), (fun h => HSs.out.2 (fun q hq => h q (by omega)))⟩
        go_wp2_with fail
        go_quiet (fail)
        go_wp2
        go_roundw
        case rel => exact ⟨k + 1, false, by omega, by go_num, rfl, HS2, below_drewN HB.out _⟩
        case measure => simp [intOf]; omega
      | true =>
        obtain ⟨d, hd⟩ : ∃ d, decide (x ≥ y) = d := ⟨_, rfl⟩
        have HS2 : Hid (d = true ↔ ∀ q, q < k + 1 → fB q ≤ fA q) := by
          show _ ↔ _
          rw [← hd, decide_eq_true_eq]
          constructor
          · intro h q hq
            by_cases e : q = k
            · subst e; rw [← HX.out, ← HY.out]; exact h
            · exact HSs.out.1 rfl q (by omega)
          · intro h
            have := h k (by omega)
            rw [← HX.out, ← HY.out] at this
            exact this
        cases d with
        | false =>
          have hd2 : x < y := by have := of_decide_eq_false hd; omega
          go_wp2_with fail
          go_quiet (fail)
          go_wp2
          go_roundw
          case rel => exact ⟨k + 1, false, by omega, by go_num, rfl, HS2, below_drewN HB.out _⟩
          case measure => simp [intOf]; omega
        | true =>
          have hd2 : ¬ x < y := by have := of_decide_eq_true hd; omega
          go_wp2_with fail
          go_quiet (fail)
          go_wp2
          go_roundw
          case rel => exact ⟨k + 1, true, by omega, by go_num, rfl, ⟨(fun _ => HS2.out.1 (by first | trivial | rfl)), (fun _ => rfl)⟩, below_drewN HB.out _⟩
          case measure => simp [intOf]; omega
    · obtain rfl : k = M := by omega
      have hst : s = t := by
        have h1 : s = true ↔ t = true := by
          rw [HSs.out, Ht.out, HM.out, HfA.out, HfB.out, flat_all hN1, HN.out]
          exact ⟨fun h i hi j hj => h i (by omega) j (by omega), fun h i hi j hj => h i (by omega) j (by omega)⟩
        cases s <;> cases t <;> simp_all
      subst hst
      have HBr : Hid (Below w.heap.size w wr) := HB9.out.trans (HB.out.mono HB9.out.size)
      have FXr : Hid (∀ W, Below wr.heap.size wr W → Table W (some ⟨gx, 0, none⟩) (tz n n (mee A B))) := fut FX9.out HB.out
      have FYr : Hid (∀ W, Below wr.heap.size wr W → Table W (some ⟨gy, 0, none⟩) (tz n n (joi A B))) := fut FY9.out HB.out
      clear FX9 FY9 HB HB9 FA9 FB9
      go_wp2_with fail
      refine (B1.out wr HBr.out).mono ?_
      rintro e wa ⟨va, rfl, HTa, Hb⟩
      obtain ⟨aa, na, c1, rfl, hTa, HNa⟩ := HTa.out.table (tz_wf (by omega) HPm.out.low)
      have hna : na = n := by rw [HNa.out, tz_len]
      subst hna
      have HBa : Hid (Below w.heap.size w wa) := HBr.out.trans (Hb.out.mono HBr.out.size)
      have FYa : Hid (∀ W, Below wa.heap.size wa W → Table W (some ⟨gy, 0, none⟩) (tz na na (joi A B))) := fut FYr.out Hb.out
      have T1 : Hid (Calls Try.prog 12 #[.slice (some ⟨gx, 0, none⟩) na na, .int .i64 0, .slice aa na c1, .int .i64 0] wa fun e w' => e = .returned (.bool true) ∧ ∃ n, w' = wa.drewN n) := tabz_ok _ _ _ _ _ _ _ _ (FXr.out wa Hb.out) hTa (by rw [tz_len]) (by rw [tz_len]) (by rw [tz_len]; omega)
      clear HTa hTa HNa Hb FXr FYr HBr
      go_wp2_with fail
      refine T1.out.mono ?_
      rintro e wb ⟨rfl, hd⟩
      have Hab : Hid (Below wa.heap.size wa wb) := by obtain ⟨d, rfl⟩ := hd; exact below_drewN (Below.refl _ _) d
      have HBb : Hid (Below w.heap.size w wb) := HBa.out.trans (Hab.out.mono HBa.out.size)
      have FYb : Hid (∀ W, Below wb.heap.size wb W → Table W (some ⟨gy, 0, none⟩) (tz na na (joi A B))) := fut FYa.out Hab.out
      clear hd T1 FYa Hab HBa
      go_wp2_with fail
      refine (B2.out wb HBb.out).mono ?_
      rintro e wc ⟨vc, rfl, HTc, Hb⟩
      obtain ⟨ac, nc, c2, rfl, hTc, HNc⟩ := HTc.out.table (tz_wf (by omega) HPj.out.low)
      have hnc : nc = na := by rw [HNc.out, tz_len]
      subst hnc
      have HBc : Hid (Below w.heap.size w wc) := HBb.out.trans (Hb.out.mono HBb.out.size)
      have T2 : Hid (Calls Try.prog 12 #[.slice (some ⟨gy, 0, none⟩) nc nc, .int .i64 0, .slice ac nc c2, .int .i64 0] wc fun e w' => e = .returned (.bool true) ∧ ∃ n, w' = wc.drewN n) := tabz_ok _ _ _ _ _ _ _ _ (FYb.out wc Hb.out) hTc (by rw [tz_len]) (by rw [tz_len]) (by rw [tz_len]; omega)
      clear HTc hTc HNc Hb FYb HBb
      go_wp2_with fail
      refine T2.out.mono ?_
      rintro e wd ⟨rfl, hd⟩
      have HBd : Hid (Below w.heap.size w wd) := by obtain ⟨d, rfl⟩ := hd; exact below_drewN HBc.out d
      clear hd T2 HBc
      have hss : (s == s) = true := by simp
      go_wp2
      go_ret
      exact ⟨by first | rfl | (simp), HBd.out⟩

theorem sbounds_at (a b : Option Addr) (n m ca cb : Nat) (ls ms : List (List Int)) (w : World) (hs : TableX w a ls) (ht : TableX w b ms) (hn : n = ls.length) (hm : m = ms.length) (hl : ls.length ≤ 17592186044416) (hk : ms.length ≤ 17592186044416) :
    Calls Try.prog 3 #[.slice a n ca, .slice b m cb] w fun e w' => e = .returned (.bool true) ∧ Below w.heap.size w w' := by
  by_cases h : SgL ls ∧ SgL ms ∧ ls.length = ms.length
  · obtain ⟨h1, h2, h3⟩ := h
    obtain ⟨n1, A, rfl, p⟩ := h1.fn
    obtain ⟨n2, B, rfl, q⟩ := h2.fn
    rw [tz_len] at hn hm h3
    rw [tz_len] at h3
    subst hn
    subst h3
    subst hm
    exact sbounds_ok a b _ ca cb A B w hs ht p q
  · exact sbounds_no a b n m ca cb ls ms w hs.table ht.table hn hm hl hk h

end Go.Proofs.Ytfpbccahmipliaa
