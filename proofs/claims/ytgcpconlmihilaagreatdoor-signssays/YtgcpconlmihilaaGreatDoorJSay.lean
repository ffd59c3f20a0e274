/-
  The law ferlaw.SignsSays.
-/
import Derived.Test.YtgcpconlmihilaaGreatDoorJFrg
import Derived.Test.YtgcpconlmihilaaGreatDoorJBla
import Derived.Test.YtgcpconlmihilaaGreatDoorJSct
import Derived.Test.YtgcpconlmihilaaGreatDoorJRef
import Derived.Test.YtgcpconlmihilaaGreatDoorJCkc
import Derived.Test.YtgcpconlmihilaaGreatDoorRyF
namespace Go.Proofs.YtgcpconlmihilaaGreatDoor
open Go.RowKit Go.Shelf

theorem srF_bd {n : Nat} (n1 : 1 ≤ n) (n5 : n ≤ 5) {s : List (List Int)} (h : s ∈ srF n) : s.length = n ∧ ∀ r ∈ s, r.length ≤ 17592186044416 ∧ ∀ z ∈ r, -9223372036854775808 ≤ z ∧ z ≤ 9223372036854775807 := by
  have h2 := (perm_F n1 n5).mem_iff.2 h
  unfold outF at h2
  obtain ⟨l, _, rfl⟩ := List.mem_map.1 h2
  exact ⟨tz_len _ _ _, otr_wf l (by omega)⟩
theorem srF_len (n : Nat) : (srF n).length = (srS n (n * n) []).length := by unfold srF; rw [List.length_map]
/-- The program's list, as the other list is read. -/
theorem SgLs.cub {w w2 : World} {lo n : Nat} {av : Option Addr} {K cv : Nat} {us : List Value} (n1 : 1 ≤ n) (n5 : n ≤ 5) (hP : SgLs w lo n (.slice av K cv) us (srS n (n * n) [])) (hB : Below w.heap.size w w2) : CubT w2 av (srF n) := fun k hk => by
  rw [srF_len] at hk
  obtain ⟨p1, p2, p3⟩ := hP
  rcases p1.2 with ⟨q1, q2⟩ | ⟨g3, c3, cur, q1, q3, q4, _⟩
  · omega
  · simp only [Value.slice.injEq] at q1
    obtain ⟨rfl, hK, rfl⟩ := q1
    have ho := p1
    rw [hK] at ho
    have hg3 : g3 < w.heap.size := (Array.getElem?_eq_some_iff.1 q4).1
    obtain ⟨x, y, _, z2, z3, z4⟩ := p3 k hk
    have ht := z4 w2 (fun j _ j2 => hB.block j (by omega))
    have eg : (srF n).getD k [] = tz n n (fXs n ((srS n (n * n) []).getD k [])) := by
      unfold srF
      simp only [List.getD, List.getElem?_map, List.getElem?_eq_getElem hk]; rfl
    have hm : (srF n).getD k [] ∈ srF n := by
      have : k < (srF n).length := by rw [srF_len]; exact hk
      simp [List.getD, this]
    have hw := (srF_bd n1 n5 hm).2
    rw [eg] at hw ⊢
    obtain ⟨a4, n4, c4, e4, ht4, hn4⟩ := ht.table hw
    refine ⟨g3, 0, a4, c4, rfl, ?_, ht4⟩
    rw [Nat.zero_add, hB.cell (p := ⟨g3, k, none⟩) hg3, World.ownsRow.cellAt ho k (by omega), rowv_get (by omega), e4, hn4.out]

open Classical in
set_option maxHeartbeats 40000000 in
set_option maxRecDepth 100000 in
theorem ssay_at {ρ : Go.Shelf.Ren} (L : SlLaysF.n6 Tryz.prog ρ) (hρ : ρ.f 6 = 31) (pa : Option Addr) (n0 cap : Nat) (ls : List (List Int)) (n : Int) (w : World) (hs : Table w pa ls) (hn0 : n0 = ls.length) (hl : ls.length ≤ 17592186044416) (htab : Lib.TabIs Tryz.prog w "internal/strconv.uint64pow10" .u64 Lib.pow10Tab) :
    Calls Tryz.prog 3 #[.slice pa n0 cap, .int .i64 n] w fun e w' => e = .returned (.bool true) ∧ Below w.heap.size w w' := by
  have HTab : Hid (∀ W, Below w.heap.size w W → Lib.TabIs Tryz.prog W "internal/strconv.uint64pow10" .u64 Lib.pow10Tab) := fun W hW => Lib.tabBelow_of_tabIs htab W hW
  obtain ⟨E, pb, HEB, HCk, HSg⟩ : ∃ (E : Int) (pb : Bool), Hid ((pb = true ∧ E = 0) ∨ (pb = false ∧ E = 1)) ∧ Hid (∀ W, Below w.heap.size w W → Calls Tryz.prog 4 #[.slice pa n0 cap] W fun e w' => e = .returned (.int .i64 E) ∧ Hid (Below w.heap.size w w')) ∧ Hid (∀ W, Below w.heap.size w W → Calls Tryz.prog 5 #[.slice pa n0 cap] W fun e w' => e = .returned (.bool pb) ∧ Hid (Below w.heap.size w w')) := by
    have hC : ∀ E : Int, ((SgL ls → E = 0) ∧ (¬ SgL ls → E = 1)) → ∀ W, Below w.heap.size w W → Calls Tryz.prog 4 #[.slice pa n0 cap] W fun e w' => e = .returned (.int .i64 E) ∧ Hid (Below w.heap.size w w') := fun E hE W hW => by
      refine (SgCheck_at pa n0 cap ls W E (hs.below hW) hn0 hl hE).mono ?_
      rintro e w' ⟨rfl, h⟩
      exact ⟨rfl, hW.trans (h.out.mono hW.size)⟩
    have hS : ∀ pb : Bool, (pb = true ↔ SgL ls) → ∀ W, Below w.heap.size w W → Calls Tryz.prog 5 #[.slice pa n0 cap] W fun e w' => e = .returned (.bool pb) ∧ Hid (Below w.heap.size w w') := fun pb hpb W hW => by
      refine (Signs_at pa n0 cap ls W pb (hs.below hW) hn0 hl hpb).mono ?_
      rintro e w' ⟨rfl, h⟩
      exact ⟨rfl, hW.trans (h.out.mono hW.size)⟩
    by_cases p : SgL ls
    · exact ⟨0, true, Or.inl ⟨rfl, rfl⟩, hC 0 ⟨fun _ => rfl, fun h => absurd p h⟩, hS true ⟨fun _ => p, fun _ => rfl⟩⟩
    · exact ⟨1, false, Or.inr ⟨rfl, rfl⟩, hC 1 ⟨fun h => absurd h p, fun _ => rfl⟩, hS false ⟨fun h => (by cases h), fun h => absurd h p⟩⟩
  have HCn : Hid (∀ W, (n < 1 ∨ 30 < n) → Below w.heap.size w W → Calls Tryz.prog 6 #[.int .i64 n] W fun e w' => e = .returned (.tuple #[.string ⟨#[]⟩, .int .i64 1]) ∧ Hid (Below w.heap.size w w')) := fun W hbad hW => by
    refine (SgCount_no n W hbad).mono ?_
    rintro e w' ⟨rfl, rfl⟩
    exact ⟨rfl, hW⟩
  have HCy : Hid (1 ≤ n → n ≤ 30 → ∃ s : ByteArray, (∀ W, Below w.heap.size w W → Calls Tryz.prog 6 #[.int .i64 n] W fun e w' => e = .returned (.tuple #[.string s, .int .i64 0]) ∧ Hid (Below w.heap.size w w')) ∧ ∀ W, Below w.heap.size w W → Calls Tryz.prog 7 #[.int .i64 n] W fun e w' => e = .returned (.string s) ∧ Hid (Below w.heap.size w w')) := fun h1 h30 => by
    obtain ⟨N, rfl⟩ : ∃ N : Nat, n = (N : Int) := ⟨n.toNat, by omega⟩
    refine ⟨⟨(Lib.decDigits (asmA N)).toArray⟩, fun W hW => ?_, fun W hW => ?_⟩
    · refine (SgCount_ok N W (by omega) (by omega) (HTab.out W hW)).mono ?_
      rintro e w' ⟨rfl, h⟩
      exact ⟨by rw [asm_low (by omega) (by omega), numT_dec], hW.trans (h.out.mono hW.size)⟩
    · refine (SignCount_at N W (by omega) (by omega)).mono ?_
      rintro e w' ⟨rfl, h⟩
      exact ⟨rfl, hW.trans (h.out.mono hW.size)⟩
  have HAn : Hid (∀ W, (n < 1 ∨ 5 < n) → Below w.heap.size w W → Calls Tryz.prog 8 #[.int .i64 n] W fun e w' => e = .returned (.tuple #[.slice none 0 0, .int .i64 1]) ∧ Hid (Below w.heap.size w w')) := fun W hbad hW => by
    refine (SgAll_no n W hbad).mono ?_
    rintro e w' ⟨rfl, h⟩
    exact ⟨rfl, hW.trans (h.out.mono hW.size)⟩
  have HAy : Hid (∀ W, 1 ≤ n → n ≤ 5 → Below w.heap.size w W → Calls Tryz.prog 8 #[.int .i64 n] W fun e w' => ∃ av nv cv, e = .returned (.tuple #[.slice av nv cv, .int .i64 0]) ∧ Hid (Below w.heap.size w w') ∧ Hid (Calls Tryz.prog 10 #[.int .i64 n] w' fun e w2 => ∃ a2 n2 c2, e = .returned (.slice a2 n2 c2) ∧ Hid (Below w.heap.size w w2) ∧ Hid (Calls Tryz.prog 9 #[.slice av nv cv, .slice a2 n2 c2] w2 fun e w3 => e = .returned (.bool true) ∧ Hid (Below w.heap.size w w3)))) := fun W h1 h5 hW => by
    obtain ⟨N, rfl⟩ : ∃ N : Nat, n = (N : Int) := ⟨n.toNat, by omega⟩
    have hN1 : 1 ≤ N := by omega
    have hN5 : N ≤ 5 := by omega
    refine (SgAll_at N W hN1 hN5).mono ?_
    rintro e w' ⟨av, cv, us, rfl, hP, hB⟩
    have hW' := hW.trans (hB.out.mono hW.size)
    refine ⟨av, _, cv, rfl, hW', ?_⟩
    refine (AllSigns_at L hρ N w' hN1 hN5).mono ?_
    rintro e w2 ⟨v2, rfl, ⟨us2, hC⟩, hB2⟩
    have hW2 := hW'.trans (hB2.out.mono hW'.size)
    obtain ⟨a2, c2, e2, hc2⟩ := hC.shows
    subst e2
    refine ⟨a2, _, c2, rfl, hW2, ?_⟩
    have hT1 : CubT w2 av (srF N) := hP.out.cub hN1 hN5 hB2.out
    have hlen : (srF N).length ≤ 17592186044416 := by
      rw [srF_len, asm_list N (by omega) hN1]
      rcases (show N = 1 ∨ N = 2 ∨ N = 3 ∨ N = 4 ∨ N = 5 by omega) with rfl | rfl | rfl | rfl | rfl <;> decide
    refine (Tables_at av a2 cv c2 _ _ (srF N) w2 hT1 hc2 (srF_len N).symm rfl hlen (fun t ht => by have := (srF_bd hN1 hN5 ht).1; omega)).mono ?_
    rintro e w3 ⟨rfl, d, rfl⟩
    exact ⟨rfl, below_drewN hW2 d⟩
  clear L hρ hs hn0 hl htab HTab
  have HBw : Hid (Below w.heap.size w w) := Below.refl _ _
  go_enter Tryz.func3, Tryz.ntmps3
  rcases HEB.out with ⟨rfl, rfl⟩ | ⟨rfl, rfl⟩
  · clear HEB
    go_wp2_with fail
    refine (HCk.out w HBw.out).mono ?_
    rintro e w1 ⟨rfl, HB1⟩
    go_wp2_with fail
    refine (HSg.out w1 HB1.out).mono ?_
    rintro e w2 ⟨rfl, HB2⟩
    go_wp2_with fail
    refine (HCk.out w2 HB2.out).mono ?_
    rintro e w3 ⟨rfl, HB3⟩
    clear HCk HSg HB1 HB2
    by_cases h1 : n < 1
    · have HC1 := hid_w (HCn.out w3 (Or.inl h1) HB3.out)
      go_wp2_with fail
      refine (HC1.out).mono ?_
      rintro e wb ⟨rfl, HBb⟩
      have HA1 := hid_w (HAn.out wb (Or.inl h1) HBb.out)
      go_wp2_with fail
      refine (HA1.out).mono ?_
      rintro e wd ⟨rfl, HBd⟩
      go_wp2
      go_ret
      exact ⟨rfl, HBd.out⟩
    · by_cases h30 : 30 < n
      · have h5 : 5 < n := by omega
        have HC1 := hid_w (HCn.out w3 (Or.inr h30) HB3.out)
        go_wp2_with fail
        refine (HC1.out).mono ?_
        rintro e wb ⟨rfl, HBb⟩
        have HA1 := hid_w (HAn.out wb (Or.inr h5) HBb.out)
        go_wp2_with fail
        refine (HA1.out).mono ?_
        rintro e wd ⟨rfl, HBd⟩
        go_wp2
        go_ret
        exact ⟨rfl, HBd.out⟩
      · obtain ⟨s, hc1, hc2⟩ := HCy.out (by omega) (by omega)
        have HC1 := hid_w (hc1 w3 HB3.out)
        have HC2 := hid_w hc2
        clear hc1 hc2
        go_wp2_with fail
        refine (HC1.out).mono ?_
        rintro e wb ⟨rfl, HBb⟩
        have HC3 := hid_w (HC2.out wb HBb.out)
        clear HC1 HC2
        go_wp2_with fail
        refine (HC3.out).mono ?_
        rintro e wc ⟨rfl, HBc⟩
        clear HC3
        by_cases h5 : 5 < n
        · skip
          have HA1 := hid_w (HAn.out wc (Or.inr h5) HBc.out)
          go_wp2_with fail
          refine (HA1.out).mono ?_
          rintro e wd ⟨rfl, HBd⟩
          go_wp2
          go_ret
          exact ⟨rfl, HBd.out⟩
        · have HA1 := hid_w (HAy.out wc (by omega) (by omega) HBc.out)
          go_wp2_with fail
          refine (HA1.out).mono ?_
          rintro e wd ⟨av, nv, cv, rfl, HBd, HAp⟩
          clear HA1
          go_wp2_with fail
          refine (HAp.out).mono ?_
          rintro e we ⟨a2, n2, c2, rfl, HBe, HTb⟩
          clear HAp
          go_wp2_with fail
          refine (HTb.out).mono ?_
          rintro e wf ⟨rfl, HBf⟩
          clear HTb
          go_wp2
          go_ret
          exact ⟨rfl, HBf.out⟩
  · clear HEB
    go_wp2_with fail
    refine (HCk.out w HBw.out).mono ?_
    rintro e w1 ⟨rfl, HB1⟩
    go_wp2_with fail
    refine (HSg.out w1 HB1.out).mono ?_
    rintro e w2 ⟨rfl, HB2⟩
    go_wp2_with fail
    refine (HCk.out w2 HB2.out).mono ?_
    rintro e w3 ⟨rfl, HB3⟩
    go_wp2_with fail
    refine (HCk.out w3 HB3.out).mono ?_
    rintro e w4 ⟨rfl, HB4⟩
    clear HCk HSg HB1 HB2 HB3
    by_cases h1 : n < 1
    · have HC1 := hid_w (HCn.out w4 (Or.inl h1) HB4.out)
      go_wp2_with fail
      refine (HC1.out).mono ?_
      rintro e wb ⟨rfl, HBb⟩
      have HA1 := hid_w (HAn.out wb (Or.inl h1) HBb.out)
      go_wp2_with fail
      refine (HA1.out).mono ?_
      rintro e wd ⟨rfl, HBd⟩
      go_wp2
      go_ret
      exact ⟨rfl, HBd.out⟩
    · by_cases h30 : 30 < n
      · have h5 : 5 < n := by omega
        have HC1 := hid_w (HCn.out w4 (Or.inr h30) HB4.out)
        go_wp2_with fail
        refine (HC1.out).mono ?_
        rintro e wb ⟨rfl, HBb⟩
        have HA1 := hid_w (HAn.out wb (Or.inr h5) HBb.out)
        go_wp2_with fail
        refine (HA1.out).mono ?_
        rintro e wd ⟨rfl, HBd⟩
        go_wp2
        go_ret
        exact ⟨rfl, HBd.out⟩
      · obtain ⟨s, hc1, hc2⟩ := HCy.out (by omega) (by omega)
        have HC1 := hid_w (hc1 w4 HB4.out)
        have HC2 := hid_w hc2
        clear hc1 hc2
        go_wp2_with fail
        refine (HC1.out).mono ?_
        rintro e wb ⟨rfl, HBb⟩
        have HC3 := hid_w (HC2.out wb HBb.out)
        clear HC1 HC2
        go_wp2_with fail
        refine (HC3.out).mono ?_
        rintro e wc ⟨rfl, HBc⟩
        clear HC3
        by_cases h5 : 5 < n
        · skip
          have HA1 := hid_w (HAn.out wc (Or.inr h5) HBc.out)
          go_wp2_with fail
          refine (HA1.out).mono ?_
          rintro e wd ⟨rfl, HBd⟩
          go_wp2
          go_ret
          exact ⟨rfl, HBd.out⟩
        · have HA1 := hid_w (HAy.out wc (by omega) (by omega) HBc.out)
          go_wp2_with fail
          refine (HA1.out).mono ?_
          rintro e wd ⟨av, nv, cv, rfl, HBd, HAp⟩
          clear HA1
          go_wp2_with fail
          refine (HAp.out).mono ?_
          rintro e we ⟨a2, n2, c2, rfl, HBe, HTb⟩
          clear HAp
          go_wp2_with fail
          refine (HTb.out).mono ?_
          rintro e wf ⟨rfl, HBf⟩
          clear HTb
          go_wp2
          go_ret
          exact ⟨rfl, HBf.out⟩
end Go.Proofs.YtgcpconlmihilaaGreatDoor
