/-
  The contracts of signs.Check, checkTwo.
-/
import Derived.Test.YtgcpconlmihilaaGreatDoorJChk
namespace Go.Proofs.YtgcpconlmihilaaGreatDoor
open Go.RowKit

theorem Sq.tab {ls : List (List Int)} (h : Sq ls) : ls = tz ls.length ls.length (box ls) := tz_of h.len
theorem Roz.shows {w : World} {X n : Nat} {f : Nat → Int} (h : Roz w X n f) (hn : n ≤ 1000) (hf : ∀ i, i < n → -9223372036854775808 ≤ f i ∧ f i ≤ 9223372036854775807) : Shows w (some ⟨X, 0, none⟩) (tab n f) := by
  obtain ⟨a, cap, hv, hs⟩ := Owns.shows h (by rw [tab_length]; omega) (fun z hz => by obtain ⟨j, hj, rfl⟩ := tab_mem hz; exact hf j hj)
  simp only [Value.slice.injEq] at hv
  rw [hv.1]
  exact hs
theorem Table.wf {w : World} {a : Option Addr} {ls : List (List Int)} (h : Table w a ls) {i j : Nat} (hi : i < ls.length) (hj : j < (row ls i).length) : -9223372036854775808 ≤ box ls i j ∧ box ls i j ≤ 9223372036854775807 := by
  obtain ⟨b, off, ai, ci, h1, h2, h3, h4, _⟩ := h i hi
  exact h4.wf _ (getD_mem hj)

set_option maxHeartbeats 4000000 in
theorem SgCheck_at (a : Option Addr) (n cap : Nat) (ls : List (List Int)) (w : World) (E : Int) (hs : Table w a ls) (hn : n = ls.length) (hl : ls.length ≤ 17592186044416) (HE : Hid ((SgL ls → E = 0) ∧ (¬ SgL ls → E = 1))) :
    Calls Tryz.prog 4 #[.slice a n cap] w fun e w' => e = .returned (.int .i64 E) ∧ Hid (Below w.heap.size w w') := by
  subst hn
  have HS : Hid (Table w a ls) := hs
  clear hs
  by_cases h1 : ls.length < 1
  · have h1' : (ls.length : Int) < 1 := by omega
    have hE : E = 1 := HE.out.2 (fun h => by have := h.sq.n1; omega)
    subst hE
    go_enter Tryz.func4, Tryz.ntmps4
    go_wp2
    go_ret
    exact ⟨rfl, Below.refl _ _⟩
  have h1' : ¬ (ls.length : Int) < 1 := by omega
  by_cases h7 : 7 < ls.length
  · have h7' : (7 : Int) < (ls.length : Int) := by omega
    have hE : E = 1 := HE.out.2 (fun h => by have := h.sq.n7; omega)
    subst hE
    go_enter Tryz.func4, Tryz.ntmps4
    go_wp2
    go_ret
    exact ⟨rfl, Below.refl _ _⟩
  have h7' : ¬ (7 : Int) < (ls.length : Int) := by omega
  obtain ⟨B, HBo⟩ : ∃ B : Bool, Hid (B = true ↔ ∀ i, i < ls.length → (row ls i).length = ls.length) := by
    by_cases h : ∀ i, i < ls.length → (row ls i).length = ls.length
    · exact ⟨true, (fun _ => h), (fun _ => rfl)⟩
    · exact ⟨false, (fun e => by cases e), (fun e => absurd e h)⟩
  cases B with
  | false =>
    have hE : E = 1 := HE.out.2 (fun h => by have := HBo.out.2 h.sq.len; cases this)
    subst hE
    go_enter Tryz.func4, Tryz.ntmps4
    go_wp2_with (go_at_call 11; refine (areOfLength_at _ _ _ _ ls _ false HS.out rfl hl hl HBo).mono ?_; rintro e w ⟨rfl, rfl⟩)
    go_ret
    exact ⟨rfl, Below.refl _ _⟩
  | true =>
    have HQ : Hid (Sq ls) := ⟨by omega, by omega, HBo.out.1 rfl⟩
    have HT : Hid (Table w a (tz ls.length ls.length (box ls))) := (fun ms e => e ▸ HS.out : ∀ ms, ls = ms → Table w a ms) _ HQ.out.tab
    go_enter Tryz.func4, Tryz.ntmps4
    go_wp2_with (go_at_call 11; refine (areOfLength_at _ _ _ _ ls _ true HS.out rfl hl hl HBo).mono ?_; rintro e w ⟨rfl, rfl⟩)
    clear HBo
    go_loopw [20] (fun q wr => ∃ k : Nat, k ≤ ls.length ∧ q = .int .i64 k ∧ Hid (∀ i, i < k → alt 0 (row ls i) = true ∧ alt 0 (colL ls i) = true) ∧ Hid (Below w.heap.size w wr)) (fun q _ => ls.length - (intOf q).toNat)
    case atStart => exact ⟨0, Nat.zero_le _, rfl, fun i h => absurd h (by omega), Below.refl _ _⟩
    case round =>
      obtain ⟨k, hk, rfl, HK, HB⟩ := hrel
      by_cases hlt : k < ls.length
      · have hlt' : (k : Int) < (ls.length : Int) := by omega
        obtain ⟨b1, off1, a1, m1, c1, rfl, hc1, HM1, HS1, -, hmb⟩ := (HS.out.below HB.out).elemR hlt
        have HM2 : Hid ((ls.getD k []).length = ls.length) := HQ.out.len k hlt
        obtain ⟨t1, HA1⟩ : ∃ t, Hid (alt 0 (ls.getD k []) = t) := ⟨_, rfl⟩
        cases t1 with
        | false =>
          have hE : E = 1 := HE.out.2 (fun h => by have := (h.alt k hlt).1; exact Bool.noConfusion (HA1.out.symm.trans this))
          subst hE
          go_wp2_with (go_at_call 12; refine (alternates_at _ _ _ _ _ false HS1.out HM1.out (by rw [HM2.out]; omega) (by rw [HM2.out]; omega) HA1).mono ?_; rintro e wr ⟨rfl, rfl⟩)
          go_ret
          exact ⟨rfl, HB⟩
        | true =>
          go_wp2_with (go_at_call 12; refine (alternates_at _ _ _ _ _ true HS1.out HM1.out (by rw [HM2.out]; omega) (by rw [HM2.out]; omega) HA1).mono ?_; rintro e wr ⟨rfl, rfl⟩)
          refine (column_at _ ls.length _ _ k (box ls) _ (HT.out.below HB.out) rfl (by omega) hlt).mono ?_
          rintro e w2 ⟨rfl, HR2, HB2⟩
          have HB3 : Hid (Below w.heap.size w w2) := HB.out.trans (HB2.out.mono HB.out.size)
          have HSc : Hid (Shows w2 (some ⟨wr.heap.size, 0, none⟩) (colL ls k)) := HR2.out.shows (by omega) (fun i hi => HS.out.wf hi (by rw [HQ.out.len i hi]; exact hlt))
          have HLc : Hid ((colL ls k).length = ls.length) := tab_length _ _
          obtain ⟨t2, HA2⟩ : ∃ t, Hid (alt 0 (colL ls k) = t) := ⟨_, rfl⟩
          clear HR2 HB2
          cases t2 with
          | false =>
            have hE : E = 1 := HE.out.2 (fun h => by have := (h.alt k hlt).2; exact Bool.noConfusion (HA2.out.symm.trans this))
            subst hE
            go_wp2_with (go_at_call 12; refine (alternates_at _ _ _ _ _ false HSc.out HLc.out.symm (by rw [HLc.out]; omega) (by rw [HLc.out]; omega) HA2).mono ?_; rintro e w2 ⟨rfl, rfl⟩)
            go_ret
            exact ⟨rfl, HB3⟩
          | true =>
            go_wp2_with (go_at_call 12; refine (alternates_at _ _ _ _ _ true HSc.out HLc.out.symm (by rw [HLc.out]; omega) (by rw [HLc.out]; omega) HA2).mono ?_; rintro e w2 ⟨rfl, rfl⟩)
            go_roundw
            case rel => exact ⟨k + 1, by omega, by go_num, fun i hi => by
              by_cases e : i = k
              · subst e; exact ⟨HA1.out, HA2.out⟩
              · exact HK.out i (by omega), HB3⟩
            case measure => simp [intOf]; omega
      · obtain rfl : k = ls.length := by omega
        have hE : E = 0 := HE.out.1 ⟨HQ.out, HK.out⟩
        subst hE
        go_wp2
        go_ret
        exact ⟨rfl, HB⟩

end Go.Proofs.YtgcpconlmihilaaGreatDoor
