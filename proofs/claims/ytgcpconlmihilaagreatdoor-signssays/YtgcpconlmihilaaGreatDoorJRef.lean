/-
  The contracts of ferref.turnsOver, Across, Signs.
-/
import Derived.Test.YtgcpconlmihilaaGreatDoorJCkc
import Derived.Test.YtgcpconlmihilaaGreatDoorOTab
namespace Go.Proofs.YtgcpconlmihilaaGreatDoor
open Go.RowKit

set_option maxHeartbeats 1000000 in
theorem turnsOver_at (a : Option Addr) (n cap : Nat) (zs : List Int) (w : World) (B : Bool) (hs : Shows w a zs) (hn : n = zs.length) (HB : Hid (alt 0 zs = B)) :
    Calls Tryz.prog 14 #[.slice a n cap] w fun e w' => e = .returned (.bool B) ∧ w' = w := by
  subst hn
  have hl := hs.len
  have HS : Hid (Shows w a zs) := hs
  clear hs
  go_enter Tryz.func14, Tryz.ntmps14
  go_wp2
  go_loopw [3, 4] (fun v q wr => ∃ (k : Nat) (s u : Int), k ≤ zs.length ∧ q = .int .i64 k ∧ v = .int .i64 u ∧ Hid (s = 0 ∧ u = 1 ∨ s = 1 ∧ u = -1) ∧ Hid (alt s (zs.drop k) = B) ∧ wr = w) (fun _ q _ => zs.length - (intOf q).toNat)
  case atStart => exact ⟨0, 0, 1, Nat.zero_le _, rfl, rfl, Or.inl ⟨rfl, rfl⟩, by rw [List.drop_zero]; exact HB, rfl⟩
  case round =>
    obtain ⟨k, s, u, hk, rfl, rfl, H01, HA, rfl⟩ := hrel
    by_cases hlt : k < zs.length
    · have hlt' : (k : Int) < (zs.length : Int) := by omega
      obtain ⟨b1, o1, z, ha, HZ, hz1, hz2, hcz⟩ := HS.out.elem hlt
      subst ha
      have HA2 : Hid ((decide (s + z = 0 ∨ s + z = 1) && alt (s + z) (zs.drop (k + 1))) = B) := by
        have := HA.out
        rw [drop_cons _ _ hlt, alt, ← HZ.out] at this
        exact this
      clear HA HZ
      by_cases h0 : z = 0
      · subst h0
        have HA3 : Hid (alt s (zs.drop (k + 1)) = B) := by
          have := HA2.out
          have h := H01.out
          rw [Int.add_zero, decide_eq_true (by omega), Bool.true_and] at this
          exact this
        go_wp2
        go_roundw
        case rel => exact ⟨k + 1, s, u, by omega, by go_num, rfl, H01, HA3, trivial⟩
        case measure => simp [intOf]; omega
      · have g0 : (z == 0) = false := by simpa using h0
        by_cases h1 : z = u
        · subst h1
          have hne : (z != z) = false := by simp
          have HA3 : Hid (alt (s + z) (zs.drop (k + 1)) = B) := by
            have := HA2.out
            have h := H01.out
            rw [decide_eq_true (by omega), Bool.true_and] at this
            exact this
          have H01' : Hid (s + z = 0 ∧ -z = 1 ∨ s + z = 1 ∧ -z = -1) := by have h := H01.out; show _ ∨ _; omega
          have hwn : IntKind.i64.wrap (-z) = -z := by rw [IntKind.wrap_i64]; have h := H01.out; omega
          clear h0
          go_wp2
          go_roundw
          case rel => exact ⟨k + 1, s + z, -z, by omega, by go_num, rfl, H01', HA3, trivial⟩
          case measure => simp [intOf]; omega
        · have g1 : (z != u) = true := by simpa using h1
          have hBf : B = false := by
            rw [← HA2.out]
            have h := H01.out
            rw [decide_eq_false (by omega)]; rfl
          subst hBf
          clear h0 h1
          go_wp2
          go_ret
          exact ⟨rfl, rfl⟩
    · obtain rfl : k = zs.length := by omega
      have hBe : B = (u == -1) := by
        rw [← HA.out, List.drop_length]
        unfold alt
        rcases H01.out with ⟨h1, h2⟩ | ⟨h1, h2⟩
        · rw [h1, h2]; rfl
        · rw [h1, h2]; rfl
      subst hBe
      go_wp2
      go_ret
      exact ⟨rfl, rfl⟩

def tpz (P : Nat → Nat → Int) (j i : Nat) : Int := P i j

set_option maxHeartbeats 4000000 in
theorem Acrossz_at (a : Option Addr) (n m cap : Nat) (P : Nat → Nat → Int) (w : World) (hs : Table w a (tz n n P)) (hm : m = n) (n1 : 1 ≤ n) (n7 : n ≤ 20) :
    Calls Tryz.prog 15 #[.slice a m cap] w fun e w' => ∃ v, e = .returned v ∧ Hid (Tbl w' w.heap.size v (tz n n (tpz P))) ∧ Hid (Below w.heap.size w w') := by
  subst hm
  have HS : Hid (Table w a (tz m m P)) := hs
  clear hs
  have n0' : (0 : Int) < (m : Int) := by omega
  obtain ⟨b, off, ai0, ci0, rfl, HC0, -⟩ := HS.out.rowZ (i := 0) (by omega)
  go_enter Tryz.func15, Tryz.ntmps15
  go_wp2
  go_loopw [3, 4] (fun v q wr => ∃ j : Nat, j ≤ m ∧ q = .int .i64 j ∧ Hid (Tbl wr w.heap.size v ((tz m m (tpz P)).take j)) ∧ Hid (Below w.heap.size w wr)) (fun _ q _ => m - (intOf q).toNat)
  case atStart => exact ⟨0, Nat.zero_le _, rfl, by rw [List.take_zero]; exact Tbl.nil _ _, Below.refl _ _⟩
  case round =>
    obtain ⟨j, hj, rfl, HT, HB⟩ := hrel
    have hc0 := HC0.out wr HB.out
    rw [Nat.add_zero] at hc0
    by_cases hjl : j < m
    · have hjl' : (j : Int) < (m : Int) := by omega
      obtain ⟨vs, hV⟩ := HT.out
      have HV0 : Hid (TblV wr w.heap.size u3 vs ((tz m m (tpz P)).take j)) := hV
      have HLv : Hid (vs.length = j) := by show _ = _; rw [hV.len, List.length_take, tz_len]; omega
      clear hV HT
      go_wp2_with fail
      clear hc0
      obtain ⟨wj, HWj⟩ : ∃ wj, Hid (wj = wr) := ⟨_, rfl⟩
      rw [← HWj.out] at HB HV0
      have HB0 : Hid (Below wj.heap.size wj wr) := by rw [HWj.out]; exact Below.refl _ _
      go_loopw [5, 6] (fun v q wq => ∃ i : Nat, i ≤ m ∧ q = .int .i64 i ∧ Hid (Owns wq wj.heap.size v (tab i (tpz P j))) ∧ Hid (Below wj.heap.size wj wq)) (fun _ q _ => m - (intOf q).toNat)
      case atStart => exact ⟨0, Nat.zero_le _, rfl, World.ownsRow_nil _ _ _ _, HB0⟩
      case round =>
        clear HB0 HWj
        obtain ⟨i, hi, rfl, HR, HBi⟩ := hrel
        by_cases hil : i < m
        · have hil' : (i : Int) < (m : Int) := by omega
          obtain ⟨b9, off9, ai, ci, e9, HCi, HSi⟩ := HS.out.rowZ (i := i) hil
          simp only [Option.some.injEq, Addr.mk.injEq, and_true] at e9
          obtain ⟨rfl, rfl⟩ := e9
          have HBw : Hid (Below w.heap.size w wr) := HB.out.trans (HBi.out.mono HB.out.size)
          have hci := HCi.out _ HBw.out
          obtain ⟨b1, o1, hai, hcx, -, -⟩ := (HSi.out _ HBw.out).boxZ hjl
          subst hai
          obtain ⟨x, HXx⟩ : ∃ x, Hid (x = P i j) := ⟨_, rfl⟩
          rw [← HXx.out] at hcx
          have hjg : (m : Int) > (j : Int) := by omega
          go_wp2_with (at_builtin; refine append_int_at (N := wr.heap.size) (x := x) rfl _ _ rfl rfl rfl rfl HR.out ?c1 ?c2 ?_)
          case c1 => rw [tab_length]; omega
          case c2 => exact HBi.out.size
          intro v' w3 hO3 hb3 _
          have HO3 : Hid (Owns w3 wj.heap.size v' (tab (i + 1) (tpz P j))) := by
            show Owns _ _ _ _
            rw [tab_succ]; rw [HXx.out] at hO3; exact hO3
          have HB3 : Hid (Below wj.heap.size wj w3) := HBi.out.trans hb3
          clear hO3 hb3
          go_wp2
          go_roundw
          case rel => exact ⟨i + 1, by omega, by go_num, HO3, HB3⟩
          case measure => simp [intOf]; omega
        · obtain rfl : i = m := by omega
          obtain ⟨au, cu, hsu⟩ := HR.out.shape
          rw [tab_length] at hsu
          subst hsu
          have HV2 : Hid (TblV wr w.heap.size u3 vs ((tz i i (tpz P)).take j)) := HV0.out.same (fun q _ hq => HBi.out.block q hq)
          go_wp2_with (at_builtin; refine append_one elem_row (x := .slice au i cu) rfl _ _ rfl rfl rfl rfl HV2.out.own rfl ?c3 ?c4 ?c5 ?_)
          case c3 => have := HLv.out; unfold maxLen; omega
          case c4 => have := HLv.out; omega
          case c5 => exact Nat.le_trans HB.out.size HBi.out.size
          intro v' w3 hO3 hb3 hk3
          have hO3' : w3.ownsRow w.heap.size 36 1 v' (vs ++ [Value.slice au i cu]).length (vs ++ [Value.slice au i cu]) := by simpa using hO3
          have HT3 : Hid (Tbl w3 w.heap.size v' ((tz i i (tpz P)).take (j + 1))) := by
            show Tbl _ _ _ _
            rw [tz_take hjl]
            exact Tbl.push HV0.out HV2.out (Nat.le_refl _) HB.out.size HR.out hO3' hk3
          have HB3 : Hid (Below w.heap.size w w3) := (HB.out.trans (HBi.out.mono HB.out.size)).trans hb3
          clear hO3 hO3' hb3 hk3
          go_wp2
          go_roundw
          case rel => exact ⟨j + 1, by omega, by go_num, HT3, HB3⟩
          case measure => simp [intOf]; omega
    · obtain rfl : j = m := by omega
      have HE : Hid (Tbl wr w.heap.size u3 (tz j j (tpz P))) := by have := HT.out; rw [tz_takeAll] at this; exact this
      go_wp2
      go_ret
      exact ⟨_, rfl, HE, HB⟩

theorem colL_tpz {ls : List (List Int)} {k : Nat} (hk : k < ls.length) : (tz ls.length ls.length (tpz (box ls))).getD k [] = colL ls k := by rw [tz_get hk]; rfl

set_option maxHeartbeats 4000000 in
theorem Signs_at (a : Option Addr) (n cap : Nat) (ls : List (List Int)) (w : World) (B : Bool) (hs : Table w a ls) (hn : n = ls.length) (hl : ls.length ≤ 17592186044416) (HB : Hid (B = true ↔ SgL ls)) :
    Calls Tryz.prog 5 #[.slice a n cap] w fun e w' => e = .returned (.bool B) ∧ Hid (Below w.heap.size w w') := by
  subst hn
  have HS : Hid (Table w a ls) := hs
  clear hs
  have HBf : Hid (¬ SgL ls → B = false) := fun h => by
    cases hB : B with
    | false => rfl
    | true => exact absurd (HB.out.1 hB) h
  by_cases h1 : ls.length < 1
  · have h1' : (ls.length : Int) < 1 := by omega
    have hE := HBf.out (fun h => by have := h.sq.n1; omega)
    subst hE
    go_enter Tryz.func5, Tryz.ntmps5
    go_wp2
    go_ret
    exact ⟨rfl, Below.refl _ _⟩
  have h1' : ¬ (ls.length : Int) < 1 := by omega
  by_cases h7 : 7 < ls.length
  · have h7' : (7 : Int) < (ls.length : Int) := by omega
    have hE := HBf.out (fun h => by have := h.sq.n7; omega)
    subst hE
    go_enter Tryz.func5, Tryz.ntmps5
    go_wp2
    go_ret
    exact ⟨rfl, Below.refl _ _⟩
  have h7' : ¬ (7 : Int) < (ls.length : Int) := by omega
  go_enter Tryz.func5, Tryz.ntmps5
  go_wp2
  go_loopw [3] (fun q wr => ∃ k : Nat, k ≤ ls.length ∧ q = .int .i64 k ∧ Hid (∀ i, i < k → (row ls i).length = ls.length ∧ alt 0 (row ls i) = true) ∧ wr = w) (fun q _ => ls.length - (intOf q).toNat)
  case atStart => exact ⟨0, Nat.zero_le _, rfl, fun i h => absurd h (by omega), rfl⟩
  case round =>
    obtain ⟨k, hk, rfl, HK, rfl⟩ := hrel
    by_cases hlt : k < ls.length
    · have hlt' : (k : Int) < (ls.length : Int) := by omega
      obtain ⟨b1, off1, a1, m1, c1, rfl, hc1, HM1, HS1, -, hmb⟩ := HS.out.elemR hlt
      by_cases e : m1 = ls.length
      · subst e
        have hne : ((ls.length : Int) != (ls.length : Int)) = false := by simp
        obtain ⟨t1, HA1⟩ : ∃ t, Hid (alt 0 (ls.getD k []) = t) := ⟨_, rfl⟩
        cases t1 with
        | false =>
          have hE := HBf.out (fun h => by have := (h.alt k hlt).1; exact Bool.noConfusion (HA1.out.symm.trans this))
          subst hE
          go_wp2_with (go_at_call 14; refine (turnsOver_at _ _ _ _ _ false HS1.out HM1.out HA1).mono ?_; rintro e wr ⟨rfl, rfl⟩)
          go_ret
          exact ⟨rfl, Below.refl _ _⟩
        | true =>
          go_wp2_with (go_at_call 14; refine (turnsOver_at _ _ _ _ _ true HS1.out HM1.out HA1).mono ?_; rintro e wr ⟨rfl, rfl⟩)
          go_roundw
          case rel => exact ⟨k + 1, by omega, by go_num, fun i hi => by
            by_cases e : i = k
            · subst e; exact ⟨HM1.out.symm, HA1.out⟩
            · exact HK.out i (by omega), trivial⟩
          case measure => simp [intOf]; omega
      · have hne : ((m1 : Int) != (ls.length : Int)) = true := by rw [bne_iff_ne]; omega
        have hE := HBf.out (fun h => e (HM1.out.trans (h.sq.len k hlt)))
        subst hE
        clear e
        go_wp2
        go_ret
        exact ⟨rfl, Below.refl _ _⟩
    · obtain rfl : k = ls.length := by omega
      have HQ : Hid (Sq ls) := ⟨by omega, by omega, fun i hi => (HK.out i hi).1⟩
      have HT : Hid (Table wr a (tz ls.length ls.length (box ls))) := (fun ms e => e ▸ HS.out : ∀ ms, ls = ms → Table wr a ms) _ HQ.out.tab
      go_wp2_with (go_at_call 15; refine (Acrossz_at _ ls.length ls.length _ (box ls) _ HT.out rfl (by omega) (by omega)).mono ?_; rintro e w2 ⟨v2, rfl, HT2, HB2⟩)
      obtain ⟨a2, n2, c2, rfl, hT2, HN2⟩ := HT2.out.table (tz_wf (by omega) (fun i hi j hj => HS.out.wf hj (by rw [HQ.out.len j hj]; exact hi)))
      have hn2 : n2 = ls.length := by rw [HN2.out, tz_len]
      subst hn2
      have HTc : Hid (Table w2 a2 (tz ls.length ls.length (tpz (box ls)))) := hT2
      clear hT2 HT2 HN2
      go_loopw [5] (fun q wr2 => ∃ k : Nat, k ≤ ls.length ∧ q = .int .i64 k ∧ Hid (∀ i, i < k → alt 0 (colL ls i) = true) ∧ wr2 = w2) (fun q _ => ls.length - (intOf q).toNat)
      case atStart => exact ⟨0, Nat.zero_le _, rfl, fun i h => absurd h (by omega), rfl⟩
      case round =>
        obtain ⟨k, hk2, rfl, HK2, rfl⟩ := hrel
        by_cases hlt : k < ls.length
        · have hlt' : (k : Int) < (ls.length : Int) := by omega
          obtain ⟨b1, off1, a1, m1, c1, rfl, hc1, HM1, HS1, -, hmb⟩ := HTc.out.elemR (k := k) (by rw [tz_len]; exact hlt)
          rw [colL_tpz hlt] at HM1 HS1
          obtain ⟨t1, HA1⟩ : ∃ t, Hid (alt 0 (colL ls k) = t) := ⟨_, rfl⟩
          cases t1 with
          | false =>
            have hE := HBf.out (fun h => by have := (h.alt k hlt).2; exact Bool.noConfusion (HA1.out.symm.trans this))
            subst hE
            go_wp2_with (go_at_call 14; refine (turnsOver_at _ _ _ _ _ false HS1.out HM1.out HA1).mono ?_; rintro e w2 ⟨rfl, rfl⟩)
            go_ret
            exact ⟨rfl, HB2⟩
          | true =>
            go_wp2_with (go_at_call 14; refine (turnsOver_at _ _ _ _ _ true HS1.out HM1.out HA1).mono ?_; rintro e w2 ⟨rfl, rfl⟩)
            go_roundw
            case rel => exact ⟨k + 1, by omega, by go_num, fun i hi => by
              by_cases e : i = k
              · subst e; exact HA1.out
              · exact HK2.out i (by omega), trivial⟩
            case measure => simp [intOf]; omega
        · obtain rfl : k = ls.length := by omega
          have hE : B = true := HB.out.2 ⟨HQ.out, fun i hi => ⟨(HK.out i hi).2, HK2.out i hi⟩⟩
          subst hE
          go_wp2
          go_ret
          exact ⟨rfl, HB2⟩

end Go.Proofs.YtgcpconlmihilaaGreatDoor
