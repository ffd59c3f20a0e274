/-
  The contract of insert.Moves, of slices.ContainsFunc at the law's closure, and the law ferkeep.InsertKnuth.
-/
import Derived.Test.YtpbmcaoomcippadISor
import Derived.Test.YtpbmcaoomcippadIRis
import Derived.Test.YtpbmcaoomcippadIEq
import Derived.Test.YtpbmcaoomcippadIGlw
namespace Go.Proofs.Ytpbmcaoomcippad
open Go.RowKit Go.Shelf

/-- The words that are a step away. -/
def mvF (zs : List Int) : Nat → List (List Int)
  | 0 => []
  | k + 1 => mvF zs k ++ (if mcB zs (k + 1) = true then [chg zs (k + 1)] else [])
theorem mvF_len (zs : List Int) : ∀ k, (mvF zs k).length ≤ k := by
  intro k
  induction k with
  | zero => exact Nat.le_refl _
  | succ k ih => simp only [mvF, List.length_append]; split <;> simp <;> omega
theorem mvF_mem {zs v : List Int} : ∀ {k : Nat}, v ∈ mvF zs k ↔ ∃ i, 1 ≤ i ∧ i ≤ k ∧ mcB zs i = true ∧ v = chg zs i := by
  intro k
  induction k with
  | zero => simp [mvF]; intro i h1 h2; omega
  | succ k ih =>
    simp only [mvF, List.mem_append, ih]
    constructor
    · rintro (⟨i, h1, h2, h3, h4⟩ | h)
      · exact ⟨i, h1, by omega, h3, h4⟩
      · by_cases c : mcB zs (k + 1) = true
        · rw [if_pos c] at h; simp at h; exact ⟨k + 1, by omega, Nat.le_refl _, c, h⟩
        · rw [if_neg c] at h; simp at h
    · rintro ⟨i, h1, h2, h3, h4⟩
      by_cases e : i = k + 1
      · subst e; right; rw [if_pos h3, h4]; simp
      · left; exact ⟨i, h1, by omega, h3, h4⟩
/-- All of them. -/
def mvs (zs : List Int) : List (List Int) := mvF zs (zs.length - 1)
theorem mvs_mem {zs v : List Int} : v ∈ mvs zs ↔ ∃ i, 1 ≤ i ∧ i < zs.length ∧ mcP zs i ∧ v = chg zs i := by
  unfold mvs
  rw [mvF_mem]
  constructor
  · rintro ⟨i, h1, h2, h3, h4⟩; exact ⟨i, h1, by omega, mcB_iff.1 h3, h4⟩
  · rintro ⟨i, h1, h2, h3, h4⟩; exact ⟨i, h1, by omega, mcB_iff.2 h3, h4⟩
theorem mvs_ok {zs v : List Int} (hc : lchk zs = 0) (h : v ∈ mvs zs) : lchk v = 0 ∧ v ≠ zs ∧ zs ∈ mvs v ∧ insW [] v = insW [] zs ∧ v.length = zs.length := by
  obtain ⟨i, h1, h2, h3, rfl⟩ := mvs_mem.1 h
  obtain ⟨l1, l2⟩ := lchk_ok.1 hc
  refine ⟨lchk_ok.2 ⟨by rw [chg_length]; exact l1, fun z hz => l2 z (chg_mem h1 h2 z hz)⟩, chg_ne h1 h2 h3, ?_, chg_P h1 h2 h3, chg_length _ _⟩
  exact mvs_mem.2 ⟨i, h1, by rw [chg_length]; exact h2, (mc_chg h1 h2).2 h3, (chg_chg h1 h2).symm⟩

set_option maxHeartbeats 4000000 in
set_option maxRecDepth 100000 in
theorem Moves_ok {ρ : Go.Shelf.Ren} (L : SlLaysF.n6 Try.prog ρ) (hρ : ρ.f 6 = 52) (a : Option Addr) (n cap : Nat) (zs : List Int) (w : World) (hs : Shows w a zs) (hn : n = zs.length) (hc : lchk zs = 0) :
    Calls Try.prog 22 #[.slice a n cap] w fun e w' => ∃ v ls, e = .returned (.tuple #[v, .int .i64 0]) ∧ Hid (ls.Perm (mvs zs)) ∧ Tbl w' w.heap.size v ls ∧ Below w.heap.size w w' := by
  subst hn
  have HS : Hid (Shows w a zs) := hs
  have HC : Hid (lchk zs = 0) := hc
  obtain ⟨hl, hle⟩ := lchk_ok.1 hc
  have HLe : Hid (∀ z ∈ zs, 1 ≤ z ∧ z ≤ 99) := hle
  have HL : Hid (SlLaysF.n6 Try.prog ρ) := L
  have HBd : Hid (∀ l ∈ mvs zs, l.length ≤ 17592186044416 ∧ ∀ z ∈ l, -9223372036854775808 ≤ z ∧ z ≤ 9223372036854775807) := fun l hl' => by
    obtain ⟨h1, _, _, _, h5⟩ := mvs_ok HC.out hl'
    exact ⟨by rw [h5]; omega, fun z hz => by have := (lchk_ok.1 h1).2 z hz; omega⟩
  clear hs hc hle L
  go_enter Try.func22, Try.ntmps22
  go_wp2_with fail
  refine (Letters_is a _ cap zs w HS.out rfl HC).mono ?_
  rintro e w0 ⟨rfl, hw0⟩
  obtain rfl : w = w0 := hw0.symm
  clear hw0
  go_wp2
  go_loopw [5, 6] (fun v iv wr => ∃ k : Nat, k ≤ zs.length - 1 ∧ iv = .int .i64 ((k + 1 : Nat) : Int) ∧ Hid (Tbl wr w.heap.size v (mvF zs k)) ∧ Hid (Below w.heap.size w wr)) (fun _ iv _ => zs.length - (intOf iv).toNat)
  case atStart => exact ⟨0, Nat.zero_le _, rfl, Tbl.nil _ _, Below.refl _ _⟩
  case round =>
    obtain ⟨k, hk, rfl, HT, HB⟩ := hrel
    by_cases hlt : k + 1 < zs.length
    · have hlt' : ((k + 1 : Nat) : Int) < (zs.length : Int) := by omega
      have hk1 : IntKind.i64.wrap (((k + 1 : Nat) : Int) + 1) = ((k + 1 + 1 : Nat) : Int) := by rw [IntWalk.i64_left, IntWalk.wrap64_in _ (by omega)]; omega
      obtain ⟨t, HTt⟩ : ∃ t, Hid (mcB zs (k + 1) = t) := ⟨_, rfl⟩
      go_wp2_with fail
      refine (mayChange_at a _ cap zs (k + 1) wr (HS.out.below HB.out) rfl (by omega) (by omega) hlt HTt).mono ?_
      rintro e w1 ⟨rfl, d, hw1⟩
      have HB1 : Hid (Below w.heap.size w w1) := by rw [hw1]; exact below_drewN HB.out d
      have HT1 : Hid (Tbl w1 w.heap.size u5 (mvF zs k)) := by rw [hw1]; exact HT.out.drewN d
      clear hw1
      cases t with
      | false =>
        have HN : Hid (mvF zs (k + 1) = mvF zs k) := by show _ = _; simp only [mvF]; rw [HTt.out]; simp
        have HT2 : Hid (Tbl w1 w.heap.size u5 (mvF zs (k + 1))) := by rw [HN.out]; exact HT1.out
        go_wp2
        go_roundw
        case rel => exact ⟨k + 1, by omega, by go_num, HT2, HB1⟩
        case measure => simp [intOf]; omega
      | true =>
        have HN : Hid (mvF zs (k + 1) = mvF zs k ++ [chg zs (k + 1)]) := by show _ = _; simp only [mvF]; rw [HTt.out]; simp
        go_wp2_with fail
        refine (changed_at a _ cap zs (k + 1) w1 (HS.out.below HB1.out) rfl (by omega) (by omega) hlt).mono ?_
        rintro e w2 ⟨v1, rfl, hO1, hb1⟩
        obtain ⟨vs, hV⟩ := HT1.out
        have HV0 : Hid (TblV w1 w.heap.size u5 vs (mvF zs k)) := hV
        have HLv : Hid (vs.length ≤ 40) := by show _ ≤ _; rw [hV.len]; have := mvF_len zs k; omega
        have HO1 : Hid (Owns w2 w1.heap.size v1 (chg zs (k + 1))) := hO1
        have HB2 : Hid (Below w1.heap.size w1 w2) := hb1
        have HV2 : Hid (TblV w2 w.heap.size u5 vs (mvF zs k)) := hV.same (fun q _ hq => hb1.block q hq)
        obtain ⟨a1, c1, hsh⟩ := hO1.shape
        obtain ⟨m, Hm⟩ : ∃ m, Hid (m = (chg zs (k + 1)).length) := ⟨_, rfl⟩
        rw [← Hm.out] at hsh
        subst hsh
        clear hO1 hb1 hV
        go_wp2_with (at_builtin; refine append_one elem_row (x := .slice a1 m c1) rfl _ _ rfl rfl rfl rfl HV2.out.own rfl ?c3 ?c4 ?c5 ?_)
        case c3 => have := HLv.out; unfold maxLen; omega
        case c4 => have := HLv.out; omega
        case c5 => exact Nat.le_trans HB1.out.size HB2.out.size
        intro v' w3 hO3 hb3 hk3
        have hO3' : w3.ownsRow w.heap.size 22 1 v' (vs ++ [Value.slice a1 m c1]).length (vs ++ [Value.slice a1 m c1]) := by simpa using hO3
        have HT3 : Hid (Tbl w3 w.heap.size v' (mvF zs (k + 1))) := by
          rw [HN.out]
          exact Tbl.push HV0.out HV2.out (Nat.le_refl _) HB1.out.size HO1.out hO3' hk3
        have HB3 : Hid (Below w.heap.size w w3) := (HB1.out.trans (HB2.out.mono HB1.out.size)).trans hb3
        clear hO3 hO3' hb3 hk3
        go_wp2
        go_roundw
        case rel => exact ⟨k + 1, by omega, by go_num, HT3, HB3⟩
        case measure => simp [intOf]; omega
    · have hkk : k = zs.length - 1 := by omega
      have hlt' : ¬ ((k + 1 : Nat) : Int) < (zs.length : Int) := by omega
      have HT2 : Hid (Tbl wr w.heap.size u5 (mvs zs)) := by have := HT.out; rw [hkk] at this; exact this
      obtain ⟨vs, hV⟩ := HT2.out
      have HV : Hid (TblV wr w.heap.size u5 vs (mvs zs)) := hV
      have HLm : Hid ((mvs zs).length ≤ 1000) := by have := mvF_len zs (zs.length - 1); unfold mvs; show _ ≤ _; omega
      clear hV hkk
      go_wp2_with fail
      refine (SortRows_at HL.out hρ u5 vs (mvs zs) wr HV.out HLm.out HB.out.size HBd.out).mono ?_
      rintro e w2 ⟨rfl, ls, hP, hT, hb⟩
      have HP : Hid (ls.Perm (mvs zs)) := hP
      have HT3 : Hid (Tbl w2 w.heap.size u5 ls) := hT
      have HB2 : Hid (Below w.heap.size w w2) := HB.out.trans hb
      clear hP hT hb
      go_wp2
      go_ret2
      exact ⟨_, ls, rfl, HP, HT3.out, HB2.out⟩
set_option maxHeartbeats 2000000 in
theorem Moves_err {c : Int} (a : Option Addr) (n cap : Nat) (zs : List Int) (w : World) (hs : Shows w a zs) (hn : n = zs.length) (E : Hid (lchk zs = c)) (hc : (c != 0) = true) :
    Calls Try.prog 22 #[.slice a n cap] w fun e w' => e = .returned (.tuple #[.slice none 0 0, .int .i64 c]) ∧ w' = w := by
  subst hn
  go_enter Try.func22, Try.ntmps22
  go_wp2_with fail
  refine (Letters_is a _ cap zs w hs rfl E).mono ?_
  rintro e w0 ⟨rfl, hw0⟩
  obtain rfl : w = w0 := hw0.symm
  clear hw0
  go_wp2
  go_ret2
  exact ⟨rfl, rfl⟩
set_option maxHeartbeats 2000000 in
set_option maxRecDepth 100000 in
theorem kclo_at {t : Bool} (a b : Option Addr) (n m ca cb B : Nat) (xs zs : List Int) (w : World) (hs : Shows w a xs) (ht : Shows w b zs) (hn : n = xs.length) (hm : m = zs.length) (hB : w.cell? ⟨B, 0, none⟩ = some (.slice b m cb)) (E : Hid (decide (xs = zs) = t)) :
    Calls Try.prog 35 #[.slice a n ca, .pointer (some ⟨B, 0, none⟩)] w fun e w' => e = .returned (.bool t) ∧ ∃ d, w' = w.drewN d := by
  subst hn; subst hm
  go_enter Try.func35, Try.ntmps35
  go_wp2_with fail
  refine (Same_at a b _ _ ca cb xs zs w hs ht rfl rfl t E.out).mono ?_
  rintro e w1 ⟨rfl, hw1⟩
  have HD : Hid (∃ d, w1 = w.drewN d) := hw1
  clear hw1
  go_wp2
  go_ret
  exact ⟨rfl, HD.out⟩
set_option maxHeartbeats 4000000 in
set_option maxRecDepth 100000 in
theorem IndexRows_at (a b : Option Addr) (n m ca cb B : Nat) (ls : List (List Int)) (zs : List Int) (w : World) (hs : Table w a ls) (ht : Shows w b zs) (hn : n = ls.length) (hm : m = zs.length) (hl : ls.length ≤ 1000) (hB : w.cell? ⟨B, 0, none⟩ = some (.slice b m cb)) (hin : zs ∈ ls) :
    Calls Try.prog 61 #[.slice a n ca, .func (.func 35) #[] #[.pointer (some ⟨B, 0, none⟩)]] w fun e w' => ∃ k : Nat, e = .returned (.int .i64 k) ∧ ∃ d, w' = w.drewN d := by
  subst hn
  have HS : Hid (Table w a ls) := hs
  have HT : Hid (Shows w b zs) := ht
  have HBc : Hid (w.cell? ⟨B, 0, none⟩ = some (.slice b m cb)) := hB
  have HIn : Hid (∃ q, q < ls.length ∧ row ls q = zs) := by
    obtain ⟨q, hq, e⟩ := mem_row hin
    exact ⟨q, hq, e⟩
  have HM : Hid (m = zs.length) := hm
  clear hs ht hB hin hm
  go_enter Try.func61, Try.ntmps61
  go_wp2
  go_loopw [8] (fun iv wr => ∃ k : Nat, k ≤ ls.length ∧ iv = .int .i64 k ∧ Hid (∀ q, q < k → row ls q ≠ zs) ∧ Hid (∃ d, wr = w.drewN d)) (fun iv _ => ls.length - (intOf iv).toNat)
  case atStart => exact ⟨0, Nat.zero_le _, rfl, fun q hq => by omega, ⟨0, rfl⟩⟩
  case round =>
    obtain ⟨k, hk, rfl, HN, HD⟩ := hrel
    have hlt : k < ls.length := Nat.lt_of_not_le (fun c => by
      obtain ⟨q, hq, e⟩ := HIn.out
      exact HN.out q (by omega) e)
    have hlt' : (k : Int) < (ls.length : Int) := by omega
    have HTw : Hid (Table wr a ls) := by obtain ⟨d, hd⟩ := HD.out; show Table _ _ _; rw [hd]; exact HS.out.drewN d
    have HZw : Hid (Shows wr b zs) := by obtain ⟨d, hd⟩ := HD.out; show Shows _ _ _; rw [hd]; exact HT.out.drewN d
    have HBw : Hid (wr.cell? ⟨B, 0, none⟩ = some (.slice b m cb)) := by obtain ⟨d, hd⟩ := HD.out; rw [hd]; exact HBc.out
    obtain ⟨b1, off1, ai, q, ci, rfl, hc, HQ, HSk, -, -⟩ := HTw.out.elem hlt
    obtain ⟨t, HTt⟩ : ∃ t, Hid (decide (row ls k = zs) = t) := ⟨_, rfl⟩
    go_wp2_with fail
    refine (kclo_at ai b q m ci cb B (row ls k) zs wr HSk.out HZw.out HQ.out HM.out HBw.out HTt).mono ?_
    rintro e w1 ⟨rfl, d, hw1⟩
    have HD1 : Hid (∃ d, w1 = w.drewN d) := by obtain ⟨d0, hd0⟩ := HD.out; exact ⟨d0 + d, by rw [hw1, hd0, World.drewN_drewN]⟩
    clear hw1
    cases t with
    | true =>
      go_wp2
      go_ret
      exact ⟨k, rfl, HD1.out⟩
    | false =>
      have HN2 : Hid (∀ q, q < k + 1 → row ls q ≠ zs) := fun p hp => by
        by_cases e : p = k
        · subst e; exact of_decide_eq_false HTt.out
        · exact HN.out p (by omega)
      go_wp2
      go_roundw
      case rel => exact ⟨k + 1, by omega, by go_num, HN2, HD1⟩
      case measure => simp [intOf]; omega
set_option maxHeartbeats 2000000 in
set_option maxRecDepth 100000 in
theorem ContainsRows_at (a b : Option Addr) (n m ca cb B : Nat) (ls : List (List Int)) (zs : List Int) (w : World) (hs : Table w a ls) (ht : Shows w b zs) (hn : n = ls.length) (hm : m = zs.length) (hl : ls.length ≤ 1000) (hB : w.cell? ⟨B, 0, none⟩ = some (.slice b m cb)) (hin : zs ∈ ls) :
    Calls Try.prog 34 #[.slice a n ca, .func (.func 35) #[] #[.pointer (some ⟨B, 0, none⟩)]] w fun e w' => e = .returned (.bool true) ∧ ∃ d, w' = w.drewN d := by
  subst hn; subst hm
  go_enter Try.func34, Try.ntmps34
  go_wp2_with fail
  refine (IndexRows_at a b _ _ ca cb B ls zs w hs ht rfl rfl hl hB hin).mono ?_
  rintro e w1 ⟨k, rfl, hd⟩
  have HD : Hid (∃ d, w1 = w.drewN d) := hd
  have hk0 : (k : Int) ≥ 0 := by omega
  clear hd
  go_wp2
  go_ret
  exact ⟨rfl, HD.out⟩

end Go.Proofs.Ytpbmcaoomcippad
