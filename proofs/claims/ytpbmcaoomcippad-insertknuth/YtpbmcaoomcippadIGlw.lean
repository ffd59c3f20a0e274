/-
  The law ferkeep.InsertGreene.
-/
import Derived.Test.YtpbmcaoomcippadIRis
import Derived.Test.YtpbmcaoomcippadILon
import Derived.Deep.DeepCutAuto
import Derived.Deep.RegionLaw
namespace Go.Proofs.Ytpbmcaoomcippad
open Go.RowKit

theorem tm_nat (y : Int) (n : Nat) (hy : 0 ≤ y) (hn : 0 < n) : ∃ c : Nat, Int.tmod y (n : Int) = (c : Int) ∧ c < n := by
  refine ⟨(Int.tmod y (n : Int)).toNat, ?_, ?_⟩
  · rw [Int.toNat_of_nonneg (Int.tmod_nonneg _ hy)]
  · have h1 := Int.tmod_lt_of_pos y (show (0 : Int) < n by omega)
    have h2 := Int.tmod_nonneg (n : Int) hy
    omega
theorem wrap_bd (y : Int) : -9223372036854775808 ≤ IntKind.i64.wrap y ∧ IntKind.i64.wrap y ≤ 9223372036854775807 := by
  rw [IntWalk.i64_left]; unfold wrap64; omega
theorem owns_other {w : World} {base g1 g2 n : Nat} {cap j : Nat} {l : List Int} {v : Value} (h : Owns w base (.slice (some ⟨g2, 0, none⟩) n cap) l) (hne : g1 ≠ g2) : Owns (w.setCell ⟨g1, j, none⟩ v) base (.slice (some ⟨g2, 0, none⟩) n cap) l :=
  ownsRow_blocks h (fun k e => heap_setCell_other _ _ _ _ (fun e2 => by
    have e3 : some g2 = some k := e
    simp at e3 e2
    omega))
set_option maxHeartbeats 1000000 in
theorem Pick_at (x : Int) (n : Nat) (w : World) (hx : -9223372036854775808 ≤ x ∧ x ≤ 9223372036854775807) (hn : 0 < n) (hn2 : n ≤ 1000) :
    Calls Try.prog 33 #[.int .i64 x, .int .i64 n] w fun e w' => ∃ c : Nat, e = .returned (.int .i64 c) ∧ c < n ∧ w' = w := by
  have hn0 : ¬ (n : Int) = 0 := by omega
  have hn0b : ((n : Int) == 0) = false := beq_false_of_ne hn0
  have hres : ∀ y : Int, 0 ≤ y → ∃ c : Nat, Int.tmod y (n : Int) = (c : Int) ∧ c < n := fun y hy => by
    refine ⟨(Int.tmod y (n : Int)).toNat, ?_, ?_⟩
    · rw [Int.toNat_of_nonneg (Int.tmod_nonneg _ hy)]
    · have h1 := Int.tmod_lt_of_pos y (show (0 : Int) < n by omega)
      have h2 := Int.tmod_nonneg (n : Int) hy
      omega
  by_cases hneg : x < 0
  · have h1 : IntKind.i64.wrap (x + 1) = x + 1 := by rw [IntWalk.i64_left, IntWalk.wrap64_in _ (by omega)]
    have h2 : IntKind.i64.wrap (-(x + 1)) = -(x + 1) := by rw [IntWalk.i64_left, IntWalk.wrap64_in _ (by omega)]
    obtain ⟨c, hc, hcn⟩ := hres (-(x + 1)) (by omega)
    have h3 : IntKind.i64.wrap (Int.tmod (-(x + 1)) (n : Int)) = (c : Int) := by rw [hc, IntWalk.i64_left, IntWalk.wrap64_in _ (by omega)]
    have HC : Hid (c < n) := hcn
    clear hres
    go_enter Try.func33, Try.ntmps33
    go_wp2
    go_ret
    exact ⟨c, rfl, HC.out, rfl⟩
  · obtain ⟨c, hc, hcn⟩ := hres x (by omega)
    have h3 : IntKind.i64.wrap (Int.tmod x (n : Int)) = (c : Int) := by rw [hc, IntWalk.i64_left, IntWalk.wrap64_in _ (by omega)]
    have HC : Hid (c < n) := hcn
    clear hres
    go_enter Try.func33, Try.ntmps33
    go_wp2
    go_ret
    exact ⟨c, rfl, HC.out, rfl⟩

/-- 'make' of k numbers. -/
theorem make_int (w : World) (base k : Nat) (hk : k ≤ 1000) (hb : base ≤ w.heap.size) :
    ∃ w', (Instr.makeSlice 22 (.int .i64 (k : Int)) (.int .i64 (k : Int))).run Try.prog w = .ok (.slice (some ⟨w.heap.size, 0, none⟩) k k) w' ∧ Owns w' base (.slice (some ⟨w.heap.size, 0, none⟩) k k) (List.replicate k 0) ∧ Below w.heap.size w w' := by
  obtain ⟨i0, hi, hz0, hz1, hz2⟩ := info_parts Try.info3
  obtain ⟨w', hrun, r1, r2⟩ := run_make_full (P := Try.prog) w base 22 3 i0 (.int .i64 0) 1 Try.underlying22 hi hz0 hz1 .i64 .i64 k (by rw [hz2]; omega) (by unfold maxLen; omega) hb
  refine ⟨w', hrun, ?_, (Below.refl _ _).grown r2 (Nat.le_refl _) (fun k h => by cases h)⟩
  have h := owns_made (g := w.heap.size) (n := k) (base := base) (w := w') (by rw [Nat.mul_one] at r1; exact r1)
  have e : tab k (fun _ => (0 : Int)) = List.replicate k 0 := by unfold tab; rw [List.map_const', List.length_range]
  rw [e] at h; exact h

theorem S_rows (t : List (List Int)) : S t.length (fun i => (row t i).length) = t.flatten.length := by
  induction t with
  | nil => rfl
  | cons r t ih => rw [List.length_cons, S_first, List.flatten_cons, List.length_append, ← ih]; rfl
theorem S_part {f : Nat → Nat} (a : Nat) : ∀ b, a ≤ b → S a f ≤ S b f := by
  intro b
  induction b with
  | zero => intro h; obtain rfl : a = 0 := by omega
            exact Nat.le_refl _
  | succ b ih =>
    intro h
    by_cases e : a = b + 1
    · rw [e]; exact Nat.le_refl _
    · have := ih (by omega); rw [S]; omega
theorem up_len {zs : List Int} (h : lchk zs = 0) (k : Nat) : upN zs k ≤ zs.length := by
  obtain ⟨hT, _, hl⟩ := insW_tabs h
  unfold upN
  rw [← hl, ← S_rows]
  by_cases c : k ≤ (insW [] zs).length
  · exact S_part _ _ c
  · rw [S_cutB (n := (insW [] zs).length) (fun i hi => by rw [row_out hi]; rfl) k (by omega)]; exact Nat.le_refl _
theorem dn_len {zs : List Int} (h : lchk zs = 0) (k : Nat) : dnN zs k ≤ zs.length := by
  obtain ⟨hT, _, hl⟩ := insW_tabs h
  unfold dnN
  have e2 : S k (fun j => (colOf (insW [] zs) j).length) = S (insW [] zs).length (fun i => S k (fun j => ind (j < (row (insW [] zs) i).length))) := by
    rw [S_swap]
    refine S_congr (fun j _ => ?_)
    rw [S_congr (g := fun i => ind (i < (colOf (insW [] zs) j).length)) (fun i _ => ind_iff (col_len hT.shp).symm), S_below (colOf_le _ _)]
  rw [e2, ← hl, ← S_rows]
  refine S_le (fun i _ => ?_)
  by_cases hk : (row (insW [] zs) i).length ≤ k
  · rw [S_below hk]; exact Nat.le_refl _
  · refine Nat.le_trans (S_le (g := fun _ => 1) (fun j _ => ind_le _)) ?_
    rw [S_one]; omega
theorem up_has {zs : List Int} (h : lchk zs = 0) {k n : Nat} (hh : Has false k n zs) : n ≤ upN zs k := up_bound (insW_tabs h).1 ((has_P false k n zs).1 hh)
theorem dn_has {zs : List Int} (h : lchk zs = 0) {k n : Nat} (hh : Has true k n zs) : n ≤ dnN zs k := dn_bound (insW_tabs h).1 ((has_P true k n zs).1 hh)
theorem one_is {zs : List Int} (h : lchk zs = 0) {ps : List Nat} (h1 : ps.length = mxL (lls zs)) (h2 : ∀ p ∈ ps, p < zs.length) (h3 : ps.Pairwise (fun a b => a < b ∧ zs.getD a 0 ≤ zs.getD b 0)) : ps.length = upN zs 1 := by
  have a1 := up_has h (plc_has zs ps h2 h3)
  have a2 : Has false 1 (row (insW [] zs) 0).length zs := (has_P false 1 _ zs).2 (has_row (insW_tabs h).1)
  have a3 := has_one a2
  have a4 : upN zs 1 = (row (insW [] zs) 0).length := by unfold upN; simp [S]
  omega

set_option maxHeartbeats 16000000 in
set_option maxRecDepth 100000 in
theorem igre_let (aw ap : Option Addr) (cw cp : Nat) (zs qs : List Int) (k : Int) (w : World) (hw : Shows w aw zs) (hp : Shows w ap qs) (c : Int) (hc : (c != 0) = true) (E : Hid (lchk zs = c)) :
    Calls Try.prog 7 #[.slice aw zs.length cw, .slice ap qs.length cp, .int .i64 k] w fun e w' => e = .returned (.bool true) ∧ Below w.heap.size w w' := by
  have HS : Hid (Shows w aw zs) := hw
  have HP : Hid (Shows w ap qs) := hp
  clear hw hp
  have hcc : (c == c) = true := by simp
  have hc0 : c ≠ 0 := bne_iff_ne.1 hc
  have HR : Hid (∀ j, Hid (riC zs j = c)) := fun j => by show _ = _; unfold riC; rw [E.out, if_pos hc0]
  clear hc0
  have HL1 : Hid (Shows (w.alloc (.cells #[.int .i64 1, .int .i64 2, .int .i64 1] 3)) (some ⟨w.heap.size, 0, none⟩) [1, 2, 1]) := shows_lit w [1, 2, 1] #[.int .i64 1, .int .i64 2, .int .i64 1] rfl (by simp) (by simp)
  have HBl : Hid (Below w.heap.size w (w.alloc (.cells #[.int .i64 1, .int .i64 2, .int .i64 1] 3))) := (Below.refl _ _).alloc (Nat.le_refl _) _
  have HU1 : Hid (upN [1, 2, 1] 1 = 2) := by show upN [1, 2, 1] 1 = 2; decide
  go_enter Try.func7, Try.ntmps7
  go_wp2_with fail
  refine (Rising_ok (some ⟨w.heap.size, 0, none⟩) 3 3 [1, 2, 1] 1 _ HL1.out rfl (by decide) (by omega)).mono ?_
  rintro e w1 ⟨rfl, hb1⟩
  rw [HU1.out]
  have HB1 : Hid (Below w.heap.size w w1) := HBl.out.trans (hb1.mono HBl.out.size)
  clear hb1
  go_wp2_with fail
  refine (Rising_err aw _ cw zs k w1 (HS.out.below HB1.out) rfl (HR.out k) hc).mono ?_
  rintro e w2 ⟨rfl, hb2⟩
  have HB2 : Hid (Below w.heap.size w w2) := HB1.out.trans (hb2.mono HB1.out.size)
  clear hb2
  go_wp2_with fail
  refine (Falling_err aw _ cw zs k w2 (HS.out.below HB2.out) rfl (HR.out k) hc).mono ?_
  rintro e w3 ⟨rfl, hb3⟩
  have HB3 : Hid (Below w.heap.size w w3) := HB2.out.trans (hb3.mono HB2.out.size)
  clear hb3
  go_wp2_with fail
  refine (Rising_err aw _ cw zs 1 w3 (HS.out.below HB3.out) rfl (HR.out 1) hc).mono ?_
  rintro e w4 ⟨rfl, hb4⟩
  have HB4 : Hid (Below w.heap.size w w4) := HB3.out.trans (hb4.mono HB3.out.size)
  clear hb4
  go_wp2_with fail
  refine (Longest_err aw _ cw zs w4 (HS.out.below HB4.out) rfl E hc).mono ?_
  rintro e w5 ⟨rfl, hw5⟩
  obtain rfl : w4 = w5 := hw5.symm
  clear hw5
  go_wp2
  go_ret
  exact ⟨rfl, HB4.out⟩
set_option maxHeartbeats 16000000 in
set_option maxRecDepth 100000 in
theorem igre_neg (aw ap : Option Addr) (cw cp : Nat) (zs qs : List Int) (k : Int) (w : World) (hw : Shows w aw zs) (hp : Shows w ap qs) (hk : k < 0) (E : Hid (lchk zs = 0)) :
    Calls Try.prog 7 #[.slice aw zs.length cw, .slice ap qs.length cp, .int .i64 k] w fun e w' => e = .returned (.bool true) ∧ Below w.heap.size w w' := by
  have HS : Hid (Shows w aw zs) := hw
  have HP : Hid (Shows w ap qs) := hp
  clear hw hp
  have HR : Hid (riC zs k = 1) := by show _ = _; unfold riC; rw [E.out, if_neg (by simp), if_pos hk]
  have HL1 : Hid (Shows (w.alloc (.cells #[.int .i64 1, .int .i64 2, .int .i64 1] 3)) (some ⟨w.heap.size, 0, none⟩) [1, 2, 1]) := shows_lit w [1, 2, 1] #[.int .i64 1, .int .i64 2, .int .i64 1] rfl (by simp) (by simp)
  have HBl : Hid (Below w.heap.size w (w.alloc (.cells #[.int .i64 1, .int .i64 2, .int .i64 1] 3))) := (Below.refl _ _).alloc (Nat.le_refl _) _
  have HU1 : Hid (upN [1, 2, 1] 1 = 2) := by show upN [1, 2, 1] 1 = 2; decide
  go_enter Try.func7, Try.ntmps7
  go_wp2_with fail
  refine (Rising_ok (some ⟨w.heap.size, 0, none⟩) 3 3 [1, 2, 1] 1 _ HL1.out rfl (by decide) (by omega)).mono ?_
  rintro e w1 ⟨rfl, hb1⟩
  rw [HU1.out]
  have HB1 : Hid (Below w.heap.size w w1) := HBl.out.trans (hb1.mono HBl.out.size)
  clear hb1
  go_wp2_with fail
  refine (Rising_err aw _ cw zs k w1 (HS.out.below HB1.out) rfl HR (by decide)).mono ?_
  rintro e w2 ⟨rfl, hb2⟩
  have HB2 : Hid (Below w.heap.size w w2) := HB1.out.trans (hb2.mono HB1.out.size)
  clear hb2
  go_wp2_with fail
  refine (Falling_err aw _ cw zs k w2 (HS.out.below HB2.out) rfl HR (by decide)).mono ?_
  rintro e w3 ⟨rfl, hb3⟩
  have HB3 : Hid (Below w.heap.size w w3) := HB2.out.trans (hb3.mono HB2.out.size)
  clear hb3
  go_wp2_with fail
  refine (Rising_ok aw _ cw zs 1 w3 (HS.out.below HB3.out) rfl E.out (by omega)).mono ?_
  rintro e w4 ⟨rfl, hb4⟩
  have HB4 : Hid (Below w.heap.size w w4) := HB3.out.trans (hb4.mono HB3.out.size)
  clear hb4
  go_wp2_with fail
  refine (Longest_ok aw _ cw zs w4 (HS.out.below HB4.out) rfl E.out).mono ?_
  rintro e w5 ⟨v5, ps, rfl, hO5, hb5, hl5, hp5, hq5⟩
  have HB5 : Hid (Below w.heap.size w w5) := HB4.out.trans (hb5.mono HB4.out.size)
  clear hO5 hb5 hl5 hp5 hq5
  go_wp2
  go_ret
  exact ⟨rfl, HB5.out⟩
set_option maxHeartbeats 16000000 in
set_option maxRecDepth 100000 in
theorem igre_big (aw ap : Option Addr) (cw cp : Nat) (zs qs : List Int) (k : Nat) (w : World) (hw : Shows w aw zs) (hp : Shows w ap qs) (hk : 40 < k) (hk2 : k ≤ 9223372036854775807) (E : Hid (lchk zs = 0)) :
    Calls Try.prog 7 #[.slice aw zs.length cw, .slice ap qs.length cp, .int .i64 k] w fun e w' => e = .returned (.bool true) ∧ Below w.heap.size w w' := by
  have HS : Hid (Shows w aw zs) := hw
  have HP : Hid (Shows w ap qs) := hp
  clear hw hp
  obtain ⟨U, HU⟩ : ∃ U, Hid (upN zs k = U) := ⟨_, rfl⟩
  obtain ⟨D, HD⟩ : ∃ D, Hid (dnN zs k = D) := ⟨_, rfl⟩
  obtain ⟨O, HOn⟩ : ∃ O, Hid (upN zs 1 = O) := ⟨_, rfl⟩
  have hz40 : zs.length ≤ 40 := (lchk_ok.1 E.out).1
  have hUl : U ≤ zs.length := by rw [← HU.out]; exact up_len E.out k
  have hDl : D ≤ zs.length := by rw [← HD.out]; exact dn_len E.out k
  have hOl : O ≤ zs.length := by rw [← HOn.out]; exact up_len E.out 1
  have HL1 : Hid (Shows (w.alloc (.cells #[.int .i64 1, .int .i64 2, .int .i64 1] 3)) (some ⟨w.heap.size, 0, none⟩) [1, 2, 1]) := shows_lit w [1, 2, 1] #[.int .i64 1, .int .i64 2, .int .i64 1] rfl (by simp) (by simp)
  have HBl : Hid (Below w.heap.size w (w.alloc (.cells #[.int .i64 1, .int .i64 2, .int .i64 1] 3))) := (Below.refl _ _).alloc (Nat.le_refl _) _
  have HU1 : Hid (upN [1, 2, 1] 1 = 2) := by show upN [1, 2, 1] 1 = 2; decide
  go_enter Try.func7, Try.ntmps7
  go_wp2_with fail
  refine (Rising_ok (some ⟨w.heap.size, 0, none⟩) 3 3 [1, 2, 1] 1 _ HL1.out rfl (by decide) (by omega)).mono ?_
  rintro e w1 ⟨rfl, hb1⟩
  rw [HU1.out]
  have HB1 : Hid (Below w.heap.size w w1) := HBl.out.trans (hb1.mono HBl.out.size)
  clear hb1
  go_wp2_with fail
  refine (Rising_ok aw _ cw zs k w1 (HS.out.below HB1.out) rfl E.out hk2).mono ?_
  rintro e w2 ⟨rfl, hb2⟩
  rw [HU.out]
  have HB2 : Hid (Below w.heap.size w w2) := HB1.out.trans (hb2.mono HB1.out.size)
  clear hb2
  go_wp2_with fail
  refine (Falling_ok aw _ cw zs k w2 (HS.out.below HB2.out) rfl E.out hk2).mono ?_
  rintro e w3 ⟨rfl, hb3⟩
  rw [HD.out]
  have HB3 : Hid (Below w.heap.size w w3) := HB2.out.trans (hb3.mono HB2.out.size)
  clear hb3
  go_wp2_with fail
  refine (Rising_ok aw _ cw zs 1 w3 (HS.out.below HB3.out) rfl E.out (by omega)).mono ?_
  rintro e w4 ⟨rfl, hb4⟩
  rw [HOn.out]
  have HB4 : Hid (Below w.heap.size w w4) := HB3.out.trans (hb4.mono HB3.out.size)
  clear hb4
  go_wp2_with fail
  refine (Longest_ok aw _ cw zs w4 (HS.out.below HB4.out) rfl E.out).mono ?_
  rintro e w5 ⟨v5, ps, rfl, hO5, hb5, hl5, hp5, hq5⟩
  have HB5 : Hid (Below w.heap.size w w5) := HB4.out.trans (hb5.mono HB4.out.size)
  have HPl : Hid (ps.length = O) := by rw [← HOn.out]; exact one_is E.out hl5 hp5 hq5
  have HPp : Hid (∀ p ∈ ps, p < zs.length) := hp5
  have HPq : Hid (ps.Pairwise (fun a b => a < b ∧ zs.getD a 0 ≤ zs.getD b 0)) := hq5
  have HPb : Hid (∀ z ∈ plcL ps, 0 ≤ z ∧ z ≤ 1000) := fun z hz => by
    obtain ⟨p, hp, rfl⟩ := List.mem_map.1 hz
    have := HPp.out p hp
    omega
  obtain ⟨a5, n5, c5, rfl, hS5, hn5, -⟩ := hO5.opened (by unfold plcL; rw [List.length_map]; have := HPl.out; omega) (small_wf HPb.out)
  have hnO : n5 = O := by rw [hn5]; unfold plcL; rw [List.length_map]; exact HPl.out
  subst hnO
  have HS5 : Hid (Shows w5 a5 (plcL ps)) := hS5
  clear hO5 hb5 hl5 hp5 hq5 hS5 hn5
  have hkb : decide ((k : Int) > 40) = true := by simp; omega
  have hkb' : (k : Int) > 40 := by omega
  by_cases hU0 : (U : Int) = 0
  · have hu1 : ((U : Int) == 0) = true := by simp [hU0]
    by_cases hD0 : (D : Int) = 0
    · have hd1 : ((D : Int) == 0) = true := by simp [hD0]
      clear hU0 hD0
      go_wp2
      go_ret
      exact ⟨rfl, HB5.out⟩
    · have hd1 : ((D : Int) == 0) = false := beq_false_of_ne hD0
      clear hU0 hD0
      go_wp2
      go_ret
      exact ⟨rfl, HB5.out⟩
  · have hu1 : ((U : Int) == 0) = false := beq_false_of_ne hU0
    clear hU0
    go_wp2
    go_ret
    exact ⟨rfl, HB5.out⟩
set_option maxHeartbeats 16000000 in
set_option maxRecDepth 100000 in
theorem igre_fine (aw ap : Option Addr) (cw cp : Nat) (zs qs : List Int) (k : Nat) (w : World) (hw : Shows w aw zs) (hp : Shows w ap qs) (hk : k ≤ 40) (hk2 : k ≤ 9223372036854775807) (E : Hid (lchk zs = 0)) :
    Calls Try.prog 7 #[.slice aw zs.length cw, .slice ap qs.length cp, .int .i64 k] w fun e w' => e = .returned (.bool true) ∧ Below w.heap.size w w' := by
  have HS : Hid (Shows w aw zs) := hw
  have HP : Hid (Shows w ap qs) := hp
  clear hw hp
  obtain ⟨U, HU⟩ : ∃ U, Hid (upN zs k = U) := ⟨_, rfl⟩
  obtain ⟨D, HD⟩ : ∃ D, Hid (dnN zs k = D) := ⟨_, rfl⟩
  obtain ⟨O, HOn⟩ : ∃ O, Hid (upN zs 1 = O) := ⟨_, rfl⟩
  have hz40 : zs.length ≤ 40 := (lchk_ok.1 E.out).1
  have hUl : U ≤ zs.length := by rw [← HU.out]; exact up_len E.out k
  have hDl : D ≤ zs.length := by rw [← HD.out]; exact dn_len E.out k
  have hOl : O ≤ zs.length := by rw [← HOn.out]; exact up_len E.out 1
  have HL1 : Hid (Shows (w.alloc (.cells #[.int .i64 1, .int .i64 2, .int .i64 1] 3)) (some ⟨w.heap.size, 0, none⟩) [1, 2, 1]) := shows_lit w [1, 2, 1] #[.int .i64 1, .int .i64 2, .int .i64 1] rfl (by simp) (by simp)
  have HBl : Hid (Below w.heap.size w (w.alloc (.cells #[.int .i64 1, .int .i64 2, .int .i64 1] 3))) := (Below.refl _ _).alloc (Nat.le_refl _) _
  have HU1 : Hid (upN [1, 2, 1] 1 = 2) := by show upN [1, 2, 1] 1 = 2; decide
  go_enter Try.func7, Try.ntmps7
  go_wp2_with fail
  refine (Rising_ok (some ⟨w.heap.size, 0, none⟩) 3 3 [1, 2, 1] 1 _ HL1.out rfl (by decide) (by omega)).mono ?_
  rintro e w1 ⟨rfl, hb1⟩
  rw [HU1.out]
  have HB1 : Hid (Below w.heap.size w w1) := HBl.out.trans (hb1.mono HBl.out.size)
  clear hb1
  go_wp2_with fail
  refine (Rising_ok aw _ cw zs k w1 (HS.out.below HB1.out) rfl E.out hk2).mono ?_
  rintro e w2 ⟨rfl, hb2⟩
  rw [HU.out]
  have HB2 : Hid (Below w.heap.size w w2) := HB1.out.trans (hb2.mono HB1.out.size)
  clear hb2
  go_wp2_with fail
  refine (Falling_ok aw _ cw zs k w2 (HS.out.below HB2.out) rfl E.out hk2).mono ?_
  rintro e w3 ⟨rfl, hb3⟩
  rw [HD.out]
  have HB3 : Hid (Below w.heap.size w w3) := HB2.out.trans (hb3.mono HB2.out.size)
  clear hb3
  go_wp2_with fail
  refine (Rising_ok aw _ cw zs 1 w3 (HS.out.below HB3.out) rfl E.out (by omega)).mono ?_
  rintro e w4 ⟨rfl, hb4⟩
  rw [HOn.out]
  have HB4 : Hid (Below w.heap.size w w4) := HB3.out.trans (hb4.mono HB3.out.size)
  clear hb4
  go_wp2_with fail
  refine (Longest_ok aw _ cw zs w4 (HS.out.below HB4.out) rfl E.out).mono ?_
  rintro e w5 ⟨v5, ps, rfl, hO5, hb5, hl5, hp5, hq5⟩
  have HB5 : Hid (Below w.heap.size w w5) := HB4.out.trans (hb5.mono HB4.out.size)
  have HPl : Hid (ps.length = O) := by rw [← HOn.out]; exact one_is E.out hl5 hp5 hq5
  have HPp : Hid (∀ p ∈ ps, p < zs.length) := hp5
  have HPq : Hid (ps.Pairwise (fun a b => a < b ∧ zs.getD a 0 ≤ zs.getD b 0)) := hq5
  have HPb : Hid (∀ z ∈ plcL ps, 0 ≤ z ∧ z ≤ 1000) := fun z hz => by
    obtain ⟨p, hp, rfl⟩ := List.mem_map.1 hz
    have := HPp.out p hp
    omega
  obtain ⟨a5, n5, c5, rfl, hS5, hn5, -⟩ := hO5.opened (by unfold plcL; rw [List.length_map]; have := HPl.out; omega) (small_wf HPb.out)
  have hnO : n5 = O := by rw [hn5]; unfold plcL; rw [List.length_map]; exact HPl.out
  subst hnO
  have HS5 : Hid (Shows w5 a5 (plcL ps)) := hS5
  clear hO5 hb5 hl5 hp5 hq5 hS5 hn5
  have hkb : decide ((k : Int) > 40) = false := by simp; omega
  have hnn : ((n5 : Int) != (n5 : Int)) = false := by simp
  go_wp2
  go_loopw [97] (fun iv wr => ∃ i : Nat, i ≤ n5 ∧ iv = .int .i64 i ∧ Hid (∃ d, wr = w5.drewN d)) (fun iv _ => n5 - (intOf iv).toNat)
  case atStart => exact ⟨0, Nat.zero_le _, rfl, ⟨0, rfl⟩⟩
  case round =>
    obtain ⟨i, hi, rfl, HDr⟩ := hrel
    have HB5r : Hid (Below w5.heap.size w5 wr) := by obtain ⟨d, hd⟩ := HDr.out; rw [hd]; exact below_drewN (Below.refl _ _) d
    have HBr : Hid (Below w.heap.size w wr) := HB5.out.trans (HB5r.out.mono HB5.out.size)
    have HDn : Hid (∀ n, Hid (∃ d, wr.drewN n = w5.drewN d)) := fun n => by obtain ⟨d, hd⟩ := HDr.out; exact ⟨d + n, by rw [hd, World.drewN_drewN]⟩
    by_cases hlt : i < n5
    · have hlt' : (i : Int) < (n5 : Int) := by omega
      have hil : i < ps.length := by rw [HPl.out]; exact hlt
      have hip : i < (plcL ps).length := by unfold plcL; rw [List.length_map]; exact hil
      obtain ⟨b, off, x, rfl, HX, -, -, hcx⟩ := (HS5.out.below HB5r.out).elem hip
      obtain ⟨p, HPd⟩ : ∃ p, Hid (p = ps.getD i 0) := ⟨_, rfl⟩
      have hxp : x = (p : Int) + 1 := by rw [HX.out, HPd.out]; unfold plcL; simp [List.getD, List.getElem?_eq_getElem hil]
      subst hxp
      have hpz : p < zs.length := by rw [HPd.out]; exact HPp.out _ (by simp [List.getD, List.getElem?_eq_getElem hil])
      have d1 : decide ((p : Int) + 1 < 1) = false := by simp; omega
      have d2 : decide ((p : Int) + 1 > (zs.length : Int)) = false := by simp; omega
      by_cases hi0 : i = 0
      · have d3 : decide ((i : Int) > 0) = false := by simp; omega
        have d3b : decide (0 < i) = false := by simp; omega
        clear hi0
        go_wp2_with fail
        go_quiet (fail)
        go_wp2
        go_roundw
        case rel => exact ⟨i + 1, by omega, by go_num, HDn.out _⟩
        case measure => simp [intOf]; omega
      · have d3 : decide ((i : Int) > 0) = true := by simp; omega
        have d3b : decide (0 < i) = true := by simp; omega
        obtain ⟨m, hm⟩ : ∃ m, m + 1 = i := ⟨i - 1, by omega⟩
        have his : IntKind.i64.wrap ((i : Int) - 1) = (m : Int) := by rw [IntWalk.i64_left, IntWalk.wrap64_in _ (by omega)]; omega
        have hmn : (m : Int) < (n5 : Int) := by omega
        have hml : m < ps.length := by omega
        obtain ⟨b', off', x', hab, HX', -, -, hcx'⟩ := (HS5.out.below HB5r.out).elem (k := m) (by unfold plcL; rw [List.length_map]; exact hml)
        simp only [Option.some.injEq, Addr.mk.injEq, and_true] at hab
        obtain ⟨rfl, rfl⟩ := hab
        obtain ⟨p', HPd'⟩ : ∃ p', Hid (p' = ps.getD m 0) := ⟨_, rfl⟩
        have hxp' : x' = (p' : Int) + 1 := by rw [HX'.out, HPd'.out]; unfold plcL; simp [List.getD, List.getElem?_eq_getElem hml]
        subst hxp'
        have hp' : p' < p ∧ zs.getD p' 0 ≤ zs.getD p 0 := by
          rw [HPd.out, HPd'.out]
          have := List.pairwise_iff_getElem.1 HPq.out m i hml hil (by omega)
          simpa [List.getD, List.getElem?_eq_getElem hil, List.getElem?_eq_getElem hml] using this
        have hps : IntKind.i64.wrap ((p : Int) + 1 - 1) = (p : Int) := by rw [IntWalk.i64_left, IntWalk.wrap64_in _ (by omega)]; omega
        have hps' : IntKind.i64.wrap ((p' : Int) + 1 - 1) = (p' : Int) := by rw [IntWalk.i64_left, IntWalk.wrap64_in _ (by omega)]; omega
        have hpl : (p : Int) < (zs.length : Int) := by omega
        have hpl' : (p' : Int) < (zs.length : Int) := by omega
        obtain ⟨b2, off2, z, hab2, HZ, -, -, hcz⟩ := (HS.out.below HBr.out).elem hpz
        obtain ⟨b3, off3, z', hab3, HZ', -, -, hcz'⟩ := (HS.out.below HBr.out).elem (k := p') (by omega)
        subst hab2
        simp only [Option.some.injEq, Addr.mk.injEq, and_true] at hab3
        obtain ⟨rfl, rfl⟩ := hab3
        have d4 : decide ((p : Int) + 1 ≤ (p' : Int) + 1) = false := by simp; omega
        have d4b : decide (p ≤ p') = false := by simp; omega
        have d5 : decide (z < z') = false := by rw [HZ.out, HZ'.out]; simp; exact hp'.2
        clear hi0 hm hp'
        go_wp2_with fail
        go_quiet (fail)
        go_wp2
        go_roundw
        case rel => exact ⟨i + 1, by omega, by go_num, HDn.out _⟩
        case measure => simp [intOf]; omega
    · obtain rfl : i = n5 := by omega
      have hlt' : ¬ (i : Int) < (i : Int) := by omega
      go_upto_region 19 with fail
      go_cut [21, 22] (fun s21 s22 wx => ∃ g1 g2 : Nat, s21 = .slice (some ⟨g1, 0, none⟩) k k ∧ s22 = .slice (some ⟨g2, 0, none⟩) k k ∧ Hid (g1 ≠ g2 ∧ w.heap.size ≤ g1 ∧ w.heap.size ≤ g2) ∧ Hid (Owns wx w.heap.size (.slice (some ⟨g1, 0, none⟩) k k) (List.replicate k 0) ∧ Owns wx w.heap.size (.slice (some ⟨g2, 0, none⟩) k k) (List.replicate k 0)) ∧ Hid (Below w.heap.size w wx))
      case first =>
        obtain ⟨i0, hi0, hz0, hz1, hz2⟩ := info_parts Try.info3
        obtain ⟨w6, hrun1, hOa, hba⟩ := make_int wr.drew w.heap.size k (by omega) (HBr.out.size)
        have HBm : Hid (Below w.heap.size w w6) := (below_drewN HBr.out 1).trans (hba.mono HBr.out.size)
        obtain ⟨w7, hrun2, hOb, hbb⟩ := make_int w6 w.heap.size k (by omega) (HBm.out.size)
        have HBn : Hid (Below w.heap.size w w7) := HBm.out.trans (hbb.mono HBm.out.size)
        have HF : Hid (wr.heap.size < w6.heap.size ∧ Owns w7 w.heap.size (.slice (some ⟨wr.heap.size, 0, none⟩) k k) (List.replicate k 0) ∧ Owns w7 w.heap.size (.slice (some ⟨w6.heap.size, 0, none⟩) k k) (List.replicate k 0)) := ⟨(hOa.lt (g := wr.heap.size) rfl).2, hOa.below hbb, hOb⟩
        have hsz : wr.drew.heap.size = wr.heap.size := rfl
        rw [hsz] at hrun1
        clear hOa hOb hba hbb hsz
        go_region
        all_goals (
          go_wp2_with fail
          go_meet
          first | exact ⟨_, _, rfl, rfl, ⟨by have := HF.out.1; omega, HBr.out.size, HBm.out.size⟩, ⟨HF.out.2.1, HF.out.2.2⟩, HBn⟩ | exact ⟨_, _, rfl, rfl, ⟨by have := HF.out.1; omega, HBm.out.size, HBr.out.size⟩, ⟨HF.out.2.2, HF.out.2.1⟩, HBn⟩)
      case rest =>
        obtain ⟨g1, g2, rfl, rfl, HG, HOO, HBx⟩ := hcut
        by_cases hbr : k = 0 ∨ qs.length = 0
        · go_wp2
          go_loopw [19, 20, 147] (fun nv mv iv wr => nv = .int .i64 0 ∧ mv = .int .i64 0 ∧ iv = .int .i64 0 ∧ Hid (Below w.heap.size w wr)) (fun _ _ _ _ => 0)
          case atStart => exact ⟨rfl, rfl, rfl, HBx⟩
          case round =>
            obtain ⟨rfl, rfl, rfl, HBq⟩ := hrel
            by_cases hz0 : 0 < zs.length
            · have hz0' : (0 : Int) < (zs.length : Int) := by omega
              by_cases hk0 : k = 0
              · have hk0' : ((k : Int) == 0) = true := by simp [hk0]
                clear hk0 hbr
                go_wp2
                go_ret
                exact ⟨rfl, HBq.out⟩
              · have hk0' : ((k : Int) == 0) = false := beq_false_of_ne (by omega)
                have hq0' : ((qs.length : Int) == 0) = true := by
                  rcases hbr with h | h
                  · exact absurd h hk0
                  · simp [h]
                clear hk0 hbr
                go_wp2
                go_ret
                exact ⟨rfl, HBq.out⟩
            · have hz0' : ¬ (0 : Int) < (zs.length : Int) := by omega
              clear hbr
              go_wp2
              go_ret
              exact ⟨rfl, HBq.out⟩
        · have hkp : 0 < k := by omega
          have hqp : 0 < qs.length := by omega
          have hk0' : ((k : Int) == 0) = false := beq_false_of_ne (by omega)
          have hq0' : ((qs.length : Int) == 0) = false := beq_false_of_ne (by omega)
          have hq0n : ¬ (qs.length : Int) = 0 := by omega
          have HLe : Hid (∀ z ∈ zs, 1 ≤ z ∧ z ≤ 99) := (lchk_ok.1 E.out).2
          have HG12 : Hid (g1 ≠ g2) := HG.out.1
          clear hbr
          go_wp2
          go_loopw [19, 20, 147] (fun nv mv iv wr => ∃ (i n m : Nat) (last low : List Int), i ≤ zs.length ∧ iv = .int .i64 i ∧ nv = .int .i64 n ∧ mv = .int .i64 m ∧ n ≤ i ∧ m ≤ i ∧ Hid (GrU k (zs.take i) last n) ∧ Hid (GrD k (zs.take i) low m) ∧ Hid (Owns wr w.heap.size (.slice (some ⟨g1, 0, none⟩) k k) last ∧ Owns wr w.heap.size (.slice (some ⟨g2, 0, none⟩) k k) low) ∧ Hid (Below w.heap.size w wr)) (fun _ _ iv _ => zs.length - (intOf iv).toNat)
          case atStart => exact ⟨0, 0, 0, _, _, Nat.zero_le _, rfl, rfl, rfl, Nat.le_refl _, Nat.le_refl _, GrU.nil k, GrD.nil k, HOO, HBx⟩
          case round =>
            obtain ⟨i, n, m, last, low, hi, rfl, rfl, rfl, hni, hmi, HU2, HD2, HOw, HBq⟩ := hrel
            by_cases hlt : i < zs.length
            · have hlt' : (i : Int) < (zs.length : Int) := by omega
              obtain ⟨b, off, z, rfl, HZ, -, -, hcz⟩ := (HS.out.below HBq.out).elem hlt
              have hzb : 1 ≤ z ∧ z ≤ 99 := by rw [HZ.out]; exact HLe.out _ (getD_mem hlt)
              obtain ⟨c0, hc0, hc0l⟩ := tm_nat (i : Int) qs.length (by omega) hqp
              have hc0w : IntKind.i64.wrap (Int.tmod (i : Int) (qs.length : Int)) = (c0 : Int) := by rw [hc0, IntWalk.i64_left, IntWalk.wrap64_in _ (by have := HP.out.len; omega)]
              have hc0' : (c0 : Int) < (qs.length : Int) := by omega
              obtain ⟨bq, offq, q, hapq, HQ, hq1, hq2, hcq⟩ := (HP.out.below HBq.out).elem hc0l
              subst hapq
              obtain ⟨X, hX⟩ : ∃ X, IntKind.i64.wrap (q + (i : Int)) = X := ⟨_, rfl⟩
              have HXb : Hid (-9223372036854775808 ≤ X ∧ X ≤ 9223372036854775807) := by rw [← hX]; exact wrap_bd _
              have HTk : Hid (zs.take (i + 1) = zs.take i ++ [z]) := by show _ = _; rw [take_snoc zs i hlt, HZ.out]
              go_wp2_with fail
              refine (Pick_at X k wr HXb.out hkp (by omega)).mono ?_
              rintro e wy ⟨c, rfl, hck, hwy⟩
              obtain rfl : wr = wy := hwy.symm
              clear hwy
              have hck' : (c : Int) < (k : Int) := by omega
              have HSB : Hid (∀ W, Below w.heap.size w W → W.cell? ⟨b, off + i, none⟩ = some (.int .i64 z)) := fun W hW => by
                obtain ⟨b', off', x', hab, HX', -, -, hc'⟩ := (HS.out.below hW).elem hlt
                simp only [Option.some.injEq, Addr.mk.injEq, and_true] at hab
                obtain ⟨rfl, rfl⟩ := hab
                rw [hc', HX'.out, HZ.out]
              obtain ⟨-, hfz, hcl⟩ := HOw.out.1.at HU2.out.len.symm
              obtain ⟨y, HY⟩ : ∃ y, Hid (y = last.getD c 0) := ⟨_, rfl⟩
              have hcy := hcl c (by rw [HU2.out.len]; exact hck)
              have hfy := hfz c
              rw [← HY.out] at hcy
              clear hcl hfz hc0 hcq
              obtain ⟨y2, HY2⟩ : ∃ y2, Hid (y2 = low.getD c 0) := ⟨_, rfl⟩
              by_cases hzy : z ≥ y
              · have d1 : decide (z ≥ y) = true := by simpa using hzy
                have HU3 : Hid (GrU k (zs.take (i + 1)) (last.set c z) (n + 1)) := by rw [HTk.out]; exact HU2.out.take hck (by rw [← HY.out]; exact hzy)
                go_wp2_with fail
                go_quiet (fail)
                go_wp2_with fail
                obtain ⟨W1, HW1⟩ : ∃ W1, Hid (W1 = (wr.drewN nq).setCell ⟨g1, c, none⟩ (.int .i64 z)) := ⟨_, rfl⟩
                rw [← HW1.out]
                have HO1 : Hid (Owns W1 w.heap.size (.slice (some ⟨g1, 0, none⟩) k k) (last.set c z) ∧ Owns W1 w.heap.size (.slice (some ⟨g2, 0, none⟩) k k) low) := by
                  rw [HW1.out]
                  have hB : Below wr.heap.size wr (wr.drewN nq) := below_drewN (Below.refl _ _) nq
                  exact ⟨(HOw.out.1.below hB).store HU2.out.len.symm c z, owns_other (HOw.out.2.below hB) HG12.out⟩
                have HBW : Hid (Below w.heap.size w W1) := by rw [HW1.out]; exact (below_drewN HBq.out nq).setCell (p := ⟨g1, c, none⟩) HG.out.2.1 _
                have hcz1 := HSB.out W1 HBW.out
                obtain ⟨-, hfz2, hcl2⟩ := HO1.out.2.at HD2.out.len.symm
                have hcy2 := hcl2 c (by rw [HD2.out.len]; exact hck)
                have hfy2 := hfz2 c
                rw [← HY2.out] at hcy2
                clear hcl2 hfz2 hcz hcy hfy
                by_cases h0 : y2 = 0
                · have e1 : (y2 == 0) = true := by simp [h0]
                  have HD3 : Hid (GrD k (zs.take (i + 1)) (low.set c z) (m + 1)) := by rw [HTk.out]; exact HD2.out.take hck (Or.inl (by rw [← HY2.out]; exact h0)) hzb.1
                  clear h0
                  have HOn : Hid (∀ d, Owns ((W1.drewN d).setCell ⟨g2, c, none⟩ (.int .i64 z)) w.heap.size (.slice (some ⟨g1, 0, none⟩) k k) (last.set c z) ∧ Owns ((W1.drewN d).setCell ⟨g2, c, none⟩ (.int .i64 z)) w.heap.size (.slice (some ⟨g2, 0, none⟩) k k) (low.set c z)) := fun d => by
                    have hB : Below W1.heap.size W1 (W1.drewN d) := below_drewN (Below.refl _ _) d
                    exact ⟨owns_other (HO1.out.1.below hB) (fun e => HG12.out e.symm), (HO1.out.2.below hB).store HD2.out.len.symm c z⟩
                  have HBn : Hid (∀ d, Below w.heap.size w ((W1.drewN d).setCell ⟨g2, c, none⟩ (.int .i64 z))) := fun d => (below_drewN HBW.out d).setCell (p := ⟨g2, c, none⟩) HG.out.2.2 _
                  go_quiet (fail)
                  go_wp2
                  go_roundw
                  case rel => exact ⟨i + 1, n + 1, m + 1, last.set c z, low.set c z, by omega, by go_num, by go_num, by go_num, by omega, by omega, HU3, HD3, HOn.out _, HBn.out _⟩
                  case measure => simp [intOf]; omega
                · have e1 : (y2 == 0) = false := beq_false_of_ne h0
                  by_cases h2 : z < y2
                  · have e2 : decide (z < y2) = true := by simpa using h2
                    have HD3 : Hid (GrD k (zs.take (i + 1)) (low.set c z) (m + 1)) := by rw [HTk.out]; exact HD2.out.take hck (Or.inr (by rw [← HY2.out]; exact h2)) hzb.1
                    have HOn : Hid (∀ d, Owns ((W1.drewN d).setCell ⟨g2, c, none⟩ (.int .i64 z)) w.heap.size (.slice (some ⟨g1, 0, none⟩) k k) (last.set c z) ∧ Owns ((W1.drewN d).setCell ⟨g2, c, none⟩ (.int .i64 z)) w.heap.size (.slice (some ⟨g2, 0, none⟩) k k) (low.set c z)) := fun d => by
                      have hB : Below W1.heap.size W1 (W1.drewN d) := below_drewN (Below.refl _ _) d
                      exact ⟨owns_other (HO1.out.1.below hB) (fun e => HG12.out e.symm), (HO1.out.2.below hB).store HD2.out.len.symm c z⟩
                    have HBn : Hid (∀ d, Below w.heap.size w ((W1.drewN d).setCell ⟨g2, c, none⟩ (.int .i64 z))) := fun d => (below_drewN HBW.out d).setCell (p := ⟨g2, c, none⟩) HG.out.2.2 _
                    go_quiet (fail)
                    go_wp2
                    go_roundw
                    case rel => exact ⟨i + 1, n + 1, m + 1, last.set c z, low.set c z, by omega, by go_num, by go_num, by go_num, by omega, by omega, HU3, HD3, HOn.out _, HBn.out _⟩
                    case measure => simp [intOf]; omega
                  · have e2 : decide (z < y2) = false := by simpa using h2
                    have HD3 : Hid (GrD k (zs.take (i + 1)) low m) := by rw [HTk.out]; exact HD2.out.pass z
                    have HOn : Hid (∀ d, Owns (W1.drewN d) w.heap.size (.slice (some ⟨g1, 0, none⟩) k k) (last.set c z) ∧ Owns (W1.drewN d) w.heap.size (.slice (some ⟨g2, 0, none⟩) k k) low) := fun d => by
                      have hB : Below W1.heap.size W1 (W1.drewN d) := below_drewN (Below.refl _ _) d
                      exact ⟨HO1.out.1.below hB, HO1.out.2.below hB⟩
                    have HBn : Hid (∀ d, Below w.heap.size w (W1.drewN d)) := fun d => below_drewN HBW.out d
                    go_quiet (fail)
                    go_wp2
                    go_roundw
                    case rel => exact ⟨i + 1, n + 1, m, last.set c z, low, by omega, by go_num, by go_num, by go_num, by omega, by omega, HU3, HD3, HOn.out _, HBn.out _⟩
                    case measure => simp [intOf]; omega
              · have d1 : decide (z ≥ y) = false := by simpa using hzy
                have HU3 : Hid (GrU k (zs.take (i + 1)) last n) := by rw [HTk.out]; exact HU2.out.pass z
                go_wp2_with fail
                go_quiet (fail)
                go_wp2_with fail
                obtain ⟨W1, HW1⟩ : ∃ W1, Hid (W1 = wr.drewN nq) := ⟨_, rfl⟩
                rw [← HW1.out]
                have HO1 : Hid (Owns W1 w.heap.size (.slice (some ⟨g1, 0, none⟩) k k) last ∧ Owns W1 w.heap.size (.slice (some ⟨g2, 0, none⟩) k k) low) := by
                  rw [HW1.out]
                  have hB : Below wr.heap.size wr (wr.drewN nq) := below_drewN (Below.refl _ _) nq
                  exact ⟨HOw.out.1.below hB, HOw.out.2.below hB⟩
                have HBW : Hid (Below w.heap.size w W1) := by rw [HW1.out]; exact below_drewN HBq.out nq
                have hcz1 := HSB.out W1 HBW.out
                obtain ⟨-, hfz2, hcl2⟩ := HO1.out.2.at HD2.out.len.symm
                have hcy2 := hcl2 c (by rw [HD2.out.len]; exact hck)
                have hfy2 := hfz2 c
                rw [← HY2.out] at hcy2
                clear hcl2 hfz2 hcz hcy hfy
                by_cases h0 : y2 = 0
                · have e1 : (y2 == 0) = true := by simp [h0]
                  have HD3 : Hid (GrD k (zs.take (i + 1)) (low.set c z) (m + 1)) := by rw [HTk.out]; exact HD2.out.take hck (Or.inl (by rw [← HY2.out]; exact h0)) hzb.1
                  clear h0
                  have HOn : Hid (∀ d, Owns ((W1.drewN d).setCell ⟨g2, c, none⟩ (.int .i64 z)) w.heap.size (.slice (some ⟨g1, 0, none⟩) k k) (last) ∧ Owns ((W1.drewN d).setCell ⟨g2, c, none⟩ (.int .i64 z)) w.heap.size (.slice (some ⟨g2, 0, none⟩) k k) (low.set c z)) := fun d => by
                    have hB : Below W1.heap.size W1 (W1.drewN d) := below_drewN (Below.refl _ _) d
                    exact ⟨owns_other (HO1.out.1.below hB) (fun e => HG12.out e.symm), (HO1.out.2.below hB).store HD2.out.len.symm c z⟩
                  have HBn : Hid (∀ d, Below w.heap.size w ((W1.drewN d).setCell ⟨g2, c, none⟩ (.int .i64 z))) := fun d => (below_drewN HBW.out d).setCell (p := ⟨g2, c, none⟩) HG.out.2.2 _
                  go_quiet (fail)
                  go_wp2
                  go_roundw
                  case rel => exact ⟨i + 1, n, m + 1, last, low.set c z, by omega, by go_num, by go_num, by go_num, by omega, by omega, HU3, HD3, HOn.out _, HBn.out _⟩
                  case measure => simp [intOf]; omega
                · have e1 : (y2 == 0) = false := beq_false_of_ne h0
                  by_cases h2 : z < y2
                  · have e2 : decide (z < y2) = true := by simpa using h2
                    have HD3 : Hid (GrD k (zs.take (i + 1)) (low.set c z) (m + 1)) := by rw [HTk.out]; exact HD2.out.take hck (Or.inr (by rw [← HY2.out]; exact h2)) hzb.1
                    have HOn : Hid (∀ d, Owns ((W1.drewN d).setCell ⟨g2, c, none⟩ (.int .i64 z)) w.heap.size (.slice (some ⟨g1, 0, none⟩) k k) (last) ∧ Owns ((W1.drewN d).setCell ⟨g2, c, none⟩ (.int .i64 z)) w.heap.size (.slice (some ⟨g2, 0, none⟩) k k) (low.set c z)) := fun d => by
                      have hB : Below W1.heap.size W1 (W1.drewN d) := below_drewN (Below.refl _ _) d
                      exact ⟨owns_other (HO1.out.1.below hB) (fun e => HG12.out e.symm), (HO1.out.2.below hB).store HD2.out.len.symm c z⟩
                    have HBn : Hid (∀ d, Below w.heap.size w ((W1.drewN d).setCell ⟨g2, c, none⟩ (.int .i64 z))) := fun d => (below_drewN HBW.out d).setCell (p := ⟨g2, c, none⟩) HG.out.2.2 _
                    go_quiet (fail)
                    go_wp2
                    go_roundw
                    case rel => exact ⟨i + 1, n, m + 1, last, low.set c z, by omega, by go_num, by go_num, by go_num, by omega, by omega, HU3, HD3, HOn.out _, HBn.out _⟩
                    case measure => simp [intOf]; omega
                  · have e2 : decide (z < y2) = false := by simpa using h2
                    have HD3 : Hid (GrD k (zs.take (i + 1)) low m) := by rw [HTk.out]; exact HD2.out.pass z
                    have HOn : Hid (∀ d, Owns (W1.drewN d) w.heap.size (.slice (some ⟨g1, 0, none⟩) k k) (last) ∧ Owns (W1.drewN d) w.heap.size (.slice (some ⟨g2, 0, none⟩) k k) low) := fun d => by
                      have hB : Below W1.heap.size W1 (W1.drewN d) := below_drewN (Below.refl _ _) d
                      exact ⟨HO1.out.1.below hB, HO1.out.2.below hB⟩
                    have HBn : Hid (∀ d, Below w.heap.size w (W1.drewN d)) := fun d => below_drewN HBW.out d
                    go_quiet (fail)
                    go_wp2
                    go_roundw
                    case rel => exact ⟨i + 1, n, m, last, low, by omega, by go_num, by go_num, by go_num, by omega, by omega, HU3, HD3, HOn.out _, HBn.out _⟩
                    case measure => simp [intOf]; omega
            · obtain rfl : i = zs.length := by omega
              have hlt' : ¬ (zs.length : Int) < (zs.length : Int) := by omega
              have hnU : n ≤ U := by have := HU2.out.has; rw [List.take_length] at this; rw [← HU.out]; exact up_has E.out this
              have hmD : m ≤ D := by have := HD2.out.has; rw [List.take_length] at this; rw [← HD.out]; exact dn_has E.out this
              go_wp2
              go_ret
              exact ⟨rfl, HBq.out⟩
theorem igre_at (aw ap : Option Addr) (cw cp : Nat) (zs qs : List Int) (k : Int) (w : World) (hw : Shows w aw zs) (hp : Shows w ap qs) (hk : -9223372036854775808 ≤ k ∧ k ≤ 9223372036854775807) :
    Calls Try.prog 7 #[.slice aw zs.length cw, .slice ap qs.length cp, .int .i64 k] w fun e w' => e = .returned (.bool true) ∧ Below w.heap.size w w' := by
  by_cases c : lchk zs = 0
  · by_cases hn : k < 0
    · exact igre_neg aw ap cw cp zs qs k w hw hp hn c
    · obtain ⟨m, rfl⟩ : ∃ m : Nat, k = (m : Int) := ⟨k.toNat, by omega⟩
      by_cases h : 40 < m
      · exact igre_big aw ap cw cp zs qs m w hw hp h (by omega) c
      · exact igre_fine aw ap cw cp zs qs m w hw hp (by omega) (by omega) c
  · exact igre_let aw ap cw cp zs qs k w hw hp (lchk zs) (bne_iff_ne.2 c) rfl

end Go.Proofs.Ytpbmcaoomcippad
