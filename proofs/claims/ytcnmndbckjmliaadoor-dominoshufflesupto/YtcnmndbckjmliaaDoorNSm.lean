/-
  ferlaw.DominoShuffles returns true, where the text is a tiling of a diamond of order 1 to 3.
-/
import Derived.Test.YtcnmndbckjmliaaDoorNBoA
import Derived.Deep.RegionWith
namespace Go.Proofs.YtcnmndbckjmliaaDoor
open Go.RowKit

section
variable (t : ByteArray) (m : Int) (w : World) (hs : t.size ≤ 4000000000) (hm : w.cell? ⟨0, 0, none⟩ = some (.int .i64 m)) (ua : Option Addr) (un uc : Nat) (bs : List Bool) (n : Nat) (h1 : 1 ≤ n) (h3 : n ≤ 3) (hT : Til t.data.toList (2 * n) (2 * n)) (hb : brdT t.data.toList (2 * n) (2 * n) = tx (2 * n) (2 * n) (dmF n))
include hs hm h1 h3 hT hb
set_option maxHeartbeats 8000000 in
set_option maxRecDepth 100000 in
/-- Another number of choices. -/
theorem dsh_O1 (L : Nat) (hLd : L = (cbA (2 * (n + 1)) (spA (2 * n) (2 * n) n (cef (pz t.data.toList)) (2 * n) 0) (2 * (n + 1)) 0).2.length) (hne : ¬ un = L) : Calls Tryd.prog 5 #[.string t, .slice ua un uc] w fun e w' => e = .returned (.bool true) ∧ Below w.heap.size w w' := by
  have HM : Hid (∀ W, Below w.heap.size w W → W.cell? ⟨0, 0, none⟩ = some (.int .i64 m)) := fun W hW => (hW.cell (p := ⟨0, 0, none⟩) (World.block_lt_of_cell? w _ hm)).trans hm
  obtain ⟨N0, l, N1, hH, hR⟩ := dm_shuf h1 h3 hT hb
  obtain ⟨ks, hlk, ho1, ho2, ho3⟩ := dm_ord h1 h3 hT hb hH.eq0 hH.eql
  obtain ⟨r, HRr⟩ : ∃ r, Hid (r + 1 = 2 * (n + 1)) := ⟨2 * n + 1, show _ = _ by omega⟩
  have HSo : Hid (ShO (r + 1) N0 ks) := by rw [HRr.out]; exact ⟨ho1, ho2, ho3⟩
  have hr7 : r ≤ 7 := by have := HRr.out; omega
  have HL : Hid (L = ks.length) := by show _ = _; rw [hLd, ← hH.eq0, ← hH.eql, hlk, List.length_map]
  have HLl : Hid (L = l.length) := by show _ = _; rw [hlk, List.length_map]; exact HL.out
  have hL64 : L ≤ 64 := by rw [HLl.out]; exact hR.few
  have HNd : Hid (∀ W, Hid (Below w.heap.size w W) → Calls Tryd.prog 25 #[.string t] W fun e w' => e = .returned (.tuple #[.int .i64 (L : Int), .int .i64 0]) ∧ Hid (Below w.heap.size w w')) := fun W hW => from_law hW.out (Needs_at hH m W (HM.out W hW.out) L HLl.out)
  have HLa : Hid (∀ W, Hid (Below w.heap.size w W) → Calls Tryd.prog 11 #[.string t] W fun e w' => e = .returned (.bool true) ∧ Hid (Below w.heap.size w w')) := fun W hW => from_law hW.out (SLaid_ok t m W hs (HM.out W hW.out) _ _ hT)
  obtain ⟨R, HR⟩ : ∃ R, Hid (R = 2 * n) := ⟨_, rfl⟩
  have HCe : Hid (∀ W, Hid (Below w.heap.size w W) → Calls Tryd.prog 14 #[.string t, .string ⟨#[108, 114, 117, 100, 46]⟩] W fun e w' => ∃ a, e = .returned (.slice a R R) ∧ Hid (Below w.heap.size w w')) := fun W hW => (SCells_ok t m W hs (HM.out W hW.out) _ _ hT).mono fun _ _ ⟨a, h1, h2⟩ => ⟨a, by rw [HR.out]; exact h1, hW.out.trans (h2.out.mono hW.out.size)⟩
  obtain ⟨b, HBb⟩ : ∃ b : ByteArray, Hid (b = ⟨(tx (2 * n) (2 * n) (dmF n)).toArray⟩) := ⟨_, rfl⟩
  have HCv : Hid (∀ W, Hid (Below w.heap.size w W) → Calls Tryd.prog 13 #[.string t] W fun e w' => e = .returned (.string b) ∧ Hid (Below w.heap.size w w')) := fun W hW => by rw [HBb.out, ← hb]; exact from_law hW.out (Covered_at t _ _ W hT)
  have HDi : Hid (∀ W, Hid (Below w.heap.size w W) → Calls Tryd.prog 19 #[.int .i64 (n : Int)] W fun e w' => e = .returned (.string b) ∧ Hid (Below w.heap.size w w')) := fun W hW => by rw [HBb.out]; exact from_law0 hW.out (Diamond_at n W (by omega) (by omega))
  obtain ⟨o, HO⟩ : ∃ o : ByteArray, Hid (o = ⟨(tx (r + 1) (r + 1) (cvK l [] N0 0)).toArray⟩) := ⟨_, rfl⟩
  have HWe : Hid (∀ W, Hid (Below w.heap.size w W) → Calls Tryd.prog 27 #[.string t, .int .i64 (n : Int)] W fun e w' => e = .returned (.string o) ∧ Hid (Below w.heap.size w w')) := fun W hW => by
    rw [HO.out, HRr.out, show cvK l [] N0 0 = N0 from rfl, hH.eq0]
    exact from_law hW.out (Went_at t n m W (HM.out W hW.out) h1 h3 hT)
  have HCn : Hid (∀ W, Hid (Below w.heap.size w W) → Calls Tryd.prog 28 #[.string o, .string ⟨#[35]⟩] W fun e w' => e = .returned (.int .i64 ((4 * L : Nat) : Int)) ∧ Hid (Below w.heap.size w w')) := fun W hW => by
    have h := SCount_at o 35 W
    have e : o.data.toList.count 35 = 4 * L := by
      rw [HO.out, show cvK l [] N0 0 = N0 from rfl, HL.out]
      have := HSo.out.cnt (by omega)
      simpa using this
    rw [e] at h
    exact from_law0 hW.out h
  have hL4 : Int.tdiv ((4 * L : Nat) : Int) 4 = (L : Int) := by rw [Int.tdiv_eq_ediv_of_nonneg (by omega)]; omega
  have HB0 : Hid (Below w.heap.size w w) := Below.refl _ _
  have hR8 : R ≤ 8 := by rw [HR.out]; omega
  have hR2 : Int.tdiv (R : Int) 2 = (n : Int) := by rw [HR.out, Int.tdiv_eq_ediv_of_nonneg (by omega)]; omega
  have hn0 : ¬ (n : Int) = 0 := by omega
  have hn0b : ((n : Int) == 0) = false := beq_false_of_ne hn0
  have hn4 : ¬ (n : Int) = 4 := by omega
  have hn4b : ((n : Int) == 4) = false := beq_false_of_ne hn4
  have hn3 : n ≤ 3 := h3
  have HSh : Hid (∀ W, Hid (Below w.heap.size w W) → Calls Tryd.prog 26 #[.string t, .slice ua un uc] W fun e w' => e = .returned (.tuple #[.string ⟨#[]⟩, .int .i64 3]) ∧ Hid (Below w.heap.size w w')) := fun W hW => from_law hW.out (Shuffle_len hH m W (HM.out W hW.out) L HLl.out ua un uc hne)
  have hnb : ((L : Int) == (un : Int)) = false := beq_false_of_ne (fun e => hne (by omega))
  have hnp : ¬ (L : Int) = (un : Int) := fun e => hne (by omega)
  clear hLd hT hm hs h1 h3 hb hH hR hlk ho1 ho2 ho3 hne
  go_enter Tryd.func5, Tryd.ntmps5
  go_wp2_with (first | (go_at_call 25; with_reducible (refine (HNd.out _ HB0).mono ?_); rintro e w1 ⟨rfl, HB1⟩) | (go_at_call 26; with_reducible (refine (HSh.out _ HB1).mono ?_); rintro e w2 ⟨rfl, HB2⟩) | (go_at_call 11; with_reducible (refine (HLa.out _ HB2).mono ?_); rintro e w3 ⟨rfl, HB3⟩) | (go_at_call 14; with_reducible (refine (HCe.out _ HB3).mono ?_); rintro e w4 ⟨a4, rfl, HB4⟩) | (go_at_call 13; with_reducible (refine (HCv.out _ HB4).mono ?_); rintro e w5 ⟨rfl, HB5⟩) | (go_at_call 19; with_reducible (refine (HDi.out _ HB5).mono ?_); rintro e w6 ⟨rfl, HB6⟩) | (go_at_call 27; with_reducible (refine (HWe.out _ HB6).mono ?_); rintro e w7 ⟨rfl, HB7⟩) | (go_at_call 28; with_reducible (refine (HCn.out _ HB7).mono ?_); rintro e w8 ⟨rfl, HB8⟩))
  go_ret
  exact ⟨rfl, HB8⟩

set_option maxHeartbeats 8000000 in
set_option maxRecDepth 100000 in
/-- As many choices as blocks. -/
theorem dsh_O2 (L : Nat) (hLd : L = (cbA (2 * (n + 1)) (spA (2 * n) (2 * n) n (cef (pz t.data.toList)) (2 * n) 0) (2 * (n + 1)) 0).2.length) (hba : BoA w ua un bs) (heq : un = L) : Calls Tryd.prog 5 #[.string t, .slice ua un uc] w fun e w' => e = .returned (.bool true) ∧ Below w.heap.size w w' := by
  have HM : Hid (∀ W, Below w.heap.size w W → W.cell? ⟨0, 0, none⟩ = some (.int .i64 m)) := fun W hW => (hW.cell (p := ⟨0, 0, none⟩) (World.block_lt_of_cell? w _ hm)).trans hm
  obtain ⟨N0, l, N1, hH, hR⟩ := dm_shuf h1 h3 hT hb
  obtain ⟨ks, hlk, ho1, ho2, ho3⟩ := dm_ord h1 h3 hT hb hH.eq0 hH.eql
  obtain ⟨r, HRr⟩ : ∃ r, Hid (r + 1 = 2 * (n + 1)) := ⟨2 * n + 1, show _ = _ by omega⟩
  have HSo : Hid (ShO (r + 1) N0 ks) := by rw [HRr.out]; exact ⟨ho1, ho2, ho3⟩
  have hr7 : r ≤ 7 := by have := HRr.out; omega
  have HL : Hid (L = ks.length) := by show _ = _; rw [hLd, ← hH.eq0, ← hH.eql, hlk, List.length_map]
  have HLl : Hid (L = l.length) := by show _ = _; rw [hlk, List.length_map]; exact HL.out
  have hL64 : L ≤ 64 := by rw [HLl.out]; exact hR.few
  have HNd : Hid (∀ W, Hid (Below w.heap.size w W) → Calls Tryd.prog 25 #[.string t] W fun e w' => e = .returned (.tuple #[.int .i64 (L : Int), .int .i64 0]) ∧ Hid (Below w.heap.size w w')) := fun W hW => from_law hW.out (Needs_at hH m W (HM.out W hW.out) L HLl.out)
  have HLa : Hid (∀ W, Hid (Below w.heap.size w W) → Calls Tryd.prog 11 #[.string t] W fun e w' => e = .returned (.bool true) ∧ Hid (Below w.heap.size w w')) := fun W hW => from_law hW.out (SLaid_ok t m W hs (HM.out W hW.out) _ _ hT)
  obtain ⟨R, HR⟩ : ∃ R, Hid (R = 2 * n) := ⟨_, rfl⟩
  have HCe : Hid (∀ W, Hid (Below w.heap.size w W) → Calls Tryd.prog 14 #[.string t, .string ⟨#[108, 114, 117, 100, 46]⟩] W fun e w' => ∃ a, e = .returned (.slice a R R) ∧ Hid (Below w.heap.size w w')) := fun W hW => (SCells_ok t m W hs (HM.out W hW.out) _ _ hT).mono fun _ _ ⟨a, h1, h2⟩ => ⟨a, by rw [HR.out]; exact h1, hW.out.trans (h2.out.mono hW.out.size)⟩
  obtain ⟨b, HBb⟩ : ∃ b : ByteArray, Hid (b = ⟨(tx (2 * n) (2 * n) (dmF n)).toArray⟩) := ⟨_, rfl⟩
  have HCv : Hid (∀ W, Hid (Below w.heap.size w W) → Calls Tryd.prog 13 #[.string t] W fun e w' => e = .returned (.string b) ∧ Hid (Below w.heap.size w w')) := fun W hW => by rw [HBb.out, ← hb]; exact from_law hW.out (Covered_at t _ _ W hT)
  have HDi : Hid (∀ W, Hid (Below w.heap.size w W) → Calls Tryd.prog 19 #[.int .i64 (n : Int)] W fun e w' => e = .returned (.string b) ∧ Hid (Below w.heap.size w w')) := fun W hW => by rw [HBb.out]; exact from_law0 hW.out (Diamond_at n W (by omega) (by omega))
  obtain ⟨o, HO⟩ : ∃ o : ByteArray, Hid (o = ⟨(tx (r + 1) (r + 1) (cvK l bs N0 0)).toArray⟩) := ⟨_, rfl⟩
  have HWe : Hid (∀ W, Hid (Below w.heap.size w W) → Calls Tryd.prog 27 #[.string t, .int .i64 (n : Int)] W fun e w' => e = .returned (.string o) ∧ Hid (Below w.heap.size w w')) := fun W hW => by
    rw [HO.out, HRr.out, show cvK l bs N0 0 = N0 from rfl, hH.eq0]
    exact from_law hW.out (Went_at t n m W (HM.out W hW.out) h1 h3 hT)
  have HCn : Hid (∀ W, Hid (Below w.heap.size w W) → Calls Tryd.prog 28 #[.string o, .string ⟨#[35]⟩] W fun e w' => e = .returned (.int .i64 ((4 * L : Nat) : Int)) ∧ Hid (Below w.heap.size w w')) := fun W hW => by
    have h := SCount_at o 35 W
    have e : o.data.toList.count 35 = 4 * L := by
      rw [HO.out, show cvK l bs N0 0 = N0 from rfl, HL.out]
      have := HSo.out.cnt (by omega)
      simpa using this
    rw [e] at h
    exact from_law0 hW.out h
  have hL4 : Int.tdiv ((4 * L : Nat) : Int) 4 = (L : Int) := by rw [Int.tdiv_eq_ediv_of_nonneg (by omega)]; omega
  have HB0 : Hid (Below w.heap.size w w) := Below.refl _ _
  have hR8 : R ≤ 8 := by rw [HR.out]; omega
  have hR2 : Int.tdiv (R : Int) 2 = (n : Int) := by rw [HR.out, Int.tdiv_eq_ediv_of_nonneg (by omega)]; omega
  have hn0 : ¬ (n : Int) = 0 := by omega
  have hn0b : ((n : Int) == 0) = false := beq_false_of_ne hn0
  have hn4 : ¬ (n : Int) = 4 := by omega
  have hn4b : ((n : Int) == 4) = false := beq_false_of_ne hn4
  have hn3 : n ≤ 3 := h3
  subst heq
  have hun : 0 < un := by rw [HLl.out]; have := hR.many; omega
  obtain ⟨b9, off, rfl, hb9, hc9⟩ := hba.2 hun
  have HBc : Hid (∀ W, Below w.heap.size w W → ∀ k, k < un → W.cell? ⟨b9, off + k, none⟩ = some (.bool (bs.getD k false))) := fun W hW k hk => (hW.cell (p := ⟨b9, off + k, none⟩) hb9).trans (hc9 k hk)
  have HBl : Hid (bs.length = un) := hba.1
  obtain ⟨x, HX⟩ : ∃ x : ByteArray, Hid (x = ⟨(tx (r + 1) (r + 1) (cvK l bs N0 un)).toArray⟩) := ⟨_, rfl⟩
  have HSh : Hid (∀ W, Hid (Below w.heap.size w W) → Calls Tryd.prog 26 #[.string t, .slice (some ⟨b9, off, none⟩) un uc] W fun e w' => e = .returned (.tuple #[.string x, .int .i64 0]) ∧ Hid (Below w.heap.size w w')) := fun W hW =>
    from_law hW.out (Shuffle_atG hH m W (HM.out W hW.out) bs un HLl.out HBl.out hL64 _ uc (fun j hj => ⟨b9, off, rfl, Nat.lt_of_lt_of_le hb9 hW.out.size, HBc.out W hW.out j (by rw [← HBl.out]; exact hj)⟩) hR.pts x (r + 1) HRr.out HX.out (by rw [HX.out, HRr.out, HLl.out, hR.same bs]))
  have HStp : Hid (∀ k, k < un → ∃ y z, y < r ∧ z < r ∧ Lib.indexByte (tx (r + 1) (r + 1) (cvK l bs N0 k)) 35 = ((y * (r + 1 + 1) + z : Nat) : Int) ∧ cvK l bs N0 (k + 1) = cvF (cvK l bs N0 k) y z (bs.getD k false) ∧ ∀ i, i < r + 1 → ∀ j, j < r + 1 → cvK l bs N0 k (i * 8 + j) ∈ shL) := fun k hk => by
    rw [hlk]; exact sho_step HSo.out (by omega) bs k (by rw [← HL.out]; exact hk)
  obtain ⟨wd, HWd⟩ : ∃ wd : Nat, Hid (wd = r + 1 + 1) := ⟨_, rfl⟩
  have hwd : 2 * (n : Int) + 3 = (wd : Int) := by have := HWd.out; have := HRr.out; omega
  have hwd0 : ¬ (wd : Int) = 0 := by have := HWd.out; omega
  have hwd9 : wd ≤ 9 := by have := HWd.out; omega
  clear hLd hT hm h1 h3 hb hs hH hR hlk ho1 ho2 ho3 hba hb9 hc9
  go_enter Tryd.func5, Tryd.ntmps5
  go_wp2_with (first | (go_at_call 25; with_reducible (refine (HNd.out _ HB0).mono ?_); rintro e w1 ⟨rfl, HB1⟩) | (go_at_call 26; with_reducible (refine (HSh.out _ HB1).mono ?_); rintro e w2 ⟨rfl, HB2⟩) | (go_at_call 11; with_reducible (refine (HLa.out _ HB2).mono ?_); rintro e w3 ⟨rfl, HB3⟩) | (go_at_call 14; with_reducible (refine (HCe.out _ HB3).mono ?_); rintro e w4 ⟨a4, rfl, HB4⟩) | (go_at_call 13; with_reducible (refine (HCv.out _ HB4).mono ?_); rintro e w5 ⟨rfl, HB5⟩) | (go_at_call 19; with_reducible (refine (HDi.out _ HB5).mono ?_); rintro e w6 ⟨rfl, HB6⟩) | (go_at_call 27; with_reducible (refine (HWe.out _ HB6).mono ?_); rintro e w7 ⟨rfl, HB7⟩) | (go_at_call 28; with_reducible (refine (HCn.out _ HB7).mono ?_); rintro e w8 ⟨rfl, HB8⟩))
  clear hwd
  go_loopw [11, 94] (fun sv v wr => ∃ (k : Nat) (S : ByteArray), k ≤ un ∧ v = .int .i64 (k : Int) ∧ sv = .string S ∧ Hid (S = ⟨(tx (r + 1) (r + 1) (cvK l bs N0 k)).toArray⟩) ∧ Hid (Below w.heap.size w wr)) (fun _ v _ => un - (intOf v).toNat)
  case atStart => exact ⟨0, _, Nat.zero_le _, rfl, rfl, HO, HB8⟩
  case round =>
    clear HB8
    obtain ⟨k, S, hk, rfl, rfl, HS, HBk⟩ := hrel
    by_cases hlt : k < un
    · have hlt' : (k : Int) < (un : Int) := by omega
      obtain ⟨y, z, hy, hz, hix, hst, hlets⟩ := HStp.out k hlt
      obtain ⟨a, ha⟩ : ∃ a, a = y * (r + 1 + 1) + z := ⟨_, rfl⟩
      have HI : Hid (∀ W, Calls Tryd.prog 29 #[.string S, .int .u8 35] W fun e w' => e = .returned (.int .i64 (a : Int)) ∧ w' = W) := fun W => by
        have h := IndexB_z S 35 W
        have e : Lib.indexByte S.data.toList 35 = (a : Int) := by rw [HS.out, ha]; simpa using hix
        rw [e] at h; exact h
      have hyw : y * (r + 1 + 1) ≤ 6 * 9 := Nat.mul_le_mul (by omega) (by omega)
      have ha80 : a ≤ 80 := by omega
      have hrem : Int.tmod (a : Int) (wd : Int) = (z : Int) := by
        rw [Int.tmod_eq_emod_of_nonneg (by omega), HWd.out, ha, ← Int.natCast_emod, Nat.mul_comm, Nat.mul_add_mod, Nat.mod_eq_of_lt (by omega)]
      have hquo : Int.tdiv (a : Int) (wd : Int) = (y : Int) := by
        rw [Int.tdiv_eq_ediv_of_nonneg (by omega), HWd.out, ha, ← Int.natCast_ediv, Nat.mul_comm, Nat.mul_add_div (by omega), Nat.div_eq_of_lt (by omega), Nat.add_zero]
      have k3 := HBc.out wr HBk.out k hlt
      have m0 : wr.drew.cell? ⟨0, 0, none⟩ = some (.int .i64 m) := HM.out wr.drew HBk.out.drew
      obtain ⟨S2, HS2⟩ : ∃ S2 : ByteArray, Hid (S2 = ⟨(tx (r + 1) (r + 1) (cvK l bs N0 (k + 1))).toArray⟩) := ⟨_, rfl⟩
      have HPt : Hid (∀ q : ByteArray, q = (if bs.getD k false = true then ⟨#[117, 117, 100, 100]⟩ else ⟨#[108, 114, 108, 114]⟩) → Calls Tryd.prog 24 #[.string S, .int .i64 (z : Int), .int .i64 (y : Int), .string q] wr.drew fun e w' => e = .returned (.string S2) ∧ w'.cell? ⟨0, 0, none⟩ = some (.int .i64 m) ∧ Hid (Below w.heap.size w w')) := fun q hq => by
        refine (PutG S q (cvK l bs N0 k) y z r (bs.getD k false) wr.drew HS.out hq (by omega) hlets hy hz).mono ?_
        rintro e w' ⟨rfl, hB⟩
        have hB2 : Below w.heap.size w w' := HBk.out.drew.trans (hB.out.mono HBk.out.drew.size)
        exact ⟨by rw [HS2.out, hst], HM.out w' hB2, hB2⟩
      have hy8 : y ≤ 7 := by omega
      have hz8 : z ≤ 7 := by omega
      have hwy : IntKind.i64.wrap (y : Int) = (y : Int) := by rw [IntWalk.i64_left, IntWalk.wrap64_in _ (by omega)]
      have hwdb : ((wd : Int) == 0) = false := beq_false_of_ne hwd0
      clear hix hst hlets ha hyw hy hz
      cases ho : bs.getD k false with
      | true =>
        rw [ho] at k3
        have HP1 := hid_w (HPt.out ⟨#[117, 117, 100, 100]⟩ (by rw [ho]; rfl))
        go_upto_region 27 with (go_at_call 29; with_reducible (refine (HI.out _).mono ?_); rintro e w9 ⟨rfl, rfl⟩)
        go_region_with (go_at_call 24; with_reducible (refine HP1.out.mono ?_); rintro e W5 ⟨rfl, k0, HB5⟩)
        all_goals (
          go_wp2_with fail
          go_roundw
          case rel => exact ⟨k + 1, _, by omega, by go_num, rfl, HS2, HB5⟩
          case measure => simp [intOf]; omega)
      | false =>
        rw [ho] at k3
        have HP1 := hid_w (HPt.out ⟨#[108, 114, 108, 114]⟩ (by rw [ho]; rfl))
        go_upto_region 27 with (go_at_call 29; with_reducible (refine (HI.out _).mono ?_); rintro e w9 ⟨rfl, rfl⟩)
        go_region_with (go_at_call 24; with_reducible (refine HP1.out.mono ?_); rintro e W5 ⟨rfl, k0, HB5⟩)
        all_goals (
          go_wp2_with fail
          go_roundw
          case rel => exact ⟨k + 1, _, by omega, by go_num, rfl, HS2, HB5⟩
          case measure => simp [intOf]; omega)
    · obtain rfl : k = un := by omega
      have hxs : x = S := HX.out.trans HS.out.symm
      subst hxs
      go_wp2_with fail
      go_ret
      exact ⟨rfl, HBk⟩
end
/-- The law. -/
theorem dsh_at (t : ByteArray) (m : Int) (w : World) (hs : t.size ≤ 4000000000) (hm : w.cell? ⟨0, 0, none⟩ = some (.int .i64 m)) (ua : Option Addr) (un uc : Nat) (bs : List Bool) (hba : BoA w ua un bs) :
    Calls Tryd.prog 5 #[.string t, .slice ua un uc] w fun e w' => e = .returned (.bool true) ∧ Below w.heap.size w w' := by
  by_cases hT : ∃ R C, Til t.data.toList R C
  · obtain ⟨R, C, hT⟩ := hT
    obtain ⟨n, hn⟩ : ∃ n, n = R / 2 := ⟨_, rfl⟩
    by_cases hd : R = 2 * n ∧ C = 2 * n ∧ brdT t.data.toList R C = tx (2 * n) (2 * n) (dmF n)
    · obtain ⟨rfl, rfl, hb⟩ := hd
      have r1 := hT.1.2.1
      have r8 := hT.1.2.2.1
      by_cases h4 : n = 4
      · exact dsh_4 t m w hs hm ua un uc n hT h4 hb
      · obtain ⟨L, hL⟩ : ∃ L, L = (cbA (2 * (n + 1)) (spA (2 * n) (2 * n) n (cef (pz t.data.toList)) (2 * n) 0) (2 * (n + 1)) 0).2.length := ⟨_, rfl⟩
        by_cases hu : un = L
        · exact dsh_O2 t m w hs hm ua un uc bs n (by omega) (by omega) hT hb L hL hba hu
        · exact dsh_O1 t m w hs hm ua un uc n (by omega) (by omega) hT hb L hL hu
    · by_cases h0 : n = 0
      · exact dsh_S0 t m w hs hm ua un uc R C n hT hn hd h0
      · exact dsh_S1 t m w hs hm ua un uc R C n hT hn hd h0
  · exact dsh_N t m w hs hm ua un uc (fun r c h => hT ⟨r, c, h⟩)

end Go.Proofs.YtcnmndbckjmliaaDoor
