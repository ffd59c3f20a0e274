/-
  ferref.Laid: what is in a row and a column.
  ferref.Laid.
-/
import Derived.Test.YtcnmndbckjmliaaDoorNRCe
import Derived.Test.YtcnmndbckjmliaaDoorNRt
import Derived.Lib.SliceRun
namespace Go.Proofs.YtcnmndbckjmliaaDoor
open Go.RowKit

/-- What is in a row and a column; round the text there is nothing. -/
def atR (r c : Nat) (f : Nat → UInt8) (i j : Int) : UInt8 := if 0 ≤ i ∧ i < (r : Int) ∧ 0 ≤ j ∧ j < (c : Int) then f (i.toNat * 8 + j.toNat) else 32
theorem atR_eq (r c : Nat) (f : Nat → UInt8) (i j : Int) {b : UInt8} (h1 : b ≠ 46) (h2 : b ≠ 32) : atR r c f i j = b ↔ atB r c f i j = b := by
  unfold atR atB
  split
  · exact Iff.rfl
  · exact ⟨fun h => absurd h.symm h2, fun h => absurd h.symm h1⟩

set_option maxHeartbeats 4000000 in
set_option maxRecDepth 100000 in
theorem Laid1_at (C X r c : Nat) (P : List ByteArray) (lt : List UInt8) (l : List (List UInt8)) (i j : Int) (w : World) (hC : w.cell? ⟨C, 0, none⟩ = some (.slice (some ⟨X, 0, none⟩) r r)) (hP : PcZ w X P) (hl : P.map (fun p : ByteArray => p.data.toList) = l) (hz : Shz lt r c l) (x : Nat) (hx : x = (atR r c (cef l) i j).toNat) :
    Calls Tryd.prog 42 #[.int .i64 i, .int .i64 j, .pointer (some ⟨C, 0, none⟩)] w fun e w' => e = .returned (.int .u8 (x : Int)) ∧ w' = w := by
  have HX : Hid (x = (atR r c (cef l) i j).toNat) := hx
  have HP : Hid (PcZ w X P) := hP
  have HZ : Hid (Shz lt r c l) := hz
  have HL : Hid (P.map (fun p : ByteArray => p.data.toList) = l) := hl
  have HrP : Hid (r = P.length) := by show _ = _; rw [pcz_len HL.out]; exact hz.1.symm
  have hr8 : r ≤ 8 := hz.2.2.1
  have hc8 : c ≤ 8 := hz.2.2.2.2.1
  have h0 : 0 < P.length := by rw [← HrP.out]; exact hz.2.1
  have hr0 : (0 : Int) < (r : Int) := by have := hz.2.1; omega
  obtain ⟨p0, HP0⟩ : ∃ p0, Hid (p0 = P[0]'h0) := ⟨_, rfl⟩
  have hp0 : w.cell? ⟨X, 0, none⟩ = some (.string p0) := by rw [HP0.out]; exact HP.out.cell h0
  have hps : (p0.size : Int) = (c : Int) := by
    have h1 := (shz_eq HZ.out).2
    have h2 : p0.size = (l.getD 0 []).length := by rw [← ba_len, HP0.out, pcz_at HL.out h0]
    omega
  obtain ⟨o, HO⟩ : ∃ o : Bool, Hid (o = !decide (0 ≤ i ∧ i < (r : Int) ∧ 0 ≤ j ∧ j < (c : Int))) := ⟨_, rfl⟩
  clear hP hl hz hx
  go_enter Tryd.func42, Tryd.ntmps42
  go_upto_region 1 with fail
  go_cut [25] (fun s25 wx => s25 = .bool o ∧ wx = w)
  case first =>
    by_cases h1 : i < 0
    · have hE : o = true := by rw [HO.out]; simp; omega
      subst hE
      go_wp2_with fail
      go_meet
      exact ⟨by first | rfl | (simp; omega), rfl⟩
    · by_cases h2 : j < 0
      · have hE : o = true := by rw [HO.out]; simp; omega
        subst hE
        go_wp2_with fail
        go_meet
        exact ⟨by first | rfl | (simp; omega), rfl⟩
      · by_cases h3 : i ≥ (r : Int)
        · have hE : o = true := by rw [HO.out]; simp; omega
          subst hE
          go_wp2_with fail
          go_meet
          exact ⟨by first | rfl | (simp; omega), rfl⟩
        · by_cases h4 : j ≥ (c : Int)
          · have hE : o = true := by rw [HO.out]; simp; omega
            subst hE
            go_wp2_with fail
            go_meet
            exact ⟨by first | rfl | (simp; omega), rfl⟩
          · have hE : o = false := by rw [HO.out]; simp; omega
            subst hE
            go_wp2_with fail
            go_meet
            exact ⟨by first | rfl | (simp; omega), rfl⟩
  obtain ⟨rfl, rfl⟩ := hcut
  cases o with
  | true =>
    have hx32 : x = 32 := by
      rw [HX.out]; unfold atR
      rw [if_neg (by have h := HO.out; intro q; rw [decide_eq_true q] at h; cases h)]; rfl
    subst hx32
    clear hp0 hps
    go_wp2_with fail
    go_ret
    exact ⟨rfl, rfl⟩
  | false =>
    have hg : 0 ≤ i ∧ i < (r : Int) ∧ 0 ≤ j ∧ j < (c : Int) := by
      have h := HO.out
      revert h
      by_cases q : 0 ≤ i ∧ i < (r : Int) ∧ 0 ≤ j ∧ j < (c : Int)
      · intro _; exact q
      · rw [decide_eq_false q]; intro h; cases h
    obtain ⟨a, ha⟩ : ∃ a : Nat, i = (a : Int) := ⟨i.toNat, by omega⟩
    obtain ⟨b, hb⟩ : ∃ b : Nat, j = (b : Int) := ⟨j.toNat, by omega⟩
    have haP : Hid (a < P.length) := by show _ < _; rw [← HrP.out]; omega
    obtain ⟨p, HPa⟩ : ∃ p, Hid (p = P[a]'haP.out) := ⟨_, rfl⟩
    have hpa : wc.cell? ⟨X, a, none⟩ = some (.string p) := by rw [HPa.out]; exact HP.out.cell haP.out
    have HPd : Hid (p.data.toList = l.getD a []) := by rw [HPa.out]; exact pcz_at HL.out haP.out
    have hpc : p.size = c := by
      rw [← ba_len, HPd.out]
      have hm : l.getD a [] ∈ l := by rw [List.getD_eq_getElem?_getD, List.getElem?_eq_getElem (by rw [HZ.out.1]; omega), Option.getD_some]; exact List.getElem_mem _
      exact (HZ.out.2.2.2.2.2 _ hm).1
    have hbp : b < p.size := by omega
    have hxe : p[b].toNat = x := by
      rw [HX.out]; unfold atR; rw [if_pos hg, ha, hb, Int.toNat_natCast, Int.toNat_natCast, cef_at _ _ _ (by omega), ← HPd.out]
      congr 1
      rw [List.getD_eq_getElem?_getD, List.getElem?_eq_getElem (by rw [ba_len]; exact hbp), Option.getD_some]
      rfl
    have hx256 : x < 256 := by rw [← hxe]; exact p[b].toNat_lt
    subst ha hb
    have hia : (a : Int) < (r : Int) := hg.2.1
    have hib : (b : Int) < (p.size : Int) := by omega
    clear hg HX HO hp0 hps
    go_wp2_with fail
    go_ret
    exact ⟨rfl, rfl⟩

end Go.Proofs.YtcnmndbckjmliaaDoor

namespace Go.Proofs.YtcnmndbckjmliaaDoor
open Go.RowKit

theorem til_iff {s : List UInt8} {r c : Nat} (h : Shz lrud r c (pz s)) : (∃ r c, Til s r c) ↔ OkT r c (cef (pz s)) := by
  constructor
  · rintro ⟨r', c', q1, q2⟩
    have e1 := shz_eq q1
    have e2 := shz_eq h
    obtain rfl : r' = r := e1.1.trans e2.1.symm
    obtain rfl : c' = c := e1.2.trans e2.2.symm
    exact q2
  · intro q; exact ⟨r, c, h, q⟩

/-- Is it a tiling? -/
def LdP (s : List UInt8) (B : Bool) : Prop := B = true ↔ ∃ r c, Til s r c
theorem ClP.parts {lt s : List UInt8} {B : Nat} {w : World} {v : Value} (h : ClP lt s B w v) : ∃ a n, v = .slice a n n ∧ Hid ((∃ c P X, Shz lt n c (pz s) ∧ P.map (fun p : ByteArray => p.data.toList) = pz s ∧ a = some ⟨X, 0, none⟩ ∧ B ≤ X ∧ PcZ w X P) ∨ (a = none ∧ n = 0 ∧ ∀ r c, ¬ Shz lt r c (pz s))) := by
  rcases h with ⟨r, c, P, X, h1, h2, rfl, h4, h5⟩ | ⟨rfl, h⟩
  · exact ⟨_, _, rfl, Or.inl ⟨c, P, X, h1, h2, rfl, h4, h5⟩⟩
  · exact ⟨_, _, rfl, Or.inr ⟨rfl, rfl, h⟩⟩

set_option maxHeartbeats 8000000 in
set_option maxRecDepth 100000 in
theorem Laid_at (s : ByteArray) (m : Int) (w : World) (hs : s.size ≤ 4000000000) (hm : w.cell? ⟨0, 0, none⟩ = some (.int .i64 m)) :
    Calls Tryd.prog 11 #[.string s] w fun e w' => ∃ B, e = .returned (.bool B) ∧ Hid (LdP s.data.toList B) ∧ Hid (Below w.heap.size w w') := by
  have HCc := hid_w (Cells_at s ⟨#[108, 114, 117, 100, 46]⟩ m w hs hm)
  clear hs hm
  go_enter Tryd.func11, Tryd.ntmps11
  go_upto_region 2 with (go_at_call 14; with_reducible (refine HCc.out.mono ?_); rintro e W1 ⟨v, rfl, HCl0, HB1⟩; obtain ⟨a, r, rfl, HCl⟩ := HCl0.out.parts)
  rcases HCl.out with ⟨c, P, X, hz, hP, rfl, hX, hPc⟩ | ⟨rfl, rfl, hno⟩
  case inr =>
    have heq : ∀ W : World, (binOp .eql 30 (.slice none 0 0) (.slice none 0 0)).run Tryd.prog W = .ok (.bool true) W := fun W => Lib.run_eql_slice_nil W 30 9 none 0 0 0 0 Tryd.underlying30
    have HB2 : Hid (Below w.heap.size w (W1.alloc (.cells #[.slice none 0 0] 30))) := HB1.out.alloc HB1.out.size _
    have HN : Hid (LdP s.data.toList false) := by
      show (false = true) ↔ _
      exact ⟨(fun h => Bool.noConfusion h), fun ⟨r, c, q⟩ => absurd q.1 (hno r c)⟩
    clear hno HCl HCl0
    go_wp2_with fail
    go_ret
    exact ⟨_, rfl, HN, HB2⟩
  have heq : ∀ W : World, (binOp .eql 30 (.slice (some ⟨X, 0, none⟩) r r) (.slice none 0 0)).run Tryd.prog W = .ok (.bool false) W := fun W => Lib.run_eql_slice_nil W 30 9 (some ⟨X, 0, none⟩) r r 0 0 Tryd.underlying30
  obtain ⟨C, HC⟩ : ∃ C, Hid (C = W1.heap.size) := ⟨_, rfl⟩
  obtain ⟨W2, HW2⟩ : ∃ W2, Hid (W2 = W1.alloc (.cells #[.slice (some ⟨X, 0, none⟩) r r] 30)) := ⟨_, rfl⟩
  rw [← HW2.out, ← HC.out]
  have HB2 : Hid (Below w.heap.size w W2) := by rw [HW2.out]; exact HB1.out.alloc HB1.out.size _
  have hcC : W2.cell? ⟨C, 0, none⟩ = some (.slice (some ⟨X, 0, none⟩) r r) := by
    rw [HW2.out, HC.out, cell_of_row _ _ _ _ _ _ (heap_alloc_last _ _)]; rfl
  have HPc : Hid (PcZ W2 X P) := by
    show W2.heap[X]? = _
    rw [HW2.out, ((Below.refl W1.heap.size W1).alloc (Nat.le_refl _) _).block X (lt_someN hPc)]; exact hPc
  obtain ⟨l, HL⟩ : ∃ l, Hid (l = pz s.data.toList) := ⟨_, rfl⟩
  have HTi := hid_w (til_iff hz)
  rw [← HL.out] at hz hP HTi
  have HZ : Hid (Shz lrud r c l) := hz
  have HP : Hid (P.map (fun p : ByteArray => p.data.toList) = l) := hP
  have HrP : Hid (r = P.length) := by show _ = _; rw [pcz_len HP.out]; exact hz.1.symm
  have hr8 : r ≤ 8 := hz.2.2.1
  have hc8 : c ≤ 8 := hz.2.2.2.2.1
  obtain ⟨f, HF⟩ : ∃ f, Hid (f = cef l) := ⟨_, rfl⟩
  rw [← HF.out] at HTi
  have HA : Hid (∀ (i j : Int) (y : Nat), y = (atR r c f i j).toNat → Calls Tryd.prog 42 #[.int .i64 i, .int .i64 j, .pointer (some ⟨C, 0, none⟩)] W2 fun e w' => e = .returned (.int .u8 (y : Int)) ∧ w' = W2) := fun i j y hy =>
    Laid1_at C X r c P lrud l i j W2 hcC HPc.out HP.out HZ.out y (by rw [← HF.out]; exact hy)
  have HNo : Hid (∀ i j, i < r → j < c → prB r c f i j = false → LdP s.data.toList false) := fun i j hi hj h => by
    unfold LdP
    rw [HTi.out]
    constructor
    · intro q; cases q
    · intro q
      have := q i hi j hj
      rw [h] at this; cases this
  clear hz hP hPc hX HCl HCl0 HCc
  go_wp2_with fail
  go_loopw [5] (fun v wr => ∃ i : Nat, i ≤ r ∧ v = .int .i64 (i : Int) ∧ W2 = wr ∧ Hid (∀ i', i' < i → ∀ j, j < c → prB r c f i' j = true)) (fun v _ => r - (intOf v).toNat)
  case atStart => exact ⟨0, Nat.zero_le _, rfl, rfl, fun i' hi' => by omega⟩
  case round =>
    obtain ⟨i, hi, rfl, rfl, HI⟩ := hrel
    by_cases hlt : i < r
    · have hlt' : (i : Int) < (r : Int) := by omega
      have HiP : Hid (i < P.length) := by rw [← HrP.out]; exact hlt
      obtain ⟨p, HPk⟩ : ∃ p, Hid (p = P[i]'HiP.out) := ⟨_, rfl⟩
      have hpk : W2.cell? ⟨X, i, none⟩ = some (.string p) := by rw [HPk.out]; exact HPc.out.cell HiP.out
      have HPd : Hid (p.data.toList = l.getD i []) := by rw [HPk.out]; exact pcz_at HP.out HiP.out
      have hpc : (p.size : Int) = (c : Int) := by
        have h : p.size = c := by
          rw [← ba_len, HPd.out]
          have hm : l.getD i [] ∈ l := by rw [List.getD_eq_getElem?_getD, List.getElem?_eq_getElem (by rw [HZ.out.1]; omega), Option.getD_some]; exact List.getElem_mem _
          exact (HZ.out.2.2.2.2.2 _ hm).1
        omega
      go_wp2_with fail
      go_loopw [6] (fun v wr => ∃ j : Nat, j ≤ c ∧ v = .int .i64 (j : Int) ∧ W2 = wr ∧ Hid (∀ j', j' < j → prB r c f i j' = true)) (fun v _ => c - (intOf v).toNat)
      case atStart => exact ⟨0, Nat.zero_le _, rfl, rfl, fun i' hi' => by omega⟩
      case round =>
        obtain ⟨j, hj, rfl, rfl, HJ⟩ := hrel
        by_cases hltj : j < c
        · have hltj' : (j : Int) < (c : Int) := by omega
          have hjp : j < p.size := by omega
          obtain ⟨x, HX⟩ : ∃ x, Hid (x = (f (i * 8 + j)).toNat) := ⟨_, rfl⟩
          have hxp : p[j].toNat = x := by
            rw [HX.out, HF.out, cef_at _ _ _ (by omega), ← HPd.out, List.getD_eq_getElem?_getD, List.getElem?_eq_getElem (by rw [ba_len]; exact hjp), Option.getD_some]
            rfl
          have hx256 : x < 256 := by rw [← hxp]; exact p[j].toNat_lt
          have hjpi : (j : Int) < (p.size : Int) := by omega
          have HXa : Hid (x = (atB r c f (i : Int) (j : Int)).toNat) := by show _ = _; rw [atB_nat, if_pos ⟨hlt, hltj⟩]; exact HX.out
          obtain ⟨b, Hb⟩ : ∃ b, Hid (prB r c f i j = b) := ⟨_, rfl⟩
          have HOn : Hid (b = true → ∀ j', j' < j + 1 → prB r c f i j' = true) := fun hb j' hj' => by
            by_cases e : j' = j
            · rw [e, Hb.out]; exact hb
            · exact HJ.out j' (by omega)
          have HOff : Hid (b = false → LdP s.data.toList false) := fun hb => HNo.out i j hlt hltj (by rw [Hb.out]; exact hb)
          have hi8 : (i : Int) < 8 := by omega
          have hj8 : (j : Int) < 8 := by omega
          by_cases h0 : x = 108
          · obtain ⟨y, HY⟩ : ∃ y, Hid (y = (atR r c f (i : Int) ((j : Int) + 1)).toNat) := ⟨_, rfl⟩
            have HC1 := hid_w (HA.out (i : Int) ((j : Int) + 1) y HY.out)
            have hE : b = decide (y = 114) := by
              rw [← Hb.out]; unfold prB
              have e1 : atB r c f (i : Int) (j : Int) = 108 := (byteN (n := 108) (by omega)).1 (by rw [← HXa.out]; exact h0)
              rw [e1]
              rw [if_pos rfl]
              apply decide_eq_decide.2
              rw [HY.out, ← atR_eq r c f (i : Int) ((j : Int) + 1) (b := 114) (by decide) (by decide)]
              exact (byteN (n := 114) (by omega)).symm
            clear HX HXa Hb
            subst h0
            by_cases hy : y = 114
            · have HJ2 := hid_w (HOn.out (by rw [hE]; simpa using hy))
              clear hE HOn HOff
              subst hy
              go_wp2_with (go_at_call 42; with_reducible (refine HC1.out.mono ?_); rintro e v1 ⟨rfl, rfl⟩)
              go_roundw
              case rel => exact ⟨j + 1, by omega, by go_num, by first | rfl | trivial, HJ2⟩
              case measure => simp [intOf]; omega
            · have HN := hid_w (HOff.out (by rw [hE]; simpa using hy))
              have hyb : ((y : Int) != 114) = true := by simp; omega
              have hyd : (y : Int) ≠ 114 := by omega
              clear hE HOn HOff hy
              go_wp2_with (go_at_call 42; with_reducible (refine HC1.out.mono ?_); rintro e v1 ⟨rfl, rfl⟩)
              go_ret
              exact ⟨_, rfl, HN, HB2⟩
          by_cases h1 : x = 114
          · obtain ⟨y, HY⟩ : ∃ y, Hid (y = (atR r c f (i : Int) ((j : Int) - 1)).toNat) := ⟨_, rfl⟩
            have HC1 := hid_w (HA.out (i : Int) ((j : Int) - 1) y HY.out)
            have hE : b = decide (y = 108) := by
              rw [← Hb.out]; unfold prB
              have e1 : atB r c f (i : Int) (j : Int) = 114 := (byteN (n := 114) (by omega)).1 (by rw [← HXa.out]; exact h1)
              rw [e1]
              rw [if_neg (by decide)]
              rw [if_pos rfl]
              apply decide_eq_decide.2
              rw [HY.out, ← atR_eq r c f (i : Int) ((j : Int) - 1) (b := 108) (by decide) (by decide)]
              exact (byteN (n := 108) (by omega)).symm
            clear HX HXa Hb
            subst h1
            by_cases hy : y = 108
            · have HJ2 := hid_w (HOn.out (by rw [hE]; simpa using hy))
              clear hE HOn HOff
              subst hy
              go_wp2_with (go_at_call 42; with_reducible (refine HC1.out.mono ?_); rintro e v1 ⟨rfl, rfl⟩)
              go_roundw
              case rel => exact ⟨j + 1, by omega, by go_num, by first | rfl | trivial, HJ2⟩
              case measure => simp [intOf]; omega
            · have HN := hid_w (HOff.out (by rw [hE]; simpa using hy))
              have hyb : ((y : Int) != 108) = true := by simp; omega
              have hyd : (y : Int) ≠ 108 := by omega
              clear hE HOn HOff hy
              go_wp2_with (go_at_call 42; with_reducible (refine HC1.out.mono ?_); rintro e v1 ⟨rfl, rfl⟩)
              go_ret
              exact ⟨_, rfl, HN, HB2⟩
          by_cases h2 : x = 117
          · obtain ⟨y, HY⟩ : ∃ y, Hid (y = (atR r c f ((i : Int) + 1) (j : Int)).toNat) := ⟨_, rfl⟩
            have HC1 := hid_w (HA.out ((i : Int) + 1) (j : Int) y HY.out)
            have hE : b = decide (y = 100) := by
              rw [← Hb.out]; unfold prB
              have e1 : atB r c f (i : Int) (j : Int) = 117 := (byteN (n := 117) (by omega)).1 (by rw [← HXa.out]; exact h2)
              rw [e1]
              rw [if_neg (by decide)]
              rw [if_neg (by decide)]
              rw [if_pos rfl]
              apply decide_eq_decide.2
              rw [HY.out, ← atR_eq r c f ((i : Int) + 1) (j : Int) (b := 100) (by decide) (by decide)]
              exact (byteN (n := 100) (by omega)).symm
            clear HX HXa Hb
            subst h2
            by_cases hy : y = 100
            · have HJ2 := hid_w (HOn.out (by rw [hE]; simpa using hy))
              clear hE HOn HOff
              subst hy
              go_wp2_with (go_at_call 42; with_reducible (refine HC1.out.mono ?_); rintro e v1 ⟨rfl, rfl⟩)
              go_roundw
              case rel => exact ⟨j + 1, by omega, by go_num, by first | rfl | trivial, HJ2⟩
              case measure => simp [intOf]; omega
            · have HN := hid_w (HOff.out (by rw [hE]; simpa using hy))
              have hyb : ((y : Int) != 100) = true := by simp; omega
              have hyd : (y : Int) ≠ 100 := by omega
              clear hE HOn HOff hy
              go_wp2_with (go_at_call 42; with_reducible (refine HC1.out.mono ?_); rintro e v1 ⟨rfl, rfl⟩)
              go_ret
              exact ⟨_, rfl, HN, HB2⟩
          by_cases h3 : x = 100
          · obtain ⟨y, HY⟩ : ∃ y, Hid (y = (atR r c f ((i : Int) - 1) (j : Int)).toNat) := ⟨_, rfl⟩
            have HC1 := hid_w (HA.out ((i : Int) - 1) (j : Int) y HY.out)
            have hE : b = decide (y = 117) := by
              rw [← Hb.out]; unfold prB
              have e1 : atB r c f (i : Int) (j : Int) = 100 := (byteN (n := 100) (by omega)).1 (by rw [← HXa.out]; exact h3)
              rw [e1]
              rw [if_neg (by decide)]
              rw [if_neg (by decide)]
              rw [if_neg (by decide)]
              rw [if_pos rfl]
              apply decide_eq_decide.2
              rw [HY.out, ← atR_eq r c f ((i : Int) - 1) (j : Int) (b := 117) (by decide) (by decide)]
              exact (byteN (n := 117) (by omega)).symm
            clear HX HXa Hb
            subst h3
            by_cases hy : y = 117
            · have HJ2 := hid_w (HOn.out (by rw [hE]; simpa using hy))
              clear hE HOn HOff
              subst hy
              go_wp2_with (go_at_call 42; with_reducible (refine HC1.out.mono ?_); rintro e v1 ⟨rfl, rfl⟩)
              go_roundw
              case rel => exact ⟨j + 1, by omega, by go_num, by first | rfl | trivial, HJ2⟩
              case measure => simp [intOf]; omega
            · have HN := hid_w (HOff.out (by rw [hE]; simpa using hy))
              have hyb : ((y : Int) != 117) = true := by simp; omega
              have hyd : (y : Int) ≠ 117 := by omega
              clear hE HOn HOff hy
              go_wp2_with (go_at_call 42; with_reducible (refine HC1.out.mono ?_); rintro e v1 ⟨rfl, rfl⟩)
              go_ret
              exact ⟨_, rfl, HN, HB2⟩
          have hE : b = true := by
            rw [← Hb.out]; unfold prB
            rw [if_neg (fun q => h0 (by rw [HXa.out, q]; rfl)), if_neg (fun q => h1 (by rw [HXa.out, q]; rfl)), if_neg (fun q => h2 (by rw [HXa.out, q]; rfl)), if_neg (fun q => h3 (by rw [HXa.out, q]; rfl))]
          have HJ2 := hid_w (HOn.out hE)
          have e0 : ((x : Int) == 108) = false := by simp; omega
          have e1 : ((x : Int) == 114) = false := by simp; omega
          have e2 : ((x : Int) == 117) = false := by simp; omega
          have e3 : ((x : Int) == 100) = false := by simp; omega
          clear HX HXa Hb h0 h1 h2 h3 hE HOn HOff
          go_wp2_with fail
          go_roundw
          case rel => exact ⟨j + 1, by omega, by go_num, by first | rfl | trivial, HJ2⟩
          case measure => simp [intOf]; omega
        · obtain rfl : j = c := by omega
          have HI2 : Hid (∀ i', i' < i + 1 → ∀ j', j' < j → prB r j f i' j' = true) := fun i' hi' => by
            by_cases e : i' = i
            · rw [e]; exact HJ.out
            · exact HI.out i' (by omega)
          go_wp2_with fail
          go_roundw
          case rel => exact ⟨i + 1, by omega, by go_num, by first | rfl | trivial, HI2⟩
          case measure => simp [intOf]; omega
    · obtain rfl : i = r := by omega
      have HN : Hid (LdP s.data.toList true) := by
        show (true = true) ↔ _
        rw [HTi.out]
        exact ⟨fun _ => HI.out, fun _ => rfl⟩
      go_wp2_with fail
      go_ret
      exact ⟨_, rfl, HN, HB2⟩

end Go.Proofs.YtcnmndbckjmliaaDoor
