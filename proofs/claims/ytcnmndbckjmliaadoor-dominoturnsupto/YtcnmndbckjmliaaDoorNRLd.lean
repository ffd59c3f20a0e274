/-
  ferref.Laid: what is in a row and a column.
-/
import Derived.Test.YtcnmndbckjmliaaDoorNRCe
import Derived.Test.YtcnmndbckjmliaaDoorNRt
namespace Go.Proofs.YtcnmndbckjmliaaDoor
open Go.RowKit

/-- What is in a row and a column; round the text there is nothing. -/
def atR (r c : Nat) (f : Nat → UInt8) (i j : Int) : UInt8 := if 0 ≤ i ∧ i < (r : Int) ∧ 0 ≤ j ∧ j < (c : Int) then f (i.toNat * 8 + j.toNat) else 32
theorem atR_eq (r c : Nat) (f : Nat → UInt8) (i j : Int) {b : UInt8} (h1 : b ≠ 46) (h2 : b ≠ 32) : atR r c f i j = b ↔ atB r c f i j = b := by
  unfold atR atB
  split
  · exact Iff.rfl
  · exact ⟨fun h => absurd h.symm h2, fun h => absurd h.symm h1⟩

set_option maxHeartbeats 4000000 in
set_option maxRecDepth 100000 in
theorem Laid1_at (C X r c : Nat) (P : List ByteArray) (lt : List UInt8) (l : List (List UInt8)) (i j : Int) (w : World) (hC : w.cell? ⟨C, 0, none⟩ = some (.slice (some ⟨X, 0, none⟩) r r)) (hP : PcZ w X P) (hl : P.map (fun p : ByteArray => p.data.toList) = l) (hz : Shz lt r c l) (x : Nat) (hx : x = (atR r c (cef l) i j).toNat) :
    Calls Tryd.prog 42 #[.int .i64 i, .int .i64 j, .pointer (some ⟨C, 0, none⟩)] w fun e w' => e = .returned (.int .u8 (x : Int)) ∧ w' = w := by
  have HX : Hid (x = (atR r c (cef l) i j).toNat) := hx
  have HP : Hid (PcZ w X P) := hP
  have HZ : Hid (Shz lt r c l) := hz
  have HL : Hid (P.map (fun p : ByteArray => p.data.toList) = l) := hl
  have HrP : Hid (r = P.length) := by show _ = _; rw [pcz_len HL.out]; exact hz.1.symm
  have hr8 : r ≤ 8 := hz.2.2.1
  have hc8 : c ≤ 8 := hz.2.2.2.2.1
  have h0 : 0 < P.length := by rw [← HrP.out]; exact hz.2.1
  have hr0 : (0 : Int) < (r : Int) := by have := hz.2.1; omega
  obtain ⟨p0, HP0⟩ : ∃ p0, Hid (p0 = P[0]'h0) := ⟨_, rfl⟩
  have hp0 : w.cell? ⟨X, 0, none⟩ = some (.string p0) := by rw [HP0.out]; exact HP.out.cell h0
  have hps : (p0.size : Int) = (c : Int) := by
    have h1 := (shz_eq HZ.out).2
    have h2 : p0.size = (l.getD 0 []).length := by rw [← ba_len, HP0.out, pcz_at HL.out h0]
    omega
  obtain ⟨o, HO⟩ : ∃ o : Bool, Hid (o = !decide (0 ≤ i ∧ i < (r : Int) ∧ 0 ≤ j ∧ j < (c : Int))) := ⟨_, rfl⟩
  clear hP hl hz hx
  go_enter Tryd.func42, Tryd.ntmps42
  go_upto_region 1 with fail
  go_cut [25] (fun s25 wx => s25 = .bool o ∧ wx = w)
  case first =>
    by_cases h1 : i < 0
    · have hE : o = true := by rw [HO.out]; simp; omega
      subst hE
      go_wp2_with fail
      go_meet
      exact ⟨by first | rfl | (simp; omega), rfl⟩
    · by_cases h2 : j < 0
      · have hE : o = true := by rw [HO.out]; simp; omega
        subst hE
        go_wp2_with fail
        go_meet
        exact ⟨by first | rfl | (simp; omega), rfl⟩
      · by_cases h3 : i ≥ (r : Int)
        · have hE : o = true := by rw [HO.out]; simp; omega
          subst hE
          go_wp2_with fail
          go_meet
          exact ⟨by first | rfl | (simp; omega), rfl⟩
        · by_cases h4 : j ≥ (c : Int)
          · have hE : o = true := by rw [HO.out]; simp; omega
            subst hE
            go_wp2_with fail
            go_meet
            exact ⟨by first | rfl | (simp; omega), rfl⟩
          · have hE : o = false := by rw [HO.out]; simp; omega
            subst hE
            go_wp2_with fail
            go_meet
            exact ⟨by first | rfl | (simp; omega), rfl⟩
  obtain ⟨rfl, rfl⟩ := hcut
  cases o with
  | true =>
    have hx32 : x = 32 := by
      rw [HX.out]; unfold atR
      rw [if_neg (by have h := HO.out; intro q; rw [decide_eq_true q] at h; cases h)]; rfl
    subst hx32
    clear hp0 hps
    go_wp2_with fail
    go_ret
    exact ⟨rfl, rfl⟩
  | false =>
    have hg : 0 ≤ i ∧ i < (r : Int) ∧ 0 ≤ j ∧ j < (c : Int) := by
      have h := HO.out
      revert h
      by_cases q : 0 ≤ i ∧ i < (r : Int) ∧ 0 ≤ j ∧ j < (c : Int)
      · intro _; exact q
      · rw [decide_eq_false q]; intro h; cases h
    obtain ⟨a, ha⟩ : ∃ a : Nat, i = (a : Int) := ⟨i.toNat, by omega⟩
    obtain ⟨b, hb⟩ : ∃ b : Nat, j = (b : Int) := ⟨j.toNat, by omega⟩
    have haP : Hid (a < P.length) := by show _ < _; rw [← HrP.out]; omega
    obtain ⟨p, HPa⟩ : ∃ p, Hid (p = P[a]'haP.out) := ⟨_, rfl⟩
    have hpa : wc.cell? ⟨X, a, none⟩ = some (.string p) := by rw [HPa.out]; exact HP.out.cell haP.out
    have HPd : Hid (p.data.toList = l.getD a []) := by rw [HPa.out]; exact pcz_at HL.out haP.out
    have hpc : p.size = c := by
      rw [← ba_len, HPd.out]
      have hm : l.getD a [] ∈ l := by rw [List.getD_eq_getElem?_getD, List.getElem?_eq_getElem (by rw [HZ.out.1]; omega), Option.getD_some]; exact List.getElem_mem _
      exact (HZ.out.2.2.2.2.2 _ hm).1
    have hbp : b < p.size := by omega
    have hxe : p[b].toNat = x := by
      rw [HX.out]; unfold atR; rw [if_pos hg, ha, hb, Int.toNat_natCast, Int.toNat_natCast, cef_at _ _ _ (by omega), ← HPd.out]
      congr 1
      rw [List.getD_eq_getElem?_getD, List.getElem?_eq_getElem (by rw [ba_len]; exact hbp), Option.getD_some]
      rfl
    have hx256 : x < 256 := by rw [← hxe]; exact p[b].toNat_lt
    subst ha hb
    have hia : (a : Int) < (r : Int) := hg.2.1
    have hib : (b : Int) < (p.size : Int) := by omega
    clear hg HX HO hp0 hps
    go_wp2_with fail
    go_ret
    exact ⟨rfl, rfl⟩

end Go.Proofs.YtcnmndbckjmliaaDoor
