/-
  The contract of ferrersbig's SetString at a text of decimal digits.
-/
import Derived.Test.YtbiakncblkjmhaaGreatDoorASml
import Derived.Test.YtbiakncblkjmhaaGreatDoorABig
namespace Go.Proofs.YtbiakncblkjmhaaGreatDoor
open Go.RowKit

/-- The number that digits tell. -/
def dvl (bs : List UInt8) : Nat := bs.foldl (fun a c => a * 10 + (c.toNat - 48)) 0
theorem dvl_snoc (bs : List UInt8) (c : UInt8) : dvl (bs ++ [c]) = dvl bs * 10 + (c.toNat - 48) := by simp [dvl]
theorem take_byte (s : ByteArray) (k : Nat) (h : k < s.size) : s.data.toList.take (k + 1) = s.data.toList.take k ++ [s[k]] := by
  rw [List.take_succ_eq_append_getElem (by simpa using h)]; rfl

set_option maxHeartbeats 8000000 in
set_option maxRecDepth 100000 in
theorem BSetString_at (pz lz : Nat) (b : Bool) (v0 : Value) (s : ByteArray) (w : World) (hz : w.heap[pz]? = some (.cells #[.bool b, v0] 67 (0, 0))) (hlz : lz ≤ pz) (hs : s.size ≤ 1000) (h0 : 0 < s.size) (hd : ∀ c ∈ s.data.toList, 48 ≤ c.toNat ∧ c.toNat ≤ 57) :
    Calls Tryz.prog 38 #[.pointer (some ⟨pz, 0, none⟩), .string s, .int .i64 10] w fun e w' => ∃ v us, e = .returned (.tuple #[.pointer (some ⟨pz, 0, none⟩), .bool true]) ∧ w'.heap[pz]? = some (.cells #[.bool false, v] 67 (0, 0)) ∧ OwnsN w' w.heap.size v us (dvl s.data.toList) ∧ us.length ≤ 5000 ∧ Put w w' lz pz := by
  have HZ : Hid (w.heap[pz]? = some (.cells #[.bool b, v0] 67 (0, 0))) := hz
  have HZl : Hid (pz < w.heap.size) := (Array.getElem?_eq_some_iff.1 hz).1
  have HD : Hid (∀ k (h : k < s.size), 48 ≤ s[k].toNat ∧ s[k].toNat ≤ 57) := fun k h => hd _ (by
    have : s[k] = s.data.toList[k]'(by simpa using h) := rfl
    rw [this]; exact List.getElem_mem _)
  have HG : Hid (∀ W, Below w.heap.size w W → ∀ a n c, Calls Tryz.prog 69 #[.pointer (some ⟨pz, 0, none⟩), .bool false, .slice a n c] W fun e w' => e = .returned (.pointer (some ⟨pz, 0, none⟩)) ∧ w'.heap[pz]? = some (.cells #[.bool false, .slice a n c] 67 (0, 0)) ∧ w'.heap.size = W.heap.size ∧ Put W w' lz pz) := fun W hb a n c =>
    give_at pz lz b v0 a n c W ((hb.block pz HZl.out).trans HZ.out) hlz
  have h0' : (0 : Int) < (s.size : Int) := by omega
  have h00 : ¬ (s.size : Int) = 0 := by omega
  have h01 : ((s.size : Int) == 0) = false := by rw [beq_eq_false_iff_ne]; omega
  obtain ⟨x0, hs0⟩ : ∃ x0 : Nat, s[0].toNat = x0 := ⟨_, rfl⟩
  have hx0 : 48 ≤ x0 ∧ x0 ≤ 57 := by rw [← hs0]; exact HD.out 0 h0
  have hx45 : ((x0 : Int) == 45) = false := by simp; omega
  have hx43 : ((x0 : Int) == 43) = false := by simp; omega
  clear hz hd
  go_enter Tryz.func38, Tryz.ntmps38
  go_wp2
  go_loopw [9, 10] (fun rv iv wr => ∃ (k : Nat) (us : List Nat), k ≤ s.size ∧ iv = .int .i64 k ∧ Hid (OwnsN wr w.heap.size rv us (dvl (s.data.toList.take k))) ∧ Hid (us.length ≤ 5 * k) ∧ Hid (Below w.heap.size w wr)) (fun _ iv _ => s.size - (intOf iv).toNat)
  case atStart => exact ⟨0, [], Nat.zero_le _, rfl, ownsN_nil _ _, by simp [Hid], Below.refl _ _⟩
  case round =>
    obtain ⟨k, us, hk, rfl, HO, HL, HB⟩ := hrel
    by_cases hlt : k < s.size
    · have hlt' : (k : Int) < (s.size : Int) := by omega
      obtain ⟨x, hsk⟩ : ∃ x : Nat, s[k].toNat = x := ⟨_, rfl⟩
      have hx : 48 ≤ x ∧ x ≤ 57 := by rw [← hsk]; exact HD.out k hlt
      obtain ⟨d, Hd⟩ : ∃ d, Hid (d = x - 48) := ⟨_, rfl⟩
      have hd : (x : Int) - 48 = (d : Int) := by have := Hd.out; omega
      have hd9 : d ≤ 9 := by have := Hd.out; omega
      have hge : (48 : Int) ≤ (x : Int) := by omega
      have hle : (x : Int) ≤ 57 := by omega
      have HDv : Hid (dvl (s.data.toList.take (k + 1)) = dvl (s.data.toList.take k) * 10 + d) := by
        show _ = _; rw [take_byte s k hlt, dvl_snoc, Hd.out, ← hsk]
      obtain ⟨ar, cr, rfl, hSr⟩ := HO.out.shows (by have := HL.out; omega)
      have HSr : Hid (ShowsW wr ar cr us) := hSr
      have hul : us.length ≤ 5000 := by have := HL.out; omega
      obtain ⟨nu, Hnu⟩ : ∃ nu, Hid (nu = us.length) := ⟨_, rfl⟩
      rw [← Hnu.out] at hul ⊢
      clear hSr
      go_wp2_with fail
      refine (words_at 10 (by omega) wr).mono ?_
      rintro e w1 ⟨v1, us1, rfl, hO1, hl1, hb1⟩
      obtain ⟨a1, c1, rfl, hS1⟩ := hO1.shows (by omega)
      have HO1 : Hid (OwnsN w1 wr.heap.size (.slice a1 us1.length c1) us1 10) := hO1
      have HS1 : Hid (ShowsW w1 a1 c1 us1) := hS1
      have HB1 : Hid (Below wr.heap.size wr w1) := hb1
      obtain ⟨n1, Hn1⟩ : ∃ n1, Hid (n1 = us1.length) := ⟨_, rfl⟩
      rw [← Hn1.out]
      clear hO1 hS1 hb1
      go_wp2_with fail
      refine (mul_at ar a1 cr c1 nu n1 us us1 (dvl (s.data.toList.take k)) 10 w1 (HSr.out.below HB1.out) HS1.out Hnu.out Hn1.out HO.out.num HO1.out.num (by have := Hn1.out; omega)).mono ?_
      rintro e w2 ⟨v2, us2, rfl, hO2, hl2, hb2⟩
      obtain ⟨a2, c2, rfl, hS2⟩ := hO2.shows (by have := Hn1.out; omega)
      have HO2 : Hid (OwnsN w2 w1.heap.size (.slice a2 us2.length c2) us2 (dvl (s.data.toList.take k) * 10)) := hO2
      have HS2 : Hid (ShowsW w2 a2 c2 us2) := hS2
      have HB2 : Hid (Below w1.heap.size w1 w2) := hb2
      have HL2 : Hid (us2.length ≤ nu + 2) := by have := Hn1.out; show _ ≤ _; omega
      obtain ⟨n2, Hn2⟩ : ∃ n2, Hid (n2 = us2.length) := ⟨_, rfl⟩
      rw [← Hn2.out]
      clear hO2 hS2 hb2 hl2
      go_wp2_with fail
      refine (words_at d (by omega) w2).mono ?_
      rintro e w3 ⟨v3, us3, rfl, hO3, hl3, hb3⟩
      obtain ⟨a3, c3, rfl, hS3⟩ := hO3.shows (by omega)
      have HO3 : Hid (OwnsN w3 w2.heap.size (.slice a3 us3.length c3) us3 d) := hO3
      have HS3 : Hid (ShowsW w3 a3 c3 us3) := hS3
      have HB3 : Hid (Below w2.heap.size w2 w3) := hb3
      obtain ⟨n3, Hn3⟩ : ∃ n3, Hid (n3 = us3.length) := ⟨_, rfl⟩
      rw [← Hn3.out]
      clear hO3 hS3 hb3
      go_wp2_with fail
      refine (add_at a2 a3 c2 c3 n2 n3 us2 us3 (dvl (s.data.toList.take k) * 10) d w3 (HS2.out.below HB3.out) HS3.out Hn2.out Hn3.out HO2.out.num HO3.out.num (by have := Hn2.out; have := Hn3.out; have := HL2.out; omega)).mono ?_
      rintro e w4 ⟨v4, us4, rfl, hO4, hl4, hb4⟩
      have HBe : Hid (Below w.heap.size w w4) := by
        have h1 := HB.out.size
        have h2 := HB1.out.size
        have h3 := HB2.out.size
        have h4 := HB3.out.size
        exact (((HB.out.trans (HB1.out.mono h1)).trans (HB2.out.mono (by omega))).trans (HB3.out.mono (by omega))).trans (hb4.mono (by omega))
      have HO4 : Hid (OwnsN w4 w.heap.size v4 us4 (dvl (s.data.toList.take (k + 1)))) := by
        have h1 := HB.out.size
        have h2 := HB1.out.size
        have h3 := HB2.out.size
        have h4 := HB3.out.size
        rw [HDv.out]; exact hO4.mono (by omega)
      have HL4 : Hid (us4.length ≤ 5 * (k + 1)) := by
        have := HL.out; have := Hnu.out; have := HL2.out; have := Hn2.out; have := Hn3.out
        show _ ≤ _; omega
      clear hO4 hl4 hb4
      go_wp2
      exact ⟨⟨k + 1, us4, by omega, by go_num, HO4, HL4, HBe⟩, by simp [intOf]; omega⟩
    · obtain rfl : k = s.size := by omega
      have hlt' : ¬ (s.size : Int) < (s.size : Int) := by omega
      obtain ⟨ar, cr, rfl, _⟩ := HO.out.shows (by have := HL.out; omega)
      obtain ⟨nu, Hnu⟩ : ∃ nu, Hid (nu = us.length) := ⟨_, rfl⟩
      have HO' : Hid (OwnsN wr w.heap.size (.slice ar nu cr) us (dvl s.data.toList)) := by
        have h := HO.out
        rw [List.take_of_length_le (by simp), ← Hnu.out] at h
        exact h
      rw [← Hnu.out]
      go_wp2_with fail
      refine (HG.out wr HB.out ar nu cr).mono ?_
      rintro e w5 ⟨rfl, h3, h4, h5⟩
      have HT : Hid (w5.heap[pz]? = some (.cells #[.bool false, .slice ar nu cr] 67 (0, 0)) ∧ OwnsN w5 w.heap.size (.slice ar nu cr) us (dvl s.data.toList) ∧ Put w w5 lz pz) := by
        have h1 := HO'.out
        refine ⟨h3, ⟨h1.own.blocks (fun k e => h5.block k (h1.own.lt e).2 (fun e2 => ?_)), h1.num, h1.room⟩, ?_, fun k hk hne => ?_⟩
        · have := (h1.own.lt e).1; have := HZl.out; omega
        · exact (HB.out.mono (by have := HZl.out; omega)).trans h5.below
        · rw [h5.block k (by have := HB.out.size; omega) hne, HB.out.block k hk]
      have HL5 : Hid (us.length ≤ 5000) := by have := HL.out; show _ ≤ _; omega
      clear h3 h4 h5
      go_wp2
      go_ret2
      exact ⟨_, us, rfl, HT.out.1, HT.out.2.1, HL5.out, HT.out.2.2⟩

end Go.Proofs.YtbiakncblkjmhaaGreatDoor
