/-
  ferref.Right, ferref.Begins, strings.Trim.
-/
import Derived.Test.YthfbkangjpcpgaaDoorQBrn
import Derived.Test.YthfbkangjpcpgaaDoorQCal
import Derived.Test.YthfbkangjpcpgaaDoorShelf
import Derived.Shelf.Strings.SlTrimAscii
import Derived.Deep.CutBlock
namespace Go.Proofs.YthfbkangjpcpgaaDoor
open Go.RowKit

theorem Trim_at (s : ByteArray) (w : World) (hs : s.size ≤ 9223372036854775807) :
    Calls Tryd.prog 11 #[.string s, .string ⟨#[40, 41]⟩] w fun e w' => e = .returned (.string ⟨(Lib.trimS s.data.toList [40, 41]).toArray⟩) ∧ Below w.heap.size w w' :=
  Go.Proofs.Any.strings_Trim_laid Go.Proofs.Tryd.lays160 (by kernel_rfl) s ⟨#[40, 41]⟩ w hs (by decide) (Go.Proofs.ascii_of_all (by decide))
def szS : Value → Nat
  | .string b => b.size
  | _ => 0
theorem str_eq {a b : ByteArray} (h : a.data.toList = b.data.toList) : a = b := by
  obtain ⟨⟨x⟩⟩ := a
  obtain ⟨⟨y⟩⟩ := b
  simp at h
  rw [h]

set_option maxHeartbeats 4000000 in
set_option maxRecDepth 100000 in
theorem Right_at (s : ByteArray) (hs : s.size ≤ 60) (w : World) (m : Int) (hm : ∀ W, Below w.heap.size w W → W.cell? ⟨0, 0, none⟩ = some (.int .i64 m)) :
    Calls Tryd.prog 7 #[.string s] w fun e w' => e = .returned (.bool (rt 0 s.data.toList)) ∧ Hid (Below w.heap.size w w') := by
  have HM := hid_w hm
  obtain ⟨b, HB⟩ : ∃ b, Hid (b = rt 0 s.data.toList) := ⟨_, rfl⟩
  rw [← HB.out]
  have HRp : Hid (∀ (t : ByteArray) (W : World), t.size ≤ 60 → Below w.heap.size w W → Calls Tryd.prog 19 #[.string t, .string ⟨#[40, 41]⟩, .string ⟨#[]⟩] W fun e w' => ∃ t', e = .returned (.string t') ∧ Hid (t'.data.toList = rmB t.data.toList) ∧ Hid (Below W.heap.size W w')) := fun t W ht hW => by
    refine (Go.Proofs.Tryd.strings_ReplaceAll t ⟨#[40, 41]⟩ ⟨#[]⟩ m W (by omega) (HM.out W hW) (by decide) ?_).mono ?_
    · show t.size + _ * 0 ≤ _
      omega
    · rintro e w' ⟨rfl, hb⟩
      exact ⟨_, rfl, hid_w (by show Lib.replaceAll t.data.toList [40, 41] [] = _; rw [rep_all]), hb⟩
  clear hm
  go_enter Tryd.func7, Tryd.ntmps7
  go_wp2_with fail
  go_loopw [0] (fun sv wr => ∃ s' : ByteArray, sv = .string s' ∧ s'.size ≤ 60 ∧ Hid (b = rt 0 s'.data.toList) ∧ Hid (Below w.heap.size w wr)) (fun sv _ => szS sv)
  case atStart => exact ⟨s, rfl, hs, HB, hid_w (Below.refl _ _)⟩
  case round =>
    obtain ⟨s', rfl, hs', HB', HW⟩ := hrel
    have HC := hid_w (HRp.out s' wr hs' HW.out)
    by_cases h0 : s' = ⟨#[]⟩
    · subst h0
      have hb : b = true := by rw [HB'.out]; rfl
      have h0' : ((⟨#[]⟩ : ByteArray).toList.isEmpty) = true := by rw [ByteArray.toList_eq]; rfl
      subst hb
      go_wp2_with fail
      go_ret
      exact ⟨rfl, HW⟩
    · have h0' : s'.toList.isEmpty = false := by
        rw [ByteArray.toList_eq]
        cases hl : s'.data.toList with
        | nil => exact absurd (str_eq hl) h0
        | cons b r => rfl
      go_upto_if 10 with (go_at_call 19; refine HC.out.mono ?_; rintro e W1 ⟨t', rfl, HT, HB1⟩)
      have HW1 : Hid (Below w.heap.size w W1) := HW.out.trans (HB1.out.mono HW.out.size)
      by_cases h1 : t' = s'
      · subst h1
        have h1' : (t'.toList == t'.toList) = true := by simp
        have hb : b = false := by
          rw [HB'.out]
          refine rm_stuck HT.out.symm (fun e => h0 (str_eq e))
        subst hb
        rw [h1']
        go_wp2_with fail
        go_ret
        exact ⟨rfl, HW1⟩
      · have h1' : (t'.toList == s'.toList) = false := by
          rw [beq_eq_false_iff_ne, ByteArray.toList_eq, ByteArray.toList_eq]
          exact fun e => h1 (str_eq e)
        have hlt : t'.size < s'.size := by
          have h2 : rmB s'.data.toList ≠ s'.data.toList := fun e => h1 (str_eq (by rw [HT.out, e]))
          have h3 := rm_shrinks h2
          rw [← HT.out] at h3
          simpa using h3
        have HB2 : Hid (b = rt 0 t'.data.toList) := by show _ = _; rw [HB'.out, HT.out, rt_rm]
        rw [h1']
        go_wp2_with fail
        go_roundw
        case rel => exact ⟨t', rfl, by omega, HB2, HW1⟩
        case measure => exact hlt
end Go.Proofs.YthfbkangjpcpgaaDoor
