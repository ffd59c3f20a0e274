/-
  The contract of ferref.Twin.
-/
import Derived.Test.YtbiakncblkjmhaaGreatDoorTTab
namespace Go.Proofs.YtbiakncblkjmhaaGreatDoor
open Go.RowKit

set_option maxHeartbeats 4000000 in
theorem Twin_r (a : Option Addr) (n cap : Nat) (ls : List (List Int)) (w : World) (hs : Table w a ls) (hn : n = ls.length) (hl : ls.length ≤ 1000) (hr : ∀ l ∈ ls, l.length ≤ 1000000) :
    Calls Tryz.prog 41 #[.slice a n cap] w fun e w' => ∃ v, e = .returned v ∧ Tbl w' w.heap.size v ls ∧ Below w.heap.size w w' := by
  subst hn
  have HS : Hid (Table w a ls) := hs
  have HR : Hid (∀ l ∈ ls, l.length ≤ 1000000) := hr
  clear hs hr
  go_enter Tryz.func41, Tryz.ntmps41
  go_wp2
  go_loopw [3, 4] (fun v i wr => ∃ k : Nat, k ≤ ls.length ∧ i = .int .i64 k ∧ Hid (Tbl wr w.heap.size v (ls.take k)) ∧ Hid (Below w.heap.size w wr)) (fun _ i _ => ls.length - (intOf i).toNat)
  case atStart => exact ⟨0, Nat.zero_le _, rfl, by rw [List.take_zero]; exact Tbl.nil _ _, Below.refl _ _⟩
  case round =>
    obtain ⟨k, hk, rfl, HT, HB⟩ := hrel
    by_cases hlt : k < ls.length
    · have hlt' : (k : Int) < (ls.length : Int) := by omega
      obtain ⟨b, off, ai, ci, rfl, -, hc, hS, hN⟩ := (HS.out.below HB.out) k hlt
      obtain ⟨r, hr⟩ : ∃ r, r = ls.getD k [] := ⟨_, rfl⟩
      have HTk : Hid (ls.take (k + 1) = ls.take k ++ [r]) := by
        show _ = _
        rw [hr, List.take_succ_eq_append_getElem hlt]; simp [List.getD, List.getElem?_eq_getElem hlt]
      have HW : Hid (r.length ≤ 1000000) := HR.out _ (by rw [hr]; simp [List.getD, List.getElem?_eq_getElem hlt])
      rw [← hr] at hc hS hN
      clear hr
      have HSk' : Hid (Shows wr ai r) := hS
      have HNk : Hid (ai = none → r = [] ∧ ci = 0) := hN
      obtain ⟨m, HM⟩ : ∃ m, Hid (m = r.length) := ⟨_, rfl⟩
      rw [← HM.out] at hc
      clear hS hN
      have HOn : Hid (Owns wr wr.heap.size (.slice none 0 0) []) := World.ownsRow_nil _ _ _ _
      obtain ⟨vs, hV⟩ := HT.out
      have HV0 : Hid (TblV wr w.heap.size u3 vs (ls.take k)) := hV
      have HLv : Hid (vs.length = k) := by show _ = _; rw [hV.len, List.length_take]; omega
      clear hV
      go_wp2_with (at_builtin; refine append_src rfl _ _ rfl rfl rfl HOn.out HSk'.out HM.out HNk.out ?c1 ?c2 ?_)
      case c1 => have := HW.out; simp; omega
      case c2 => exact Nat.le_refl _
      intro v1 w2 hO1 hb1 _
      have HO1 : Hid (Owns w2 wr.heap.size v1 r) := by show Owns _ _ _ _; simpa using hO1
      have HB2 : Hid (Below wr.heap.size wr w2) := hb1
      have HV2 : Hid (TblV w2 w.heap.size u3 vs (ls.take k)) := HV0.out.same (fun q _ hq => hb1.block q hq)
      obtain ⟨a1, c1, hsh⟩ := HO1.out.shape
      rw [← HM.out] at hsh
      subst hsh
      clear hO1 hb1
      go_wp2_with (at_builtin; refine append_one elem_row (x := .slice a1 m c1) rfl _ _ rfl rfl rfl rfl HV2.out.own rfl ?c3 ?c4 ?c5 ?_)
      case c3 => have := HLv.out; unfold maxLen; omega
      case c4 => have := HLv.out; omega
      case c5 => exact Nat.le_trans HB.out.size HB2.out.size
      intro v' w3 hO3 hb3 hk3
      have hO3' : w3.ownsRow w.heap.size 29 1 v' (vs ++ [Value.slice a1 m c1]).length (vs ++ [Value.slice a1 m c1]) := by simpa using hO3
      have HT3 : Hid (Tbl w3 w.heap.size v' (ls.take (k + 1))) := by
        show Tbl _ _ _ _
        rw [HTk.out]
        exact Tbl.push HV0.out HV2.out (Nat.le_refl _) HB.out.size HO1.out hO3' hk3
      have HB3 : Hid (Below w.heap.size w w3) := (HB.out.trans (HB2.out.mono HB.out.size)).trans hb3
      clear hO3 hO3' hb3 hk3
      go_wp2
      go_roundw
      case rel => exact ⟨k + 1, by omega, by go_num, HT3, HB3⟩
      case measure => simp [intOf]; omega
    · obtain rfl : k = ls.length := by omega
      have HE : Hid (Tbl wr w.heap.size u3 ls) := by have := HT.out; rw [List.take_length] at this; exact this
      go_wp2
      go_ret
      exact ⟨_, rfl, HE.out, HB.out⟩

end Go.Proofs.YtbiakncblkjmhaaGreatDoor
