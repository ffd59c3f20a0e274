/-
  The contracts of ferref.Count, Rows, Had, Upward, Plain, Twin.
-/
import Derived.Test.YtjciandmpfcfjaaUStd
import Derived.Test.YtjciandmpfcfjaaQPerm
namespace Go.Proofs.Ytjciandmpfcfjaa
open Go.RowKit

set_option maxHeartbeats 2000000 in
theorem RCount_at (a : Option Addr) (n cap : Nat) (ls : List (List Int)) (w : World) (hs : Table w a ls) (hn : n = ls.length) (hl : ls.length ≤ 2000000) (hf : ls.flatten.length ≤ 2000000) :
    Calls Try.prog 45 #[.slice a n cap] w fun e w' => e = .returned (.int .i64 (ls.flatten.length : Nat)) ∧ Below w.heap.size w w' := by
  subst hn
  go_enter Try.func45, Try.ntmps45
  go_wp2_with fail
  refine (Joined_is _ _ _ _ _ hs rfl hl hf).mono ?_
  rintro e w' ⟨v, rfl, hO, hb⟩
  obtain ⟨m, HM⟩ : ∃ m, Hid (m = ls.flatten.length) := ⟨_, rfl⟩
  obtain ⟨av, cv, hsh⟩ := hO.shape
  rw [← HM.out] at hsh
  subst hsh
  clear hO
  go_wp2
  go_ret
  exact ⟨ret_int (by rw [HM.out]), hb⟩

set_option maxHeartbeats 2000000 in
theorem RRows_at (a : Option Addr) (n cap : Nat) (ls : List (List Int)) (w : World) (hs : Table w a ls) (hn : n = ls.length) (hl : ls.length ≤ 1000) :
    Calls Try.prog 28 #[.slice a n cap] w fun e w' => ∃ v, e = .returned v ∧ Owns w' w.heap.size v (shapeL ls) ∧ Below w.heap.size w w' := by
  subst hn
  have HS : Hid (Table w a ls) := hs
  clear hs
  go_enter Try.func28, Try.ntmps28
  go_wp2
  go_loopw [3, 4] (fun v i wr => ∃ k : Nat, k ≤ ls.length ∧ i = .int .i64 k ∧ Hid (Owns wr w.heap.size v (tab k (fun j => ((row ls j).length : Nat)))) ∧ Hid (Below w.heap.size w wr)) (fun _ i _ => ls.length - (intOf i).toNat)
  case atStart => exact ⟨0, Nat.zero_le _, rfl, World.ownsRow_nil _ _ _ _, Below.refl _ _⟩
  case round =>
    obtain ⟨k, hk, rfl, HO, HB⟩ := hrel
    by_cases hlt : k < ls.length
    · have hlt' : (k : Int) < (ls.length : Int) := by omega
      obtain ⟨b, off, ai, m, ci, rfl, HCe, HM, -, -, hmb⟩ := HS.out.elemB hlt
      have hc := HCe.out _ HB.out
      go_wp2_with (at_builtin; refine append_int (x := (m : Int)) rfl _ _ rfl rfl HO.out rfl ?c1 ?c2 ?_)
      case c1 => rw [tab_length]; omega
      case c2 => exact HB.out.size
      intro v' w2 hO' hb'
      have HO3 : Hid (Owns w2 w.heap.size v' (tab (k + 1) (fun j => ((row ls j).length : Nat)))) := by show Owns _ _ _ _; rw [tab_succ]; rw [HM.out] at hO'; exact hO'
      have HB3 : Hid (Below w.heap.size w w2) := HB.out.trans hb'
      clear hO' hb'
      go_wp2
      go_roundw
      case rel => exact ⟨k + 1, by omega, by go_num, HO3, HB3⟩
      case measure => simp [intOf]; omega
    · obtain rfl : k = ls.length := by omega
      go_wp2
      go_ret
      exact ⟨_, rfl, HO.out, HB.out⟩
theorem cnt_take (l : List Int) (k : Nat) (hk : k < l.length) (n J : Nat) (hJ : l.getD k 0 = (J : Int) + 1) {x : Int} (hx : x = cnt (l.take k) J + 1) :
    tab n (upd (cnt (l.take k)) J x) = tab n (cnt (l.take (k + 1))) := by
  refine tab_congr (fun j _ => ?_)
  rw [take_snoc l k hk, cnt_snoc, hJ]
  unfold upd
  by_cases e : j = J
  · subst e; rw [if_pos rfl, if_pos rfl, hx]
  · rw [if_neg e, if_neg (by omega)]; omega

theorem up_take (ls : List (List Int)) (k : Nat) (hk : k < ls.length) : (ls.take (k + 1)).reverse.flatten = row ls k ++ (ls.take k).reverse.flatten := by
  rw [List.take_succ_eq_append_getElem hk, List.reverse_append]
  simp [row, List.getD, List.getElem?_eq_getElem hk]

set_option maxHeartbeats 4000000 in
theorem Upward_at (a : Option Addr) (n cap : Nat) (ls : List (List Int)) (w : World) (hs : Table w a ls) (hn : n = ls.length) (hp : IsTab ls) :
    Calls Try.prog 68 #[.slice a n cap] w fun e w' => ∃ v, e = .returned v ∧ Owns w' w.heap.size v (wordL ls) ∧ Below w.heap.size w w' := by
  subst hn
  have h40 := hp.rows
  have HT : Hid (IsTab ls) := hp
  have HS : Hid (Table w a ls) := hs
  clear hs hp
  go_enter Try.func68, Try.ntmps68
  go_wp2
  go_loopw [3, 4] (fun v i wr => ∃ k : Nat, k ≤ ls.length ∧ i = .int .i64 k ∧ Hid (Owns wr w.heap.size v (ls.take k).reverse.flatten) ∧ Hid (Below w.heap.size w wr)) (fun _ i _ => ls.length - (intOf i).toNat)
  case atStart => exact ⟨0, Nat.zero_le _, rfl, World.ownsRow_nil _ _ _ _, Below.refl _ _⟩
  case round =>
    obtain ⟨k, hk, rfl, HO, HB⟩ := hrel
    by_cases hlt : k < ls.length
    · have hlt' : (k : Int) < (ls.length : Int) := by omega
      obtain ⟨b, off, ai, m, ci, rfl, HCe, HM, HSk, HNk, hmb⟩ := HS.out.elemB hlt
      have hc := HCe.out _ HB.out
      have HSk' : Hid (Shows wr ai (row ls k)) := HSk.out.below HB.out
      have HW : Hid ((row ls k).length ≤ 40) := HT.out.width hlt
      have HRl : Hid ((ls.take k).reverse.flatten.length ≤ 40) := by show _ ≤ _; rw [flat_rev_len]; have := flat_take_le ls k; have := HT.out.few; omega
      have HRw : Hid (∀ z ∈ (ls.take k).reverse.flatten, -9223372036854775808 ≤ z ∧ z ≤ 9223372036854775807) := fun z hz => by
        obtain ⟨r, hr, hz⟩ := List.mem_flatten.1 hz
        have := HT.out.mem (List.mem_flatten.2 ⟨r, List.mem_of_mem_take (List.mem_reverse.1 hr), hz⟩)
        omega
      have HOn : Hid (Owns wr wr.heap.size (.slice none 0 0) []) := World.ownsRow_nil _ _ _ _
      obtain ⟨rl, HR⟩ : ∃ rl, Hid (rl = (ls.take k).reverse.flatten) := ⟨_, rfl⟩
      rw [← HR.out] at HO HRl HRw
      go_wp2_with (at_builtin; refine append_src rfl _ _ rfl rfl rfl HOn.out HSk'.out HM.out HNk.out ?c1 ?c2 ?_)
      case c1 => have := HW.out; simp; omega
      case c2 => exact Nat.le_refl _
      intro v1 w2 hO1 hb1 _
      have HO1 : Hid (Owns w2 wr.heap.size v1 (row ls k)) := by show Owns _ _ _ _; simpa using hO1
      have HO2 : Hid (Owns w2 w.heap.size u3 rl) := HO.out.below hb1
      obtain ⟨a2, n2, c2, hv2, hS2, HN2, HNn2⟩ := HO2.out.src (by have := HRl.out; omega) HRw.out
      have HB2 : Hid (Below wr.heap.size wr w2) := hb1
      subst hv2
      have HS2 : Hid (Shows w2 a2 rl) := hS2
      clear hO1 hb1 hS2 HO2
      go_wp2_with (at_builtin; refine append_src rfl _ _ rfl rfl rfl HO1.out HS2.out HN2.out HNn2.out ?c3 ?c4 ?_)
      case c3 => have := HW.out; have := HRl.out; omega
      case c4 => exact HB2.out.size
      intro v3 w3 hO3 hb3 _
      have HO3 : Hid (Owns w3 w.heap.size v3 (ls.take (k + 1)).reverse.flatten) := by
        show Owns _ _ _ _
        rw [up_take ls k hlt, ← HR.out]; exact hO3.mono HB.out.size
      have HB3 : Hid (Below w.heap.size w w3) := HB.out.trans ((HB2.out.trans hb3).mono HB.out.size)
      clear hO3 hb3
      go_wp2
      go_roundw
      case rel => exact ⟨k + 1, by omega, by go_num, HO3, HB3⟩
      case measure => simp [intOf]; omega
    · obtain rfl : k = ls.length := by omega
      have HE : Hid (Owns wr w.heap.size u3 (wordL ls)) := by have := HO.out; rw [List.take_length] at this; exact this
      go_wp2
      go_ret
      exact ⟨_, rfl, HE.out, HB.out⟩
theorem plain_std {ls : List (List Int)} (h : IsTab ls) : (pchk ls.flatten == 0) = stdB ls := by
  unfold stdB contL
  rw [ones_perm (fun _ hz => (h.mem hz).1)]
  unfold pchk
  rw [if_neg (by have := h.few; omega)]
  cases okPerm ls.flatten <;> rfl

set_option maxHeartbeats 2000000 in
theorem Plain_at (a : Option Addr) (n cap : Nat) (ls : List (List Int)) (w : World) (hs : Table w a ls) (hn : n = ls.length) (hp : IsTab ls) {t : Bool} (ht : stdB ls = t) :
    Calls Try.prog 26 #[.slice a n cap] w fun e w' => e = .returned (.bool t) ∧ Below w.heap.size w w' := by
  subst hn
  have hf := hp.few
  have hr := hp.rows
  have HP : Hid ((pchk ls.flatten == 0) = t) := by show _ = _; rw [plain_std hp]; exact ht
  obtain ⟨d, hd⟩ : ∃ d, pchk ls.flatten = d := ⟨_, rfl⟩
  have E : Hid (pchk ls.flatten = d) := hd
  have HD : Hid ((d == 0) = t) := by rw [← hd]; exact HP.out
  have hwf : ∀ z ∈ ls.flatten, -9223372036854775808 ≤ z ∧ z ≤ 9223372036854775807 := fun z hz => by have := hp.mem hz; omega
  have HWf : Hid (∀ z ∈ ls.flatten, -9223372036854775808 ≤ z ∧ z ≤ 9223372036854775807) := hwf
  have HF : Hid (ls.flatten.length ≤ 40) := hf
  clear hd HP ht hp hwf hf
  go_enter Try.func26, Try.ntmps26
  go_wp2_with fail
  refine (Joined_is _ _ _ _ _ hs rfl (by omega) (by have := HF.out; omega)).mono ?_
  rintro e w1 ⟨v, rfl, hO, hb⟩
  obtain ⟨av, nv, cv, rfl, hS, hnv, -⟩ := hO.opened (by have := HF.out; omega) HWf.out
  have HN : Hid (nv = ls.flatten.length) := hnv
  clear hnv hO
  go_wp2_with fail
  refine (RPerm_is _ _ _ _ _ hS HN.out E).mono ?_
  rintro e w2 ⟨rfl, hw2⟩
  obtain rfl : w1 = w2 := hw2.symm
  clear hw2
  go_wp2
  go_ret
  exact ⟨ret_bool HD.out, hb⟩
end Go.Proofs.Ytjciandmpfcfjaa
