/-
  The contracts of ferref.Count, Rows, Had, Upward, Plain, Twin.
-/
import Derived.Test.YtpbmcaoomcippadUStd
import Derived.Test.YtpbmcaoomcippadQPerm
namespace Go.Proofs.Ytpbmcaoomcippad
open Go.RowKit

set_option maxHeartbeats 2000000 in
theorem RCount_at (a : Option Addr) (n cap : Nat) (ls : List (List Int)) (w : World) (hs : Table w a ls) (hn : n = ls.length) (hl : ls.length ≤ 2000000) (hf : ls.flatten.length ≤ 2000000) :
    Calls Try.prog 71 #[.slice a n cap] w fun e w' => e = .returned (.int .i64 (ls.flatten.length : Nat)) ∧ Below w.heap.size w w' := by
  subst hn
  go_enter Try.func71, Try.ntmps71
  go_wp2_with fail
  refine (Joined_is _ _ _ _ _ hs rfl hl hf).mono ?_
  rintro e w' ⟨v, rfl, hO, hb⟩
  obtain ⟨m, HM⟩ : ∃ m, Hid (m = ls.flatten.length) := ⟨_, rfl⟩
  obtain ⟨av, cv, hsh⟩ := hO.shape
  rw [← HM.out] at hsh
  subst hsh
  clear hO
  go_wp2
  go_ret
  exact ⟨ret_int (by rw [HM.out]), hb⟩

set_option maxHeartbeats 2000000 in
theorem RRows_at (a : Option Addr) (n cap : Nat) (ls : List (List Int)) (w : World) (hs : Table w a ls) (hn : n = ls.length) (hl : ls.length ≤ 1000) :
    Calls Try.prog 43 #[.slice a n cap] w fun e w' => ∃ v, e = .returned v ∧ Owns w' w.heap.size v (shapeL ls) ∧ Below w.heap.size w w' := by
  subst hn
  have HS : Hid (Table w a ls) := hs
  clear hs
  go_enter Try.func43, Try.ntmps43
  go_wp2
  go_loopw [3, 4] (fun v i wr => ∃ k : Nat, k ≤ ls.length ∧ i = .int .i64 k ∧ Hid (Owns wr w.heap.size v (tab k (fun j => ((row ls j).length : Nat)))) ∧ Hid (Below w.heap.size w wr)) (fun _ i _ => ls.length - (intOf i).toNat)
  case atStart => exact ⟨0, Nat.zero_le _, rfl, World.ownsRow_nil _ _ _ _, Below.refl _ _⟩
  case round =>
    obtain ⟨k, hk, rfl, HO, HB⟩ := hrel
    by_cases hlt : k < ls.length
    · have hlt' : (k : Int) < (ls.length : Int) := by omega
      obtain ⟨b, off, ai, m, ci, rfl, HCe, HM, -, -, hmb⟩ := HS.out.elemB hlt
      have hc := HCe.out _ HB.out
      go_wp2_with (at_builtin; refine append_int (x := (m : Int)) rfl _ _ rfl rfl HO.out rfl ?c1 ?c2 ?_)
      case c1 => rw [tab_length]; omega
      case c2 => exact HB.out.size
      intro v' w2 hO' hb'
      have HO3 : Hid (Owns w2 w.heap.size v' (tab (k + 1) (fun j => ((row ls j).length : Nat)))) := by show Owns _ _ _ _; rw [tab_succ]; rw [HM.out] at hO'; exact hO'
      have HB3 : Hid (Below w.heap.size w w2) := HB.out.trans hb'
      clear hO' hb'
      go_wp2
      go_roundw
      case rel => exact ⟨k + 1, by omega, by go_num, HO3, HB3⟩
      case measure => simp [intOf]; omega
    · obtain rfl : k = ls.length := by omega
      go_wp2
      go_ret
      exact ⟨_, rfl, HO.out, HB.out⟩
theorem cnt_take (l : List Int) (k : Nat) (hk : k < l.length) (n J : Nat) (hJ : l.getD k 0 = (J : Int) + 1) {x : Int} (hx : x = cnt (l.take k) J + 1) :
    tab n (upd (cnt (l.take k)) J x) = tab n (cnt (l.take (k + 1))) := by
  refine tab_congr (fun j _ => ?_)
  rw [take_snoc l k hk, cnt_snoc, hJ]
  unfold upd
  by_cases e : j = J
  · subst e; rw [if_pos rfl, if_pos rfl, hx]
  · rw [if_neg e, if_neg (by omega)]; omega

theorem up_take (ls : List (List Int)) (k : Nat) (hk : k < ls.length) : (ls.take (k + 1)).reverse.flatten = row ls k ++ (ls.take k).reverse.flatten := by
  rw [List.take_succ_eq_append_getElem hk, List.reverse_append]
  simp [row, List.getD, List.getElem?_eq_getElem hk]

theorem plain_std {ls : List (List Int)} (h : IsTab ls) : (pchk ls.flatten == 0) = stdB ls := by
  unfold stdB contL
  rw [ones_perm (fun _ hz => (h.mem hz).1)]
  unfold pchk
  rw [if_neg (by have := h.few; omega)]
  cases okPerm ls.flatten <;> rfl

set_option maxHeartbeats 2000000 in
theorem Plain_at (a : Option Addr) (n cap : Nat) (ls : List (List Int)) (w : World) (hs : Table w a ls) (hn : n = ls.length) (hp : IsTab ls) {t : Bool} (ht : stdB ls = t) :
    Calls Try.prog 16 #[.slice a n cap] w fun e w' => e = .returned (.bool t) ∧ Below w.heap.size w w' := by
  subst hn
  have hf := hp.few
  have hr := hp.rows
  have HP : Hid ((pchk ls.flatten == 0) = t) := by show _ = _; rw [plain_std hp]; exact ht
  obtain ⟨d, hd⟩ : ∃ d, pchk ls.flatten = d := ⟨_, rfl⟩
  have E : Hid (pchk ls.flatten = d) := hd
  have HD : Hid ((d == 0) = t) := by rw [← hd]; exact HP.out
  have hwf : ∀ z ∈ ls.flatten, -9223372036854775808 ≤ z ∧ z ≤ 9223372036854775807 := fun z hz => by have := hp.mem hz; omega
  have HWf : Hid (∀ z ∈ ls.flatten, -9223372036854775808 ≤ z ∧ z ≤ 9223372036854775807) := hwf
  have HF : Hid (ls.flatten.length ≤ 40) := hf
  clear hd HP ht hp hwf hf
  go_enter Try.func16, Try.ntmps16
  go_wp2_with fail
  refine (Joined_is _ _ _ _ _ hs rfl (by omega) (by have := HF.out; omega)).mono ?_
  rintro e w1 ⟨v, rfl, hO, hb⟩
  obtain ⟨av, nv, cv, rfl, hS, hnv, -⟩ := hO.opened (by have := HF.out; omega) HWf.out
  have HN : Hid (nv = ls.flatten.length) := hnv
  clear hnv hO
  go_wp2_with fail
  refine (RPerm_is _ _ _ _ _ hS HN.out E).mono ?_
  rintro e w2 ⟨rfl, hw2⟩
  obtain rfl : w1 = w2 := hw2.symm
  clear hw2
  go_wp2
  go_ret
  exact ⟨ret_bool HD.out, hb⟩
end Go.Proofs.Ytpbmcaoomcippad
