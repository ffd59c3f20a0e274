/-
  The contracts of ferref.Count, Rows, Had, Upward, Plain, Twin.
-/
import Derived.Test.YtgcagoalnhgljacDoorUTrn
import Derived.Test.YtgcagoalnhgljacDoorQPerm
namespace Go.Proofs.YtgcagoalnhgljacDoor
open Go.RowKit

set_option maxHeartbeats 2000000 in
theorem RCount_at (a : Option Addr) (n cap : Nat) (ls : List (List Int)) (w : World) (hs : Table w a ls) (hn : n = ls.length) (hl : ls.length ≤ 2000000) (hf : ls.flatten.length ≤ 2000000) :
    Calls Tryd.prog 22 #[.slice a n cap] w fun e w' => e = .returned (.int .i64 (ls.flatten.length : Nat)) ∧ Below w.heap.size w w' := by
  subst hn
  go_enter Tryd.func22, Tryd.ntmps22
  go_wp2_with fail
  refine (Joined_is _ _ _ _ _ hs rfl hl hf).mono ?_
  rintro e w' ⟨v, rfl, hO, hb⟩
  obtain ⟨m, HM⟩ : ∃ m, Hid (m = ls.flatten.length) := ⟨_, rfl⟩
  obtain ⟨av, cv, hsh⟩ := hO.shape
  rw [← HM.out] at hsh
  subst hsh
  clear hO
  go_wp2
  go_ret
  exact ⟨ret_int (by rw [HM.out]), hb⟩

theorem cnt_take (l : List Int) (k : Nat) (hk : k < l.length) (n J : Nat) (hJ : l.getD k 0 = (J : Int) + 1) {x : Int} (hx : x = cnt (l.take k) J + 1) :
    tab n (upd (cnt (l.take k)) J x) = tab n (cnt (l.take (k + 1))) := by
  refine tab_congr (fun j _ => ?_)
  rw [take_snoc l k hk, cnt_snoc, hJ]
  unfold upd
  by_cases e : j = J
  · subst e; rw [if_pos rfl, if_pos rfl, hx]
  · rw [if_neg e, if_neg (by omega)]; omega

theorem up_take (ls : List (List Int)) (k : Nat) (hk : k < ls.length) : (ls.take (k + 1)).reverse.flatten = row ls k ++ (ls.take k).reverse.flatten := by
  rw [List.take_succ_eq_append_getElem hk, List.reverse_append]
  simp [row, List.getD, List.getElem?_eq_getElem hk]

theorem plain_std {ls : List (List Int)} (h : IsTab ls) : (pchk ls.flatten == 0) = stdB ls := by
  unfold stdB contL
  rw [ones_perm (fun _ hz => (h.mem hz).1)]
  unfold pchk
  rw [if_neg (by have := h.few; omega)]
  cases okPerm ls.flatten <;> rfl

end Go.Proofs.YtgcagoalnhgljacDoor
