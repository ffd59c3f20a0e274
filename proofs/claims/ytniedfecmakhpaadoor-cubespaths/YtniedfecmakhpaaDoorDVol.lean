/-
  The contract of cubes.Volume; what is no pile is sent back.
-/
import Derived.Test.YtniedfecmakhpaaDoorDTrn
namespace Go.Proofs.YtniedfecmakhpaaDoor
open Go.RowKit


section no
variable (a : Option Addr) (n cap : Nat) (ls : List (List Int)) (h : Int) (w : World) (hh : -9223372036854775808 ≤ h ∧ h ≤ 9223372036854775807) (hs : Table w a ls) (hn : n = ls.length) (hl : ls.length ≤ 17592186044416) (p : ¬ PileL ls h)
include hh hs hn hl p
set_option maxHeartbeats 1000000 in
theorem Turned_no : Calls Tryd.prog 5 #[.slice a n cap, .int .i64 h] w fun e w' => e = .returned (.tuple #[.slice none 0 0, .int .i64 1]) ∧ Hid (Below w.heap.size w w') := by
  have HC : Hid (Calls Tryd.prog 17 #[.slice a n cap, .int .i64 h] w fun e w' => e = .returned (.int .i64 1) ∧ Hid (Below w.heap.size w w')) := Check_no a n cap ls h w hh hs hn hl p
  clear hh hs hn hl p
  go_enter Tryd.func5, Tryd.ntmps5
  go_wp2_with fail
  refine HC.out.mono ?_
  rintro e w1 ⟨rfl, HB1⟩
  go_wp2
  go_ret2
  exact ⟨rfl, HB1⟩
set_option maxHeartbeats 1000000 in
theorem Mirrored_no : Calls Tryd.prog 6 #[.slice a n cap, .int .i64 h] w fun e w' => e = .returned (.tuple #[.slice none 0 0, .int .i64 1]) ∧ Hid (Below w.heap.size w w') := by
  have HC : Hid (Calls Tryd.prog 17 #[.slice a n cap, .int .i64 h] w fun e w' => e = .returned (.int .i64 1) ∧ Hid (Below w.heap.size w w')) := Check_no a n cap ls h w hh hs hn hl p
  clear hh hs hn hl p
  go_enter Tryd.func6, Tryd.ntmps6
  go_wp2_with fail
  refine HC.out.mono ?_
  rintro e w1 ⟨rfl, HB1⟩
  go_wp2
  go_ret2
  exact ⟨rfl, HB1⟩
set_option maxHeartbeats 1000000 in
theorem Rest_no : Calls Tryd.prog 7 #[.slice a n cap, .int .i64 h] w fun e w' => e = .returned (.tuple #[.slice none 0 0, .int .i64 1]) ∧ Hid (Below w.heap.size w w') := by
  have HC : Hid (Calls Tryd.prog 17 #[.slice a n cap, .int .i64 h] w fun e w' => e = .returned (.int .i64 1) ∧ Hid (Below w.heap.size w w')) := Check_no a n cap ls h w hh hs hn hl p
  clear hh hs hn hl p
  go_enter Tryd.func7, Tryd.ntmps7
  go_wp2_with fail
  refine HC.out.mono ?_
  rintro e w1 ⟨rfl, HB1⟩
  go_wp2
  go_ret2
  exact ⟨rfl, HB1⟩
set_option maxHeartbeats 1000000 in
theorem Paths_no : Calls Tryd.prog 4 #[.slice a n cap, .int .i64 h] w fun e w' => e = .returned (.tuple #[.slice none 0 0, .int .i64 1]) ∧ Hid (Below w.heap.size w w') := by
  have HC : Hid (Calls Tryd.prog 17 #[.slice a n cap, .int .i64 h] w fun e w' => e = .returned (.int .i64 1) ∧ Hid (Below w.heap.size w w')) := Check_no a n cap ls h w hh hs hn hl p
  clear hh hs hn hl p
  go_enter Tryd.func4, Tryd.ntmps4
  go_wp2_with fail
  refine HC.out.mono ?_
  rintro e w1 ⟨rfl, HB1⟩
  go_wp2
  go_ret2
  exact ⟨rfl, HB1⟩
end no

end Go.Proofs.YtniedfecmakhpaaDoor
