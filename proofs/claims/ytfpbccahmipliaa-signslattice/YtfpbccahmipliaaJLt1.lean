/-
  The law ferkeep.SignsLattice: the first one is no matrix.
-/
import Derived.Test.YtfpbccahmipliaaJLtb
namespace Go.Proofs.Ytfpbccahmipliaa
open Go.RowKit

set_option maxHeartbeats 16000000 in
set_option maxRecDepth 100000 in
theorem slat_one (a b c : Option Addr) (n m l ca cb cc : Nat) (ls : List (List Int)) (w : World) (hs : Table w a ls) (hn : n = ls.length) (hl : ls.length ≤ 17592186044416) (hno : ¬ SgL ls) :
    Calls Try.prog 5 #[.slice a n ca, .slice b m cb, .slice c l cc] w fun e w' => e = .returned (.bool true) ∧ Below w.heap.size w w' := by
  have FA : Hid (∀ W, Below w.heap.size w W → Table W a ls) := fun W hW => hs.below hW
  have HNl : Hid (n = ls.length) := hn
  have HLl : Hid (ls.length ≤ 17592186044416) := hl
  have HNo : Hid (¬ SgL ls) := hno
  have hnb : n ≤ 17592186044416 := by omega
  clear hs hn hl hno
  go_enter Try.func5, Try.ntmps5
  go_wp2_with fail
  refine (head_meet w).mono ?_
  rintro e w1 ⟨g0, gs0, rfl, HR0, HB1⟩
  have HC := hid_w (head_rows g0 gs0 w1 HR0)
  go_wp2_with fail
  refine HC.out.mono ?_
  rintro e w2 ⟨rfl, Hb⟩
  have HB2 : Hid (Below w.heap.size w w2) := HB1.out.trans (Hb.out.mono HB1.out.size)
  clear HC Hb HB1 HR0
  have HC : Hid (Calls Try.prog 14 #[.slice a n ca] w2 fun e w' => e = .returned (.tuple #[.slice none 0 0, .int .i64 1]) ∧ Hid (Below w2.heap.size w2 w')) := Corner_no a n ca ls w2 (FA.out w2 HB2.out) HNl.out HLl.out HNo.out
  go_wp2_with fail
  refine HC.out.mono ?_
  rintro e w3 ⟨rfl, Hb⟩
  clear HC
  have HB3 : Hid (Below w.heap.size w w3) := HB2.out.trans (Hb.out.mono HB2.out.size)
  clear Hb HB2
  have HC : Hid (Calls Try.prog 15 #[.slice a n ca] w3 fun e w' => e = .returned (.tuple #[.slice none 0 0, .int .i64 1]) ∧ Hid (Below w3.heap.size w3 w')) := Triangle_no a n ca ls w3 (FA.out w3 HB3.out) HNl.out HLl.out HNo.out
  go_wp2_with fail
  refine HC.out.mono ?_
  rintro e w4 ⟨rfl, Hb⟩
  clear HC
  have HB4 : Hid (Below w.heap.size w w4) := HB3.out.trans (Hb.out.mono HB3.out.size)
  clear Hb HB3
  go_wp2
  go_ret
  exact ⟨rfl, HB4.out⟩

end Go.Proofs.Ytfpbccahmipliaa
