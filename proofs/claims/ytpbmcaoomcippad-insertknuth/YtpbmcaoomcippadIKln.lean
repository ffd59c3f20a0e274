/-
  The law ferkeep.InsertKnuth, slices.SortFunc laid.
-/
import Derived.Test.YtpbmcaoomcippadIKlw
import Derived.Test.YtpbmcaoomcippadKShelf
namespace Go.Proofs.Ytpbmcaoomcippad
open Go.RowKit Go.Shelf

theorem iknu_law (aw : Option Addr) (cw : Nat) (zs : List Int) (k : Int) (w : World) (hw : Shows w aw zs) (hk : -9223372036854775808 ≤ k ∧ k ≤ 9223372036854775807) :
    Calls Try.prog 8 #[.slice aw zs.length cw, .int .i64 k] w fun e w' => e = .returned (.bool true) ∧ Below w.heap.size w w' := iknu_at Try.sortL rfl aw cw zs k w hw hk

end Go.Proofs.Ytpbmcaoomcippad
