/-
  The contract of ferlaw.Rows[int] (from IEq: for seats without tables of insert).
-/
import Derived.Test.YtfdhbnbmobmlpaaDoorTTab
namespace Go.Proofs.YtfdhbnbmobmlpaaDoor
open Go.RowKit

theorem Shows.drewR {w : World} {a : Option Addr} {zs : List Int} (h : Shows w a zs) (n : Nat) : Shows (w.drewN n) a zs := h.below (below_drewN (Below.refl _ _) n)
theorem Table.elemR {w : World} {a : Option Addr} {ls : List (List Int)} (h : Table w a ls) {k : Nat} (hk : k < ls.length) :
    ∃ b off ai m ci, a = some ⟨b, off, none⟩ ∧ w.cell? ⟨b, off + k, none⟩ = some (.slice ai m ci) ∧ Hid (m = (ls.getD k []).length) ∧ Hid (Shows w ai (ls.getD k [])) ∧ Hid (ai = none → ls.getD k [] = [] ∧ ci = 0) ∧ m ≤ 17592186044416 := by
  obtain ⟨b, off, ai, ci, h1, _, h3, h4, h5⟩ := h k hk
  exact ⟨b, off, ai, _, ci, h1, h3, rfl, h4, h5, h4.len⟩


end Go.Proofs.YtfdhbnbmobmlpaaDoor
