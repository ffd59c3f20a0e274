/-
  The contract of strconv.Itoa at small numbers.
-/
import Derived.Test.YtmbpcapjldbkbaaDoorWStd
namespace Go.Proofs.YtmbpcapjldbkbaaDoor
open Go.RowKit

theorem Itoa_at (k : Nat) (hk : k ≤ 1000000) (w : World) (htab : Lib.TabIs Tryd.prog w "internal/strconv.uint64pow10" .u64 Lib.pow10Tab) :
    Calls Tryd.prog 8 #[.int .i64 (k : Int)] w fun e w' => e = .returned (.string ⟨(numT k).toArray⟩) ∧ Below w.heap.size w w' := by
  refine (Go.Proofs.Tryd.strconv_Itoa (k : Int) (by omega) (by omega) w htab).mono ?_
  rintro e w' ⟨rfl, n, os, rfl⟩
  refine ⟨?_, ?_⟩
  · rw [numT_small (by omega)]
    unfold Lib.itoa
    rw [if_neg (by omega)]
    rfl
  · exact ⟨rfl, rfl, rfl, by first | (simp [Go.Sort.grow]; done) | (simp [Go.Sort.grow]; omega), fun i hi => by
      show ((w.drewN n).heap ++ os)[i]? = _
      rw [Array.getElem?_append_left (by show i < w.heap.size; omega)]
      rfl⟩
theorem pt21 : IsPt [2, 1] := pt_of (by decide)

end Go.Proofs.YtmbpcapjldbkbaaDoor
