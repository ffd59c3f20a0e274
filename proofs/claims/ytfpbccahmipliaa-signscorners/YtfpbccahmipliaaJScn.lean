/-
  The law ferlaw.SignsCorners.
-/
import Derived.Test.YtfpbccahmipliaaJSc1
import Derived.Test.YtfpbccahmipliaaJSc2
namespace Go.Proofs.Ytfpbccahmipliaa
open Go.RowKit

theorem scor_at (a c t : Option Addr) (n N q ca cc ct : Nat) (ls ks ts : List (List Int)) (w : World) (hs : TableX w a ls) (hc : Table w c ks) (ht : Table w t ts) (hn : n = ls.length) (hN : N = ks.length) (hq : q = ts.length) (hl : ls.length ≤ 17592186044416) (hk : ks.length ≤ 17592186044416) (hr : ts.length ≤ 17592186044416) :
    Calls Try.prog 4 #[.slice a n ca, .slice c N cc, .slice t q ct] w fun e w' => e = .returned (.bool true) ∧ Below w.heap.size w w' := by
  by_cases p : SgL ls
  · obtain ⟨n1, A, rfl, pA⟩ := p.fn
    rw [tz_len] at hn
    subst hn
    exact scor_one a c t _ N q ca cc ct A ks ts w hs pA hc ht hN hq hk hr
  · exact scor_two a c t n N q ca cc ct ls ks ts w hs.table hn hl p hc ht hN hq hk hr

end Go.Proofs.Ytfpbccahmipliaa
