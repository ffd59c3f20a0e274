/-
  The law ferkeep.SignsLattice.
-/
import Derived.Test.YtfpbccahmipliaaJLt1
import Derived.Test.YtfpbccahmipliaaJLt2
import Derived.Test.YtfpbccahmipliaaJLt3
import Derived.Test.YtfpbccahmipliaaJLt4
namespace Go.Proofs.Ytfpbccahmipliaa
open Go.RowKit

theorem slat_at (a b c : Option Addr) (n m l ca cb cc : Nat) (ls ms ks : List (List Int)) (w : World) (hs : Table w a ls) (ht : Table w b ms) (hc : Table w c ks) (hn : n = ls.length) (hm : m = ms.length) (hl : l = ks.length) (h1 : ls.length ≤ 17592186044416) (h2 : ms.length ≤ 17592186044416) (h3 : ks.length ≤ 17592186044416) :
    Calls Try.prog 5 #[.slice a n ca, .slice b m cb, .slice c l cc] w fun e w' => e = .returned (.bool true) ∧ Below w.heap.size w w' := by
  by_cases p : SgL ls
  · obtain ⟨n1, A, rfl, pA⟩ := p.fn
    rw [tz_len] at hn
    subst hn
    by_cases q : SgL ms ∧ ms.length = n
    · obtain ⟨q1, q2⟩ := q
      obtain ⟨n2, B, rfl, pB⟩ := q1.fn
      rw [tz_len] at hm q2
      subst hm
      subst q2
      by_cases r : SgL ks ∧ ks.length = m
      · obtain ⟨r1, r2⟩ := r
        obtain ⟨n3, C, rfl, pC⟩ := r1.fn
        rw [tz_len] at hl r2
        subst hl
        subst r2
        exact slat_four a b c _ ca cb cc A B C w hs ht hc pA pB pC
      · exact slat_three a b c _ l ca cb cc A B ks w hs ht hc pA pB hl h3 r
    · exact slat_two a b c _ m l ca cb cc A ms w hs ht pA hm h2 q
  · exact slat_one a b c n m l ca cb cc ls w hs hn h1 p

end Go.Proofs.Ytfpbccahmipliaa
