/-
  The contracts of parking.Park, Lucky.
-/
import Derived.Test.YtihafckdaecgkaaZInr
namespace Go.Proofs.Ytihafckdaecgkaa
open Go.RowKit

theorem plC_bound (zs : List Int) (m : Int) : 0 ≤ plC zs m ∧ plC zs m ≤ 2 := by unfold plC; split <;> (try split) <;> omega

set_option maxHeartbeats 2000000 in
theorem Park_ok (a : Option Addr) (n cap : Nat) (zs : List Int) (w : World) (hs : Shows w a zs) (hn : n = zs.length) (hc : plC zs zs.length = 0) (hf : Free (lk zs) zs.length) :
    Calls Try.prog 31 #[.slice a n cap] w fun e w' => ∃ g, e = .returned (.tuple #[.slice (some ⟨g, 0, none⟩) n n, .int .i64 0]) ∧ Hid (Owns w' w.heap.size (.slice (some ⟨g, 0, none⟩) n n) (plcs (zs.length + 1) (lk zs))) ∧ Hid (Below w.heap.size w w') := by
  subst hn
  obtain ⟨h20, hz⟩ := plC_ok.1 hc
  have HC := PkCheck_at a zs.length cap zs 0 w hs rfl hc
  have HR := inRound_at a zs.length cap zs.length zs w hs rfl h20 (fun z h => by have := hz z h; omega) hf
  clear hc hf hz
  go_enter Try.func31, Try.ntmps31
  go_wp2_with fail
  refine HC.mono ?_
  rintro e w1 ⟨rfl, rfl⟩
  go_wp2_with fail
  refine HR.mono ?_
  rintro e w2 ⟨v, rfl, HO, HB⟩
  go_wp2
  go_ret2
  exact ⟨_, rfl, HO, HB⟩

/-- What Park answers where not all find a place. -/
def pkE (zs : List Int) : Int := if plC zs zs.length = 0 then 5 else plC zs zs.length

set_option maxHeartbeats 2000000 in
theorem Park_no (a : Option Addr) (n cap : Nat) (zs : List Int) (w : World) (E : Int) (hs : Shows w a zs) (hn : n = zs.length) (hE : pkE zs = E) (hno : ¬ (plC zs zs.length = 0 ∧ Free (lk zs) zs.length)) :
    Calls Try.prog 31 #[.slice a n cap] w fun e w' => e = .returned (.tuple #[.slice none 0 0, .int .i64 E]) ∧ Hid (Below w.heap.size w w') := by
  subst hn
  by_cases hc : plC zs zs.length = 0
  · obtain ⟨h20, hz⟩ := plC_ok.1 hc
    obtain ⟨f, hf⟩ := free_ex (lk zs)
    have hfn : f ≠ zs.length := fun e => hno ⟨hc, e ▸ hf⟩
    have HC := PkCheck_at a zs.length cap zs 0 w hs rfl hc
    have HR := inRound_at a zs.length cap f zs w hs rfl h20 (fun z h => by have := hz z h; omega) hf
    obtain rfl : E = 5 := by rw [← hE]; unfold pkE; rw [if_pos hc]
    have hne : ((f : Int) + 1 != (zs.length : Int) + 1) = true := by rw [bne_iff_ne]; omega
    have hfl : f < zs.length + 1 := by have := hf.1; rw [lk_length] at this; exact this
    clear hc hf hz hfn hno hE
    go_enter Try.func31, Try.ntmps31
    go_wp2_with fail
    refine HC.mono ?_
    rintro e w1 ⟨rfl, rfl⟩
    go_wp2_with fail
    refine HR.mono ?_
    rintro e w2 ⟨v, rfl, HO, HB⟩
    go_wp2
    go_ret2
    exact ⟨rfl, HB⟩
  · obtain rfl : E = plC zs zs.length := by rw [← hE]; unfold pkE; rw [if_neg hc]
    obtain ⟨c, hcc⟩ : ∃ c, c = plC zs zs.length := ⟨_, rfl⟩
    have HC := PkCheck_at a zs.length cap zs c w hs rfl hcc.symm
    have hl := hs.len
    rw [← hcc] at hc ⊢
    have hb : (c != 0) = true := by rw [bne_iff_ne]; exact hc
    clear hc hcc hE hno
    go_enter Try.func31, Try.ntmps31
    go_wp2_with fail
    refine HC.mono ?_
    rintro e w1 ⟨rfl, rfl⟩
    go_wp2
    go_ret2
    exact ⟨rfl, Below.refl _ _⟩

theorem pkE_no {zs : List Int} : pkE zs ≠ 0 := by unfold pkE; split <;> omega

end Go.Proofs.Ytihafckdaecgkaa
