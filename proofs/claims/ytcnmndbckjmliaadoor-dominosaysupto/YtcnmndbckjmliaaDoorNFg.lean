/-
  The first tiling, domino by domino (plain).
-/
import Derived.Test.YtcnmndbckjmliaaDoorNFsp
namespace Go.Proofs.YtcnmndbckjmliaaDoor
open Go.RowKit

def fstG : Nat → Nat → (Nat → UInt8) → (Nat → UInt8)
  | 0, _, f => f
  | n + 1, c, f => if c = allC then f else if mayL c = true ∧ 0 < cntC (lieC c) then fstG n (lieC c) (up2 f (fstC c) 108 (fstC c + 1) 114) else fstG n (staC c) (up2 f (fstC c) 117 (fstC c + 8) 100)
/-- So far it goes as it should. -/
def FG (x0 : Nat) (g : Nat → UInt8) (k : Nat) (f : Nat → UInt8) : Prop := ∃ n, fstG n k f = fstG 64 x0 g ∧ freeC k ≤ 2 * n
theorem FG.start (x0 : Nat) (g : Nat → UInt8) : FG x0 g x0 g := ⟨64, rfl, by have := free_le x0; omega⟩
theorem FG.lie {x0 k : Nat} {g f : Nat → UInt8} (h : FG x0 g k f) (hk : k < allC) (hL : mayL k = true) (hc : 0 < cntC (lieC k)) : FG x0 g (lieC k) (up2 f (fstC k) 108 (fstC k + 1) 114) := by
  obtain ⟨n, h1, h2⟩ := h
  have hp := free_pos hk
  obtain ⟨n, rfl⟩ : ∃ n', n = n' + 1 := ⟨n - 1, by omega⟩
  unfold fstG at h1
  rw [if_neg (by omega), if_pos ⟨hL, hc⟩] at h1
  exact ⟨n, h1, by have := free_lie hk hL; omega⟩
theorem FG.sta {x0 k : Nat} {g f : Nat → UInt8} (h : FG x0 g k f) (hk : k < allC) (hn : ¬ (mayL k = true ∧ 0 < cntC (lieC k))) (hS : mayS k = true) : FG x0 g (staC k) (up2 f (fstC k) 117 (fstC k + 8) 100) := by
  obtain ⟨n, h1, h2⟩ := h
  have hp := free_pos hk
  obtain ⟨n, rfl⟩ : ∃ n', n = n' + 1 := ⟨n - 1, by omega⟩
  unfold fstG at h1
  rw [if_neg (by omega), if_neg hn] at h1
  exact ⟨n, h1, by have := free_sta hk hS; omega⟩
theorem FG.done {x0 : Nat} {g f : Nat → UInt8} (h : FG x0 g allC f) : f = fstG 64 x0 g := by
  obtain ⟨n, h1, _⟩ := h
  rw [← h1]
  cases n with
  | zero => rfl
  | succ n => unfold fstG; rw [if_pos rfl]

end Go.Proofs.YtcnmndbckjmliaaDoor
