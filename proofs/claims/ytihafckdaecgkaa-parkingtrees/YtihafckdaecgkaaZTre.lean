/-
  Tree: the tree of a code.
-/
import Derived.Test.YtihafckdaecgkaaZIst
import Derived.Test.YtihafckdaecgkaaZPrv
import Derived.Test.YtihafckdaecgkaaQCnI
namespace Go.Proofs.Ytihafckdaecgkaa
open Go.RowKit

theorem Lf.idx {es : List Int} {x : Nat} (h : Lf es x) : IdxR es 1 (x : Int) := Or.inr ⟨x, rfl, h.1, h.2.1, h.2.2⟩
theorem Owns.under {w w' : World} {base g cap n G : Nat} {zs : List Int} (h : Owns w base (.slice (some ⟨g, 0, none⟩) n cap) zs) (hg : g < G) (hb : Below G w w') : Owns w' base (.slice (some ⟨g, 0, none⟩) n cap) zs :=
  ownsRow_blocks h (fun k e => by
    have : g = k := by simpa [Value.ownBlock] using e
    subst this
    exact hb.block g hg)
theorem Owns.showsAt {w : World} {base g cap n : Nat} {zs : List Int} (h : Owns w base (.slice (some ⟨g, 0, none⟩) n cap) zs) (hn : n = zs.length) (hl : zs.length ≤ 1000) (hwf : ∀ z ∈ zs, 0 ≤ z ∧ z ≤ 2000) : Shows w (some ⟨g, 0, none⟩) zs := by
  subst hn
  obtain ⟨a, c, hv, hs⟩ := h.shows (by omega) (fun z hz => by have := hwf z hz; omega)
  cases hv; exact hs
theorem Shows.drop {w : World} {g : Nat} {zs : List Int} (h : Shows w (some ⟨g, 0, none⟩) zs) (k : Nat) : Shows w (some ⟨g, k, none⟩) (zs.drop k) := by
  refine ⟨by have := h.len; rw [List.length_drop]; omega, fun z hz => h.wf z (List.mem_of_mem_drop hz), fun hne => ?_⟩
  have hk : k < zs.length := by
    refine Classical.byContradiction (fun c => hne ?_)
    exact List.drop_of_length_le (by omega)
  obtain ⟨b, off, ha, hb, hc⟩ := h.cells (by intro e; subst e; simp at hk)
  cases ha
  refine ⟨g, k, rfl, hb, fun j hj => ?_⟩
  rw [List.length_drop] at hj
  rw [getD_dropZ, ← hc (k + j) (by omega), Nat.zero_add]

set_option maxHeartbeats 2000000 in
theorem Tree_no (a : Option Addr) (n cap : Nat) (c : List Int) (E : Int) (w : World) (hs : Shows w a c) (hn : n = c.length) (hE : (18 < n ∧ E = 2) ∨ (n ≤ 18 ∧ inIv c 1 ((n + 2 : Nat) : Int) = false ∧ E = 1)) :
    Calls Try.prog 9 #[.slice a n cap] w fun e w' => e = .returned (.tuple #[.slice none 0 0, .int .i64 E]) ∧ w' = w := by
  rcases hE with ⟨h, rfl⟩ | ⟨h, hi, rfl⟩
  · have h' : (18 : Int) < (n : Int) := by omega
    clear hs hn
    go_enter Try.func9, Try.ntmps9
    go_wp2
    go_ret2
    exact ⟨rfl, rfl⟩
  · have h' : ¬ (18 : Int) < (n : Int) := by omega
    obtain ⟨m, Hm⟩ : ∃ m : Nat, Hid (m = n + 2) := ⟨_, rfl⟩
    have hm : (n : Int) + 2 = (m : Int) := by have := Hm.out; omega
    have HC : Hid (Calls Try.prog 27 #[.slice a n cap, .int .i64 1, .int .i64 m] w fun e w' => e = .returned (.bool false) ∧ w' = w) := areWithin_at a n cap c 1 m false w hs hn (by rw [Hm.out]; exact hi)
    clear hs hn hi
    go_enter Try.func9, Try.ntmps9
    go_wp2_with fail
    refine HC.out.mono ?_
    rintro e w9 ⟨rfl, rfl⟩
    go_wp2
    go_ret2
    exact ⟨rfl, rfl⟩
end Go.Proofs.Ytihafckdaecgkaa
