/-
  Code: the code of a tree; what is refused.
-/
import Derived.Test.YtihafckdaecgkaaZTrf
import Derived.Test.YtihafckdaecgkaaZPdx
import Derived.Test.YtihafckdaecgkaaZPde
namespace Go.Proofs.Ytihafckdaecgkaa
open Go.RowKit

theorem itr_eq (lo hi : Int) : ∀ (L : List (Int × Int)) (m : Int → Int), itr lo hi m L = (L.all (fun e => inIv [e.1, e.2] lo hi) && tre m L)
  | [], _ => rfl
  | e :: L, m => by
    rw [itr, itr_eq lo hi L, List.all_cons, tre]
    generalize inIv [e.1, e.2] lo hi = p
    generalize L.all (fun e => inIv [e.1, e.2] lo hi) = q
    generalize decide (m e.1 ≠ m e.2) = r
    generalize tre (mrg m e) L = s
    cases p <;> cases q <;> cases r <;> cases s <;> rfl
theorem itr_tr {f n : Nat} {L : List (Int × Int)} (hn : n = L.length) : itr f ((f + n : Nat) : Int) id L = true ↔ Tr (rgV f (n + 1)) L := by
  subst hn
  rw [itr_eq, Bool.and_eq_true]
  have key : (L.all (fun e => inIv [e.1, e.2] (f : Int) ((f + L.length : Nat) : Int)) = true) ↔ ∀ e ∈ L, e.1 ∈ rgV f (L.length + 1) ∧ e.2 ∈ rgV f (L.length + 1) := by
    rw [List.all_eq_true]
    refine forall_congr' (fun e => forall_congr' (fun _ => ?_))
    rw [mem_rgV, mem_rgV]
    constructor
    · intro h
      have := inIv_two h
      omega
    · intro h
      rw [inIv_iff]
      intro z hz
      simp only [List.mem_cons, List.not_mem_nil, or_false] at hz
      rcases hz with rfl | rfl <;> omega
  rw [key]
  constructor
  · intro h
    exact (tre_iff (rgV_nodup _ _) (by rw [rgV_length]) h.1).1 h.2
  · intro h
    exact ⟨h.2.2.1, (tre_iff (rgV_nodup _ _) (by rw [rgV_length]) h.2.2.1).2 h⟩
theorem OwnsP.otherG {w : World} {lo g h j n cap : Nat} {x : Value} {l : List (Int × Int)} (ho : OwnsP w lo (.slice (some ⟨g, 0, none⟩) n cap) l) (hne : g ≠ h) : OwnsP (w.setCell ⟨h, j, none⟩ x) lo (.slice (some ⟨g, 0, none⟩) n cap) l :=
  ownsRow_blocks ho (fun k e => by
    have : g = k := by simpa [Value.ownBlock] using e
    subst this
    exact Below.heap_setCell _ _ _ _ hne)
theorem OwnsP.underG {w w' : World} {base g cap n G : Nat} {l : List (Int × Int)} (h : OwnsP w base (.slice (some ⟨g, 0, none⟩) n cap) l) (hg : g < G) (hb : Below G w w') : OwnsP w' base (.slice (some ⟨g, 0, none⟩) n cap) l :=
  ownsRow_blocks h (fun k e => by
    have : g = k := by simpa [Value.ownBlock] using e
    subst this
    exact hb.block g hg)
theorem Owns.otherV {w : World} {lo h j : Nat} {v x : Value} {zs : List Int} (ho : Owns w lo v zs) (hne : h < lo) : Owns (w.setCell ⟨h, j, none⟩ x) lo v zs :=
  ownsRow_blocks ho (fun k e => by
    have h1 := World.ownsRow.lt ho k e
    exact Below.heap_setCell _ _ _ _ (by show k ≠ h; omega))

set_option maxHeartbeats 4000000 in
theorem Code_no (a : Option Addr) (n cap : Nat) (L : List (Int × Int)) (E : Int) (w : World) (hs : ShowsP w a L) (hwf : ∀ e ∈ L, (-9223372036854775808 ≤ e.1 ∧ e.1 ≤ 9223372036854775807) ∧ -9223372036854775808 ≤ e.2 ∧ e.2 ≤ 9223372036854775807) (hn : n = L.length) (hl : n ≤ 4611686018427387904)
    (hE : (19 < n ∧ E = 2) ∨ (n ≤ 19 ∧ (n = 0 ∨ itr (1 : Nat) ((1 + n : Nat) : Int) id L = false) ∧ E = 1)) :
    Calls Try.prog 5 #[.slice a n cap] w fun e w' => e = .returned (.tuple #[.slice none 0 0, .int .i64 E]) ∧ Hid (Below w.heap.size w w') := by
  have HB0 : Hid (Below w.heap.size w w) := Below.refl _ _
  rcases hE with ⟨h, rfl⟩ | ⟨h, hi, rfl⟩
  · have h' : (19 : Int) < (n : Int) := by omega
    clear hs hwf hn
    go_enter Try.func5, Try.ntmps5
    go_wp2
    go_ret2
    exact ⟨rfl, HB0⟩
  · have h' : ¬ (19 : Int) < (n : Int) := by omega
    by_cases h0 : n = 0
    · clear hs hwf hn hi h'
      subst h0
      go_enter Try.func5, Try.ntmps5
      go_wp2
      go_ret2
      exact ⟨rfl, HB0⟩
    · have hb : ((n : Int) == 0) = false := beq_eq_false_iff_ne.2 (by omega)
      have HC := isTree_at a n cap 1 L false w hs hwf hn (by omega) (by omega) (by rcases hi with hi | hi; exact absurd hi h0; exact hi)
      clear hs hwf hn hi
      go_enter Try.func5, Try.ntmps5
      go_wp2_with fail
      refine HC.mono ?_
      rintro e w9 ⟨rfl, HB9⟩
      go_wp2
      go_ret2
      exact ⟨rfl, HB9⟩
end Go.Proofs.Ytihafckdaecgkaa
