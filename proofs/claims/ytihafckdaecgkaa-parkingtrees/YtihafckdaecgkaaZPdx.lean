/-
  slices.IndexFunc of pairs with Code's closure: the first edge at a vertex.
-/
import Derived.Test.YtihafckdaecgkaaZPrs
namespace Go.Proofs.Ytihafckdaecgkaa
open Go.RowKit

set_option maxHeartbeats 2000000 in
theorem PkCode1_at (p q x : Int) (B : Nat) (t : Bool) (w : World) (hB : w.cell? ⟨B, 0, none⟩ = some (.int .i64 x)) (hBl : B < w.heap.size) (ht : t = (p == x || q == x)) :
    Calls Try.prog 24 #[.agg #[.int .i64 p, .int .i64 q], .pointer (some ⟨B, 0, none⟩)] w fun e w' => e = .returned (.bool t) ∧ Hid (Below w.heap.size w w') := by
  have HB : Hid (Below w.heap.size w (w.alloc (.cells #[.int .i64 p, .int .i64 q] 34))) := (Below.refl _ _).alloc (Nat.le_refl _) _
  have h1 : (w.alloc (.cells #[.int .i64 p, .int .i64 q] 34)).cell? ⟨B, 0, none⟩ = some (.int .i64 x) := (HB.out.cell (p := ⟨B, 0, none⟩) hBl).trans hB
  have hne : B ≠ w.heap.size := Nat.ne_of_lt hBl
  clear hB hBl
  by_cases hp : p = x
  · have hb : (p == x) = true := beq_iff_eq.2 hp
    obtain rfl : t = true := by rw [ht, hb]; rfl
    clear ht hp
    go_enter Try.func24, Try.ntmps24
    go_wp2
    go_ret
    exact ⟨rfl, HB⟩
  · have hb : (p == x) = false := beq_eq_false_iff_ne.2 hp
    obtain rfl : (q == x) = t := by rw [ht, hb]; rfl
    clear ht
    go_enter Try.func24, Try.ntmps24
    go_wp2
    go_ret
    exact ⟨rfl, HB⟩
set_option maxHeartbeats 4000000 in
theorem IndexP_at (a : Option Addr) (n cap B k : Nat) (ps : List (Int × Int)) (x : Int) (w : World) (hs : ShowsP w a ps) (hn : n = ps.length) (hl : n ≤ 1000) (hB : w.cell? ⟨B, 0, none⟩ = some (.int .i64 x)) (hBl : B < w.heap.size) (hk : k < n) (he : (ps.getD k (0, 0)).1 = x ∨ (ps.getD k (0, 0)).2 = x) (hno : ∀ j, j < k → (ps.getD j (0, 0)).1 ≠ x ∧ (ps.getD j (0, 0)).2 ≠ x) :
    Calls Try.prog 23 #[.slice a n cap, .func (.func 24) #[] #[.pointer (some ⟨B, 0, none⟩)]] w fun e w' => e = .returned (.int .i64 (k : Int)) ∧ Hid (Below w.heap.size w w') := by
  have HS : Hid (ShowsP w a ps) := hs
  have HN : Hid (n = ps.length) := hn
  have HC : Hid (w.cell? ⟨B, 0, none⟩ = some (.int .i64 x)) := hB
  have HBl : Hid (B < w.heap.size) := hBl
  have HE : Hid ((ps.getD k (0, 0)).1 = x ∨ (ps.getD k (0, 0)).2 = x) := he
  have HNo : Hid (∀ j, j < k → (ps.getD j (0, 0)).1 ≠ x ∧ (ps.getD j (0, 0)).2 ≠ x) := hno
  clear hs hn hB hBl he hno
  go_enter Try.func23, Try.ntmps23
  go_wp2
  go_loopw [5, 8] (fun _ q wr => ∃ j : Nat, j ≤ k ∧ q = .int .i64 j ∧ Hid (Below w.heap.size w wr)) (fun _ q _ => k - (intOf q).toNat)
  case atStart => exact ⟨0, Nat.zero_le _, rfl, Below.refl _ _⟩
  case round =>
    obtain ⟨j, hj, rfl, HB⟩ := hrel
    have hjn : j < n := by omega
    have hjn' : (j : Int) < (n : Int) := by omega
    obtain ⟨b, off, p, q, rfl, -, HEl, hc0, hc1⟩ := (HS.out.below HB.out).elem (k := j) (by rw [← HN.out]; exact hjn)
    obtain ⟨t, Ht⟩ : ∃ t, Hid (t = (p == x || q == x)) := ⟨_, rfl⟩
    have HCc := PkCode1_at p q x B t wr ((HB.out.cell (p := ⟨B, 0, none⟩) HBl.out).trans HC.out) (Nat.lt_of_lt_of_le HBl.out HB.out.size) Ht.out
    go_wp2_with fail
    refine HCc.mono ?_
    rintro e w9 ⟨rfl, HB9⟩
    have HBn : Hid (Below w.heap.size w w9) := HB.out.trans (HB9.out.mono HB.out.size)
    by_cases hjk : j = k
    · subst hjk
      obtain rfl : t = true := by
        rw [Ht.out]
        have := HE.out
        rw [← HEl.out] at this
        simpa using this
      go_wp2
      go_ret
      exact ⟨rfl, HBn⟩
    · obtain rfl : t = false := by
        rw [Ht.out]
        have := HNo.out j (by omega)
        rw [← HEl.out] at this
        simpa using this
      go_wp2
      go_roundw
      case rel => exact ⟨j + 1, by omega, by go_num, HBn⟩
      case measure => simp [intOf]; omega
end Go.Proofs.Ytihafckdaecgkaa
