/-
  A slice of ints as the world shows it, and the functions of package parts that only read: contracts of roomLeft, falls, Check. No condition but that the slice can be read.
-/
import Derived.Test.YtnjbkiegeielhaaRows
import Derived.WalkKit
namespace Go.Proofs.Ytnjbkiegeielhaa
open Go.RowKit

/-- The address a shows the numbers zs in the world w. -/
structure Shows (w : World) (a : Option Addr) (zs : List Int) : Prop where
  len : zs.length ≤ 17592186044416
  wf : ∀ z ∈ zs, -9223372036854775808 ≤ z ∧ z ≤ 9223372036854775807
  cells : zs ≠ [] → ∃ b off, a = some ⟨b, off, none⟩ ∧ b < w.heap.size ∧ ∀ j, j < zs.length → w.cell? ⟨b, off + j, none⟩ = some (.int .i64 (zs.getD j 0))

theorem Shows.below {w w' : World} {a : Option Addr} {zs : List Int} (h : Shows w a zs) (hb : Below w.heap.size w w') : Shows w' a zs := by
  refine ⟨h.len, h.wf, fun hne => ?_⟩
  obtain ⟨b, off, ha, hlt, hc⟩ := h.cells hne
  exact ⟨b, off, ha, Nat.lt_of_lt_of_le hlt hb.size, fun j hj => (hb.cell (p := ⟨b, off + j, none⟩) hlt).trans (hc j hj)⟩

theorem Shows.below' {w w' : World} {B : Nat} {a : Option Addr} {zs : List Int} (h : Shows w a zs) (hb : Below B w w') (hB : w.heap.size ≤ B) : Shows w' a zs :=
  h.below (hb.mono hB)

/-- One element: a number z, its bounds, its cell. -/
theorem Shows.elem {w : World} {a : Option Addr} {zs : List Int} (h : Shows w a zs) {k : Nat} (hk : k < zs.length) :
    ∃ (b off : Nat) (z : Int), a = some ⟨b, off, none⟩ ∧ Hid (z = zs.getD k 0) ∧ -9223372036854775808 ≤ z ∧ z ≤ 9223372036854775807 ∧ w.cell? ⟨b, off + k, none⟩ = some (.int .i64 z) := by
  have hne : zs ≠ [] := by intro e; subst e; simp at hk
  obtain ⟨b, off, ha, _, hc⟩ := h.cells hne
  have hm : zs.getD k 0 ∈ zs := by simp [List.getD, List.getElem?_eq_getElem hk]
  exact ⟨b, off, _, ha, rfl, (h.wf _ hm).1, (h.wf _ hm).2, hc k hk⟩

/-- Two elements at once. -/
theorem Shows.elem2 {w : World} {a : Option Addr} {zs : List Int} (h : Shows w a zs) {k m : Nat} (hk : k < zs.length) (hm : m < zs.length) :
    ∃ (b off : Nat) (z y : Int), a = some ⟨b, off, none⟩ ∧ Hid (z = zs.getD k 0) ∧ Hid (y = zs.getD m 0) ∧ -9223372036854775808 ≤ z ∧ z ≤ 9223372036854775807 ∧ -9223372036854775808 ≤ y ∧ y ≤ 9223372036854775807 ∧
      w.cell? ⟨b, off + k, none⟩ = some (.int .i64 z) ∧ w.cell? ⟨b, off + m, none⟩ = some (.int .i64 y) := by
  have hne : zs ≠ [] := by intro e; subst e; simp at hk
  obtain ⟨b, off, ha, _, hc⟩ := h.cells hne
  have hmk : zs.getD k 0 ∈ zs := by simp [List.getD, List.getElem?_eq_getElem hk]
  have hmm : zs.getD m 0 ∈ zs := by simp [List.getD, List.getElem?_eq_getElem hm]
  exact ⟨b, off, _, _, ha, rfl, rfl, (h.wf _ hmk).1, (h.wf _ hmk).2, (h.wf _ hmm).1, (h.wf _ hmm).2, hc k hk, hc m hm⟩

/-- What roomLeft answers. -/
def room : Int → List Int → Int
  | r, [] => r
  | r, n :: l => if r < n then -1 else room (r - n) l

theorem room_drop (r : Int) (zs : List Int) (k : Nat) (hk : k < zs.length) (z : Int) (hz : z = zs.getD k 0) : room r (zs.drop k) = if r < z then -1 else room (r - z) (zs.drop (k + 1)) := by
  have e : zs.drop k = z :: zs.drop (k + 1) := by
    rw [List.drop_eq_getElem_cons hk]; simp [hz, List.getD, List.getElem?_eq_getElem hk]
  rw [e, room]

theorem room_le (zs : List Int) : ∀ r : Int, (∀ z ∈ zs, 0 ≤ z) → -1 ≤ r → -1 ≤ room r zs ∧ room r zs ≤ r := by
  induction zs with
  | nil => intro r _ h; simp [room, h]
  | cons n l ih =>
    intro r hz h
    have h0 := hz n (by simp)
    rw [room]; split
    · omega
    · have := ih (r - n) (fun z hzz => hz z (by simp [hzz])) (by omega); omega

theorem ret_int {k : IntKind} {a b : Int} (h : a = b) : Ending.returned (.int k a) = .returned (.int k b) := by rw [h]

set_option maxHeartbeats 400000 in
theorem roomLeft_any (r : Int) (a : Option Addr) (cap : Nat) (zs : List Int) (w : World) (hs : Shows w a zs) (h0 : ∀ z ∈ zs, 0 ≤ z) (hr0 : -9223372036854775808 ≤ r) (hr : r ≤ 9223372036854775807) :
    Calls Try.prog 31 #[.int .i64 r, .slice a zs.length cap] w fun e w' => e = .returned (.int .i64 (room r zs)) ∧ w' = w := by
  have hl := hs.len
  go_enter Try.func31, Try.ntmps31
  go_wp2
  go_loop [0, 9] (fun q i => ∃ (k : Nat) (x : Int), k ≤ zs.length ∧ i = .int .i64 k ∧ q = .int .i64 x ∧ x ≤ r ∧ (x = r ∨ 0 ≤ x) ∧ room x (zs.drop k) = room r zs) (fun _ i => zs.length - (intOf i).toNat)
  case atStart => exact ⟨0, r, Nat.zero_le _, rfl, rfl, Int.le_refl _, Or.inl rfl, by simp⟩
  case round =>
    obtain ⟨k, x, hk, rfl, rfl, hxr, hx0, hroom⟩ := hrel
    have HR := show Hid (room x (zs.drop k) = room r zs) from hroom
    clear hroom
    by_cases hlt : k < zs.length
    · obtain ⟨b, off, z, rfl, HZ, hz1, hz2, hc⟩ := hs.elem hlt
      have hz0 : 0 ≤ z := h0 z (by rw [HZ.out]; simp [List.getD, List.getElem?_eq_getElem hlt])
      have HD : Hid (_ = _) := room_drop x zs k hlt z HZ.out
      by_cases hxz : x < z
      · go_wp2
        go_ret
        exact ⟨ret_int (by rw [← HR.out, HD.out, if_pos hxz]), rfl⟩
      · have hx0' : Hid (x = r ∨ 0 ≤ x) := hx0
        clear hx0
        have hx1 : -9223372036854775808 ≤ x := by rcases hx0'.out with h | h <;> omega
        go_wp2
        go_round
        case rel => exact ⟨k + 1, x - z, by omega, by go_num, by go_num, by omega, by omega, by rw [← HR.out, HD.out, if_neg hxz]⟩
        case measure => simp [intOf]; omega
    · go_wp2
      go_ret
      exact ⟨ret_int (by rw [← HR.out, List.drop_of_length_le (by omega), room]), rfl⟩

#print axioms roomLeft_any
end Go.Proofs.Ytnjbkiegeielhaa
