/-
  Tables of uint64 of the call's own.
  Numbers in groups of nine digits.
  The contracts of wide.groupsOf, trimmed.
  The contract of wide's product of groups.
  The contracts of wide.Of and of the product of two Numbers.
-/
import Derived.Test.YtgcpconlmihilaaGreatDoorTTab
import Derived.BigQuiet
import Derived.Deep.DeepCutAuto
import Derived.Deep.LoopGhost
import Derived.Laws.NewBlocks
import Derived.Deep.OwnRows
namespace Go.Proofs.YtgcpconlmihilaaGreatDoor
open Go.RowKit

theorem Tryz.infoV : (Tryz.prog.info? 82).map (fun i => (i.zero, i.size, i.bytes)) = some (some (.int .u64 0), 1, 8) := by kernel_rfl
/-- v owns the numbers f 0, .. , f (n - 1). -/
def OwnsV (w : World) (base : Nat) (v : Value) (n : Nat) (f : Nat → Nat) : Prop := w.ownsRow base 82 1 v n ((List.range n).map fun j => Value.int .u64 (f j : Int))
theorem OwnsV.at {w : World} {base g cap n : Nat} {f : Nat → Nat} (h : OwnsV w base (.slice (some ⟨g, 0, none⟩) n cap) n f) {j : Nat} (hj : j < n) :
    w.frozen? ⟨g, j, none⟩ = false ∧ w.cell? ⟨g, j, none⟩ = some (.int .u64 (f j : Int)) := by
  refine ⟨World.ownsRow.frozenAt h j, ?_⟩
  rw [World.ownsRow.cellAt h j (by omega)]
  simp [hj]
theorem OwnsV.congr {w : World} {base n : Nat} {v : Value} {f g : Nat → Nat} (h : OwnsV w base v n f) (he : ∀ j, j < n → f j = g j) : OwnsV w base v n g := by
  unfold OwnsV
  rw [← List.map_congr_left (f := fun j => Value.int .u64 (f j : Int)) (fun j hj => by rw [he j (List.mem_range.1 hj)])]; exact h
theorem OwnsV.store {w : World} {base g cap n : Nat} {f : Nat → Nat} (h : OwnsV w base (.slice (some ⟨g, 0, none⟩) n cap) n f) (j x : Nat) :
    OwnsV (w.setCell ⟨g, j, none⟩ (.int .u64 (x : Int))) base (.slice (some ⟨g, 0, none⟩) n cap) n (fun i => if i = j then x else f i) := by
  unfold OwnsV at h ⊢
  have h := (World.ownsRow.stored h j (.int .u64 (x : Int))).1
  have e : (List.range n).map (fun i => Value.int .u64 ((if i = j then x else f i : Nat) : Int)) = ((List.range n).map fun i => Value.int .u64 (f i : Int)).set j (.int .u64 (x : Int)) := by
    apply List.ext_getElem
    · simp
    · intro i h1 h2
      simp only [List.getElem_map, List.getElem_range, List.getElem_set]
      by_cases e : j = i
      · simp [e]
      · simp [e, Ne.symm e]
  rw [e]; exact h
theorem ownsV_made {w : World} {base g n : Nat} (h : w.ownsRow base 82 1 (.slice (some ⟨g, 0, none⟩) n n) n (madeCells #[Value.int .u64 0] n).toList) : OwnsV w base (.slice (some ⟨g, 0, none⟩) n n) n (fun _ => 0) := by
  unfold OwnsV
  have e : (List.range n).map (fun _ => Value.int .u64 ((0 : Nat) : Int)) = (madeCells #[Value.int .u64 0] n).toList := by
    rw [toList_madeCells_one, List.eq_replicate_iff]
    refine ⟨by simp, fun v hv => ?_⟩
    obtain ⟨j, _, rfl⟩ := List.mem_map.1 hv
    rfl
  rw [e]; exact h

end Go.Proofs.YtgcpconlmihilaaGreatDoor

namespace Go.Proofs.YtgcpconlmihilaaGreatDoor

/-- What n groups come to. -/
def valF (f : Nat → Nat) : Nat → Nat
  | 0 => 0
  | n + 1 => valF f n + f n * 1000000000 ^ n
def upN (f : Nat → Nat) (k x : Nat) : Nat → Nat := fun j => if j = k then x else f j
theorem upN_self (f : Nat → Nat) (k x : Nat) : upN f k x k = x := if_pos rfl
theorem upN_ne (f : Nat → Nat) {k x j : Nat} (h : j ≠ k) : upN f k x j = f j := if_neg h
theorem valF_congr {f g : Nat → Nat} : ∀ n, (∀ j, j < n → f j = g j) → valF f n = valF g n
  | 0, _ => rfl
  | n + 1, h => by rw [valF, valF, valF_congr n fun j hj => h j (by omega), h n (by omega)]
theorem valF_up (f : Nat → Nat) (k x : Nat) : ∀ n, k < n → valF (upN f k x) n + f k * 1000000000 ^ k = valF f n + x * 1000000000 ^ k
  | 0, h => by omega
  | n + 1, h => by
    rw [valF, valF]
    by_cases e : k = n
    · subst e
      rw [upN_self, valF_congr k (f := upN f k x) (g := f) (fun j hj => upN_ne f (by omega))]; omega
    · have ih := valF_up f k x n (by omega)
      rw [upN_ne f (fun q => e q.symm)]; omega
theorem valF_lt (f : Nat → Nat) : ∀ n, (∀ j, j < n → f j < 1000000000) → valF f n < 1000000000 ^ n
  | 0, _ => by simp [valF]
  | n + 1, h => by
    have ih := valF_lt f n fun j hj => h j (by omega)
    have h1 := h n (by omega)
    rw [valF, Nat.pow_succ]
    have : f n * 1000000000 ^ n ≤ 999999999 * 1000000000 ^ n := Nat.mul_le_mul_right _ (by omega)
    omega
/-- The groups are told by what they come to. -/
theorem valF_inj {f g : Nat → Nat} : ∀ n, (∀ j, j < n → f j < 1000000000) → (∀ j, j < n → g j < 1000000000) → valF f n = valF g n → ∀ j, j < n → f j = g j
  | 0, _, _, _, j, hj => by omega
  | n + 1, h1, h2, h, j, hj => by
    rw [valF, valF] at h
    have a1 := valF_lt f n fun j hj => h1 j (by omega)
    have a2 := valF_lt g n fun j hj => h2 j (by omega)
    have e : f n = g n := by
      rcases Nat.lt_trichotomy (f n) (g n) with q | q | q
      · have := Nat.mul_le_mul_right (1000000000 ^ n) (show f n + 1 ≤ g n by omega)
        rw [Nat.add_mul] at this; omega
      · exact q
      · have := Nat.mul_le_mul_right (1000000000 ^ n) (show g n + 1 ≤ f n by omega)
        rw [Nat.add_mul] at this; omega
    by_cases q : j = n
    · rw [q]; exact e
    · exact valF_inj n (fun j hj => h1 j (by omega)) (fun j hj => h2 j (by omega)) (by rw [e] at h; omega) j (by omega)
/-- n groups, the highest not 0, come to x. -/
structure Can (n : Nat) (f : Nat → Nat) (x : Nat) : Prop where
  dg : ∀ j, j < n → f j < 1000000000
  top : 0 < n → f (n - 1) ≠ 0
  val : valF f n = x
theorem Can.pos {n : Nat} {f : Nat → Nat} {x : Nat} (h : Can n f x) (hn : 0 < n) : 1000000000 ^ (n - 1) ≤ x := by
  obtain ⟨k, rfl⟩ : ∃ k, n = k + 1 := ⟨n - 1, by omega⟩
  have h1 := h.val
  have h2 := h.top hn
  rw [valF] at h1
  rw [show k + 1 - 1 = k by omega] at h2 ⊢
  have := Nat.mul_le_mul_right (1000000000 ^ k) (show 1 ≤ f k by omega)
  omega
theorem Can.lt {n : Nat} {f : Nat → Nat} {x : Nat} (h : Can n f x) : x < 1000000000 ^ n := by rw [← h.val]; exact valF_lt f n h.dg
theorem Can.same {n m : Nat} {f g : Nat → Nat} {x : Nat} (h1 : Can n f x) (h2 : Can m g x) : n = m ∧ ∀ j, j < n → f j = g j := by
  have key : ∀ {n m : Nat} {f g : Nat → Nat}, Can n f x → Can m g x → ¬ n < m := fun {n m f g} h1 h2 h => by
    have a := h1.lt
    have b := h2.pos (by omega)
    have c := Nat.pow_le_pow_right (show 0 < 1000000000 by omega) (show n ≤ m - 1 by omega)
    omega
  obtain rfl : n = m := by
    rcases Nat.lt_trichotomy n m with q | q | q
    · exact absurd q (key h1 h2)
    · exact q
    · exact absurd q (key h2 h1)
  exact ⟨rfl, valF_inj n h1.dg h2.dg (h1.val.trans h2.val.symm)⟩
/-- So many groups are left without the noughts at the high end. -/
def tlG (f : Nat → Nat) : Nat → Nat
  | 0 => 0
  | n + 1 => if f n = 0 then tlG f n else n + 1
theorem tlG_le (f : Nat → Nat) : ∀ n, tlG f n ≤ n
  | 0 => Nat.le_refl _
  | n + 1 => by rw [tlG]; split; have := tlG_le f n; omega; omega
theorem tlG_val (f : Nat → Nat) : ∀ n, valF f (tlG f n) = valF f n
  | 0 => rfl
  | n + 1 => by
    rw [tlG]
    split
    · rename_i h; rw [tlG_val f n, valF, h, Nat.zero_mul, Nat.add_zero]
    · rfl
theorem tlG_top (f : Nat → Nat) : ∀ n, 0 < tlG f n → f (tlG f n - 1) ≠ 0
  | 0, h => by simp [tlG] at h
  | n + 1, h => by
    rw [tlG] at h ⊢
    split
    · rename_i e; rw [if_pos e] at h; exact tlG_top f n h
    · rename_i e; exact e
theorem can_tl {f : Nat → Nat} {n : Nat} (h : ∀ j, j < n → f j < 1000000000) : Can (tlG f n) f (valF f n) :=
  ⟨fun j hj => h j (by have := tlG_le f n; omega), tlG_top f n, tlG_val f n⟩
theorem can_zero : Can 0 (fun _ => 0) 0 := ⟨fun j hj => by omega, fun h => by omega, rfl⟩
/-- One step of a product. -/
theorem mul_step {f : Nat → Nat} {n i j c g o x A : Nat} (hk : i + j < n) (hx : x = c + (f (i + j) + g * o)) (h : valF f n + c * 1000000000 ^ (i + j) = A) : valF (upN f (i + j) (x % 1000000000)) n + x / 1000000000 * 1000000000 ^ (i + (j + 1)) = A + g * o * 1000000000 ^ (i + j) := by
  have h1 := valF_up f (i + j) (x % 1000000000) n hk
  have h2 : x % 1000000000 * 1000000000 ^ (i + j) + x / 1000000000 * 1000000000 ^ (i + (j + 1)) = x * 1000000000 ^ (i + j) := by
    rw [← Nat.add_assoc, Nat.pow_succ, Nat.mul_comm (1000000000 ^ (i + j)) 1000000000, ← Nat.mul_assoc, ← Nat.add_mul]
    congr 1
    have := Nat.mod_add_div x 1000000000
    omega
  rw [hx, Nat.add_mul c, Nat.add_mul (f (i + j))] at h2
  rw [hx] at h1
  rw [hx]
  omega

end Go.Proofs.YtgcpconlmihilaaGreatDoor

namespace Go.Proofs.YtgcpconlmihilaaGreatDoor
open Go.RowKit

theorem elem_grp : Elem 63 82 (.int .u64 0) 8 := ⟨by kernel_rfl, Tryz.infoV, rfl⟩
/-- A slice of n groups, at the front of a block. -/
def GrV (w : World) (lo : Nat) (v : Value) (n : Nat) (f : Nat → Nat) : Prop := ∃ a cap, v = .slice a n cap ∧ (0 < n → ∃ g, a = some ⟨g, 0, none⟩ ∧ lo ≤ g ∧ g < w.heap.size ∧ ∀ j, j < n → w.cell? ⟨g, j, none⟩ = some (.int .u64 (f j : Int)))
theorem GrV.below {w w' : World} {lo : Nat} {v : Value} {n : Nat} {f : Nat → Nat} (h : GrV w lo v n f) (hb : Below w.heap.size w w') : GrV w' lo v n f := by
  obtain ⟨a, cap, rfl, h1⟩ := h
  refine ⟨a, cap, rfl, fun hn => ?_⟩
  obtain ⟨g, e, hl, hg, hc⟩ := h1 hn
  exact ⟨g, e, hl, Nat.lt_of_lt_of_le hg hb.size, fun j hj => (hb.cell (p := ⟨g, j, none⟩) hg).trans (hc j hj)⟩
theorem GrV.store {w : World} {lo b k : Nat} {v x : Value} {n : Nat} {f : Nat → Nat} (h : GrV w lo v n f) (hb : b < lo) : GrV (w.setCell ⟨b, k, none⟩ x) lo v n f := by
  obtain ⟨a, cap, rfl, h1⟩ := h
  refine ⟨a, cap, rfl, fun hn => ?_⟩
  obtain ⟨g, e, hl, hg, hc⟩ := h1 hn
  exact ⟨g, e, hl, by simpa using hg, fun j hj => by rw [World.cell?_of_block (heap_setCell_other _ _ _ _ (by show g ≠ b; omega))]; exact hc j hj⟩
theorem GrV.mono {w : World} {lo lo' : Nat} {v : Value} {n : Nat} {f : Nat → Nat} (h : GrV w lo v n f) (hl : lo' ≤ lo) : GrV w lo' v n f := by
  obtain ⟨a, cap, rfl, h1⟩ := h
  refine ⟨a, cap, rfl, fun hn => ?_⟩
  obtain ⟨g, e, h2, hg, hc⟩ := h1 hn
  exact ⟨g, e, by omega, hg, hc⟩
theorem OwnsV.grv {w : World} {base n : Nat} {v : Value} {f : Nat → Nat} (h : OwnsV w base v n f) : GrV w base v n f := by
  have h0 := h
  unfold OwnsV at h
  rcases h.2 with ⟨h2, h3⟩ | ⟨g, cap, cur, hv, hg, hh, _⟩
  · exact ⟨none, 0, by rw [h2, h3], fun hn => by omega⟩
  · refine ⟨_, cap, hv, fun hn => ⟨g, rfl, hg, (Array.getElem?_eq_some_iff.1 hh).1, fun j hj => ?_⟩⟩
    subst hv
    exact (h0.at hj).2

/-- The groups of x, at most N. -/
def GrC (w : World) (lo : Nat) (v : Value) (x N : Nat) : Prop := ∃ n f, GrV w lo v n f ∧ Can n f x ∧ n ≤ N
theorem GrC.below {w w' : World} {lo : Nat} {v : Value} {x N : Nat} (h : GrC w lo v x N) (hb : Below w.heap.size w w') : GrC w' lo v x N := by
  obtain ⟨n, f, h1, h2, h3⟩ := h
  exact ⟨n, f, h1.below hb, h2, h3⟩
theorem GrC.store {w : World} {lo b k : Nat} {v y : Value} {x N : Nat} (h : GrC w lo v x N) (hb : b < lo) : GrC (w.setCell ⟨b, k, none⟩ y) lo v x N := by
  obtain ⟨n, f, h1, h2, h3⟩ := h
  exact ⟨n, f, h1.store hb, h2, h3⟩
theorem GrC.mono {w : World} {lo lo' : Nat} {v : Value} {x N N' : Nat} (h : GrC w lo v x N) (hl : lo' ≤ lo) (hN : N ≤ N') : GrC w lo' v x N' := by
  obtain ⟨n, f, h1, h2, h3⟩ := h
  exact ⟨n, f, h1.mono hl, h2, by omega⟩
theorem GrC.shape {w : World} {lo : Nat} {v : Value} {x N : Nat} (h : GrC w lo v x N) : ∃ a n cap, v = .slice a n cap := by
  obtain ⟨n, f, ⟨a, cap, rfl, _⟩, _, _⟩ := h
  exact ⟨a, n, cap, rfl⟩

set_option maxHeartbeats 2000000 in
theorem groupsOf_at (x : Nat) (w : World) (hx : x ≤ 9223372036854775807) :
    Calls Tryz.prog 53 #[.int .u64 (x : Int)] w fun e w' => ∃ v, e = .returned v ∧ GrC w' w.heap.size v x 3 ∧ Below w.heap.size w w' := by
  have HX : Hid (x ≤ 9223372036854775807) := hx
  clear hx
  go_enter Tryz.func53, Tryz.ntmps53
  go_wp2
  go_loopw [0, 3] (fun xv v wr => ∃ (y n : Nat) (f : Nat → Nat), y ≤ 9223372036854775807 ∧ n ≤ 1000 ∧ xv = .int .u64 (y : Int) ∧ Hid (OwnsV wr w.heap.size v n f) ∧ Hid (valF f n + y * 1000000000 ^ n = x ∧ (∀ j, j < n → f j < 1000000000) ∧ (y = 0 → 0 < n → f (n - 1) ≠ 0)) ∧ Hid (n + 1 ≤ 3 ∨ y = 0 ∧ n ≤ 3) ∧ Hid (Below w.heap.size w wr)) (fun xv _ _ => (intOf xv).toNat)
  case atStart => exact ⟨x, 0, fun _ => 0, HX.out, by omega, rfl, World.ownsRow_nil _ _ _ _, by show _ ∧ _; exact ⟨by simp [valF], fun j hj => by omega, fun _ h => by omega⟩, Or.inl (by omega), Below.refl _ _⟩
  case round =>
    obtain ⟨y, n, f, hy, hn, rfl, HO, HV, HN, HB⟩ := hrel
    by_cases h0 : y = 0
    · subst h0
      have HG := hid_w (OwnsV.grv HO.out)
      go_wp2
      go_ret
      have hv := HV.out
      exact ⟨_, rfl, ⟨n, f, HG.out, ⟨hv.2.1, hv.2.2 (by trivial), by have := hv.1; omega⟩, by rcases HN.out with q | q <;> omega⟩, HB.out⟩
    · have hgt : (y : Int) > 0 := by omega
      obtain ⟨r, HR⟩ : ∃ r, Hid (r = y % 1000000000) := ⟨_, rfl⟩
      obtain ⟨z, HZ⟩ : ∃ z, Hid (z = y / 1000000000) := ⟨_, rfl⟩
      have hr : r < 1000000000 := by rw [HR.out]; exact Nat.mod_lt _ (by omega)
      have hz : z < y := by rw [HZ.out]; exact Nat.div_lt_self (by omega) (by omega)
      have hm : Int.tmod (y : Int) 1000000000 = (r : Int) := by rw [HR.out]; rfl
      have hd : Int.tdiv (y : Int) 1000000000 = (z : Int) := by rw [HZ.out]; rfl
      have hdw : IntKind.u64.wrap (Int.tdiv (y : Int) 1000000000) = (z : Int) := by rw [hd, IntKind.wrap_u64]; omega
      have HN2 : Hid (n + 1 + 1 ≤ 3 ∨ z = 0 ∧ n + 1 ≤ 3) := by
        have hv := HV.out.1
        have hx2 := HX.out
        rcases HN.out with q | q
        · by_cases e : n = 2
          · right
            rw [e] at hv ⊢
            have : y * 1000000000 ^ 2 ≤ 9223372036854775807 := by omega
            have : y < 1000000000 := by
              rcases Nat.lt_or_ge y 1000000000 with q | q
              · exact q
              · have := Nat.mul_le_mul_right (1000000000 ^ 2) q
                omega
            rw [HZ.out, Nat.div_eq_of_lt this]; exact ⟨rfl, by omega⟩
          · left; omega
        · omega
      have HOw : Hid (wr.ownsRow w.heap.size 82 1 u3 ((List.range n).map fun j => Value.int .u64 (f j : Int)).length ((List.range n).map fun j => Value.int .u64 (f j : Int))) := by
        have := HO.out
        unfold OwnsV at this
        rw [List.length_map, List.length_range]; exact this
      have HLn : Hid (((List.range n).map fun j => Value.int .u64 (f j : Int)).length ≤ 1000) := by show _ ≤ _; rw [List.length_map, List.length_range]; exact hn
      go_wp2_with (at_builtin; refine append_one elem_grp (x := .int .u64 (r : Int)) rfl _ _ rfl rfl rfl (by first | rfl | simp) HOw.out rfl ?c3 ?c4 ?c5 ?_)
      case c3 => have := HLn.out; unfold maxLen; omega
      case c4 => have := HLn.out; omega
      case c5 => exact HB.out.size
      intro v2 w3 hO3 hb3 hk3
      have HO3 : Hid (OwnsV w3 w.heap.size v2 (n + 1) (upN f n r)) := by
        show OwnsV _ _ _ _ _
        unfold OwnsV
        have e : (List.range (n + 1)).map (fun j => Value.int .u64 ((upN f n r j : Nat) : Int)) = (List.range n).map (fun j => Value.int .u64 (f j : Int)) ++ [Value.int .u64 (r : Int)] := by
          rw [List.range_succ, List.map_append]
          congr 1
          · exact List.map_congr_left fun j hj => by rw [upN_ne f (by have := List.mem_range.1 hj; omega)]
          · simp [upN_self]
        rw [e]; simpa using hO3
      have HB3 : Hid (Below w.heap.size w w3) := HB.out.trans hb3
      have HV3 : Hid (valF (upN f n r) (n + 1) + z * 1000000000 ^ (n + 1) = x ∧ (∀ j, j < n + 1 → upN f n r j < 1000000000) ∧ (z = 0 → 0 < n + 1 → upN f n r (n + 1 - 1) ≠ 0)) := by
        have hv := HV.out
        refine ⟨?_, fun j hj => ?_, fun hz0 _ => ?_⟩
        · rw [valF, upN_self, valF_congr n (f := upN f n r) (g := f) (fun j hj => upN_ne f (by omega)), Nat.pow_succ, Nat.mul_comm (1000000000 ^ n), ← Nat.mul_assoc, Nat.add_assoc, ← Nat.add_mul]
          have : r + z * 1000000000 = y := by rw [HR.out, HZ.out]; have := Nat.mod_add_div y 1000000000; omega
          rw [this]; exact hv.1
        · by_cases e : j = n
          · subst e; rw [upN_self]; exact hr
          · rw [upN_ne f e]; exact hv.2.1 j (by omega)
        · rw [show n + 1 - 1 = n by omega, upN_self]
          intro hr0
          have h1 := Nat.mod_add_div y 1000000000
          rw [← HR.out, ← HZ.out, hr0, hz0] at h1
          omega
      clear hO3 hb3 hk3 HOw HO
      go_wp2
      go_roundw
      case rel => exact ⟨z, n + 1, _, by omega, by rcases HN.out with q | q <;> omega, by first | rfl | (simp [hdw]; done) | (simp [hd]; done), HO3, HV3, HN2, HB3⟩
      case measure => first | (simp [intOf]; omega) | (simp [intOf, hd]; omega)

set_option maxHeartbeats 2000000 in
theorem trimmed_at (g n cap : Nat) (f : Nat → Nat) (w : World) (hc : ∀ j, j < n → w.cell? ⟨g, j, none⟩ = some (.int .u64 (f j : Int))) (hn : n ≤ 1000000) (hcap : n ≤ cap) :
    Calls Tryz.prog 79 #[.slice (some ⟨g, 0, none⟩) n cap] w fun e w' => e = .returned (.slice (some ⟨g, 0, none⟩) (tlG f n) cap) ∧ w' = w := by
  obtain ⟨t, HT⟩ : ∃ t, Hid (t = tlG f n) := ⟨_, rfl⟩
  rw [← HT.out]
  have HC : Hid (∀ j, j < n → w.cell? ⟨g, j, none⟩ = some (.int .u64 (f j : Int))) := hc
  clear hc
  go_enter Tryz.func79, Tryz.ntmps79
  go_wp2
  go_loopw [0] (fun v wr => ∃ k : Nat, k ≤ n ∧ v = .slice (some ⟨g, 0, none⟩) k cap ∧ Hid (t = tlG f k) ∧ wr = w) (fun v _ => match v with | .slice _ k _ => k | _ => 0)
  case atStart => exact ⟨n, Nat.le_refl _, rfl, HT, rfl⟩
  case round =>
    obtain ⟨k, hk, rfl, HK, hwr⟩ := hrel
    obtain rfl := hwr
    rcases Nat.eq_zero_or_pos k with h0 | h0
    · subst h0
      have HE : Hid (t = 0) := HK.out
      go_wp2
      go_ret
      exact ⟨by rw [HE.out]; rfl, rfl⟩
    · obtain ⟨m, rfl⟩ : ∃ m, k = m + 1 := ⟨k - 1, by omega⟩
      have hgt : ((m + 1 : Nat) : Int) > 0 := by omega
      have hck := HC.out m (by omega)
      have hsub : IntKind.i64.wrap (((m + 1 : Nat) : Int) - 1) = (m : Int) := by rw [IntWalk.i64_left, IntWalk.wrap64_in _ (by omega)]; omega
      by_cases hf : f m = 0
      · have HK2 : Hid (t = tlG f m) := by show _ = _; rw [HK.out, tlG, if_pos hf]
        rw [hf] at hck
        go_wp2
        go_roundw
        case rel => exact ⟨m, by omega, by first | rfl | simp, HK2, by first | rfl | trivial⟩
        case measure => first | (simp; done) | (simp; omega) | skip
      · have HE : Hid (t = m + 1) := by show _ = _; rw [HK.out, tlG, if_neg hf]
        have hfn : ¬ ((f m : Int) = 0) := by omega
        go_wp2
        go_ret
        exact ⟨by rw [HE.out]; rfl, rfl⟩

end Go.Proofs.YtgcpconlmihilaaGreatDoor

namespace Go.Proofs.YtgcpconlmihilaaGreatDoor
open Go.RowKit

theorem Tryz.underG : Tryz.prog.underlying 63 = some (.slice 82) := by kernel_rfl
/-- A row of a product, at its end. -/
theorem mul_row {f v : Nat → Nat} {n i m c g A : Nat} (hk : i + m < n) (h0 : f (i + m) = 0) (h : valF f n + c * 1000000000 ^ (i + m) = A + g * 1000000000 ^ i * valF v m) : valF (upN f (i + m) c) n = A + g * 1000000000 ^ i * valF v m := by
  have h1 := valF_up f (i + m) c n hk
  rw [h0, Nat.zero_mul, Nat.add_zero] at h1
  omega

set_option maxHeartbeats 8000000 in
set_option maxRecDepth 100000 in
theorem gtimes_at (v1 v2 : Value) (n m : Nat) (f k : Nat → Nat) (w : World) {l1 l2 : Nat} (h1 : GrV w l1 v1 n f) (h2 : GrV w l2 v2 m k) (hf : ∀ j, j < n → f j < 1000000000) (hk : ∀ j, j < m → k j < 1000000000) (hn : n ≤ 100000) (hm : m ≤ 100000) :
    Calls Tryz.prog 55 #[v1, v2] w fun e w' => ∃ v, e = .returned v ∧ GrC w' w.heap.size v (valF f n * valF k m) (n + m) ∧ Below w.heap.size w w' := by
  obtain ⟨a1, c1, rfl, h1⟩ := h1
  obtain ⟨a2, c2, rfl, h2⟩ := h2
  have H1 : Hid (∀ W j, Below w.heap.size w W → j < n → ∃ g, a1 = some ⟨g, 0, none⟩ ∧ W.cell? ⟨g, j, none⟩ = some (.int .u64 (f j : Int))) := fun W j hW hj => by
    obtain ⟨g, e, -, hg, hc⟩ := h1 (by omega)
    exact ⟨g, e, (hW.cell (p := ⟨g, j, none⟩) hg).trans (hc j hj)⟩
  have H2 : Hid (∀ W j, Below w.heap.size w W → j < m → ∃ g, a2 = some ⟨g, 0, none⟩ ∧ W.cell? ⟨g, j, none⟩ = some (.int .u64 (k j : Int))) := fun W j hW hj => by
    obtain ⟨g, e, -, hg, hc⟩ := h2 (by omega)
    exact ⟨g, e, (hW.cell (p := ⟨g, j, none⟩) hg).trans (hc j hj)⟩
  have HF : Hid (∀ j, j < n → f j < 1000000000) := hf
  have HK : Hid (∀ j, j < m → k j < 1000000000) := hk
  clear h1 h2 hf hk
  obtain ⟨N, HN⟩ : ∃ N, Hid (N = n + m) := ⟨_, rfl⟩
  have hN : (n : Int) + (m : Int) = (N : Int) := by rw [HN.out]; omega
  have hNb : N ≤ 200000 := by rw [HN.out]; omega
  have hNw : IntKind.i64.wrap (N : Int) = (N : Int) := by rw [IntKind.wrap_i64]; omega
  have hmP : ∀ W, (Instr.makeSlice 63 (.int .i64 (N : Int)) (.int .i64 (N : Int))).run Tryz.prog W = .ok (.slice (some ⟨W.heap.size, 0, none⟩) N N) (W.alloc (.cells (madeCells #[Value.int .u64 0] N) 82)) := fun W =>
    run_make_row' (P := Tryz.prog) 63 82 (.int .u64 0) 8 Tryz.underG Tryz.infoV rfl .i64 .i64 N (by omega) (by omega) W
  have HO0 : Hid (OwnsV (w.alloc (.cells (madeCells #[Value.int .u64 0] N) 82)) w.heap.size (.slice (some ⟨w.heap.size, 0, none⟩) N N) N (fun _ => 0)) := by
    refine ownsV_made ⟨by rw [toList_madeCells_one]; simp, Or.inr ⟨w.heap.size, N, madeCells #[Value.int .u64 0] N, rfl, Nat.le_refl _, heap_alloc_new _ _, Nat.le_refl _, by unfold maxLen; omega, by rw [← Array.length_toList, toList_madeCells_one]; simp, ?_⟩⟩
    rw [Nat.mul_one, List.take_of_length_le (by rw [toList_madeCells_one]; simp)]
  have HB0 : Hid (Below w.heap.size w (w.alloc (.cells (madeCells #[Value.int .u64 0] N) 82))) := (Below.refl _ _).alloc (Nat.le_refl _) _
  go_enter Tryz.func55, Tryz.ntmps55
  go_wp2_with fail
  clear hmP
  go_loopw [19] (fun iv wr => ∃ (i : Nat) (r : Nat → Nat), i ≤ n ∧ iv = .int .i64 (i : Int) ∧ Hid (OwnsV wr w.heap.size (.slice (some ⟨w.heap.size, 0, none⟩) N N) N r) ∧ Hid (valF r N = valF f i * valF k m ∧ (∀ j, j < N → r j < 1000000000) ∧ ∀ j, i + m ≤ j → r j = 0) ∧ Hid (Below w.heap.size w wr)) (fun iv _ => n - (intOf iv).toNat)
  case atStart => exact ⟨0, _, Nat.zero_le _, rfl, HO0, by
    show _ ∧ _
    refine ⟨?_, fun j _ => by omega, fun _ _ => rfl⟩
    rw [valF, Nat.zero_mul]
    have : ∀ q, valF (fun _ => 0) q = 0 := fun q => by induction q with
      | zero => rfl
      | succ q ih => rw [valF, ih]; simp
    exact this N, HB0⟩
  case round =>
    clear HO0 HB0
    obtain ⟨i, r, hi, rfl, HO, HV, HB⟩ := hrel
    by_cases hlt : i < n
    · have hlt' : (i : Int) < (n : Int) := by omega
      obtain ⟨g1, ha1, hc1⟩ := H1.out wr i HB.out hlt
      subst ha1
      obtain ⟨gu, HGu⟩ : ∃ gu, Hid (gu = f i) := ⟨_, rfl⟩
      have hgu : gu < 1000000000 := by rw [HGu.out]; exact HF.out i hlt
      rw [← HGu.out] at hc1
      go_wp2_with fail
      go_loopw [8, 26] (fun cv jv wr => ∃ (j c : Nat) (s : Nat → Nat), j ≤ m ∧ c < 1000000000 ∧ jv = .int .i64 (j : Int) ∧ cv = .int .u64 (c : Int) ∧ Hid (OwnsV wr w.heap.size (.slice (some ⟨w.heap.size, 0, none⟩) N N) N s) ∧ Hid (valF s N + c * 1000000000 ^ (i + j) = valF f i * valF k m + gu * 1000000000 ^ i * valF k j ∧ (∀ j, j < N → s j < 1000000000) ∧ ∀ j, i + m ≤ j → s j = 0) ∧ Hid (Below w.heap.size w wr)) (fun _ jv _ => m - (intOf jv).toNat)
      case atStart => exact ⟨0, 0, r, Nat.zero_le _, by omega, rfl, rfl, HO, by
        show _ ∧ _
        exact ⟨by rw [HV.out.1]; simp [valF], HV.out.2⟩, HB⟩
      case round =>
        clear HO HV HB hc1
        obtain ⟨j, c, s, hj, hc, rfl, rfl, HO, HV, HB⟩ := hrel
        by_cases hltj : j < m
        · have hltj' : (j : Int) < (m : Int) := by omega
          obtain ⟨g2, ha2, hc2⟩ := H2.out wr j HB.out hltj
          subst ha2
          obtain ⟨o, HOo⟩ : ∃ o, Hid (o = k j) := ⟨_, rfl⟩
          have ho : o < 1000000000 := by rw [HOo.out]; exact HK.out j hltj
          rw [← HOo.out] at hc2
          obtain ⟨p, HP⟩ : ∃ p, Hid (p = i + j) := ⟨_, rfl⟩
          have hp : (i : Int) + (j : Int) = (p : Int) := by rw [HP.out]; omega
          have hpN : p < N := by rw [HP.out, HN.out]; omega
          have hpN' : (p : Int) < (N : Int) := by omega
          obtain ⟨hfr, hcp⟩ := HO.out.at hpN
          obtain ⟨sp, HSp⟩ : ∃ sp, Hid (sp = s p) := ⟨_, rfl⟩
          rw [← HSp.out] at hcp
          have hsp : sp < 1000000000 := by rw [HSp.out]; exact HV.out.2.1 p hpN
          obtain ⟨go, HGo⟩ : ∃ go, Hid (go = gu * o) := ⟨_, rfl⟩
          obtain ⟨su, HSu⟩ : ∃ su, Hid (su = sp + go) := ⟨_, rfl⟩
          obtain ⟨x, HX⟩ : ∃ x, Hid (x = c + su) := ⟨_, rfl⟩
          have hgo : go ≤ 999999999 * 999999999 := by rw [HGo.out]; exact Nat.mul_le_mul (by omega) (by omega)
          have hx : x < 1000000000 * 1000000000 := by rw [HX.out, HSu.out]; omega
          have hmul : IntKind.u64.wrap ((gu : Int) * (o : Int)) = (go : Int) := by rw [IntKind.wrap_u64, ← Int.natCast_mul, ← HGo.out]; omega
          have hadd1 : IntKind.u64.wrap ((sp : Int) + (go : Int)) = (su : Int) := by rw [IntKind.wrap_u64, HSu.out]; omega
          have hadd2 : IntKind.u64.wrap ((c : Int) + (su : Int)) = (x : Int) := by rw [IntKind.wrap_u64, HX.out, HSu.out]; omega
          obtain ⟨xm, HXm⟩ : ∃ xm, Hid (xm = x % 1000000000) := ⟨_, rfl⟩
          obtain ⟨xd, HXd⟩ : ∃ xd, Hid (xd = x / 1000000000) := ⟨_, rfl⟩
          have hxm : xm < 1000000000 := by rw [HXm.out]; exact Nat.mod_lt _ (by omega)
          have hxd : xd < 1000000000 := by rw [HXd.out]; exact Nat.div_lt_of_lt_mul (by omega)
          have htm : Int.tmod (x : Int) 1000000000 = (xm : Int) := by rw [HXm.out]; rfl
          have htd : Int.tdiv (x : Int) 1000000000 = (xd : Int) := by rw [HXd.out]; rfl
          have hwd : IntKind.u64.wrap (xd : Int) = (xd : Int) := by rw [IntKind.wrap_u64]; omega
          have HO3 : Hid (OwnsV (wr.setCell ⟨w.heap.size, p, none⟩ (.int .u64 (xm : Int))) w.heap.size (.slice (some ⟨w.heap.size, 0, none⟩) N N) N (upN s p xm)) := HO.out.store p xm
          have HB3 : Hid (Below w.heap.size w (wr.setCell ⟨w.heap.size, p, none⟩ (.int .u64 (xm : Int)))) := HB.out.setCell (p := ⟨w.heap.size, p, none⟩) (Nat.le_refl _) _
          have HV3 : Hid (valF (upN s p xm) N + xd * 1000000000 ^ (i + (j + 1)) = valF f i * valF k m + gu * 1000000000 ^ i * valF k (j + 1) ∧ (∀ j, j < N → upN s p xm j < 1000000000) ∧ ∀ j, i + m ≤ j → upN s p xm j = 0) := by
            have hv := HV.out
            have hst := mul_step (f := s) (n := N) (i := i) (j := j) (c := c) (g := gu) (o := o) (x := x) (by rw [← HP.out]; exact hpN) (by rw [HX.out, HSu.out, HGo.out, HSp.out, HP.out]) hv.1
            rw [← HP.out, ← HXm.out, ← HXd.out] at hst
            refine ⟨?_, fun q hq => ?_, fun q hq => ?_⟩
            · rw [hst, valF, HP.out, ← HOo.out, Nat.mul_add, Nat.add_assoc, Nat.pow_add]
              congr 2
              ac_rfl
            · by_cases e : q = p
              · subst e; rw [upN_self]; exact hxm
              · rw [upN_ne s e]; exact hv.2.1 q hq
            · rw [upN_ne s (by rw [HP.out]; omega)]; exact hv.2.2 q hq
          clear HO HV HB
          go_wp2
          go_roundw
          case rel => exact ⟨j + 1, xd, _, by omega, hxd, by go_num, by first | rfl | (simp [htd]; done), HO3, HV3, HB3⟩
          case measure => simp [intOf]; omega
        · obtain rfl : j = m := by omega
          have hnlt : ¬ ((j : Int) < (j : Int)) := by omega
          obtain ⟨p, HP⟩ : ∃ p, Hid (p = i + j) := ⟨_, rfl⟩
          have hp : (i : Int) + (j : Int) = (p : Int) := by rw [HP.out]; omega
          have hpN : p < N := by rw [HP.out, HN.out]; omega
          have hpN' : (p : Int) < (N : Int) := by omega
          obtain ⟨hfr, hcp⟩ := HO.out.at hpN
          have HO3 : Hid (OwnsV (wr.setCell ⟨w.heap.size, p, none⟩ (.int .u64 (c : Int))) w.heap.size (.slice (some ⟨w.heap.size, 0, none⟩) N N) N (upN s p c)) := HO.out.store p c
          have HB3 : Hid (Below w.heap.size w (wr.setCell ⟨w.heap.size, p, none⟩ (.int .u64 (c : Int)))) := HB.out.setCell (p := ⟨w.heap.size, p, none⟩) (Nat.le_refl _) _
          have HV3 : Hid (valF (upN s p c) N = valF f (i + 1) * valF k j ∧ (∀ j, j < N → upN s p c j < 1000000000) ∧ ∀ q, i + 1 + j ≤ q → upN s p c q = 0) := by
            have hv := HV.out
            have hst := mul_row (f := s) (v := k) (n := N) (i := i) (m := j) (c := c) (g := gu) (A := valF f i * valF k j) (by rw [← HP.out]; exact hpN) (hv.2.2 _ (Nat.le_refl _)) hv.1
            rw [← HP.out] at hst
            refine ⟨?_, fun q hq => ?_, fun q hq => ?_⟩
            · rw [hst, valF, Nat.add_mul, HGu.out]
            · by_cases e : q = p
              · subst e; rw [upN_self]; exact hc
              · rw [upN_ne s e]; exact hv.2.1 q hq
            · rw [upN_ne s (by rw [HP.out]; omega)]; exact hv.2.2 q (by omega)
          clear HO HV HB
          go_wp2
          go_roundw
          case rel => exact ⟨i + 1, _, by omega, by go_num, HO3, HV3, HB3⟩
          case measure => simp [intOf]; omega
    · obtain rfl : i = n := by omega
      have hnlt : ¬ ((i : Int) < (i : Int)) := by omega
      have HT := hid_w (trimmed_at w.heap.size N N r wr (fun j hj => (HO.out.at hj).2) (by omega) (Nat.le_refl _))
      have HG : Hid (GrC wr w.heap.size (.slice (some ⟨w.heap.size, 0, none⟩) (tlG r N) N) (valF f i * valF k m) (i + m)) := by
        refine ⟨tlG r N, r, ⟨_, N, rfl, fun hp => ⟨w.heap.size, rfl, Nat.le_refl _, (World.ownsRow.lt HO.out w.heap.size rfl).2, fun j hj => (HO.out.at (by have := tlG_le r N; omega)).2⟩⟩, ?_, by rw [← HN.out]; exact tlG_le r N⟩
        rw [← HV.out.1]
        exact can_tl HV.out.2.1
      clear HO HV
      go_wp2_with fail
      refine HT.out.mono ?_
      rintro e w9 ⟨rfl, hw9⟩
      obtain rfl := hw9
      go_wp2
      go_ret
      exact ⟨_, rfl, HG.out, HB.out⟩

end Go.Proofs.YtgcpconlmihilaaGreatDoor

namespace Go.Proofs.YtgcpconlmihilaaGreatDoor
open Go.RowKit

/-- A Number, laid down. -/
theorem num_store {w : World} {B : Nat} {a b x y : Value} {ty : TypeId} (h : w.heap[B]? = some (.cells #[a, b] ty (0, 0))) : ((w.setCell ⟨B, 0, none⟩ x).setCell ⟨B, 1, none⟩ y).heap[B]? = some (.cells #[x, y] ty (0, 0)) := by
  have h1 := heap_setCell_same w B 0 _ _ x h
  have h2 := heap_setCell_same _ B 1 _ _ y h1
  simpa using h2

set_option maxHeartbeats 2000000 in
theorem Of_at (x : Nat) (w : World) (hx : x ≤ 4611686018427387904) :
    Calls Tryz.prog 33 #[.int .i64 (x : Int)] w fun e w' => ∃ v, e = .returned (.agg #[.bool false, v]) ∧ GrC w' w.heap.size v x 3 ∧ Below w.heap.size w w' := by
  have hB : Below w.heap.size w (w.alloc (.cells #[.bool false, .slice none 0 0] 65)) := (Below.refl _ _).alloc (Nat.le_refl _) _
  have HB : Hid (Below w.heap.size w (w.alloc (.cells #[.bool false, .slice none 0 0] 65))) := hB
  have HG : Hid (∀ W, Calls Tryz.prog 53 #[.int .u64 (x : Int)] W fun e w' => ∃ v, e = .returned v ∧ Hid (GrC w' W.heap.size v x 3) ∧ Hid (Below W.heap.size W w')) := fun W => groupsOf_at x W (by omega)
  have hconv : IntKind.u64.wrap (x : Int) = (x : Int) := by rw [IntKind.wrap_u64]; omega
  have hneg : ¬ ((x : Int) < 0) := by omega
  clear hB
  go_enter Tryz.func33, Tryz.ntmps33
  go_wp2_with fail
  refine (HG.out _).mono ?_
  rintro e w1 ⟨v, rfl, HV, HB1⟩
  obtain ⟨a, n, cap, rfl⟩ := HV.out.shape
  have hblk : w1.heap[w.heap.size]? = some (.cells #[.bool false, .slice none 0 0] 65 (0, 0)) := by
    rw [HB1.out.block w.heap.size (by simp)]; exact heap_alloc_new _ _
  have c0 : w1.cell? ⟨w.heap.size, 0, none⟩ = some (.bool false) := by simp [World.cell?, hblk]
  have c1 : w1.cell? ⟨w.heap.size, 1, none⟩ = some (.slice none 0 0) := by simp [World.cell?, hblk]
  have f0 : w1.frozen? ⟨w.heap.size, 0, none⟩ = false := frozen_of_row w1 _ 0 _ _ hblk
  have f1 : w1.frozen? ⟨w.heap.size, 1, none⟩ = false := frozen_of_row w1 _ 1 _ _ hblk
  have HF := hid_w (num_store (x := .bool false) (y := .slice a n cap) hblk)
  have HB2 : Hid (Below w.heap.size w ((w1.setCell ⟨w.heap.size, 0, none⟩ (.bool false)).setCell ⟨w.heap.size, 1, none⟩ (.slice a n cap))) := ((HB.out.trans (HB1.out.mono HB.out.size)).setCell (p := ⟨w.heap.size, 0, none⟩) (Nat.le_refl _) _).setCell (p := ⟨w.heap.size, 1, none⟩) (Nat.le_refl _) _
  have HV2 : Hid (GrC ((w1.setCell ⟨w.heap.size, 0, none⟩ (.bool false)).setCell ⟨w.heap.size, 1, none⟩ (.slice a n cap)) w.heap.size (.slice a n cap) x 3) := ((HV.out.store (by simp)).store (by simp)).mono (by simp) (Nat.le_refl _)
  go_wp2
  have d0 : ((w1.setCell ⟨w.heap.size, 0, none⟩ (.bool false)).setCell ⟨w.heap.size, 1, none⟩ (.slice a n cap)).cell? ⟨w.heap.size, 0, none⟩ = some (.bool false) := by simp [World.cell?, HF.out]
  have d1 : ((w1.setCell ⟨w.heap.size, 0, none⟩ (.bool false)).setCell ⟨w.heap.size, 1, none⟩ (.slice a n cap)).cell? ⟨w.heap.size, 1, none⟩ = some (.slice a n cap) := by simp [World.cell?, HF.out]
  refine bodyPost_ret (v := .agg #[.bool false, .slice a n cap]) (by simp [results, go_sem, d0, d1]) rfl ⟨_, rfl, HV2.out, HB2.out⟩

/-- A product of groups. -/
theorem gtimes_c (v1 v2 : Value) (x y N M : Nat) (w : World) {l1 l2 : Nat} (h1 : GrC w l1 v1 x N) (h2 : GrC w l2 v2 y M) (hN : N ≤ 100000) (hM : M ≤ 100000) :
    Calls Tryz.prog 55 #[v1, v2] w fun e w' => ∃ v, e = .returned v ∧ GrC w' w.heap.size v (x * y) (N + M) ∧ Below w.heap.size w w' := by
  obtain ⟨n, f, g1, k1, e1⟩ := h1
  obtain ⟨m, k, g2, k2, e2⟩ := h2
  refine (gtimes_at v1 v2 n m f k w g1 g2 k1.dg k2.dg (by omega) (by omega)).mono ?_
  rintro e w' ⟨v, rfl, hv, hb⟩
  rw [k1.val, k2.val] at hv
  exact ⟨v, rfl, hv.mono (Nat.le_refl _) (by omega), hb⟩

set_option maxHeartbeats 4000000 in
theorem NTimes_at (v1 v2 : Value) (x y N M : Nat) (w : World) {l1 l2 : Nat} (h1 : GrC w l1 v1 x N) (h2 : GrC w l2 v2 y M) (hN : N ≤ 100000) (hM : M ≤ 100000) :
    Calls Tryz.prog 35 #[.agg #[.bool false, v1], .agg #[.bool false, v2]] w fun e w' => ∃ v, e = .returned (.agg #[.bool false, v]) ∧ GrC w' w.heap.size v (x * y) (N + M) ∧ Below w.heap.size w w' := by
  obtain ⟨W, hW⟩ : ∃ W, W = ((w.alloc (.cells #[.bool false, v1] 65)).alloc (.cells #[.bool false, v2] 65)).alloc (.cells #[.bool false, .slice none 0 0] 65) := ⟨_, rfl⟩
  have hB : Below w.heap.size w W := by rw [hW]; exact (((Below.refl _ _).alloc (Nat.le_refl _) _).alloc (by simp) _).alloc (by simp; omega) _
  have hWs : W.heap.size = w.heap.size + 3 := by rw [hW]; simp
  have b0 : W.heap[w.heap.size]? = some (.cells #[.bool false, v1] 65 (0, 0)) := by
    rw [hW, Below.heap_alloc _ _ _ (by simp; omega), Below.heap_alloc _ _ _ (by simp)]; exact heap_alloc_new _ _
  have b1 : W.heap[w.heap.size + 1]? = some (.cells #[.bool false, v2] 65 (0, 0)) := by
    rw [hW, Below.heap_alloc _ _ _ (by simp)]
    have := heap_alloc_new (w.alloc (.cells #[.bool false, v1] 65)) (.cells #[.bool false, v2] 65)
    simpa using this
  have b2 : W.heap[w.heap.size + 2]? = some (.cells #[.bool false, .slice none 0 0] 65 (0, 0)) := by
    rw [hW]
    have := heap_alloc_new ((w.alloc (.cells #[.bool false, v1] 65)).alloc (.cells #[.bool false, v2] 65)) (.cells #[.bool false, .slice none 0 0] 65)
    simpa using this
  have hs1 : ∃ a n c, v1 = .slice a n c := h1.shape
  have hs2 : ∃ a n c, v2 = .slice a n c := h2.shape
  have HG : Hid (Calls Tryz.prog 55 #[v1, v2] W fun e w' => ∃ v, e = .returned v ∧ Hid (GrC w' W.heap.size v (x * y) (N + M)) ∧ Hid (Below W.heap.size W w')) := gtimes_c v1 v2 x y N M W (h1.below hB) (h2.below hB) hN hM
  have HB : Hid (Below w.heap.size w W) := hB
  have HWs : Hid (W.heap.size = w.heap.size + 3) := hWs
  have HB2 : Hid (W.heap[w.heap.size + 2]? = some (.cells #[.bool false, .slice none 0 0] 65 (0, 0))) := b2
  have HB01 : Hid (W.heap[w.heap.size]? = some (.cells #[.bool false, v1] 65 (0, 0)) ∧ W.heap[w.heap.size + 1]? = some (.cells #[.bool false, v2] 65 (0, 0))) := ⟨b0, b1⟩
  have c01 : W.cell? ⟨w.heap.size, 1, none⟩ = some v1 := by simp [World.cell?, b0]
  have c11 : W.cell? ⟨w.heap.size + 1, 1, none⟩ = some v2 := by simp [World.cell?, b1]
  obtain ⟨a1, n1, cp1, rfl⟩ := hs1
  obtain ⟨a2, n2, cp2, rfl⟩ := hs2
  clear h1 h2 hB hWs b0 b1 b2
  go_enter Tryz.func35, Tryz.ntmps35
  go_upto_region 1 with fail
  rw [← hW]
  clear hW
  go_wp2_with fail
  refine HG.out.mono ?_
  rintro e w1 ⟨v, rfl, HV, HB1⟩
  obtain ⟨a, n, cap, rfl⟩ := HV.out.shape
  have hs := HWs.out
  have hblk : w1.heap[w.heap.size + 2]? = some (.cells #[.bool false, .slice none 0 0] 65 (0, 0)) := by
    rw [HB1.out.block (w.heap.size + 2) (by omega)]; exact HB2.out
  have d00 : w1.cell? ⟨w.heap.size, 0, none⟩ = some (.bool false) := by
    rw [HB1.out.cell (p := ⟨w.heap.size, 0, none⟩) (by show w.heap.size < _; omega)]; simp [World.cell?, HB01.out.1]
  have d10 : w1.cell? ⟨w.heap.size + 1, 0, none⟩ = some (.bool false) := by
    rw [HB1.out.cell (p := ⟨w.heap.size + 1, 0, none⟩) (by show w.heap.size + 1 < _; omega)]; simp [World.cell?, HB01.out.2]
  have c0 : w1.cell? ⟨w.heap.size + 2, 0, none⟩ = some (.bool false) := by simp [World.cell?, hblk]
  have c1 : w1.cell? ⟨w.heap.size + 2, 1, none⟩ = some (.slice none 0 0) := by simp [World.cell?, hblk]
  have f0 : w1.frozen? ⟨w.heap.size + 2, 0, none⟩ = false := frozen_of_row w1 _ 0 _ _ hblk
  have f1 : w1.frozen? ⟨w.heap.size + 2, 1, none⟩ = false := frozen_of_row w1 _ 1 _ _ hblk
  have HF := hid_w (num_store (x := .bool false) (y := .slice a n cap) hblk)
  have HB3 : Hid (Below w.heap.size w ((w1.setCell ⟨w.heap.size + 2, 0, none⟩ (.bool false)).setCell ⟨w.heap.size + 2, 1, none⟩ (.slice a n cap))) := ((HB.out.trans (HB1.out.mono HB.out.size)).setCell (p := ⟨w.heap.size + 2, 0, none⟩) (by show w.heap.size ≤ w.heap.size + 2; omega) _).setCell (p := ⟨w.heap.size + 2, 1, none⟩) (by show w.heap.size ≤ w.heap.size + 2; omega) _
  have HV2 : Hid (GrC ((w1.setCell ⟨w.heap.size + 2, 0, none⟩ (.bool false)).setCell ⟨w.heap.size + 2, 1, none⟩ (.slice a n cap)) w.heap.size (.slice a n cap) (x * y) (N + M)) := ((HV.out.store (by omega)).store (by omega)).mono (by omega) (Nat.le_refl _)
  clear hs
  go_wp2
  have d0 : ((w1.setCell ⟨w.heap.size + 2, 0, none⟩ (.bool false)).setCell ⟨w.heap.size + 2, 1, none⟩ (.slice a n cap)).cell? ⟨w.heap.size + 2, 0, none⟩ = some (.bool false) := by simp [World.cell?, HF.out]
  have d1 : ((w1.setCell ⟨w.heap.size + 2, 0, none⟩ (.bool false)).setCell ⟨w.heap.size + 2, 1, none⟩ (.slice a n cap)).cell? ⟨w.heap.size + 2, 1, none⟩ = some (.slice a n cap) := by simp [World.cell?, HF.out]
  refine bodyPost_ret (v := .agg #[.bool false, .slice a n cap]) (by simp [results, go_sem, d0, d1]) rfl ⟨_, rfl, HV2.out, HB3.out⟩

end Go.Proofs.YtgcpconlmihilaaGreatDoor
