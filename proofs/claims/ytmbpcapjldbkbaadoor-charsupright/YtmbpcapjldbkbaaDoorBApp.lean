/-
  A slice of ints as the world shows it; the contracts of ferlaw.Same[int] and ferref.Size.
  A slice of ints that the call itself made; the contract of perms.copied.
  'append' on a slice of ints that the call itself made.
-/
import Derived.Test.YtmbpcapjldbkbaaDoorRows
import Derived.WalkKit
import Derived.Deep.QuietTactic
import Derived.BigQuiet
import Derived.WalkSmall
import Derived.Laws.CopyOwn
import Derived.ArgAppend
namespace Go.Proofs.YtmbpcapjldbkbaaDoor
open Go.RowKit

/-- The address a shows the numbers zs in the world w. -/
structure Shows (w : World) (a : Option Addr) (zs : List Int) : Prop where
  len : zs.length ≤ 17592186044416
  wf : ∀ z ∈ zs, -9223372036854775808 ≤ z ∧ z ≤ 9223372036854775807
  cells : zs ≠ [] → ∃ b off, a = some ⟨b, off, none⟩ ∧ b < w.heap.size ∧ ∀ j, j < zs.length → w.cell? ⟨b, off + j, none⟩ = some (.int .i64 (zs.getD j 0))

theorem Shows.below {w w' : World} {a : Option Addr} {zs : List Int} (h : Shows w a zs) (hb : Below w.heap.size w w') : Shows w' a zs := by
  refine ⟨h.len, h.wf, fun hne => ?_⟩
  obtain ⟨b, off, ha, hlt, hc⟩ := h.cells hne
  exact ⟨b, off, ha, Nat.lt_of_lt_of_le hlt hb.size, fun j hj => (hb.cell (p := ⟨b, off + j, none⟩) hlt).trans (hc j hj)⟩

theorem Shows.below' {w w' : World} {B : Nat} {a : Option Addr} {zs : List Int} (h : Shows w a zs) (hb : Below B w w') (hB : w.heap.size ≤ B) : Shows w' a zs :=
  h.below (hb.mono hB)

/-- One element: a number z, its bounds, its cell. -/
theorem Shows.elem {w : World} {a : Option Addr} {zs : List Int} (h : Shows w a zs) {k : Nat} (hk : k < zs.length) :
    ∃ (b off : Nat) (z : Int), a = some ⟨b, off, none⟩ ∧ Hid (z = zs.getD k 0) ∧ -9223372036854775808 ≤ z ∧ z ≤ 9223372036854775807 ∧ w.cell? ⟨b, off + k, none⟩ = some (.int .i64 z) := by
  have hne : zs ≠ [] := by intro e; subst e; simp at hk
  obtain ⟨b, off, ha, _, hc⟩ := h.cells hne
  have hm : zs.getD k 0 ∈ zs := by simp [List.getD, List.getElem?_eq_getElem hk]
  exact ⟨b, off, _, ha, rfl, (h.wf _ hm).1, (h.wf _ hm).2, hc k hk⟩

/-- Two elements at once. -/
theorem Shows.elem2 {w : World} {a : Option Addr} {zs : List Int} (h : Shows w a zs) {k m : Nat} (hk : k < zs.length) (hm : m < zs.length) :
    ∃ (b off : Nat) (z y : Int), a = some ⟨b, off, none⟩ ∧ Hid (z = zs.getD k 0) ∧ Hid (y = zs.getD m 0) ∧ -9223372036854775808 ≤ z ∧ z ≤ 9223372036854775807 ∧ -9223372036854775808 ≤ y ∧ y ≤ 9223372036854775807 ∧
      w.cell? ⟨b, off + k, none⟩ = some (.int .i64 z) ∧ w.cell? ⟨b, off + m, none⟩ = some (.int .i64 y) := by
  have hne : zs ≠ [] := by intro e; subst e; simp at hk
  obtain ⟨b, off, ha, _, hc⟩ := h.cells hne
  have hmk : zs.getD k 0 ∈ zs := by simp [List.getD, List.getElem?_eq_getElem hk]
  have hmm : zs.getD m 0 ∈ zs := by simp [List.getD, List.getElem?_eq_getElem hm]
  exact ⟨b, off, _, _, ha, rfl, rfl, (h.wf _ hmk).1, (h.wf _ hmk).2, (h.wf _ hmm).1, (h.wf _ hmm).2, hc k hk, hc m hm⟩

theorem ret_int {k : IntKind} {a b : Int} (h : a = b) : Ending.returned (.int k a) = .returned (.int k b) := by rw [h]

theorem ret_bool {a b : Bool} (h : a = b) : Ending.returned (.bool a) = .returned (.bool b) := by rw [h]

theorem drewN_two (w : World) (n m : Nat) : (w.drewN n).drewN m = w.drewN (n + m) := by simp [World.drewN]; try omega

set_option maxHeartbeats 1000000 in
theorem Same_any (a b : Option Addr) (ca cb : Nat) (zs ys : List Int) (w : World) (hs : Shows w a zs) (ht : Shows w b ys) :
    Calls Tryd.prog 12 #[.slice a zs.length ca, .slice b ys.length cb] w fun e w' => e = .returned (.bool (decide (zs = ys))) ∧ ∃ n, w' = w.drewN n := by
  have hl := hs.len
  have hl2 := ht.len
  by_cases hlen : zs.length = ys.length
  · have HL : Hid (zs.length = ys.length) := hlen
    have hb : ((zs.length : Int) != (ys.length : Int)) = false := by rw [hlen]; simp
    clear hlen
    go_enter Tryd.func12, Tryd.ntmps12
    go_wp2
    go_loopw [13] (fun i wr => ∃ k : Nat, k ≤ zs.length ∧ i = .int .i64 k ∧ Hid (∀ i, i < k → zs.getD i 0 = ys.getD i 0) ∧ ∃ n, wr = w.drewN n) (fun i _ => zs.length - (intOf i).toNat)
    case atStart => exact ⟨0, Nat.zero_le _, rfl, fun j hj => by omega, 0, rfl⟩
    case round =>
      obtain ⟨k, hk, rfl, HR, n, rfl⟩ := hrel
      by_cases hlt : k < zs.length
      · have hlt' : (k : Int) < (zs.length : Int) := by omega
        have hltn : k < ys.length := by have := HL.out; omega
        have hlt2 : (k : Int) < (ys.length : Int) := by omega
        obtain ⟨b1, off, z, rfl, HZ, hz1, hz2, hc⟩ := hs.elem hlt
        obtain ⟨b2, off2, y, rfl, HY, hy1, hy2, hcy⟩ := ht.elem hltn
        by_cases he : z = y
        · subst he
          go_wp2_with fail
          go_quiet (fail)
          go_wp2
          go_roundw
          case rel => exact ⟨k + 1, by omega, by go_num, fun j hj => by
                        by_cases hj' : j < k
                        · exact HR.out j hj'
                        · obtain rfl : j = k := by omega
                          rw [← HZ.out, ← HY.out], _, by first | exact rfl | exact drewN_two _ _ _⟩
          case measure => simp [intOf]; omega
        · have HE : Hid (¬ z = y) := he
          have hbn : (z != y) = true := by simpa using he
          clear he
          go_wp2_with fail
          go_quiet (fail)
          go_wp2
          go_ret
          exact ⟨ret_bool (by rw [decide_eq_false (fun h => HE.out (by rw [HZ.out, HY.out, h]))]), _, by first | exact rfl | exact drewN_two _ _ _⟩
      · go_wp2
        go_ret
        refine ⟨ret_bool ?_, n, rfl⟩
        have : zs = ys := by
          refine List.ext_getElem HL.out (fun j h1 h2 => ?_)
          have := HR.out j (by omega)
          simpa [List.getD, List.getElem?_eq_getElem h1, List.getElem?_eq_getElem h2] using this
        rw [decide_eq_true this]
  · have hb : ((zs.length : Int) != (ys.length : Int)) = true := by rw [bne_iff_ne]; omega
    have HL : Hid (¬ zs.length = ys.length) := hlen
    clear hlen
    go_enter Tryd.func12, Tryd.ntmps12
    go_wp2
    go_ret
    exact ⟨ret_bool (by rw [decide_eq_false (fun h => HL.out (by rw [h]))]), 0, rfl⟩

/-- What the numbers are together. -/
def sum : List Int → Int
  | [] => 0
  | n :: l => n + sum l

theorem sum_append (l m : List Int) : sum (l ++ m) = sum l + sum m := by
  induction l with
  | nil => simp [sum]
  | cons n l ih => simp [sum, ih]; omega

theorem take_snoc (zs : List Int) (k : Nat) (hk : k < zs.length) : zs.take (k + 1) = zs.take k ++ [zs.getD k 0] := by
  rw [List.take_succ_eq_append_getElem hk]; simp [List.getD, List.getElem?_eq_getElem hk]

theorem sum_bound (zs : List Int) (h : ∀ z ∈ zs, 0 ≤ z ∧ z ≤ 1000) : 0 ≤ sum zs ∧ sum zs ≤ 1000 * zs.length := by
  induction zs with
  | nil => simp [sum]
  | cons n l ih =>
    have := ih (fun z hz => h z (by simp [hz]))
    have := h n (by simp)
    simp [sum]; omega

theorem Same_at (a b : Option Addr) (n m ca cb : Nat) (zs ys : List Int) (w : World) (hs : Shows w a zs) (ht : Shows w b ys) (hn : n = zs.length) (hm : m = ys.length) (t : Bool) (h : decide (zs = ys) = t) :
    Calls Tryd.prog 12 #[.slice a n ca, .slice b m cb] w fun e w' => e = .returned (.bool t) ∧ ∃ n, w' = w.drewN n := by
  subst hn; subst hm; rw [← h]; exact Same_any a b ca cb zs ys w hs ht

/-- A literal slice in a new block. -/
theorem shows_lit (w : World) (zs : List Int) (cs : Array Value) (hcs : cs = (zs.map (Value.int .i64)).toArray) (hl : zs.length ≤ 17592186044416) (hwf : ∀ z ∈ zs, -9223372036854775808 ≤ z ∧ z ≤ 9223372036854775807) :
    Shows (w.alloc (.cells cs 3)) (some ⟨w.heap.size, 0, none⟩) zs := by
  subst hcs
  refine ⟨hl, hwf, fun _ => ⟨w.heap.size, 0, rfl, by simp, fun j hj => ?_⟩⟩
  rw [World.cell?_alloc_at _ _ _ _ rfl]
  simp [List.getD, List.getElem?_eq_getElem hj]

theorem getD_mem {zs : List Int} {j : Nat} (hj : j < zs.length) : zs.getD j 0 ∈ zs := by simp [List.getD, List.getElem?_eq_getElem hj]

theorem ext_getD {a b : List Int} (hl : a.length = b.length) (h : ∀ j, j < a.length → a.getD j 0 = b.getD j 0) : a = b := by
  refine List.ext_getElem hl (fun j h1 h2 => ?_)
  simpa [List.getD, List.getElem?_eq_getElem h1, List.getElem?_eq_getElem h2] using h j h1

theorem set_getD (zs : List Int) (k : Nat) (x : Int) (j : Nat) (hj : j < zs.length) : (zs.set k x).getD j 0 = if j = k then x else zs.getD j 0 := by
  simp only [List.getD, List.getElem?_set]
  by_cases h : k = j
  · subst h; simp [hj]
  · rw [if_neg h, if_neg (fun e => h e.symm)]

theorem Shows.take {w : World} {a : Option Addr} {zs : List Int} (h : Shows w a zs) (n : Nat) : Shows w a (zs.take n) := by
  refine ⟨by have := h.len; simp; omega, fun z hz => h.wf z (List.mem_of_mem_take hz), fun hne => ?_⟩
  obtain ⟨b, off, ha, hb, hc⟩ := h.cells (fun e => hne (by rw [e]; simp))
  refine ⟨b, off, ha, hb, fun j hj => ?_⟩
  rw [List.length_take] at hj
  rw [hc j (by omega)]
  simp [List.getD, show j < n by omega]

theorem small_wf {zs : List Int} (h : ∀ z ∈ zs, 0 ≤ z ∧ z ≤ 1000) : ∀ z ∈ zs, -9223372036854775808 ≤ z ∧ z ≤ 9223372036854775807 := fun z hz => by have := h z hz; omega

theorem drop_cons (zs : List Int) (k : Nat) (hk : k < zs.length) : zs.drop k = zs.getD k 0 :: zs.drop (k + 1) := by
  rw [List.drop_eq_getElem_cons hk]; simp [List.getD, List.getElem?_eq_getElem hk]

end Go.Proofs.YtmbpcapjldbkbaaDoor

namespace Go.Proofs.YtmbpcapjldbkbaaDoor
open Go.RowKit

theorem Tryd.info3 : (Tryd.prog.info? 3).map (fun i => (i.zero, i.size, i.bytes)) = some (some (.int .i64 0), 1, 8) := by kernel_rfl

theorem Tryd.sz3 : (Tryd.prog.info? 3).map (·.size) = some 1 := by kernel_rfl

/-- The value v owns the numbers zs, in a block from base on. -/
def Owns (w : World) (base : Nat) (v : Value) (zs : List Int) : Prop := w.ownsRow base 3 1 v zs.length (zs.map (Value.int .i64))

theorem Owns.mono {w : World} {base base' : Nat} {v : Value} {zs : List Int} (h : Owns w base v zs) (hb : base' ≤ base) : Owns w base' v zs := by
  obtain ⟨h1, h2⟩ := h
  refine ⟨h1, ?_⟩
  rcases h2 with h2 | ⟨g, cap, cur, hv, hg, r⟩
  · exact Or.inl h2
  · exact Or.inr ⟨g, cap, cur, hv, by omega, r⟩

theorem Owns.below {w w' : World} {base : Nat} {v : Value} {zs : List Int} (h : Owns w base v zs) (hb : Below w.heap.size w w') : Owns w' base v zs := by
  obtain ⟨h1, h2⟩ := h
  refine ⟨h1, ?_⟩
  rcases h2 with h2 | ⟨g, cap, cur, hv, hg, hh, r⟩
  · exact Or.inl h2
  · refine Or.inr ⟨g, cap, cur, hv, hg, ?_, r⟩
    rw [hb.block g (by rcases Nat.lt_or_ge g w.heap.size with h | h; exact h; rw [Array.getElem?_eq_none h] at hh; cases hh)]; exact hh

theorem Owns.shape {w : World} {base : Nat} {v : Value} {zs : List Int} (h : Owns w base v zs) : ∃ a cap, v = .slice a zs.length cap := by
  rcases h.2 with ⟨h2, h3⟩ | ⟨g, cap, cur, hv, _⟩
  · exact ⟨none, 0, by rw [h2, h3]⟩
  · exact ⟨_, cap, hv⟩

/-- A slice that owns at least one number lies at the head of a block. -/
theorem Owns.head {w : World} {base : Nat} {v : Value} {zs : List Int} (h : Owns w base v zs) (hne : 0 < zs.length) :
    ∃ g cap, v = .slice (some ⟨g, 0, none⟩) zs.length cap ∧ base ≤ g ∧ g < w.heap.size ∧ (∀ j, w.frozen? ⟨g, j, none⟩ = false) ∧ ∀ j, j < zs.length → w.cell? ⟨g, j, none⟩ = some (.int .i64 (zs.getD j 0)) := by
  have h0 := h
  rcases h.2 with ⟨h2, h3⟩ | ⟨g, cap, cur, hv, hg, hh, _⟩
  · omega
  · subst hv
    have hlt : g < w.heap.size := by
      rcases Nat.lt_or_ge g w.heap.size with h | h
      · exact h
      · rw [Array.getElem?_eq_none h] at hh; cases hh
    refine ⟨g, cap, rfl, hg, hlt, fun j => World.ownsRow.frozenAt h0 j, fun j hj => ?_⟩
    rw [World.ownsRow.cellAt h0 j (by omega)]
    simp [List.getD, List.getElem?_eq_getElem hj]

theorem Owns.shows {w : World} {base : Nat} {v : Value} {zs : List Int} (h : Owns w base v zs) (hl : zs.length ≤ 17592186044416) (hwf : ∀ z ∈ zs, -9223372036854775808 ≤ z ∧ z ≤ 9223372036854775807) :
    ∃ a cap, v = .slice a zs.length cap ∧ Shows w a zs := by
  by_cases hne : 0 < zs.length
  · obtain ⟨g, cap, hv, _, hlt, _, hc⟩ := h.head hne
    exact ⟨_, cap, hv, hl, hwf, fun _ => ⟨g, 0, rfl, hlt, fun j hj => by rw [Nat.zero_add]; exact hc j hj⟩⟩
  · obtain ⟨a, cap, hv⟩ := h.shape
    have : zs = [] := List.eq_nil_of_length_eq_zero (by omega)
    exact ⟨a, cap, hv, hl, hwf, fun h => absurd this h⟩

/-- A store into what is owned. -/
theorem Owns.store {w : World} {base g cap n : Nat} {zs : List Int} (h : Owns w base (.slice (some ⟨g, 0, none⟩) n cap) zs) (hn : n = zs.length) (j : Nat) (x : Int) :
    Owns (w.setCell ⟨g, j, none⟩ (.int .i64 x)) base (.slice (some ⟨g, 0, none⟩) n cap) (zs.set j x) := by
  subst hn
  have h := (World.ownsRow.stored (h : w.ownsRow base 3 1 _ _ _) j (.int .i64 x)).1
  unfold Owns
  simp only [List.length_set, List.map_set]
  exact h

theorem Owns.block {w : World} {base g cap n : Nat} {zs : List Int} (h : Owns w base (.slice (some ⟨g, 0, none⟩) n cap) zs) (hn : n = zs.length) :
    base ≤ g ∧ ∃ cur, w.heap[g]? = some (.cells cur 3 (0, 0)) ∧ cur.size = cap ∧ n ≤ cap ∧ cap ≤ maxLen ∧ cur.toList.take n = zs.map (Value.int .i64) := by
  subst hn
  rcases h.2 with ⟨h2, h3⟩ | ⟨g', cap', cur, hv, hg, hh, h4, h5, h6, h7⟩
  · cases h2
  · simp only [Value.slice.injEq, Option.some.injEq, Addr.mk.injEq, and_true, true_and] at hv
    obtain ⟨rfl, rfl⟩ := hv
    exact ⟨hg, cur, hh, by omega, h4, h5, by simpa using h7⟩

theorem owns_of_row {w : World} {base g n : Nat} {zs : List Int} (hg : base ≤ g) (hh : w.heap[g]? = some (.cells (zs.map (Value.int .i64)).toArray 3 (0, 0))) (hn : n = zs.length) (hl : zs.length ≤ 17592186044416) :
    Owns w base (.slice (some ⟨g, 0, none⟩) n n) zs := by
  subst hn
  refine ⟨by simp, Or.inr ⟨g, zs.length, _, rfl, hg, hh, Nat.le_refl _, by unfold maxLen; omega, by simp, ?_⟩⟩
  simp only [Nat.mul_one]
  rw [List.take_of_length_le (by simp)]

theorem splice_all {α : Type} (L cs : List α) (h : cs.length = L.length) : splice L 0 cs = cs := by
  unfold splice; simp [h]

/-- 'copy(q, p)' into a new row of the same length. -/
theorem run_copy_all {w0 w : World} {a : Option Addr} {cap g B : Nat} {zs : List Int} (hs : Shows w a zs) (hrow : w.heap[g]? = some (.cells (List.replicate zs.length (Value.int .i64 0)).toArray 3 (0, 0))) (hb : Below B w0 w) (hB : B ≤ g) :
    ∃ w2, Sem.run Tryd.prog (Builtin.copy_ #[22, 22] 3 #[.slice (some ⟨g, 0, none⟩) zs.length zs.length, .slice a zs.length cap]) w = .ok (.int .i64 zs.length) w2 ∧
      Hid (w2.heap[g]? = some (.cells (zs.map (Value.int .i64)).toArray 3 (0, 0))) ∧ Below B w0 w2 := by
  by_cases hne : zs = []
  · subst hne
    exact ⟨w, run_copy_none (P := Tryd.prog) w 22 22 3 3 _ _ _ _ _ _ Tryd.underlying22 Tryd.sz3 (by simp), by simpa [Hid] using hrow, hb⟩
  · obtain ⟨b, off, ha, _, hc⟩ := hs.cells hne
    subst ha
    have hrun := run_copy_row (P := Tryd.prog) w 22 22 3 3 g 0 zs.length zs.length ⟨b, off, none⟩ zs.length cap _ 3 (zs.map (Value.int .i64)) Tryd.underlying22 Tryd.sz3 hrow (by simp) (fun j v hj => by
      have hj' : j < zs.length := by have := (List.getElem?_eq_some_iff.1 hj).1; simpa using this
      rw [Addr.add_lit, hc j hj', ← hj]; simp [List.getD, List.getElem?_eq_getElem hj']) (by simp) (ints_oneCell _ _)
    refine ⟨_, by rw [hrun]; simp only [List.length_map]; rfl, ?_, below_setRow hb hB _⟩
    show _ = _
    rw [setRow_heap w g _ _ 3 _ hrow]
    simp

theorem Owns.at {w : World} {base g cap n : Nat} {zs : List Int} (h : Owns w base (.slice (some ⟨g, 0, none⟩) n cap) zs) (hn : n = zs.length) :
    base ≤ g ∧ (∀ j, w.frozen? ⟨g, j, none⟩ = false) ∧ ∀ j, j < zs.length → w.cell? ⟨g, j, none⟩ = some (.int .i64 (zs.getD j 0)) := by
  subst hn
  refine ⟨(h.block rfl).1, fun j => World.ownsRow.frozenAt h j, fun j hj => ?_⟩
  rw [World.ownsRow.cellAt h j (by omega)]
  simp [List.getD, List.getElem?_eq_getElem hj]

theorem Owns.opened {w : World} {base : Nat} {v : Value} {zs : List Int} (h : Owns w base v zs) (hl : zs.length ≤ 17592186044416) (hwf : ∀ z ∈ zs, -9223372036854775808 ≤ z ∧ z ≤ 9223372036854775807) :
    ∃ a n cap, v = .slice a n cap ∧ Shows w a zs ∧ n = zs.length ∧ n ≤ cap := by
  obtain ⟨a, cap, hv, hs⟩ := h.shows hl hwf
  refine ⟨a, _, cap, hv, hs, rfl, ?_⟩
  rcases h.2 with ⟨h2, h3⟩ | ⟨g, cap', cur, hv', _, _, hc, _⟩
  · omega
  · rw [hv] at hv'; cases hv'; exact hc

def lenOf : Value → Nat
  | .slice _ n _ => n
  | _ => 0

/-- The parts of a slice of the call's own, as a source. -/
theorem Owns.src {w : World} {base : Nat} {v : Value} {zs : List Int} (h : Owns w base v zs) (hl : zs.length ≤ 17592186044416) (hwf : ∀ z ∈ zs, -9223372036854775808 ≤ z ∧ z ≤ 9223372036854775807) :
    ∃ a n cap, v = .slice a n cap ∧ Shows w a zs ∧ Hid (n = zs.length) ∧ Hid (a = none → zs = [] ∧ cap = 0) := by
  rcases h.2 with ⟨h2, h3⟩ | ⟨g, cap', cur, hv', _, _, hc, _⟩
  · obtain rfl : zs = [] := List.eq_nil_of_length_eq_zero h3
    exact ⟨none, 0, 0, h2, ⟨hl, hwf, fun hne => absurd rfl hne⟩, rfl, fun _ => ⟨rfl, rfl⟩⟩
  · obtain ⟨a, n, cap, hv, hs, hn, _⟩ := h.opened hl hwf
    refine ⟨a, n, cap, hv, hs, hn, fun e => ?_⟩
    rw [hv', e] at hv; cases hv

theorem Owns.takeN {w : World} {base g cap n m : Nat} {zs : List Int} (h : Owns w base (.slice (some ⟨g, 0, none⟩) n cap) zs) (hm : m ≤ zs.length) : Owns w base (.slice (some ⟨g, 0, none⟩) m cap) (zs.take m) := by
  rcases h.2 with ⟨h2, h3⟩ | ⟨g', cap', cur, hv, hg, hh, h4, h5, h6, h7⟩
  · cases h2
  · simp only [Value.slice.injEq, Option.some.injEq, Addr.mk.injEq, and_true] at hv
    obtain ⟨rfl, rfl, rfl⟩ := hv
    refine ⟨by simp, Or.inr ⟨g, cap, cur, by simp; omega, hg, hh, by simp; omega, h5, h6, ?_⟩⟩
    rw [List.map_take, ← h7, List.take_take]
    congr 1; simp

/-- The numbers f 0, f 1, .. , f (n - 1). -/
def tab (n : Nat) (f : Nat → Int) : List Int := (List.range n).map f

theorem tab_length (n : Nat) (f : Nat → Int) : (tab n f).length = n := by simp [tab]

theorem tab_getD (n : Nat) (f : Nat → Int) (j : Nat) (hj : j < n) : (tab n f).getD j 0 = f j := by simp [tab, List.getD, hj]

theorem tab_out (n : Nat) (f : Nat → Int) (j : Nat) (hj : n ≤ j) : (tab n f).getD j 0 = 0 := by simp [tab, List.getD, hj]

theorem tab_mem {n : Nat} {f : Nat → Int} {z : Int} (h : z ∈ tab n f) : ∃ j, j < n ∧ z = f j := by
  simp only [tab, List.mem_map, List.mem_range] at h
  obtain ⟨j, hj, rfl⟩ := h
  exact ⟨j, hj, rfl⟩

theorem tab_congr {n : Nat} {f g : Nat → Int} (h : ∀ j, j < n → f j = g j) : tab n f = tab n g := List.map_congr_left (fun j hj => h j (List.mem_range.1 hj))

theorem tab_succ (n : Nat) (f : Nat → Int) : tab (n + 1) f = tab n f ++ [f n] := by simp [tab, List.range_succ]

end Go.Proofs.YtmbpcapjldbkbaaDoor

namespace Go.Proofs.YtmbpcapjldbkbaaDoor
open Go.RowKit

theorem append_int {w : World} {base : Nat} {v : Value} {zs : List Int} {x : Int} {ops : Array Oper} {rest : List Oper} {o : Oper} {a : Act} {Q : Exit → Act → World → Prop} (hgd : o.guard = none) (s y : Operand)
    (ho : o.op = .call { callee := .builtin .append, args := #[s, y], argTypes := #[22, 22] }) (hs : a.eval s = v) (hown : Owns w base v zs) (hx : a.eval y = .slice (some ⟨w.heap.size, 0, none⟩) 1 1)
    (hl : zs.length ≤ 17592186044414) (hbase : base ≤ w.heap.size)
    (h : ∀ v' w', Owns w' base v' (zs ++ [x]) → Below base w w' → wpList Tryd.prog ops Q rest (a.put o.dst v') w') :
    wpList Tryd.prog ops Q (o :: rest) a (w.alloc (.cells #[.int .i64 x] 3)) := by
  obtain ⟨i0, hi, hz0, hz1, hz2⟩ := info_parts Tryd.info3
  have hown0 := hown
  refine wpList_append_own _ hgd s y 22 ho base 3 i0 (.int .i64 0) 1 8 Tryd.underlying22 hi hz0 hz1 hz2 rfl (by decide) v zs.length (zs.map (Value.int .i64)) hs (World.ownsRow.alloc hown _) ⟨w.heap.size, 0, none⟩ 1 1 [.int .i64 x] hx rfl
    (fun j u hj => ?_) (fun u hu => ?_) (by unfold maxLen; omega) (by omega) (by simp; omega) (fun v' w' ho' hg' _ => h v' w' ?_ ?_)
  · match j, hj with
    | 0, hj => simp at hj; subst hj; rw [Addr.add_lit, World.cell?_alloc_at _ _ _ _ rfl]; rfl
  · simp at hu; subst hu; rfl
  · unfold Owns
    simp only [List.length_append, List.map_append, List.length_singleton, List.map_cons, List.map_nil]
    exact ho'
  · refine (((Below.refl base w).alloc hbase _).grown hg' (by simp; omega) (fun k hk => ?_))
    rcases hown0.2 with ⟨h2, _⟩ | ⟨g, cap, cur, hv, hg, _⟩
    · subst h2; cases hk
    · subst hv; simp [Value.ownBlock] at hk; omega

/-- Two slices that lie in no block together. -/
def Apart (v u : Value) : Prop := ∀ g, v.ownBlock = some g → u.ownBlock ≠ some g

theorem Apart.symm {v u : Value} (h : Apart v u) : Apart u v := fun g h1 h2 => h g h2 h1

theorem apart_nil (u : Value) : Apart (.slice none 0 0) u := fun g h => by cases h

theorem Owns.lt {w : World} {base : Nat} {v : Value} {zs : List Int} (h : Owns w base v zs) {g : Nat} (hg : v.ownBlock = some g) : base ≤ g ∧ g < w.heap.size := World.ownsRow.lt h g hg

/-- What behind an append may be said of any other slice of the call's own. -/
def Keeps (base : Nat) (v v' : Value) (w w' : World) : Prop := ∀ u ys, Owns w base u ys → Apart v u → Owns w' base u ys ∧ Apart v' u

theorem keeps_of {base : Nat} {v v' : Value} {w w' : World} {row : Option Nat} (hg : w.grownBy w' row) (hrow : row = none ∨ row = v.ownBlock) (hv : ∀ g, v'.ownBlock = some g → v.ownBlock = some g ∨ w.heap.size ≤ g) : Keeps base v v' w w' := by
  intro u ys hu ha
  constructor
  · refine World.ownsRow.kept hu hg ?_
    cases e : u.ownBlock with
    | none => exact Or.inl rfl
    | some g =>
      right
      rcases hrow with h | h
      · rw [h]; simp
      · rw [h]; exact fun e2 => ha g e2.symm e
  · intro g h1 h2
    rcases hv g h1 with h | h
    · exact ha g h h2
    · have := (hu.lt h2).2; omega

theorem append_int_own {w : World} {base : Nat} {v : Value} {zs : List Int} {x : Int} {ops : Array Oper} {rest : List Oper} {o : Oper} {a : Act} {Q : Exit → Act → World → Prop} (hgd : o.guard = none) (s y : Operand)
    (ho : o.op = .call { callee := .builtin .append, args := #[s, y], argTypes := #[22, 22] }) (hs : a.eval s = v) (hown : Owns w base v zs) (hx : a.eval y = .slice (some ⟨w.heap.size, 0, none⟩) 1 1)
    (hl : zs.length ≤ 17592186044414) (hbase : base ≤ w.heap.size)
    (h : ∀ v' w', Owns w' base v' (zs ++ [x]) → Below base w w' → Keeps base v v' w w' → wpList Tryd.prog ops Q rest (a.put o.dst v') w') :
    wpList Tryd.prog ops Q (o :: rest) a (w.alloc (.cells #[.int .i64 x] 3)) := by
  obtain ⟨i0, hi, hz0, hz1, hz2⟩ := info_parts Tryd.info3
  have hnew : ∀ j u, [Value.int .i64 x][j]? = some u → (w.alloc (.cells #[.int .i64 x] 3)).cell? ((⟨w.heap.size, 0, none⟩ : Addr).add j) = some u := by
    intro j u hj
    match j, hj with
    | 0, hj => simp at hj; subst hj; rw [Addr.add_lit, World.cell?_alloc_at _ _ _ _ rfl]; rfl
  have hone : ∀ u ∈ [Value.int .i64 x], u.oneCell' = true := fun u hu => by simp at hu; subst hu; rfl
  have hal : w.grownBy (w.alloc (.cells #[.int .i64 x] 3)) none := World.grownBy_alloc _ _ _
  have htr : ∀ (w' : World) (row : Option Nat), (w.alloc (.cells #[.int .i64 x] 3)).grownBy w' row → w.grownBy w' row := fun w' row hg =>
    ⟨hg.os, hg.tape, hg.output, by have := hg.size; simp at this; omega, fun k hk hne => (hg.block k (by simp; omega) hne).trans (hal.block k hk (by simp))⟩
  rcases hown.2 with ⟨hv, h0⟩ | ⟨g, cap, cur, hv, hg, hh, hnc, hcm, hcs, htk⟩
  · obtain rfl : zs = [] := List.eq_nil_of_length_eq_zero h0
    refine wpList_append_own _ hgd s y 22 ho w.heap.size 3 i0 (.int .i64 0) 1 8 Tryd.underlying22 hi hz0 hz1 hz2 rfl (by decide) v 0 [] hs (by rw [hv]; exact World.ownsRow_nil _ _ _ _) ⟨w.heap.size, 0, none⟩ 1 1 [.int .i64 x] hx rfl
      hnew hone (by unfold maxLen; omega) (by omega) (by simp) (fun v' w' ho' hg' _ => ?_)
    have hg2 := htr _ _ hg'
    have hO : Owns w' w.heap.size v' ([] ++ [x]) := ho'
    refine h v' w' (hO.mono hbase) ((Below.refl base w).grown hg2 hbase (fun k hk => by rw [hv] at hk; cases hk)) (keeps_of hg2 (Or.inr rfl) (fun g hg => Or.inr ((hO.lt hg).1)))
  · have hlt : g < w.heap.size := (hown.lt (g := g) (by rw [hv]; rfl)).2
    by_cases hroom : zs.length + 1 ≤ cap
    · refine wpList_append_fits _ hgd s y 22 ho base 3 i0 1 Tryd.underlying22 hi hz1 g zs.length cap (zs.map (Value.int .i64)) (by rw [hs, hv]) (by rw [← hv]; exact World.ownsRow.alloc hown _) ⟨w.heap.size, 0, none⟩ 1 1 [.int .i64 x] hx rfl
        hnew hone hroom (fun w' ho' hg' => ?_)
      have hg2 := htr _ _ hg'
      refine h _ w' ?_ ((Below.refl base w).grown hg2 hbase (fun k hk => by cases hk; exact hg)) (keeps_of hg2 (Or.inr (by rw [hv]; rfl)) (fun g' hg' => Or.inl (by rw [hv]; exact hg')))
      unfold Owns
      simp only [List.length_append, List.map_append, List.length_singleton, List.map_cons, List.map_nil]
      exact ho'
    · refine wpList_append_grows _ hgd s y 22 ho 3 i0 (.int .i64 0) 1 8 Tryd.underlying22 hi hz0 hz1 hz2 rfl (by decide) (some ⟨g, 0, none⟩) zs.length cap (zs.map (Value.int .i64)) (by rw [hs, hv]) (fun e => by cases e) (by simp)
        (fun b hb j u hj => ?_) ⟨w.heap.size, 0, none⟩ 1 1 [.int .i64 x] hx rfl hnew hone (by omega) (by unfold maxLen; omega) (by omega) (fun v' w' ho' hg' => ?_)
      · cases hb
        have hj' : j < zs.length := by have := (List.getElem?_eq_some_iff.1 hj).1; simpa using this
        have hown' := hown
        rw [hv] at hown'
        rw [Addr.add_lit, Nat.zero_add, World.cell?_alloc_past _ _ _ hlt, World.ownsRow.cellAt hown' j (by omega)]
        exact hj
      · have hg2 := htr _ _ hg'
        have hO : Owns w' (w.heap.size + 1) v' (zs ++ [x]) := by
          unfold Owns
          simp only [List.length_append, List.map_append, List.length_singleton, List.map_cons, List.map_nil]
          simpa using ho'
        exact h v' w' (hO.mono (by omega)) ((Below.refl base w).grown hg2 hbase (fun k hk => by cases hk)) (keeps_of hg2 (Or.inl rfl) (fun g hg => Or.inr (by have := (hO.lt hg).1; omega)))

theorem src_cells {w : World} {a : Addr} {ys : List Int} (h : Shows w (some a) ys) : ∀ j u, (ys.map (Value.int .i64))[j]? = some u → w.cell? (a.add j) = some u := by
  intro j u hj
  have hj' : j < ys.length := by have := (List.getElem?_eq_some_iff.1 hj).1; simpa using this
  obtain ⟨b, off, ha, _, hc⟩ := h.cells (fun e => by subst e; simp at hj')
  cases ha
  rw [Addr.add_lit, hc j hj', ← hj]; simp [List.getD, List.getElem?_eq_getElem hj']

theorem run_append_src {w : World} {base : Nat} {v : Value} {zs ys : List Int} {a : Option Addr} {c : Nat} (ty : TypeId) (hown : Owns w base v zs) (hsrc : Shows w a ys) (hn : a = none → ys = [] ∧ c = 0) (hl : zs.length + ys.length ≤ 17592186044414) (hbase : base ≤ w.heap.size) :
    ∃ v' w', (Builtin.append_ #[22, 22] ty #[v, .slice a ys.length c]).run Tryd.prog w = .ok v' w' ∧ Owns w' base v' (zs ++ ys) ∧ Below base w w' ∧ Keeps base v v' w w' := by
  obtain ⟨i0, hi, hz0, hz1, hz2⟩ := info_parts Tryd.info3
  have mk : ∀ {b v' w'}, w'.ownsRow b 3 1 v' (zs.length + ys.length) (zs.map (Value.int .i64) ++ ys.map (Value.int .i64)) → Owns w' b v' (zs ++ ys) := fun {b v' w'} h => by
    unfold Owns; rw [List.length_append, List.map_append]; exact h
  cases a with
  | none =>
    obtain ⟨rfl, rfl⟩ := hn rfl
    refine ⟨v, w, run_append_owned_none (P := Tryd.prog) w base 22 ty 3 i0 1 Tryd.underlying22 hi v zs.length _ hown, by simpa using hown, Below.refl _ _, fun u ys hu ha => ⟨hu, ha⟩⟩
  | some ad =>
    have hcs := src_cells hsrc
    rcases hown.2 with ⟨hv, h0⟩ | ⟨g, cap, cur, hv, hg, hh, hnc, hcm, hcs', htk⟩
    · obtain rfl : zs = [] := List.eq_nil_of_length_eq_zero h0
      obtain ⟨v', w', hrun, r1, r2, _⟩ := run_append_own (P := Tryd.prog) w w.heap.size 22 ty 3 i0 (.int .i64 0) 1 8 Tryd.underlying22 hi hz0 hz1 hz2 rfl (by decide) v 0 [] (by rw [hv]; exact World.ownsRow_nil _ _ _ _) ad ys.length c (ys.map (Value.int .i64)) (by simp) hcs (ints_oneCell _ _) (by unfold maxLen; omega) (by simp at hl; omega) (Nat.le_refl _)
      have hO : Owns w' w.heap.size v' ([] ++ ys) := mk (by simpa using r1)
      exact ⟨v', w', hrun, hO.mono hbase, (Below.refl base w).grown r2 hbase (fun k hk => by rw [hv] at hk; cases hk), keeps_of r2 (Or.inr rfl) (fun g hg => Or.inr (hO.lt hg).1)⟩
    · by_cases hroom : zs.length + ys.length ≤ cap
      · rw [hv] at hown
        obtain ⟨w', hrun, r1, r2⟩ := run_append_fits (P := Tryd.prog) w base 22 ty 3 i0 1 Tryd.underlying22 hi hz1 g zs.length cap (zs.map (Value.int .i64)) hown ad ys.length c (ys.map (Value.int .i64)) (by simp) hcs (ints_oneCell _ _) hroom
        exact ⟨_, w', by rw [hv]; exact hrun, mk r1, (Below.refl base w).grown r2 hbase (fun k hk => by cases hk; exact hg), keeps_of r2 (Or.inr (by rw [hv]; rfl)) (fun g' hg' => Or.inl (by rw [hv]; exact hg'))⟩
      · have hown' := hown
        rw [hv] at hown'
        obtain ⟨v', w', hrun, r1, r2⟩ := run_append_arg_grows (P := Tryd.prog) w 22 ty 3 i0 (.int .i64 0) 1 8 Tryd.underlying22 hi hz0 hz1 hz2 rfl (by decide) ⟨g, 0, none⟩ zs.length cap (zs.map (Value.int .i64)) (by simp)
          (fun j u hj => by
            have hj' : j < zs.length := by have := (List.getElem?_eq_some_iff.1 hj).1; simpa using this
            rw [Addr.add_lit, Nat.zero_add, World.ownsRow.cellAt hown' j (by omega)]; exact hj)
          ad ys.length c (ys.map (Value.int .i64)) (by simp) hcs (by omega) (by unfold maxLen; omega) (by omega)
        have hO : Owns w' w.heap.size v' (zs ++ ys) := mk r1
        exact ⟨v', w', by rw [hv]; exact hrun, hO.mono hbase, (Below.refl base w).grown r2 hbase (fun k hk => by cases hk), keeps_of r2 (Or.inl rfl) (fun g hg => Or.inr (hO.lt hg).1)⟩

/-- The law in the walk. -/
theorem append_src {w : World} {base : Nat} {v : Value} {zs ys : List Int} {ad : Option Addr} {m c : Nat} {ops : Array Oper} {rest : List Oper} {o : Oper} {a : Act} {Q : Exit → Act → World → Prop} (hgd : o.guard = none) (s y : Operand)
    (ho : o.op = .call { callee := .builtin .append, args := #[s, y], argTypes := #[22, 22] }) (hs : a.eval s = v) (hx : a.eval y = .slice ad m c) (hown : Owns w base v zs) (hsrc : Shows w ad ys) (hm : m = ys.length) (hn : ad = none → ys = [] ∧ c = 0)
    (hl : zs.length + ys.length ≤ 17592186044414) (hbase : base ≤ w.heap.size)
    (h : ∀ v' w', Owns w' base v' (zs ++ ys) → Below base w w' → Keeps base v v' w w' → wpList Tryd.prog ops Q rest (a.put o.dst v') w') :
    wpList Tryd.prog ops Q (o :: rest) a w := by
  subst hm
  refine wpList_plain hgd fun K hK => ?_
  obtain ⟨v', w', hrun, r1, r2, r3⟩ := run_append_src o.type hown hsrc hn hl hbase
  unfold Oper.wp
  simp [execOp, ho, resolve, invoke, builtin, hs, hx, hrun, Result.andThen]
  exact hK _ _ (h v' w' r1 r2 r3)

/-- The law in a region that draws its order. -/
theorem step_src {w : World} {base : Nat} {v : Value} {zs ys : List Int} {ad : Option Addr} {m c : Nat} {ops : Array Oper} {o : Oper} {a : Act} {K : Act → World → Prop} {Q : Exit → Act → World → Prop} {E : Prop} (hgd : o.guard = none) (s y : Operand)
    (ho : o.op = .call { callee := .builtin .append, args := #[s, y], argTypes := #[22, 22] }) (hs : a.eval s = v) (hx : a.eval y = .slice ad m c) (hown : Owns w base v zs) (hsrc : Shows w ad ys) (hm : m = ys.length) (hn : ad = none → ys = [] ∧ c = 0)
    (hl : zs.length + ys.length ≤ 17592186044414) (hbase : base ≤ w.heap.size)
    (h : ∀ v' w', Owns w' base v' (zs ++ ys) → Below base w w' → Keeps base v v' w w' → K (a.put o.dst v') w') :
    if Region.wanted o (yielded ops a.tmps) = true then Oper.wp Tryd.prog o a w K Q else E := by
  subst hm
  have hw : Region.wanted o (yielded ops a.tmps) = true := by simp [Region.wanted, hgd]
  rw [if_pos hw]
  obtain ⟨v', w', hrun, r1, r2, r3⟩ := run_append_src o.type hown hsrc hn hl hbase
  unfold Oper.wp
  simp [execOp, ho, resolve, invoke, builtin, hs, hx, hrun, Result.andThen]
  exact h v' w' r1 r2 r3

/-- 'append(out, x)', the new block's number said by the caller. -/
theorem append_int_at {w : World} {base N : Nat} {v : Value} {zs : List Int} {x : Int} {ops : Array Oper} {rest : List Oper} {o : Oper} {a : Act} {Q : Exit → Act → World → Prop} (hgd : o.guard = none) (s y : Operand)
    (ho : o.op = .call { callee := .builtin .append, args := #[s, y], argTypes := #[22, 22] }) (hs : a.eval s = v) (hx : a.eval y = .slice (some ⟨N, 0, none⟩) 1 1) (hN : N = w.heap.size) (hown : Owns w base v zs)
    (hl : zs.length ≤ 17592186044414) (hbase : base ≤ w.heap.size)
    (h : ∀ v' w', Owns w' base v' (zs ++ [x]) → Below base w w' → Keeps base v v' w w' → wpList Tryd.prog ops Q rest (a.put o.dst v') w') :
    wpList Tryd.prog ops Q (o :: rest) a (w.alloc (.cells #[.int .i64 x] 3)) := by
  subst hN
  exact append_int_own hgd s y ho hs hown hx hl hbase h

end Go.Proofs.YtmbpcapjldbkbaaDoor
