/-
  slices.Insert of one number.
-/
import Derived.Test.YtapchcamjeafmaaDoorBApp
import Derived.Deep.RegionLaw
import Derived.Lib.SliceRun
import Derived.Shelf.Spec.SlicesInsertGrow
namespace Go.Proofs.YtapchcamjeafmaaDoor
open Go.RowKit

def vi (l : List Int) : List Value := l.map (Value.int .i64)
theorem vi_cons (c : Int) (l : List Int) : vi (c :: l) = .int .i64 c :: vi l := rfl
theorem vi_length (l : List Int) : (vi l).length = l.length := List.length_map _
theorem vi_app (l k : List Int) : vi (l ++ k) = vi l ++ vi k := by unfold vi; rw [List.map_append]
theorem vi_one (l : List Int) : ∀ u ∈ vi l, u.oneCell' = true := by
  intro u hu
  obtain ⟨z, -, rfl⟩ := List.mem_map.1 hu
  rfl

theorem run_copy_ints (w : World) (ty : TypeId) (g o dLen dCap : Nat) (a : Addr) (sLen sCap : Nat) (cur : Array Value) (cs : List Value) (m : Nat)
    (hg : w.heap[g]? = some (.cells cur 3 (0, 0))) (hm : m = Nat.min sLen dLen) (hn : cs.length = m)
    (hsrc : ∀ j v, cs[j]? = some v → w.cell? (a.add j) = some v) (hfit : o + cs.length ≤ cur.size) (h1 : ∀ v ∈ cs, v.oneCell' = true) :
    (Builtin.copy_ #[36, 36] ty #[.slice (some ⟨g, o, none⟩) dLen dCap, .slice (some a) sLen sCap]).run Tryd.prog w =
      .ok (goInt m) (w.setRow g (cur.toList.take o ++ cs ++ cur.toList.drop (o + cs.length)).toArray) := by
  obtain ⟨i0, hi, hz0, hz1, hz2⟩ := info_parts Tryd.info3
  have hl := run_loadCells_list (P := Tryd.prog) w a cs hsrc
  have hst := run_storeCells_at Tryd.prog g o 3 cs 0 cur w hg (by simpa using hfit) h1
  rw [hn] at hl
  simp [Builtin.copy_, run_underlying Tryd.underlying36, Builtin.lenOf, Builtin.firstCells, sizeOf, typeInfo, hi, hz1, ← hm, hl, hst]

set_option maxHeartbeats 4000000 in
theorem InsI_end (v : Value) (base i N : Nat) (x : Int) (l : List Int) (w : World) (hO : Owns w base v l) (hi : i = l.length) (h40 : l.length ≤ 40) (hN : N = w.heap.size) (hbs : base ≤ w.heap.size) :
    Calls Tryd.prog 14 #[v, .int .i64 (i : Int), .slice (some ⟨N, 0, none⟩) 1 1] (w.alloc (.cells #[.int .i64 x] 3)) fun e w' => ∃ v', e = .returned v' ∧ Hid (Owns w' base v' (l ++ [x])) ∧ Hid (Below base w w') := by
  obtain ⟨a, c, rfl⟩ := hO.shape
  have HN : Hid (N = w.heap.size) := hN
  have HO : Hid (Owns w base (.slice a l.length c) l) := hO
  have HL : Hid (l.length ≤ 17592186044414) := by show _ ≤ _; omega
  have HBs : Hid (base ≤ w.heap.size) := hbs
  have hic : i ≤ c := by
    rcases hO.2 with ⟨h2, h3⟩ | ⟨g, cap, cur, hv, _, _, h4, _⟩
    · omega
    · simp only [Value.slice.injEq] at hv
      omega
  rw [← hi] at HO ⊢
  clear hN hO hbs hi h40
  rcases hcz : (decide (c = i)) with _ | _
  · have hne : ¬ c = i := of_decide_eq_false hcz
    clear hcz
    go_enter Tryd.func14, Tryd.ntmps14
    go_wp2_with (at_builtin; refine append_int_at (x := x) rfl _ _ rfl rfl rfl HN.out HO.out HL.out HBs.out ?_)
    intro v' w' h1 h2 _
    have H1 : Hid (Owns w' base v' (l ++ [x])) := h1
    have H2 : Hid (Below base w w') := h2
    clear h1 h2
    go_wp2
    go_ret
    exact ⟨v', rfl, H1, H2⟩
  · obtain rfl : c = i := of_decide_eq_true hcz
    clear hcz
    go_enter Tryd.func14, Tryd.ntmps14
    go_wp2_with (at_builtin; refine append_int_at (x := x) rfl _ _ rfl rfl rfl HN.out HO.out HL.out HBs.out ?_)
    intro v' w' h1 h2 _
    have H1 : Hid (Owns w' base v' (l ++ [x])) := h1
    have H2 : Hid (Below base w w') := h2
    clear h1 h2
    go_wp2
    go_ret
    exact ⟨v', rfl, H1, H2⟩
end Go.Proofs.YtapchcamjeafmaaDoor
