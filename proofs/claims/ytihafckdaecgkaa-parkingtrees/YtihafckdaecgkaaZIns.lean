/-
  slices.Insert of one pair.
-/
import Derived.Test.YtihafckdaecgkaaZPde
import Derived.Shelf.Spec.SlicesInsertGrow
namespace Go.Proofs.Ytihafckdaecgkaa
open Go.RowKit

theorem run_copy_prs (w : World) (ty : TypeId) (g o dLen dCap : Nat) (a : Addr) (sLen sCap : Nat) (cur : Array Value) (cs : List Value) (m : Nat)
    (hg : w.heap[g]? = some (.cells cur 34 (0, 0))) (hm : m = Nat.min sLen dLen) (hn : cs.length = m * 2)
    (hsrc : ∀ j v, cs[j]? = some v → w.cell? (a.add j) = some v) (hfit : o + cs.length ≤ cur.size) (h1 : ∀ v ∈ cs, v.oneCell' = true) :
    (Builtin.copy_ #[22, 22] ty #[.slice (some ⟨g, o, none⟩) dLen dCap, .slice (some a) sLen sCap]).run Try.prog w =
      .ok (goInt m) (w.setRow g (cur.toList.take o ++ cs ++ cur.toList.drop (o + cs.length)).toArray) := by
  obtain ⟨i0, hi, hz0, hz1, hz2⟩ := info_parts Try.infoP
  have hl := run_loadCells_list (P := Try.prog) w a cs hsrc
  have hst := run_storeCells_at Try.prog g o 34 cs 0 cur w hg (by simpa using hfit) h1
  rw [hn] at hl
  simp [Builtin.copy_, run_underlying Try.underlyingP, Builtin.lenOf, Builtin.firstCells, sizeOf, typeInfo, hi, hz1, ← hm, hl, hst]

set_option maxHeartbeats 4000000 in
theorem Insert_end (v : Value) (base i N : Nat) (x y : Int) (l : List (Int × Int)) (w : World) (hO : OwnsP w base v l) (hi : i = l.length) (h40 : l.length ≤ 40) (hN : N = w.heap.size) (hbs : base ≤ w.heap.size) :
    Calls Try.prog 32 #[v, .int .i64 (i : Int), .slice (some ⟨N, 0, none⟩) 1 1] (w.alloc (.cells #[.int .i64 x, .int .i64 y] 34)) fun e w' => ∃ v', e = .returned v' ∧ Hid (OwnsP w' base v' (l ++ [(x, y)])) ∧ Hid (Below base w w') := by
  obtain ⟨a, c, rfl, -⟩ := hO.shows (by omega)
  have HN : Hid (N = w.heap.size) := hN
  have HO : Hid (OwnsP w base (.slice a l.length c) l) := hO
  have HL : Hid (l.length + 1 ≤ 1000) := by show _ ≤ _; omega
  have HBs : Hid (base ≤ w.heap.size) := hbs
  have hic : i ≤ c := by
    rcases hO.2 with ⟨h2, h3⟩ | ⟨g, cap, cur, hv, _, _, h4, _⟩
    · omega
    · simp only [Value.slice.injEq] at hv
      omega
  rw [← hi] at HO ⊢
  clear hN hO hbs hi h40
  rcases hcz : (decide (c = i)) with _ | _
  · have hne : ¬ c = i := of_decide_eq_false hcz
    clear hcz
    go_enter Try.func32, Try.ntmps32
    go_wp2_with (at_builtin; refine append_pair (x := x) (y := y) rfl _ _ rfl rfl rfl HN.out HO.out HL.out HBs.out ?_)
    intro v' w' h1 h2
    have H1 : Hid (OwnsP w' base v' (l ++ [(x, y)])) := h1
    have H2 : Hid (Below base w w') := h2
    clear h1 h2
    go_wp2
    go_ret
    exact ⟨v', rfl, H1, H2⟩
  · obtain rfl : c = i := of_decide_eq_true hcz
    clear hcz
    go_enter Try.func32, Try.ntmps32
    go_wp2_with (at_builtin; refine append_pair (x := x) (y := y) rfl _ _ rfl rfl rfl HN.out HO.out HL.out HBs.out ?_)
    intro v' w' h1 h2
    have H1 : Hid (OwnsP w' base v' (l ++ [(x, y)])) := h1
    have H2 : Hid (Below base w w') := h2
    clear h1 h2
    go_wp2
    go_ret
    exact ⟨v', rfl, H1, H2⟩
end Go.Proofs.Ytihafckdaecgkaa
