/-
  An argument of type []api.Pair, opened: what the world shows of it, and that its numbers are int's.
-/
import Derived.Test.YtihafckdaecgkaaBOpen
import Derived.Test.YtihafckdaecgkaaZPrs
import Derived.Deep.SlicePairs
namespace Go.Proofs.Ytihafckdaecgkaa
open Go.ChangeShapes Go.WideShapes Go.ChangeAt Go.RowKit

theorem Try.cellsP : Try.prog.cellsOf 34 = 2 := by kernel_rfl
theorem Try.bytesP : Try.prog.bytesOf 34 = 16 := by kernel_rfl
theorem Try.fieldsP : ∃ f0 f1 : Field, Try.prog.underlying 34 = some (.struct #[f0, f1]) ∧ f0.offset = 0 ∧ f1.offset = 1 ∧ f0.type = 3 ∧ f1.type = 3 := ⟨_, _, Try.underlying34, rfl, rfl, rfl, rfl⟩

set_option maxRecDepth 100000 in
theorem open_pairsW {H : Type} {enc : TypeId × Value → H} {W : World} {base : Nat} {v : Value} {d : DataW H} {p : List MemPlace}
    (hv : Value.okWide Try.prog W .any base 22 v) (h : DataW.Trod enc Try.prog W 0 (fun _ => true) true 22 v d p) (hlt : ∀ x ∈ p, x.block < W.heap.size)
    (hsz : ∀ es sp, d = .slice es sp → (es.length + sp.length) * Try.prog.bytesOf 34 ≤ reachBytes) :
    ∃ a cap l, v = .slice a l.length cap ∧ ShowsP W a l ∧ l.length ≤ cap ∧ ∀ e ∈ l, (-9223372036854775808 ≤ e.1 ∧ e.1 ≤ 9223372036854775807) ∧ -9223372036854775808 ≤ e.2 ∧ e.2 ≤ 9223372036854775807 := by
  obtain ⟨a0, len, cap, rfl⟩ := okWide_slice Try.underlyingP hv
  obtain ⟨fuel, hf⟩ := h
  obtain ⟨f0, f1, hs, o0, o1, t0, t1⟩ := Try.fieldsP
  rcases Go.Deep.open_slice_pairs Try.underlyingP hs Try.cellsP o0 o1 (by rw [t0]; exact Try.cells3) (by rw [t1]; exact Try.cells3) hf with ⟨hcs, hx⟩ | ⟨a, len', cap', m, k, V0, V1, D0, D1, P0, P1, hcs, _, hl, hm, hmm, hx, hall⟩
  · simp [Value.cells] at hcs
    obtain ⟨rfl, rfl, rfl⟩ := hcs
    exact ⟨none, 0, [], rfl, ⟨by simp, fun h => absurd rfl h⟩, by simp, by simp⟩
  · simp [Value.cells] at hcs
    obtain ⟨rfl, rfl, rfl⟩ := hcs
    simp only [Prod.mk.injEq] at hx
    obtain ⟨rfl, rfl⟩ := hx
    simp only [if_true] at hmm
    have hreach := hsz _ _ rfl
    rw [Try.bytesP] at hreach
    simp only [List.length_map, List.length_range, reachBytes] at hreach
    have hint : ∀ i, i < len → ∃ x y : Int, V0 i = .int .i64 x ∧ V1 i = .int .i64 y ∧ (-9223372036854775808 ≤ x ∧ x ≤ 9223372036854775807) ∧ -9223372036854775808 ≤ y ∧ y ≤ 9223372036854775807 := fun i hi => by
      obtain ⟨_, _, h2, h3⟩ := hall i (by omega)
      rw [t0] at h2
      rw [t1] at h3
      obtain ⟨x, hx1, _, hx2⟩ := DataW.trod_int Try.underlying3 h2
      obtain ⟨y, hy1, _, hy2⟩ := DataW.trod_int Try.underlying3 h3
      simp only [List.cons.injEq, and_true] at hx1 hy1
      exact ⟨x, y, hx1, hy1, i64_of_wf hx2, i64_of_wf hy2⟩
    obtain ⟨q, hq⟩ : ∃ q : Nat → Int × Int, ∀ i, i < len → V0 i = .int .i64 (q i).1 ∧ V1 i = .int .i64 (q i).2 ∧ (-9223372036854775808 ≤ (q i).1 ∧ (q i).1 ≤ 9223372036854775807) ∧ -9223372036854775808 ≤ (q i).2 ∧ (q i).2 ≤ 9223372036854775807 := by
      refine ⟨fun i => if h : i < len then ((hint i h).choose, (hint i h).choose_spec.choose) else (0, 0), fun i hi => ?_⟩
      simp only [dif_pos hi]
      exact (hint i hi).choose_spec.choose_spec
    have hgd : ∀ i, i < len → ((List.range len).map q).getD i (0, 0) = q i := fun i hi => by simp [List.getD, hi]
    refine ⟨some a, cap, (List.range len).map q, by simp, ⟨by simp; omega, fun hne => ?_⟩, by simpa using hl, fun e he => by
      obtain ⟨i, hi, rfl⟩ := List.mem_map.1 he
      exact (hq i (List.mem_range.1 hi)).2.2⟩
    have hpos : 0 < len := by
      rcases Nat.eq_zero_or_pos len with h0 | h0
      · subst h0; simp at hne
      · exact h0
    obtain ⟨b, off, spot⟩ := a
    have hspot : spot = none := by simpa [Addr.add] using World.cell?_spot (hall 0 (by omega)).1
    subst hspot
    refine ⟨b, off, rfl, hlt (.cell b off) (List.mem_append_left _ (MemPlace.mem_row.2 ⟨0, by omega, by simp⟩)), fun i hi => ?_⟩
    simp only [List.length_map, List.length_range] at hi
    obtain ⟨h0, h1, _, _⟩ := hall i (by omega)
    rw [hgd i hi, ← (hq i hi).1, ← (hq i hi).2.1]
    rw [add_plain] at h0 h1
    exact ⟨h0, by rw [Nat.add_assoc]; exact h1⟩

end Go.Proofs.Ytihafckdaecgkaa
