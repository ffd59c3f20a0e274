/-
  The document's looking: the closure of ferref.Looked, its contract.
-/
import Derived.Test.YthdojdkghhmfcaaQDlk
namespace Go.Proofs.Ythdojdkghhmfcaa
open Go.RowKit

theorem DEn.ok.nes {V : DEn} (h : V.ok) : (V.g ≠ V.s ∧ V.g ≠ V.n ∧ V.g ≠ V.c ∧ V.g ≠ V.r ∧ V.g ≠ V.d ∧ V.s ≠ V.n ∧ V.s ≠ V.c ∧ V.s ≠ V.r ∧ V.s ≠ V.d ∧ V.n ≠ V.c ∧ V.n ≠ V.r ∧ V.n ≠ V.d ∧ V.c ≠ V.r ∧ V.c ≠ V.d ∧ V.r ≠ V.d) ∧ ¬ V.six V.m ∧ ¬ V.six V.e ∧ ¬ V.six V.y ∧ ¬ V.six V.t ∧ ¬ V.six V.f := by
  have hd := h.dist
  simp only [List.nodup_cons, List.mem_cons, List.not_mem_nil, not_or, or_false] at hd
  obtain ⟨⟨a1, a2, a3, a4, a5, a6, a7, a8, a9, a10⟩, ⟨b1, b2, b3, b4, b5, b6, b7, b8, b9⟩, ⟨c1, c2, c3, c4, c5, c6, c7, c8⟩, ⟨d1, d2, d3, d4, d5, d6, d7⟩, ⟨e1, e2, e3, e4, e5, e6⟩, ⟨f1, f2, f3, f4, f5⟩, ⟨g1, g2, g3, g4⟩, ⟨h1, h2, h3⟩, ⟨i1, i2⟩, j1, -⟩ := hd
  refine ⟨⟨a1, a5, a8, a9, a10, b4, b7, b8, b9, f3, f4, f5, i1, i2, j1⟩, ?_, ?_, ?_, ?_, ?_⟩
  · rintro (q | q | q | q | q | q)
    · exact a2 q.symm
    · exact b1 q.symm
    · exact c3 q
    · exact c6 q
    · exact c7 q
    · exact c8 q
  · rintro (q | q | q | q | q | q)
    · exact a3 q.symm
    · exact b2 q.symm
    · exact d2 q
    · exact d5 q
    · exact d6 q
    · exact d7 q
  · rintro (q | q | q | q | q | q)
    · exact a4 q.symm
    · exact b3 q.symm
    · exact e1 q
    · exact e4 q
    · exact e5 q
    · exact e6 q
  · rintro (q | q | q | q | q | q)
    · exact a6 q.symm
    · exact b5 q.symm
    · exact f1 q.symm
    · exact g2 q
    · exact g3 q
    · exact g4 q
  · rintro (q | q | q | q | q | q)
    · exact a7 q.symm
    · exact b6 q.symm
    · exact f2 q.symm
    · exact h1 q
    · exact h2 q
    · exact h3 q
theorem OwPt.cut {w : World} {lo : Nat} {a : Option Addr} {n c : Nat} {l : List (Int × Int)} {x : Int × Int} (h : OwPt w lo (.slice a (n + 1) c) (l ++ [x])) (hn : n = l.length) : OwPt w lo (.slice a n c) l ∧ n + 1 ≤ c ∧ ∃ ad, a = some ad := by
  subst hn
  unfold OwPt at h ⊢
  rcases h.2 with ⟨hv, hn⟩ | ⟨g, cap, cur, hv, hg, hh, hnc, hcm, hcs, htk⟩
  · simp at hn
  · simp only [Value.slice.injEq] at hv
    obtain ⟨rfl, -, rfl⟩ := hv
    rw [List.length_append, List.length_singleton] at hnc htk
    refine ⟨⟨pcI_length l, Or.inr ⟨g, c, cur, rfl, hg, hh, by omega, hcm, hcs, ?_⟩⟩, hnc, _, rfl⟩
    have h2 := congrArg (List.take (l.length * 2)) htk
    rw [List.take_take, Nat.min_eq_left (by omega), pcI_app, List.take_left' (pcI_length l)] at h2
    exact h2
theorem OwTx.cut {w : World} {lo : Nat} {a : Option Addr} {n c : Nat} {l : List (List UInt8)} {x : List UInt8} (h : OwTx w lo (.slice a (n + 1) c) (l ++ [x])) (hn : n = l.length) : OwTx w lo (.slice a n c) l ∧ n + 1 ≤ c ∧ ∃ ad, a = some ad := by
  subst hn
  unfold OwTx at h ⊢
  rcases h.2 with ⟨hv, hn⟩ | ⟨g, cap, cur, hv, hg, hh, hnc, hcm, hcs, htk⟩
  · simp at hn
  · simp only [Value.slice.injEq] at hv
    obtain ⟨rfl, -, rfl⟩ := hv
    rw [List.length_map, List.length_append, List.length_singleton] at hnc htk
    refine ⟨⟨by simp, Or.inr ⟨g, c, cur, by rw [List.length_map], hg, hh, by rw [List.length_map]; omega, hcm, hcs, ?_⟩⟩, hnc, _, rfl⟩
    have h2 := congrArg (List.take (l.length * 1)) htk
    rw [List.take_take, Nat.min_eq_left (by omega), List.map_append, List.take_left' (by simp)] at h2
    rw [List.length_map]; exact h2
theorem OwTx.shape {w : World} {lo : Nat} {v : Value} {l : List (List UInt8)} (h : OwTx w lo v l) : ∃ a c, v = .slice a l.length c := by
  rcases h.2 with ⟨hv, hn⟩ | ⟨g, cap, cur, hv, _⟩
  · rw [List.length_map] at hn; exact ⟨none, 0, by rw [hv, hn]⟩
  · rw [List.length_map] at hv; exact ⟨_, _, hv⟩

def DAns (V : DEn) (r : Bool × Nat × (Nat × List (List UInt8))) (w : World) (gv nv fv : Value) (gone : List (Nat × Nat)) (now : List (List UInt8)) (e : Ending) (w' : World) : Prop := e = .returned (.bool r.1) ∧ ∃ gv' nv' fv' fd', Hid (DLk V w' gv' nv' fv' gone now r.2.1 r.2.2 fd') ∧ Hid (DFr V w gv nv fv w' gv' nv' fv')
def pb (b : Nat) : Value := .pointer (some ⟨b, 0, none⟩)
/-- What belongs together: the document's lists and the program's. -/
structure DRel (V : DEn) (k : Nat) (p : Nat × Nat) (f : Nat) (path : List UInt8) (gone : List (Nat × Nat)) (now : List (List UInt8)) (st : Nat) (cl : Nat → Bool) (tx : List (List UInt8)) : Prop where
  hk : k < V.S.length
  hp : p.1 < 8 ∧ p.2 < 8
  hst : st ≤ 1000000
  hfu : fuN V.S V.E k p ≤ f
  hnow : now = tx.take k
  hpath : path = tx.getD k []
  hlen : tx.length = V.S.length
  hrest : ∀ j, k < j → tx.getD j [] = []
  hcl : ∀ q : Nat × Nat, q.1 < 8 → q.2 < 8 → cl (ixP8 q) = decide (q ∈ gone)
  hgl : gone.length + f ≤ 8796093022100
  hpl : path.length + f ≤ 100
def FrC (V : DEn) (f : Nat) : Prop := ∀ (k : Nat) (p : Nat × Nat) (path : List UInt8) (w : World) (gv nv fv : Value) (gone : List (Nat × Nat)) (now : List (List UInt8)) (st : Nat) (φ : Nat × List (List UInt8)) (fd : Nat) (cl : Nat → Bool) (tx : List (List UInt8)), DLk V w gv nv fv gone now st φ fd → DRel V k p f path gone now st cl tx →
  Calls Try.prog 20 #[.int .i64 (k : Int), ptV p, strV path, pb V.g, pb V.s, pb V.m, pb V.e, pb V.y, pb V.n, pb V.t, pb V.f, pb V.c, pb V.r, pb V.d] w (DAns V (goF V.S V.E fndL f k p cl tx st φ) w gv nv fv gone now)
theorem DRel.mark {V : DEn} {k : Nat} {p : Nat × Nat} {f : Nat} {path : List UInt8} {gone : List (Nat × Nat)} {now : List (List UInt8)} {st : Nat} {cl : Nat → Bool} {tx : List (List UInt8)} (h : DRel V k p f path gone now st cl tx) (q : Nat × Nat) (h1 : q.1 < 8) (h2 : q.2 < 8) : mkP cl p true (ixP8 q) = decide (q ∈ gone ++ [p]) := by
  unfold mkP
  by_cases e : ixP8 q = ixP8 p
  · have hp := h.hp
    have e' : q.1 * 8 + q.2 = p.1 * 8 + p.2 := e
    have : q = p := Prod.ext (by omega) (by omega)
    subst this
    rw [if_pos rfl]; simp
  · rw [if_neg e, h.hcl q h1 h2]
    apply decide_eq_decide.2
    rw [List.mem_append, List.mem_singleton]
    refine ⟨Or.inl, fun q' => ?_⟩
    rcases q' with q' | q'
    · exact q'
    · subst q'; exact absurd rfl e

end Go.Proofs.Ythdojdkghhmfcaa
