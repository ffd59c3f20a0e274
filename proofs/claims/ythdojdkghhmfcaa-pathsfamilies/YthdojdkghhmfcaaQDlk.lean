/-
  The memory of the document's looking (ferref.Looked): its variables, what stays.
-/
import Derived.Test.YthdojdkghhmfcaaQLam
import Derived.Test.YthdojdkghhmfcaaQPtc
namespace Go.Proofs.Ythdojdkghhmfcaa
open Go.RowKit

/-- The blocks of the variables, and what is the same all the while. -/
structure DEn where
  lo : Nat
  hi : Nat
  g : Nat
  s : Nat
  m : Nat
  e : Nat
  y : Nat
  n : Nat
  t : Nat
  f : Nat
  c : Nat
  r : Nat
  d : Nat
  w0 : World
  S : List (Nat × Nat)
  E : List (Nat × Nat)
  ea : Option Addr
  en : Nat
  ec : Nat
  sa : Option Addr
  sc : Nat
  ya : Option Addr
  yn : Nat
  yc : Nat
  El : List (Int × Int)
  zs : List Int
/-- The blocks that are written. -/
def DEn.six (V : DEn) (k : Nat) : Prop := k = V.g ∨ k = V.s ∨ k = V.n ∨ k = V.c ∨ k = V.r ∨ k = V.d
def DEn.ptrs (V : DEn) : List Value := [V.g, V.s, V.m, V.e, V.y, V.n, V.t, V.f, V.c, V.r, V.d].map fun b => Value.pointer (some ⟨b, 0, none⟩)
structure DEn.ok (V : DEn) : Prop where
  lows : ∀ k, (V.six k ∨ k = V.m ∨ k = V.e ∨ k = V.y ∨ k = V.t ∨ k = V.f) → k < V.hi
  lowc : V.m < V.lo ∧ V.e < V.lo ∧ V.y < V.lo ∧ V.t < V.lo ∧ V.lo ≤ V.hi
  dist : ([V.g, V.s, V.m, V.e, V.y, V.n, V.t, V.f, V.c, V.r, V.d] : List Nat).Nodup
  sz : V.hi ≤ V.w0.heap.size
  most : V.w0.heap[V.m]? = some (.cells #[.int .i64 1000000] 3 (0, 0))
  ends : V.w0.heap[V.e]? = some (.cells #[.slice V.ea V.en V.ec] 22 (0, 0))
  way : V.w0.heap[V.y]? = some (.cells #[.slice V.ya V.yn V.yc] 25 (0, 0))
  starts : V.w0.heap[V.t]? = some (.cells #[.slice V.sa V.S.length V.sc] 22 (0, 0))
  from_ : V.w0.heap[V.f]? = some (.cells #[.func (.func 20) #[] V.ptrs.toArray] 54 (0, 0))
  endsI : PtI V.w0 V.ea V.El ∧ V.en = V.El.length ∧ V.en ≤ 4
  wayI : Shows V.w0 V.ya V.zs ∧ V.yn = V.zs.length ∧ V.S.length ≤ V.yn ∧ V.yn ≤ 4
  startsI : PSh V.w0 (fun q => q < V.lo ∧ ¬ V.six q) (.slice V.sa V.S.length V.sc) V.S
  endsB : ∀ b off, V.ea = some ⟨b, off, none⟩ → V.El.length ≠ 0 → b < V.lo ∧ ¬ V.six b
  wayB : ∀ b off, V.ya = some ⟨b, off, none⟩ → V.zs.length ≠ 0 → b < V.lo ∧ ¬ V.six b
  small : V.S.length ≤ 4 ∧ V.S.length = V.E.length
  pts : ∀ i, i < V.S.length → (ptD V.S i).1 < 8 ∧ (ptD V.S i).2 < 8 ∧ (ptD V.E i).1 < 8 ∧ (ptD V.E i).2 < 8
  way0 : ∀ i, i < V.S.length → 0 ≤ V.zs.getD i 0 ∧ V.zs.getD i 0 < (V.en : Int) ∧ V.El.getD (V.zs.getD i 0).toNat (0, 0) = (((ptD V.E i).1 : Int), ((ptD V.E i).2 : Int))
/-- The blocks of the lists that are kept. -/
def Bl (gv nv fv : Value) (k : Nat) : Prop := gv.ownBlock = some k ∨ nv.ownBlock = some k ∨ fv.ownBlock = some k
def OwTx (w : World) (lo : Nat) (v : Value) (tx : List (List UInt8)) : Prop := w.ownsRow lo 9 1 v (tx.map strV).length (tx.map strV)
theorem OwTx.same {w w' : World} {lo : Nat} {v : Value} {tx : List (List UInt8)} (h : OwTx w lo v tx) (hk : ∀ k, v.ownBlock = some k → w'.heap[k]? = w.heap[k]?) : OwTx w' lo v tx := ownsRow_blocks h hk
theorem OwPt.same {w w' : World} {lo : Nat} {v : Value} {l : List (Int × Int)} (h : OwPt w lo v l) (hk : ∀ k, v.ownBlock = some k → w'.heap[k]? = w.heap[k]?) : OwPt w' lo v l := ownsRow_blocks h hk
/-- All that is known while looking. -/
structure DLk (V : DEn) (w : World) (gv nv fv : Value) (gone : List (Nat × Nat)) (now : List (List UInt8)) (st : Nat) (φ : Nat × List (List UInt8)) (fd : Nat) : Prop where
  base : ∀ k, (k < V.lo ∨ k = V.f) → ¬ V.six k → w.heap[k]? = V.w0.heap[k]?
  los : V.hi ≤ w.heap.size
  sep : ∀ k, Bl gv nv fv k → ¬ V.six k ∧ k ≠ V.f
  g : w.heap[V.g]? = some (.cells #[gv] 22 (0, 0))
  s : w.heap[V.s]? = some (.cells #[.int .i64 (st : Int)] 3 (0, 0))
  n : w.heap[V.n]? = some (.cells #[nv] 29 (0, 0))
  c : w.heap[V.c]? = some (.cells #[.int .i64 (φ.1 : Int)] 3 (0, 0))
  r : w.heap[V.r]? = some (.cells #[fv] 29 (0, 0))
  d : w.heap[V.d]? = some (.cells #[.int .i64 (fd : Int)] 3 (0, 0))
  og : OwPt w V.lo gv (toI gone)
  on : OwTx w V.lo nv now
  of_ : OwTx w V.lo fv φ.2
  ap : Apart nv fv
  num : φ.1 ≤ st ∧ fd ≤ st ∧ (0 < fd ↔ 0 < φ.1)
/-- What looking leaves as it was. -/
structure DFr (V : DEn) (w : World) (gv nv fv : Value) (w' : World) (gv' nv' fv' : Value) : Prop where
  size : w.heap.size ≤ w'.heap.size
  block : ∀ k, k < w.heap.size → ¬ V.six k → ¬ Bl gv nv fv k → w'.heap[k]? = w.heap[k]?
  sub : ∀ k, Bl gv' nv' fv' k → Bl gv nv fv k ∨ w.heap.size ≤ k
  smo : SmO w w'
theorem DFr.refl (V : DEn) (w : World) (gv nv fv : Value) : DFr V w gv nv fv w gv nv fv := ⟨Nat.le_refl _, fun _ _ _ _ => rfl, fun _ h => Or.inl h, SmO.refl _⟩
theorem DFr.trans {V : DEn} {a b c : World} {g1 n1 f1 g2 n2 f2 g3 n3 f3 : Value} (h1 : DFr V a g1 n1 f1 b g2 n2 f2) (h2 : DFr V b g2 n2 f2 c g3 n3 f3) : DFr V a g1 n1 f1 c g3 n3 f3 := by
  refine ⟨Nat.le_trans h1.size h2.size, fun k hk hs hB => ?_, fun k hk => ?_, h1.smo.trans h2.smo⟩
  · rw [h2.block k (Nat.lt_of_lt_of_le hk h1.size) hs (fun q => ?_)]
    · exact h1.block k hk hs hB
    · rcases h1.sub k q with q1 | q1
      · exact hB q1
      · omega
  · rcases h2.sub k hk with q | q
    · exact h1.sub k q
    · exact Or.inr (Nat.le_trans h1.size q)
theorem DLk.bl {V : DEn} {w : World} {gv nv fv : Value} {gone : List (Nat × Nat)} {now : List (List UInt8)} {st : Nat} {φ : Nat × List (List UInt8)} {fd : Nat} (h : DLk V w gv nv fv gone now st φ fd) {k : Nat} (hk : Bl gv nv fv k) : V.lo ≤ k ∧ k < w.heap.size := by
  rcases hk with q | q | q
  · exact World.ownsRow.lt h.og k q
  · exact World.ownsRow.lt h.on k q
  · exact World.ownsRow.lt h.of_ k q
theorem DEn.ok.sixlo {V : DEn} (h : V.ok) {k : Nat} (hk : V.six k) : k < V.hi := h.lows k (Or.inl hk)
theorem DEn.ok.fhi {V : DEn} (h : V.ok) : V.f < V.hi := h.lows V.f (Or.inr (Or.inr (Or.inr (Or.inr (Or.inr rfl)))))
/-- More memory. -/
theorem DLk.below {V : DEn} (hV : V.ok) {w w' : World} {gv nv fv : Value} {gone : List (Nat × Nat)} {now : List (List UInt8)} {st : Nat} {φ : Nat × List (List UInt8)} {fd : Nat} (h : DLk V w gv nv fv gone now st φ fd) (hb : Below w.heap.size w w') : DLk V w' gv nv fv gone now st φ fd ∧ DFr V w gv nv fv w' gv nv fv := by
  have hl : ∀ k, V.six k → w'.heap[k]? = w.heap[k]? := fun k hk => hb.block k (Nat.lt_of_lt_of_le (hV.sixlo hk) h.los)
  have hB : ∀ k, Bl gv nv fv k → w'.heap[k]? = w.heap[k]? := fun k hk => hb.block k (h.bl hk).2
  refine ⟨⟨fun k hk hs => by
      rw [hb.block k (by
        have h1 := h.los
        have h2 := hV.lowc.2.2.2.2
        have h3 := hV.fhi
        rcases hk with q | q <;> omega)]; exact h.base k hk hs, Nat.le_trans h.los hb.size, h.sep, by rw [hl _ (Or.inl rfl)]; exact h.g, by rw [hl _ (Or.inr (Or.inl rfl))]; exact h.s, by rw [hl _ (Or.inr (Or.inr (Or.inl rfl)))]; exact h.n, by rw [hl _ (Or.inr (Or.inr (Or.inr (Or.inl rfl))))]; exact h.c, by rw [hl _ (Or.inr (Or.inr (Or.inr (Or.inr (Or.inl rfl)))))]; exact h.r, by rw [hl _ (Or.inr (Or.inr (Or.inr (Or.inr (Or.inr rfl)))))]; exact h.d, h.og.same fun k e => hB k (Or.inl e), h.on.same fun k e => hB k (Or.inr (Or.inl e)), h.of_.same fun k e => hB k (Or.inr (Or.inr e)), h.ap, h.num⟩, ⟨hb.size, fun k hk _ _ => hb.block k hk, fun k hk => Or.inl hk, SmO.of hb⟩⟩
/-- One of the six variables is written; the lists that are kept may be others then. -/
theorem DLk.put {V : DEn} (hV : V.ok) {w w1 : World} {gv nv fv gv' nv' fv' : Value} {gone gone' : List (Nat × Nat)} {now now' : List (List UInt8)} {st st' : Nat} {φ φ' : Nat × List (List UInt8)} {fd fd' : Nat} (h : DLk V w gv nv fv gone now st φ fd)
    (hsz : w.heap.size ≤ w1.heap.size) (hso : SmO w w1) (hblk : ∀ k, k < w.heap.size → ¬ V.six k → ¬ Bl gv nv fv k → w1.heap[k]? = w.heap[k]?) (hsub : ∀ k, Bl gv' nv' fv' k → Bl gv nv fv k ∨ w.heap.size ≤ k)
    (hg : w1.heap[V.g]? = some (.cells #[gv'] 22 (0, 0))) (hs : w1.heap[V.s]? = some (.cells #[.int .i64 (st' : Int)] 3 (0, 0))) (hn : w1.heap[V.n]? = some (.cells #[nv'] 29 (0, 0))) (hc : w1.heap[V.c]? = some (.cells #[.int .i64 (φ'.1 : Int)] 3 (0, 0))) (hr : w1.heap[V.r]? = some (.cells #[fv'] 29 (0, 0))) (hd : w1.heap[V.d]? = some (.cells #[.int .i64 (fd' : Int)] 3 (0, 0)))
    (og : OwPt w1 V.lo gv' (toI gone')) (on : OwTx w1 V.lo nv' now') (of_ : OwTx w1 V.lo fv' φ'.2) (ap : Apart nv' fv') (num : φ'.1 ≤ st' ∧ fd' ≤ st' ∧ (0 < fd' ↔ 0 < φ'.1)) :
    DLk V w1 gv' nv' fv' gone' now' st' φ' fd' ∧ DFr V w gv nv fv w1 gv' nv' fv' :=
  ⟨⟨fun k hk hs => by
      have h1 := h.los
      have h2 := hV.lowc.2.2.2.2
      have h3 := hV.fhi
      rw [hblk k (by rcases hk with q | q <;> omega) hs (fun q => by
        rcases hk with q1 | q1
        · have := (h.bl q).1; omega
        · exact (h.sep k q).2 q1)]; exact h.base k hk hs, Nat.le_trans h.los hsz, fun k q => by
      rcases hsub k q with q1 | q1
      · exact h.sep k q1
      · have h1 := h.los
        have h3 := hV.fhi
        exact ⟨fun q2 => by have := hV.sixlo q2; omega, by omega⟩, hg, hs, hn, hc, hr, hd, og, on, of_, ap, num⟩, ⟨hsz, hblk, hsub, hso⟩⟩

end Go.Proofs.Ythdojdkghhmfcaa
