/-
  The document's looking: the list of texts, the first one, how many.
-/
import Derived.Test.YthdojdkghhmfcaaQDre
namespace Go.Proofs.Ythdojdkghhmfcaa
open Go.RowKit

theorem ownTag {w : World} {lo E s : Nat} {v : Value} {n : Nat} {xs : List Value} (h : w.ownsRow lo E s v n xs) {k : Nat} (e : v.ownBlock = some k) : ∃ cs, w.heap[k]? = some (.cells cs E (0, 0)) := by
  rcases h.2 with ⟨hv, _⟩ | ⟨g, cap, cur, hv, _, hh, _⟩
  · rw [hv] at e; cases e
  · rw [hv] at e
    obtain rfl : g = k := by simpa [Value.ownBlock] using e
    exact ⟨_, hh⟩
theorem DLk.putN {V : DEn} (hV : V.ok) {w w1 : World} {gv nv nv' fv : Value} {gone : List (Nat × Nat)} {now now' : List (List UInt8)} {st : Nat} {φ : Nat × List (List UInt8)} {fd : Nat} (h : DLk V w gv nv fv gone now st φ fd) (hO : OwTx w1 V.lo nv' now') (hk : KeepB nv nv' w w1) (hso : SmO w w1) :
    DLk V (w1.setCell ⟨V.n, 0, none⟩ nv') gv nv' fv gone now' st φ fd ∧ DFr V w gv nv fv (w1.setCell ⟨V.n, 0, none⟩ nv') gv nv' fv := by
  obtain ⟨⟨a1, a2, a3, a4, a5, a6, a7, a8, a9, a10, a11, a12, a13, a14, a15⟩, -⟩ := hV.nes
  have hne : ∀ k, k ≠ V.n → (w1.setCell ⟨V.n, 0, none⟩ nv').heap[k]? = w1.heap[k]? := fun k hk => heap_setCell_other _ _ _ _ hk
  have hlow : ∀ k, V.six k → w1.heap[k]? = w.heap[k]? := fun k q => hk.block k (Nat.lt_of_lt_of_le (hV.sixlo q) h.los) (fun e => (h.sep k (Or.inr (Or.inl e))).1 q)
  have six : ∀ k, V.six k → V.six k := fun k q => q
  have hnn : V.six V.n := Or.inr (Or.inr (Or.inl rfl))
  have hgf : ∀ k, gv.ownBlock = some k ∨ fv.ownBlock = some k → (w1.setCell ⟨V.n, 0, none⟩ nv').heap[k]? = w.heap[k]? := fun k q => by
    have hb : Bl gv nv fv k := by rcases q with q | q; exact Or.inl q; exact Or.inr (Or.inr q)
    rw [hne k (fun q2 => (h.sep k hb).1 (by rw [q2]; exact hnn))]
    refine hk.block k (h.bl hb).2 (fun e => ?_)
    rcases q with q | q
    · obtain ⟨c1, h1⟩ := ownTag h.og q
      obtain ⟨c2, h2⟩ := ownTag h.on e
      rw [h1] at h2; cases h2
    · exact h.ap k e q
  refine h.put hV (by have := hk.size; simpa using this) (hso.trans ⟨rfl, rfl, rfl⟩) (fun k hkl hs hB => ?_) (fun k q => ?_) ?_ ?_ ?_ ?_ ?_ ?_ (h.og.same fun k e => hgf k (Or.inl e)) ?_ (h.of_.same fun k e => hgf k (Or.inr e)) ?_ h.num
  · rw [hne k (fun e => hs (Or.inr (Or.inr (Or.inl e))))]; exact hk.block k hkl (fun e => hB (Or.inr (Or.inl e)))
  · rcases q with q | q | q
    · exact Or.inl (Or.inl q)
    · rcases hk.lies k q with q1 | q1
      · exact Or.inl (Or.inr (Or.inl q1))
      · exact Or.inr q1
    · exact Or.inl (Or.inr (Or.inr q))
  · rw [hne _ a2, hlow _ (six _ (Or.inl rfl))]; exact h.g
  · rw [hne _ a6, hlow _ (six _ (Or.inr (Or.inl rfl)))]; exact h.s
  · rw [heap_setCell_same w1 V.n 0 _ 29 _ (by rw [hlow _ hnn]; exact h.n)]; rfl
  · rw [hne _ (Ne.symm a10), hlow _ (six _ (Or.inr (Or.inr (Or.inr (Or.inl rfl)))))]; exact h.c
  · rw [hne _ (Ne.symm a11), hlow _ (six _ (Or.inr (Or.inr (Or.inr (Or.inr (Or.inl rfl))))))]; exact h.r
  · rw [hne _ (Ne.symm a12), hlow _ (six _ (Or.inr (Or.inr (Or.inr (Or.inr (Or.inr rfl))))))]; exact h.d
  · exact hO.same fun k e => hne k (fun q => by
      rcases hk.lies k e with q1 | q1
      · exact (h.sep k (Or.inr (Or.inl q1))).1 (by rw [q]; exact hnn)
      · have h1 := h.los
        have h2 := hV.sixlo hnn
        omega)
  · intro k e1 e2
    rcases hk.lies k e1 with q | q
    · exact h.ap k q e2
    · have := (h.bl (Or.inr (Or.inr e2))).2; omega
/-- What has become of the first one, and of how many: the rest is as it was. -/
structure PutF (V : DEn) (w wx : World) (fv' : Value) (m fd' : Nat) : Prop where
  size : w.heap.size ≤ wx.heap.size
  smo : SmO w wx
  r : wx.heap[V.r]? = some (.cells #[fv'] 29 (0, 0))
  d : wx.heap[V.d]? = some (.cells #[.int .i64 (fd' : Int)] 3 (0, 0))
  c : wx.heap[V.c]? = some (.cells #[.int .i64 (m : Int)] 3 (0, 0))
  blk : ∀ k, k < w.heap.size → k ≠ V.r → k ≠ V.d → k ≠ V.c → wx.heap[k]? = w.heap[k]?
theorem DLk.putF {V : DEn} (hV : V.ok) {w wx : World} {gv nv fv fv' : Value} {gone : List (Nat × Nat)} {now fl' : List (List UInt8)} {st : Nat} {φ : Nat × List (List UInt8)} {fd m fd' : Nat} (h : DLk V w gv nv fv gone now st φ fd) (hP : PutF V w wx fv' m fd') (hO : OwTx wx V.lo fv' fl') (hl : ∀ k, fv'.ownBlock = some k → fv.ownBlock = some k ∨ w.heap.size ≤ k) (hnum : m ≤ st ∧ fd' ≤ st ∧ (0 < fd' ↔ 0 < m)) :
    DLk V wx gv nv fv' gone now st (m, fl') fd' ∧ DFr V w gv nv fv wx gv nv fv' := by
  obtain ⟨⟨a1, a2, a3, a4, a5, a6, a7, a8, a9, a10, a11, a12, a13, a14, a15⟩, -⟩ := hV.nes
  have hlo : ∀ k, V.six k → k < w.heap.size := fun k q => Nat.lt_of_lt_of_le (hV.sixlo q) h.los
  have hb : ∀ k, Bl gv nv fv k → wx.heap[k]? = w.heap[k]? := fun k q => by
    have h1 := h.bl q
    have hs := (h.sep k q).1
    exact hP.blk k h1.2 (fun e => hs (Or.inr (Or.inr (Or.inr (Or.inr (Or.inl e)))))) (fun e => hs (Or.inr (Or.inr (Or.inr (Or.inr (Or.inr e)))))) (fun e => hs (Or.inr (Or.inr (Or.inr (Or.inl e)))))
  refine h.put hV hP.size hP.smo (fun k hk hs _ => hP.blk k hk (fun e => hs (Or.inr (Or.inr (Or.inr (Or.inr (Or.inl e)))))) (fun e => hs (Or.inr (Or.inr (Or.inr (Or.inr (Or.inr e)))))) (fun e => hs (Or.inr (Or.inr (Or.inr (Or.inl e)))))) (fun k q => ?_) ?_ ?_ ?_ hP.c hP.r hP.d (h.og.same fun k e => hb k (Or.inl e)) (h.on.same fun k e => hb k (Or.inr (Or.inl e))) hO (fun k e1 e2 => ?_) hnum
  · rcases q with q | q | q
    · exact Or.inl (Or.inl q)
    · exact Or.inl (Or.inr (Or.inl q))
    · rcases hl k q with q1 | q1
      · exact Or.inl (Or.inr (Or.inr q1))
      · exact Or.inr q1
  · rw [hP.blk V.g (hlo _ (Or.inl rfl)) a4 a5 a3]; exact h.g
  · rw [hP.blk V.s (hlo _ (Or.inr (Or.inl rfl))) a8 a9 a7]; exact h.s
  · rw [hP.blk V.n (hlo _ (Or.inr (Or.inr (Or.inl rfl)))) a11 a12 a10]; exact h.n
  · rcases hl k e2 with q | q
    · exact h.ap k e1 q
    · have := (h.bl (Or.inr (Or.inl e1))).2; omega
/-- append(nil, texts...), in a region that draws. -/
theorem step_txs {w : World} {lo m c : Nat} {ad : Addr} {now : List (List UInt8)} {ops : Array Oper} {o : Oper} {a : Act} {K : Act → World → Prop} {Q : Exit → Act → World → Prop} {EE : Prop} (hgd : o.guard = none) (s y : Operand)
    (ho : o.op = .call { callee := .builtin .append, args := #[s, y], argTypes := #[29, 29] }) (hs : a.eval s = .slice none 0 0) (hx : a.eval y = .slice (some ad) m c) (hm : m = now.length) (hown : OwTx w lo (.slice (some ad) m c) now) (hl : now.length ≤ 1000)
    (h : ∀ v' w', OwTx w' w.heap.size v' now → Below w.heap.size w w' → K (a.put o.dst v') w') :
    if Region.wanted o (yielded ops a.tmps) = true then Oper.wp Try.prog o a w K Q else EE := by
  have hw : Region.wanted o (yielded ops a.tmps) = true := by simp [Region.wanted, hgd]
  rw [if_pos hw]
  subst hm
  have hc : ∀ j u, (now.map strV)[j]? = some u → w.cell? (ad.add j) = some u := fun j u hj => by
    rcases hown.2 with ⟨hv, _⟩ | ⟨g, cap, cur, hv, _, hh, hn, _, hcs, htk⟩
    · cases hv
    · simp only [Value.slice.injEq, Option.some.injEq] at hv
      obtain ⟨rfl, -, rfl⟩ := hv
      rw [Addr.add_lit, Nat.zero_add, cell_of_row w g _ _ _ _ hh]
      have hjl : j < (now.map strV).length := (List.getElem?_eq_some_iff.1 hj).1
      rw [← htk, List.getElem?_take_of_lt (by omega)] at hj
      simpa using hj
  obtain ⟨v', w', hrun, r1, r2, r3⟩ := run_append_kb (w := w) (base := w.heap.size) (v := .slice none 0 0) (xs := []) elem_text (news := now.map strV) o.type (World.ownsRow_nil _ _ _ _) ad c hc (fun u hu => by
    rw [List.mem_map] at hu
    obtain ⟨t, _, rfl⟩ := hu
    rfl) (by rw [List.length_map]; unfold maxLen; simp; omega) (by rw [List.length_map]; simp; omega) (Nat.le_refl _)
  rw [List.length_map] at hrun
  unfold Oper.wp
  simp [execOp, ho, resolve, invoke, builtin, hs, hx, hrun, Result.andThen]
  exact h v' w' (by unfold OwTx; have h1 := r1; rw [List.nil_append] at h1; exact h1) r2

end Go.Proofs.Ythdojdkghhmfcaa
