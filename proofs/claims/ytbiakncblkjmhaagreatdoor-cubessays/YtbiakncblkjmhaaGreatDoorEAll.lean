/-
  The memory of the closure in cubes.pilesIn; the contract of cubes.copied.
-/
import Derived.Test.YtbiakncblkjmhaaGreatDoorDTrn
import Derived.Test.YtbiakncblkjmhaaGreatDoorDQs
import Derived.Deep.RegionLaw
namespace Go.Proofs.YtbiakncblkjmhaaGreatDoor
open Go.RowKit

theorem Tryz.infoCb : (Tryz.prog.info? 22).map (fun i => (i.zero, i.size, i.bytes)) = some (some (.slice none 0 0), 1, 24) := by kernel_rfl
theorem elem_cb : Elem 39 22 (.slice none 0 0) 24 := ⟨Tryz.underlying39, Tryz.infoCb, rfl⟩
theorem cell_oneC {w : World} {B : Nat} {v : Value} {ty : TypeId} (h : w.heap[B]? = some (.cells #[v] ty (0, 0))) : w.cell? ⟨B, 0, none⟩ = some v ∧ w.frozen? ⟨B, 0, none⟩ = false :=
  ⟨by simp [World.cell?, h], frozen_of_row w _ 0 _ _ h⟩

def fX (C : Nat) (Y : List Nat) (i j : Nat) : Nat := Y.getD (i * C + j) 0

theorem run_copy_on {w : World} {a : Option Addr} {cap g n : Nat} {zs old : List Int} (hs : Shows w a zs) (hn : n = zs.length) (hl : old.length = zs.length) (hrow : w.heap[g]? = some (.cells (old.map (Value.int .i64)).toArray 3 (0, 0))) :
    ∃ w2, Sem.run Tryz.prog (Builtin.copy_ #[29, 29] 3 #[.slice (some ⟨g, 0, none⟩) n n, .slice a n cap]) w = .ok (.int .i64 n) w2 ∧
      Hid (w2.heap[g]? = some (.cells (zs.map (Value.int .i64)).toArray 3 (0, 0)) ∧ Below g w w2 ∧ ∀ k, k ≠ g → w2.heap[k]? = w.heap[k]?) := by
  subst hn
  by_cases hne : zs = []
  · subst hne
    have : old = [] := List.eq_nil_of_length_eq_zero (by simpa using hl)
    subst this
    exact ⟨w, run_copy_none (P := Tryz.prog) w 29 29 3 3 _ _ _ _ _ _ Tryz.underlying29 Tryz.sz3 (by simp), by simpa [Hid] using hrow, Below.refl _ _, fun _ _ => rfl⟩
  · obtain ⟨b, off, ha, _, hc⟩ := hs.cells hne
    subst ha
    have hrun := run_copy_row (P := Tryz.prog) w 29 29 3 3 g 0 zs.length zs.length ⟨b, off, none⟩ zs.length cap _ 3 (zs.map (Value.int .i64)) Tryz.underlying29 Tryz.sz3 hrow (by simp) (fun j v hj => by
      have hj' : j < zs.length := by have := (List.getElem?_eq_some_iff.1 hj).1; simpa using this
      rw [Addr.add_lit, hc j hj', ← hj]; simp [List.getD, List.getElem?_eq_getElem hj']) (by simp [hl]) (ints_oneCell _ _)
    refine ⟨_, by rw [hrun]; simp only [List.length_map]; rfl, ?_, below_setRow (Below.refl _ _) (Nat.le_refl _) _, fun k hk => ?_⟩
    · show _ = _
      rw [setRow_heap w g _ _ 3 _ hrow]
      rw [List.take_zero, List.nil_append, List.drop_of_length_le (by rw [List.length_map]; omega), List.append_nil]
    · unfold World.setRow
      simp [Array.getElem?_modify, Ne.symm hk]

set_option maxHeartbeats 2000000 in
set_option maxRecDepth 100000 in
theorem ccopied_at (a : Option Addr) (n cap r c : Nat) (P : Nat → Nat → Nat) (w : World) (hs : Table w a (tb r c P)) (hn : n = r) (r1 : 1 ≤ r) (r8 : r ≤ 8) (c1 : 1 ≤ c) (c8 : c ≤ 8) :
    Calls Tryz.prog 76 #[.slice a n cap] w fun e w' => ∃ v, e = .returned v ∧ Tbl w' w.heap.size v (tb r c P) ∧ Below w.heap.size w w' := by
  subst hn
  have HS : Hid (Table w a (tb n c P)) := hs
  clear hs
  have n0' : (0 : Int) < (n : Int) := by omega
  obtain ⟨b, off, ai0, ci0, rfl, HC0, -⟩ := HS.out.rowB (i := 0) (by omega)
  have hc0 := HC0.out w (Below.refl _ _)
  rw [Nat.add_zero] at hc0
  go_enter Tryz.func76, Tryz.ntmps76
  go_wp2_with fail
  refine (empty_at n c w r1 (by omega) (by omega)).mono ?_
  rintro e w2 ⟨gs, rfl, HR, HB2⟩
  clear hc0 HC0
  obtain ⟨R, HRe⟩ : ∃ R, Hid (R = w.heap.size) := ⟨_, rfl⟩
  have HR2 : Hid (Rec w2 R R n c gs (fun i j => if i < 0 then P i j else 0)) := by rw [HRe.out]; exact HR.out.congr (fun i _ j _ => by rw [if_neg (by omega)])
  rw [← HRe.out]
  go_wp2
  go_loopw [15] (fun q wr => ∃ i : Nat, i ≤ n ∧ q = .int .i64 i ∧ Hid (Rec wr R R n c gs (fun a b => if a < i then P a b else 0)) ∧ Hid (Below w.heap.size w wr)) (fun q _ => n - (intOf q).toNat)
  case atStart => exact ⟨0, Nat.zero_le _, rfl, HR2, HB2⟩
  case round =>
    clear HR2 HB2 HR
    obtain ⟨i, hi, rfl, HR, HB⟩ := hrel
    by_cases hil : i < n
    · have hil' : (i : Int) < (n : Int) := by omega
      obtain ⟨b9, off9, ai, ci, e9, HCi, HSi⟩ := HS.out.rowB (i := i) hil
      simp only [Option.some.injEq, Addr.mk.injEq, and_true] at e9
      obtain ⟨rfl, rfl⟩ := e9
      have hc := HCi.out wr HB.out
      have cR := HR.out.head (i := i) hil
      have hsh := HSi.out wr HB.out
      have hOw := HR.out.t.rows i (by rw [tb_len]; exact hil)
      rw [rvs_at hil, tb_get hil] at hOw
      obtain ⟨hlo, cur, hcur, hsz, _, _, htk⟩ := hOw.block (by rw [tab_length])
      have hrow : wr.heap[gs i]? = some (.cells ((tab c fun j => ((if i < i then P i j else 0 : Nat) : Int)).map (Value.int .i64)).toArray 3 (0, 0)) := by
        rw [hcur]
        congr 2
        rw [← htk, List.take_of_length_le (by rw [Array.length_toList, hsz]; exact Nat.le_refl _)]
      obtain ⟨w3, hrun, HW3⟩ := run_copy_on (cap := ci) hsh (n := c) (by rw [tab_length]) (by rw [tab_length, tab_length]) hrow
      have HR3 : Hid (Rec w3 R R n c gs (fun a b => if a < i + 1 then P a b else 0)) := by
        have h := HR.out.t.refill (i := i) (w' := w3) (zs := tab c fun j => (P i j : Int)) (by rw [tb_len]; exact hil) (fun q hq hlt => HW3.out.2.2 q (fun e => hq (by rw [rvs_at hil, e]; rfl))) (by
          rw [rvs_at hil]
          exact owns_of_row hlo HW3.out.1 (by rw [tab_length]) (by rw [tab_length]; omega))
        have e : (tb n c fun a b => if a < i then P a b else 0).set i (tab c fun j => (P i j : Int)) = tb n c fun a b => if a < i + 1 then P a b else 0 := by
          refine ext_row (by simp [tb_len]) (fun a ha => ?_)
          rw [List.length_set, tb_len] at ha
          unfold row
          rw [getD_set_rows _ _ _ _ (by rw [tb_len]; exact ha), tb_get ha, tb_get ha]
          by_cases e2 : a = i
          · subst e2
            rw [if_pos rfl]
            exact tab_congr (fun j _ => by rw [if_pos (by omega)])
          · rw [if_neg e2]
            refine tab_congr (fun j _ => ?_)
            by_cases e3 : a < i
            · rw [if_pos e3, if_pos (by omega)]
            · rw [if_neg e3, if_neg (by omega)]
        rw [e] at h
        exact ⟨h⟩
      have HB3 : Hid (Below w.heap.size w w3) := HB.out.trans (HW3.out.2.1.mono (by rw [← HRe.out]; exact hlo))
      clear hOw hcur hsz htk hrow hsh
      go_wp2
      go_roundw
      case rel => exact ⟨i + 1, by omega, by go_num, HR3, HB3⟩
      case measure => simp [intOf]; omega
    · obtain rfl : i = n := by omega
      have HT : Hid (Tbl wr w.heap.size (.slice (some ⟨R, 0, none⟩) i i) (tb i c P)) := by
        have h := (HR.out.congr (Q := P) (fun a ha b _ => by rw [if_pos ha])).tbl
        rw [← HRe.out]; exact h
      go_wp2
      go_ret
      exact ⟨_, rfl, HT.out, HB.out⟩

/-- u is the pile Y, in blocks that nothing writes any more -/
def TE (w : World) (lo r c : Nat) (vl u : Value) (Y : List Nat) : Prop :=
  ∃ x y, lo ≤ x ∧ y ≤ w.heap.size ∧ (∀ g, vl.ownBlock = some g → x ≤ g → y ≤ g) ∧ ∀ W : World, (∀ j, x ≤ j → j < y → W.heap[j]? = w.heap[j]?) → Tbl W x u (tb r c (fX c Y))
/-- the closure's memory -/
structure CX (w0 w : World) (H l0 lo g r c : Nat) (gs : Nat → Nat) (Q : Nat → Nat → Nat) (vl : Value) (us : List Value) (L : List (List Nat)) : Prop where
  st : ∀ k, k < lo → k ≠ l0 → (∀ i, i < r → k ≠ gs i) → w.heap[k]? = w0.heap[k]?
  sz : lo ≤ w.heap.size
  lb : w.heap[l0]? = some (.cells #[vl] 39 (0, 0))
  li : w.ownsRow lo 22 1 vl us.length us
  rc : Rec w H g r c gs Q
  lt : l0 < lo ∧ g < lo ∧ g ≠ l0 ∧ ∀ i, i < r → gs i < lo ∧ gs i ≠ l0
  ln : us.length = L.length
  ts : ∀ k, k < L.length → TE w lo r c vl (rowv us k) (L.getD k [])
  be : Below H w0 w
  hh : H ≤ l0

section
variable {w0 w w' : World} {H l0 lo g r c : Nat} {gs : Nat → Nat} {Q Q' : Nat → Nat → Nat} {vl : Value} {us : List Value} {L : List (List Nat)}
theorem CX.congr (h : CX w0 w H l0 lo g r c gs Q vl us L) (e : ∀ i, i < r → ∀ j, j < c → Q i j = Q' i j) : CX w0 w H l0 lo g r c gs Q' vl us L :=
  ⟨h.st, h.sz, h.lb, h.li, h.rc.congr e, h.lt, h.ln, h.ts, h.be, h.hh⟩
theorem CX.below (h : CX w0 w H l0 lo g r c gs Q vl us L) (hb : Below w.heap.size w w') : CX w0 w' H l0 lo g r c gs Q vl us L := by
  have hl : l0 < w.heap.size := Nat.lt_of_lt_of_le h.lt.1 h.sz
  refine ⟨fun k h1 h2 h3 => by rw [hb.block k (Nat.lt_of_lt_of_le h1 h.sz)]; exact h.st k h1 h2 h3, Nat.le_trans h.sz hb.size, by rw [hb.block l0 hl]; exact h.lb, ownsRow_blocks h.li (fun k e => hb.block k (h.li.lt k e).2), h.rc.below hb, h.lt, h.ln, fun k hk => ?_, h.be.trans (hb.mono (Nat.le_trans h.hh (Nat.le_of_lt hl))), h.hh⟩
  obtain ⟨x, y, a1, a2, a3, a4⟩ := h.ts k hk
  exact ⟨x, y, a1, Nat.le_trans a2 hb.size, a3, fun W hW => a4 W (fun j j1 j2 => by rw [hW j j1 j2, hb.block j (by omega)])⟩
/-- a box is stored -/
theorem CX.set {W : World} (h : CX w0 w H l0 lo g r c gs Q vl us L) {i j : Nat} (hi : i < r) (hj : j < c) (x : Nat) (hW : W.heap = w.heap) (hb : Below w.heap.size w W) : CX w0 (W.setCell ⟨gs i, j, none⟩ (.int .i64 (x : Int))) H l0 lo g r c gs (upd Q i j x) vl us L := by
  obtain ⟨b1, b2, b3, b4⟩ := h.lt
  have hg := b4 i hi
  have key : ∀ k, k ≠ gs i → (W.setCell ⟨gs i, j, none⟩ (.int .i64 (x : Int))).heap[k]? = w.heap[k]? := fun k hk => by rw [heap_setCell_other _ _ _ _ hk, hW]
  have hs : (W.setCell ⟨gs i, j, none⟩ (.int .i64 (x : Int))).heap.size = w.heap.size := by simp [hW]
  have hlo := (h.rc.box hi hj).2.2.1
  refine ⟨fun k h1 h2 h3 => by rw [key k (h3 i hi)]; exact h.st k h1 h2 h3, by rw [hs]; exact h.sz, by rw [key l0 (fun e => hg.2 e.symm)]; exact h.lb, ownsRow_blocks h.li (fun k e => key k (by have := (h.li.lt k e).1; omega)), h.rc.set hi x hW, h.lt, h.ln, fun k hk => ?_, (h.be.trans (hb.mono (Nat.le_trans h.hh (Nat.le_of_lt (Nat.lt_of_lt_of_le b1 h.sz))))).setCell (p := ⟨gs i, j, none⟩) hlo _, h.hh⟩
  obtain ⟨p, y, a1, a2, a3, a4⟩ := h.ts k hk
  exact ⟨p, y, a1, by rw [hs]; exact a2, a3, fun W' hW' => a4 W' (fun q j1 j2 => by rw [hW' q j1 j2, key q (by omega)])⟩
/-- the list grows by a pile that was copied since -/
theorem CX.push {w1 w2 : World} {v2 u : Value} {Y : List Nat} (h : CX w0 w H l0 lo g r c gs Q vl us L) (hb : Below w.heap.size w w1) (ht : Tbl w1 w.heap.size u (tb r c (fX c Y))) (ho : w2.ownsRow lo 22 1 v2 (us ++ [u]).length (us ++ [u])) (hb2 : Below lo w1 w2) (hk : KeepB vl v2 w1 w2) :
    CX w0 (w2.setCell ⟨l0, 0, none⟩ v2) H l0 lo g r c gs Q v2 (us ++ [u]) (L ++ [Y]) := by
  have h1 := h.below hb
  obtain ⟨b1, b2, b3, b4⟩ := h.lt
  have hsz := h1.sz
  have hks := hk.size
  have hvl : ∀ k, k < lo → vl.ownBlock ≠ some k := fun k hk2 e => by have := (h.li.lt k e).1; omega
  have key : ∀ k, k < w1.heap.size → vl.ownBlock ≠ some k → k ≠ l0 → (w2.setCell ⟨l0, 0, none⟩ v2).heap[k]? = w1.heap[k]? := fun k a1 a2 a3 => by
    rw [heap_setCell_other _ _ _ _ a3, hk.block k a1 a2]
  have hs : (w2.setCell ⟨l0, 0, none⟩ v2).heap.size = w2.heap.size := by simp
  refine ⟨fun k a1 a2 a3 => by rw [key k (by omega) (hvl k a1) a2]; exact h1.st k a1 a2 a3, by rw [hs]; omega, ?_, ownsRow_blocks ho (fun k e => heap_setCell_other _ _ _ _ (by have := (ho.lt k e).1; show k ≠ l0; omega)), ⟨?_⟩, h.lt, by simp [h.ln], fun k hk' => ?_, ?_, h.hh⟩
  · have e0 : w2.heap[l0]? = some (.cells #[vl] 39 (0, 0)) := by rw [hk.block l0 (by omega) (hvl l0 b1)]; exact h1.lb
    have := heap_setCell_same w2 l0 0 _ _ v2 e0
    simpa using this
  · refine ⟨ownsRow_blocks h1.rc.t.own (fun k e => ?_), h1.rc.t.len, fun i hi => ownsRow_blocks (h1.rc.t.rows i hi) (fun k e => ?_), h1.rc.t.apart, h1.rc.t.off⟩
    · have : k = g := by cases e; rfl
      subst this
      exact key k (by omega) (hvl k b2) b3
    · rw [tb_len] at hi
      rw [rvs_at hi] at e
      have : k = gs i := by cases e; rfl
      subst this
      have := b4 i hi
      exact key _ (by omega) (hvl _ this.1) this.2
  · by_cases e : k < L.length
    · obtain ⟨x, y, a1, a2, a3, a4⟩ := h.ts k e
      have e1 : rowv (us ++ [u]) k = rowv us k := by rw [rowv_push, if_pos (by rw [h.ln]; exact e)]
      have e2 : (L ++ [Y]).getD k [] = L.getD k [] := by simp [List.getD, List.getElem?_append_left e]
      rw [e1, e2]
      have hws := hb.size
      refine ⟨x, y, a1, by rw [hs]; omega, fun gg hg hx => ?_, fun W hW => a4 W (fun j j1 j2 => ?_)⟩
      · rcases hk.lies gg hg with z | z
        · exact a3 gg z hx
        · omega
      · rw [hW j j1 j2, key j (by omega) (fun e3 => by have := a3 j e3 j1; omega) (by omega), hb.block j (by omega)]
    · have hk2 : k = L.length := by rw [List.length_append, List.length_singleton] at hk'; omega
      subst hk2
      have e1 : rowv (us ++ [u]) L.length = u := by rw [rowv_push, if_neg (by rw [h.ln]; omega), if_pos h.ln.symm]
      have e2 : (L ++ [Y]).getD L.length [] = Y := by simp [List.getD]
      rw [e1, e2]
      refine ⟨w.heap.size, w1.heap.size, h.sz, by rw [hs]; omega, fun gg hg hx => ?_, fun W hW => ht.same (fun j j1 j2 => ?_)⟩
      · rcases hk.lies gg hg with z | z
        · have := (h.li.lt gg z).2; omega
        · exact z
      · rw [hW j j1 j2, key j j2 (fun e3 => by have := (h.li.lt j e3).2; omega) (by have := h.sz; omega)]
  · exact (h1.be.trans (hb2.mono (Nat.le_trans h.hh (Nat.le_of_lt b1)))).setCell (p := ⟨l0, 0, none⟩) h.hh _
end

end Go.Proofs.YtbiakncblkjmhaaGreatDoor
