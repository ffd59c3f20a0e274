/-
  ferref.Put.
-/
import Derived.Test.YtcnmndbckjmliaaDoorNRCe
import Derived.Laws.IdiomStrings
import Derived.BigRegion
namespace Go.Proofs.YtcnmndbckjmliaaDoor
open Go.RowKit

theorem pz_first : ∀ s : List UInt8, ∃ t, s ++ [47] = (pz s).getD 0 [] ++ 47 :: t := by
  intro s
  have h1 := pz_join s
  have h2 := pz_cons s
  cases hp : pz s with
  | nil => exact absurd hp (pz_ne s)
  | cons x r =>
    rw [hp] at h1
    cases r with
    | nil => rw [Lib.join_one] at h1; exact ⟨[], by rw [← h1]; rfl⟩
    | cons y r => rw [join_twoz] at h1; exact ⟨Lib.join (y :: r) [47] ++ [47], by rw [← h1]; simp⟩
theorem wid_at {lt : List UInt8} {r c : Nat} {s : List UInt8} (h : Shz lt r c (pz s)) : Lib.indexByte (s ++ [47]) 47 = (c : Int) := by
  obtain ⟨t, ht⟩ := pz_first s
  have e := (shz_eq h).2
  have h1 := h.1
  have h2 := h.2.1
  rw [ht, index_atz _ _ _ (pz_no s _ (by rw [List.getD_eq_getElem?_getD, List.getElem?_eq_getElem (by omega), Option.getD_some]; exact List.getElem_mem _)), ← e]

/-- A row of bytes of the call's own, with what lies behind it. -/
def ByR (w : World) (g : Nat) (l : List UInt8) : Prop := ∃ cs fr, w.heap[g]? = some (.cells cs 5 fr) ∧ (∀ j, j < l.length → cs[j]? = some (.int .u8 ((l.getD j 0).toNat : Int))) ∧ l.length ≤ fr.1
theorem ByR.cell {w : World} {g : Nat} {l : List UInt8} (h : ByR w g l) {j : Nat} (hj : j < l.length) : w.cell? ⟨g, j, none⟩ = some (.int .u8 ((l.getD j 0).toNat : Int)) := by
  obtain ⟨cs, fr, h1, h2, h3⟩ := h
  unfold World.cell?
  simp [h1, h2 j hj]
theorem ByR.frozen {w : World} {g : Nat} {l : List UInt8} (h : ByR w g l) {j : Nat} (hj : j < l.length) : w.frozen? ⟨g, j, none⟩ = false := by
  obtain ⟨cs, fr, h1, h2, h3⟩ := h
  unfold World.frozen?
  simp [h1]
  omega
theorem ByR.store {w : World} {g : Nat} {l : List UInt8} (h : ByR w g l) (j : Nat) (b : UInt8) (hj : j < l.length) : ByR (w.setCell ⟨g, j, none⟩ (.int .u8 (b.toNat : Int))) g (l.set j b) := by
  obtain ⟨cs, fr, h1, h2, h3⟩ := h
  have hjc : j < cs.size := by
    rcases Nat.lt_or_ge j cs.size with q | q
    · exact q
    · have := h2 j hj; rw [Array.getElem?_eq_none q] at this; cases this
  refine ⟨cs.setIfInBounds j (.int .u8 (b.toNat : Int)), fr, ?_, fun k hk => ?_, by rw [List.length_set]; exact h3⟩
  · rw [setCell_eq_setRow w g j cs 5 fr _ h1]; exact setRow_heap w g cs _ 5 fr h1
  · rw [List.length_set] at hk
    by_cases e : k = j
    · subst e
      rw [Array.getElem?_setIfInBounds_self_of_lt hjc]
      simp [List.getD, hk]
    · rw [Array.getElem?_setIfInBounds_ne (Ne.symm e), h2 k hk]
      simp [List.getD, List.getElem?_set_ne (Ne.symm e)]
theorem byr_conv (s : ByteArray) (w : World) (cap : Nat) : ByR (w.drew.alloc (.cells (bytesRow s cap) 5 ((bytesRow s cap).size, (bytesRow s cap).size + 1))) w.heap.size s.data.toList := by
  refine ⟨_, _, heap_alloc_last _ _, fun j hj => ?_, ?_⟩
  · have hj' : j < s.data.size := by simpa using hj
    unfold bytesRow
    rw [Array.getElem?_append_left (by simpa using hj')]
    simp [List.getD, Array.getElem?_eq_getElem hj']
  · unfold bytesRow; simp
theorem ByR.back {w : World} {g cap : Nat} {l : List UInt8} (h : ByR w g l) : (convert 80 9 (.slice (some ⟨g, 0, none⟩) l.length cap)).run Tryd.prog w = .ok (.string ⟨l.toArray⟩) w :=
  run_convert_bytes_back (P := Tryd.prog) w 80 9 5 ⟨g, 0, none⟩ cap l Tryd.underlying80 Tryd.underlying5 Tryd.underlying9 (fun j hj => by
    rw [Addr.add_lit, Nat.zero_add, h.cell hj]
    simp [List.getD, List.getElem?_eq_getElem hj])

theorem four_get {t : ByteArray} {b0 b1 b2 b3 : UInt8} (ht : t.data.toList = [b0, b1, b2, b3]) (hs : t.size = 4) : t[0]'(by omega) = b0 ∧ t[1]'(by omega) = b1 ∧ t[2]'(by omega) = b2 ∧ t[3]'(by omega) = b3 := by
  have e : t = ⟨#[b0, b1, b2, b3]⟩ := ba_extN ht
  subst e
  exact ⟨rfl, rfl, rfl, rfl⟩

set_option maxHeartbeats 4000000 in
set_option maxRecDepth 100000 in
theorem Put_at (s : ByteArray) (r c : Nat) (x y : Nat) (t : ByteArray) (b0 b1 b2 b3 : UInt8) (w : World) (lt : List UInt8) (hz : Shz lt (r + 1) c (pz s.data.toList)) (hx : x + 1 < c) (hy : y + 1 < r + 1) (ht : t.data.toList = [b0, b1, b2, b3]) :
    Calls Tryd.prog 24 #[.string s, .int .i64 (x : Int), .int .i64 (y : Int), .string t] w fun e w' => e = .returned (.string ⟨(putL s.data.toList (c + 1) x y b0 b1 b2 b3).toArray⟩) ∧ Hid (Below w.heap.size w w') := by
  have HZ : Hid (Shz lt (r + 1) c (pz s.data.toList)) := hz
  have hss : s.size ≤ 71 := by have := shz_len hz; rw [ba_len] at this; exact this
  have h47 : (ByteArray.mk #[47]).size = 1 := rfl
  have HI : Hid (Calls Tryd.prog 29 #[.string (s ++ ⟨#[47]⟩), .int .u8 47] w fun e w' => e = .returned (.int .i64 (c : Int)) ∧ w' = w) := by
    have h := IndexB_z (s ++ ⟨#[47]⟩) 47 w
    rw [ByteArray.data_append, Array.toList_append] at h
    have e : Lib.indexByte (s.data.toList ++ (⟨#[47]⟩ : ByteArray).data.toList) 47 = (c : Int) := wid_at HZ.out
    rw [e] at h; exact h
  have hc8 : c ≤ 8 := hz.2.2.2.2.1
  have hr8 : r + 1 ≤ 8 := hz.2.2.1
  have hln : s.size = (r + 1) * (c + 1) - 1 := by
    have e := tx_cef hz
    rw [← ba_len, ← e, tx_length]
  obtain ⟨cap, HCap⟩ : ∃ cap, Hid (cap = grownCap w s.size 0 5) := ⟨_, rfl⟩
  obtain ⟨G, HG⟩ : ∃ G, Hid (G = w.heap.size) := ⟨_, rfl⟩
  obtain ⟨W0, HW0⟩ : ∃ W0, Hid (W0 = w.drew.alloc (.cells (bytesRow s cap) 5 ((bytesRow s cap).size, (bytesRow s cap).size + 1))) := ⟨_, rfl⟩
  have hcv : (convert 9 80 (.string s)).run Tryd.prog w = .ok (.slice (some ⟨G, 0, none⟩) s.size cap) W0 := by
    rw [HW0.out, HCap.out, HG.out]
    exact run_bytes_of_string w 9 80 5 s Tryd.underlying9 Tryd.underlying80 Tryd.underlying5
  have HB0 : Hid (Below w.heap.size w W0) := by rw [HW0.out]; exact (Below.refl _ _).drew.alloc (Nat.le_refl _) _
  obtain ⟨l, HL⟩ : ∃ l, Hid (l = s.data.toList) := ⟨_, rfl⟩
  have HR0 : Hid (ByR W0 G l) := by rw [HW0.out, HG.out, HL.out]; exact byr_conv s w cap
  have HLl : Hid (l.length = s.size) := by show _ = _; rw [HL.out]; exact ba_len s
  obtain ⟨q, hq⟩ : ∃ q, q = y * (c + 1) := ⟨_, rfl⟩
  have hq1 : (y : Int) * ((c : Int) + 1) = (q : Int) := by rw [hq]; simp
  have hq2 : q + (c + 1) + c ≤ s.size := by
    have h1 : (y + 1) * (c + 1) + (c + 1) ≤ (r + 1) * (c + 1) := by
      rw [← Nat.succ_mul]; exact Nat.mul_le_mul_right _ (by omega)
    have h2 : (y + 1) * (c + 1) = q + (c + 1) := by rw [hq, Nat.succ_mul]
    omega
  obtain ⟨k, hk⟩ : ∃ k, k = q + x := ⟨_, rfl⟩
  obtain ⟨q3, hq3⟩ : ∃ q3, q3 = q + (c + 1) := ⟨_, rfl⟩
  obtain ⟨k2, hk2⟩ : ∃ k2, k2 = q3 + x := ⟨_, rfl⟩
  have i1 : (q : Int) + (x : Int) = (k : Int) := by omega
  have i2 : (q : Int) + ((c : Int) + 1) = (q3 : Int) := by omega
  have i3 : (q3 : Int) + (x : Int) = (k2 : Int) := by omega
  have u1 : (k2 : Int) + 1 < (s.size : Int) := by omega
  have u2 : (k2 : Int) < (s.size : Int) := by omega
  have u3 : (k : Int) + 1 < (s.size : Int) := by omega
  have u4 : (k : Int) < (s.size : Int) := by omega
  have v1 : q ≤ 71 := by omega
  have v2 : k ≤ 71 := by omega
  have v3 : q3 ≤ 71 := by omega
  have v4 : k2 ≤ 70 := by omega
  have hts : t.size = 4 := by rw [← ba_len, ht]; rfl
  obtain ⟨a0, h0⟩ : ∃ a : Nat, Hid (a = b0.toNat) := ⟨_, rfl⟩
  obtain ⟨a1, h1⟩ : ∃ a : Nat, Hid (a = b1.toNat) := ⟨_, rfl⟩
  obtain ⟨a2, h2⟩ : ∃ a : Nat, Hid (a = b2.toNat) := ⟨_, rfl⟩
  obtain ⟨a3, h3⟩ : ∃ a : Nat, Hid (a = b3.toNat) := ⟨_, rfl⟩
  have h4 := four_get ht hts
  have e0 : (t[0]'(by omega)).toNat = a0 := by rw [h4.1, h0.out]
  have e1 : (t[1]'(by omega)).toNat = a1 := by rw [h4.2.1, h1.out]
  have e2 : (t[2]'(by omega)).toNat = a2 := by rw [h4.2.2.1, h2.out]
  have e3 : (t[3]'(by omega)).toNat = a3 := by rw [h4.2.2.2, h3.out]
  have HR1 : Hid (ByR (W0.setCell ⟨G, k, none⟩ (.int .u8 (a0 : Int))) G (l.set k b0)) := by rw [h0.out]; exact HR0.out.store k b0 (by rw [HLl.out]; omega)
  have HR2 : Hid (ByR ((W0.setCell ⟨G, k, none⟩ (.int .u8 (a0 : Int))).setCell ⟨G, k + 1, none⟩ (.int .u8 (a1 : Int))) G ((l.set k b0).set (k + 1) b1)) := by rw [h1.out]; exact HR1.out.store (k + 1) b1 (by rw [List.length_set, HLl.out]; omega)
  have HR3 : Hid (ByR (((W0.setCell ⟨G, k, none⟩ (.int .u8 (a0 : Int))).setCell ⟨G, k + 1, none⟩ (.int .u8 (a1 : Int))).setCell ⟨G, k2, none⟩ (.int .u8 (a2 : Int))) G (((l.set k b0).set (k + 1) b1).set k2 b2)) := by rw [h2.out]; exact HR2.out.store k2 b2 (by rw [List.length_set, List.length_set, HLl.out]; omega)
  have HR4 : Hid (ByR ((((W0.setCell ⟨G, k, none⟩ (.int .u8 (a0 : Int))).setCell ⟨G, k + 1, none⟩ (.int .u8 (a1 : Int))).setCell ⟨G, k2, none⟩ (.int .u8 (a2 : Int))).setCell ⟨G, k2 + 1, none⟩ (.int .u8 (a3 : Int))) G ((((l.set k b0).set (k + 1) b1).set k2 b2).set (k2 + 1) b3)) := by rw [h3.out]; exact HR3.out.store (k2 + 1) b3 (by rw [List.length_set, List.length_set, List.length_set, HLl.out]; omega)
  have c0 : W0.drew.cell? ⟨G, k, none⟩ = some (.int .u8 ((l.getD k 0).toNat : Int)) := HR0.out.cell (w := W0) (by rw [HLl.out]; omega)
  have f0 : W0.drew.frozen? ⟨G, k, none⟩ = false := HR0.out.frozen (w := W0) (by rw [HLl.out]; omega)
  have c1 : (W0.setCell ⟨G, k, none⟩ (.int .u8 (a0 : Int))).drew.cell? ⟨G, k + 1, none⟩ = some (.int .u8 (((l.set k b0).getD (k + 1) 0).toNat : Int)) := HR1.out.cell (by rw [List.length_set, HLl.out]; omega)
  have f1 : (W0.setCell ⟨G, k, none⟩ (.int .u8 (a0 : Int))).drew.frozen? ⟨G, k + 1, none⟩ = false := HR1.out.frozen (by rw [List.length_set, HLl.out]; omega)
  have c2 : ((W0.setCell ⟨G, k, none⟩ (.int .u8 (a0 : Int))).setCell ⟨G, k + 1, none⟩ (.int .u8 (a1 : Int))).drew.cell? ⟨G, k2, none⟩ = some (.int .u8 ((((l.set k b0).set (k + 1) b1).getD k2 0).toNat : Int)) := HR2.out.cell (by rw [List.length_set, List.length_set, HLl.out]; omega)
  have f2 : ((W0.setCell ⟨G, k, none⟩ (.int .u8 (a0 : Int))).setCell ⟨G, k + 1, none⟩ (.int .u8 (a1 : Int))).drew.frozen? ⟨G, k2, none⟩ = false := HR2.out.frozen (by rw [List.length_set, List.length_set, HLl.out]; omega)
  have c3 : (((W0.setCell ⟨G, k, none⟩ (.int .u8 (a0 : Int))).setCell ⟨G, k + 1, none⟩ (.int .u8 (a1 : Int))).setCell ⟨G, k2, none⟩ (.int .u8 (a2 : Int))).drew.cell? ⟨G, k2 + 1, none⟩ = some (.int .u8 (((((l.set k b0).set (k + 1) b1).set k2 b2).getD (k2 + 1) 0).toNat : Int)) := HR3.out.cell (by rw [List.length_set, List.length_set, List.length_set, HLl.out]; omega)
  have f3 : (((W0.setCell ⟨G, k, none⟩ (.int .u8 (a0 : Int))).setCell ⟨G, k + 1, none⟩ (.int .u8 (a1 : Int))).setCell ⟨G, k2, none⟩ (.int .u8 (a2 : Int))).drew.frozen? ⟨G, k2 + 1, none⟩ = false := HR3.out.frozen (by rw [List.length_set, List.length_set, List.length_set, HLl.out]; omega)
  obtain ⟨W5, HW5⟩ : ∃ W5, Hid (W5 = ((((W0.setCell ⟨G, k, none⟩ (.int .u8 (a0 : Int))).setCell ⟨G, k + 1, none⟩ (.int .u8 (a1 : Int))).setCell ⟨G, k2, none⟩ (.int .u8 (a2 : Int))).setCell ⟨G, k2 + 1, none⟩ (.int .u8 (a3 : Int))).drew) := ⟨_, rfl⟩
  obtain ⟨L, HLL⟩ : ∃ L, Hid (L = (((l.set k b0).set (k + 1) b1).set k2 b2).set (k2 + 1) b3) := ⟨_, rfl⟩
  have HL5 : Hid (L.length = s.size) := by show _ = _; rw [HLL.out, List.length_set, List.length_set, List.length_set, List.length_set]; exact HLl.out
  have hback : (convert 80 9 (.slice (some ⟨G, 0, none⟩) s.size cap)).run Tryd.prog W5 = .ok (.string ⟨L.toArray⟩) W5 := by
    have h : ByR W5 G L := by rw [HW5.out, HLL.out]; exact HR4.out
    have := h.back (cap := cap)
    rw [HL5.out] at this; exact this
  have HB5 : Hid (Below w.heap.size w W5) := by
    have hs : ∀ (W : World) (j : Nat) (v : Value), Below w.heap.size w W → Below w.heap.size w (W.setCell ⟨G, j, none⟩ v) := fun W j v hb =>
      hb.trans ⟨rfl, rfl, rfl, by simp, fun i hi => heap_setCell_other _ _ _ _ (show i ≠ G by have := HG.out; omega)⟩
    rw [HW5.out]
    exact (hs _ _ _ (hs _ _ _ (hs _ _ _ (hs _ _ _ HB0.out)))).drew
  have HPut : Hid (L = putL s.data.toList (c + 1) x y b0 b1 b2 b3) := by
    show _ = _
    rw [HLL.out, HL.out]
    unfold putL
    rw [show y * (c + 1) + x = k by omega, show y * (c + 1) + (x + 1) = k + 1 by omega, show (y + 1) * (c + 1) + x = k2 by rw [Nat.succ_mul]; omega, show (y + 1) * (c + 1) + (x + 1) = k2 + 1 by rw [Nat.succ_mul]; omega]
  rw [← HPut.out]
  clear h4 hln hq2
  clear hz hq hk hq3 hk2
  go_enter Tryd.func24, Tryd.ntmps24
  go_upto_region 3 with (go_at_call 29; with_reducible (refine HI.out.mono ?_); rintro e w1 ⟨rfl, rfl⟩)
  go_region
  rw [← HW5.out]
  go_wp2_with fail
  go_ret
  exact ⟨rfl, HB5⟩

end Go.Proofs.YtcnmndbckjmliaaDoor
