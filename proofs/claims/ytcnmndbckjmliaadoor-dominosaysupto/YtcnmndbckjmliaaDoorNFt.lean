/-
  ferref.FirstTiling.
-/
import Derived.Test.YtcnmndbckjmliaaDoorNTl
import Derived.Test.YtcnmndbckjmliaaDoorNFg
import Derived.Test.YtcnmndbckjmliaaDoorTApp
namespace Go.Proofs.YtcnmndbckjmliaaDoor
open Go.RowKit
open Go.ChangeMaps

/-- A row of bytes of the call's own, wherever it may be written. -/
def ByQ (w : World) (g : Nat) (l : List UInt8) : Prop := ∃ cs fr, w.heap[g]? = some (.cells cs 5 fr) ∧ (∀ j, j < l.length → cs[j]? = some (.int .u8 ((l.getD j 0).toNat : Int))) ∧ ∀ j, j < l.length → ¬ (fr.1 ≤ j ∧ j < fr.2)
theorem ByR.q {w : World} {g : Nat} {l : List UInt8} (h : ByR w g l) : ByQ w g l := by
  obtain ⟨cs, fr, h1, h2, h3⟩ := h
  exact ⟨cs, fr, h1, h2, fun j hj q => by omega⟩
theorem ByQ.lt {w : World} {g : Nat} {l : List UInt8} (h : ByQ w g l) : g < w.heap.size := by
  obtain ⟨cs, fr, h1, _⟩ := h
  exact lt_someN h1
theorem ByQ.same {w w' : World} {g : Nat} {l : List UInt8} (h : ByQ w g l) (hb : w'.heap[g]? = w.heap[g]?) : ByQ w' g l := by
  obtain ⟨cs, fr, h1, h2, h3⟩ := h
  exact ⟨cs, fr, by rw [hb]; exact h1, h2, h3⟩
theorem ByQ.cell {w : World} {g : Nat} {l : List UInt8} (h : ByQ w g l) {j : Nat} (hj : j < l.length) : w.cell? ⟨g, j, none⟩ = some (.int .u8 ((l.getD j 0).toNat : Int)) := by
  obtain ⟨cs, fr, h1, h2, h3⟩ := h
  unfold World.cell?
  simp [h1, h2 j hj]
theorem ByQ.frozen {w : World} {g : Nat} {l : List UInt8} (h : ByQ w g l) {j : Nat} (hj : j < l.length) : w.frozen? ⟨g, j, none⟩ = false := by
  obtain ⟨cs, fr, h1, h2, h3⟩ := h
  have := h3 j hj
  unfold World.frozen?
  simp [h1]
  omega
theorem ByQ.store {w : World} {g : Nat} {l : List UInt8} (h : ByQ w g l) (j : Nat) (b : UInt8) (hj : j < l.length) : ByQ (w.setCell ⟨g, j, none⟩ (.int .u8 (b.toNat : Int))) g (l.set j b) := by
  obtain ⟨cs, fr, h1, h2, h3⟩ := h
  have hjc : j < cs.size := by
    rcases Nat.lt_or_ge j cs.size with q | q
    · exact q
    · have := h2 j hj; rw [Array.getElem?_eq_none q] at this; cases this
  refine ⟨cs.setIfInBounds j (.int .u8 (b.toNat : Int)), fr, ?_, fun k hk => ?_, by rw [List.length_set]; exact h3⟩
  · rw [setCell_eq_setRow w g j cs 5 fr _ h1]; exact setRow_heap w g cs _ 5 fr h1
  · rw [List.length_set] at hk
    by_cases e : k = j
    · subst e
      rw [Array.getElem?_setIfInBounds_self_of_lt hjc]
      simp [List.getD, hk]
    · rw [Array.getElem?_setIfInBounds_ne (Ne.symm e), h2 k hk]
      simp [List.getD, List.getElem?_set_ne (Ne.symm e)]
theorem ByQ.back {w : World} {g cap : Nat} {l : List UInt8} (h : ByQ w g l) : (convert 80 9 (.slice (some ⟨g, 0, none⟩) l.length cap)).run Tryd.prog w = .ok (.string ⟨l.toArray⟩) w :=
  run_convert_bytes_back (P := Tryd.prog) w 80 9 5 ⟨g, 0, none⟩ cap l Tryd.underlying80 Tryd.underlying5 Tryd.underlying9 (fun j hj => by
    rw [Addr.add_lit, Nat.zero_add, h.cell hj]
    simp [List.getD, List.getElem?_eq_getElem hj])
theorem infoU8 : (Tryd.prog.info? 5).map (fun i => (i.zero, i.size, i.bytes)) = some (some (.int .u8 0), 1, 1) := by kernel_rfl
/-- A copy of a row of bytes: 'append' to nothing. -/
theorem append_copyQ {w : World} {G n cap : Nat} {l : List UInt8} {ops : Array Oper} {rest : List Oper} {o : Oper} {a : Act} {Q : Exit → Act → World → Prop} (hgd : o.guard = none) (s z : Operand)
    (ho : o.op = .call { callee := .builtin .append, args := #[s, z], argTypes := #[80, 80] }) (hs : a.eval s = .slice none 0 0) (hx : a.eval z = .slice (some ⟨G, 0, none⟩) n cap) (hQ : ByQ w G l) (hn : n = l.length) (h1 : 0 < l.length) (h2 : l.length ≤ 1000)
    (h : ∀ g cp w', Hid (w.heap.size ≤ g) → Hid (ByQ w' g l) → Hid (Below w.heap.size w w') → wpList Tryd.prog ops Q rest (a.put o.dst (.slice (some ⟨g, 0, none⟩) n cp)) w') :
    wpList Tryd.prog ops Q (o :: rest) a w := by
  subst hn
  refine wpList_plain hgd fun K hK => ?_
  obtain ⟨i0, hi, hz0, hz1, hz2⟩ := info_parts infoU8
  have hml : (1001 : Nat) ≤ maxLen := by decide
  have hl : (l.map fun b => Value.int .u8 (b.toNat : Int)).length = l.length := List.length_map ..
  obtain ⟨v', w', hrun, r1, r2, _⟩ := run_append_own (P := Tryd.prog) w w.heap.size 80 o.type 5 i0 (.int .u8 0) 1 1 Tryd.underlying80 hi hz0 hz1 hz2 rfl (by decide) (.slice none 0 0) 0 [] (World.ownsRow_nil _ _ _ _) ⟨G, 0, none⟩ l.length cap (l.map fun b => Value.int .u8 (b.toNat : Int)) (by simp)
    (fun j u hj => by
      have hjl : j < l.length := by have := (List.getElem?_eq_some_iff.1 hj).1; simpa using this
      rw [Addr.add_lit, Nat.zero_add, hQ.cell hjl, ← hj]
      simp [List.getD, List.getElem?_eq_getElem hjl])
    (fun u hu => by obtain ⟨b, _, rfl⟩ := List.mem_map.1 hu; rfl) (by omega) (by omega) (Nat.le_refl _)
  rcases r1.2 with ⟨_, h0⟩ | ⟨g, cp, cur, hv, hg, hh, hnc, hcm, hcs', htk⟩
  · omega
  · subst hv
    have hB : Below w.heap.size w w' := (Below.refl _ w).grown r2 (Nat.le_refl _) (fun k hk => by cases hk)
    have hQ' : ByQ w' g l := by
      refine ⟨cur, (0, 0), hh, fun j hj => ?_, fun j _ q => by omega⟩
      have e : (l.map fun b => Value.int .u8 (b.toNat : Int))[j]? = some (.int .u8 ((l.getD j 0).toNat : Int)) := by
        rw [List.getElem?_map, List.getElem?_eq_getElem hj]
        simp [List.getD, List.getElem?_eq_getElem hj]
      have htk' : cur.toList.take l.length = l.map fun b => Value.int .u8 (b.toNat : Int) := by simpa using htk
      rw [← htk', List.getElem?_take_of_lt hj] at e
      simpa using e
    have hz : 0 + l.length = l.length := Nat.zero_add _
    rw [hz] at hrun
    unfold Oper.wp
    simp [execOp, ho, resolve, invoke, builtin, hs, hx, hrun, Result.andThen]
    exact hK _ _ (h g cp w' hg hQ' hB)
/-- No open cell ahead of place p of the text. -/
def NoP (r c : Nat) (g : Nat → UInt8) (p : Nat) : Prop := ∀ i, i < r + 1 → ∀ j, j < c → i * (c + 1) + j < p → g (i * 8 + j) ≠ 35
theorem fst_is {k q : Nat} (hk : k ≤ allC) (hq : q < 64) (h1 : k.testBit q = false) (h2 : ∀ z, z < q → k.testBit z = true) : k < allC ∧ fstC k = q := by
  have hlt : k < allC := by
    rcases Nat.lt_or_ge k allC with z | z
    · exact z
    · obtain rfl : k = allC := by omega
      rw [allC_bit q hq] at h1; cases h1
  obtain ⟨a, b, d⟩ := fst_spec hlt
  refine ⟨hlt, ?_⟩
  rcases Nat.lt_trichotomy (fstC k) q with e | e | e
  · rw [h2 _ e] at b; cases b
  · exact e
  · rw [d q e] at h1; cases h1
/-- The place of an open cell. -/
theorem place_at {r c : Nat} {g : Nat → UInt8} {p : Nat} (h : (tx (r + 1) c g)[p]? = some 35) : ∃ i j, i < r + 1 ∧ j < c ∧ p = i * (c + 1) + j ∧ g (i * 8 + j) = 35 := by
  have hp : p < (tx (r + 1) c g).length := (List.getElem?_eq_some_iff.1 h).1
  rw [tx_length] at hp
  have e : p = p / (c + 1) * (c + 1) + p % (c + 1) := by rw [Nat.mul_comm]; exact (Nat.div_add_mod p (c + 1)).symm
  have hm : p % (c + 1) < c + 1 := Nat.mod_lt _ (by omega)
  have hi : p / (c + 1) < r + 1 := by
    rcases Nat.lt_or_ge (p / (c + 1)) (r + 1) with q | q
    · exact q
    · have := Nat.mul_le_mul_right (c + 1) q
      omega
  by_cases hj : p % (c + 1) < c
  · refine ⟨_, _, hi, hj, e, ?_⟩
    rw [e, tx_get r c g _ _ hi hj] at h
    exact Option.some.inj h
  · have hjc : p % (c + 1) = c := by omega
    have hir : p / (c + 1) < r := by
      rcases Nat.lt_or_ge (p / (c + 1)) r with q | q
      · exact q
      · have hq : p / (c + 1) = r := by omega
        rw [hjc, hq] at e
        rw [Nat.succ_mul] at hp
        omega
    rw [e, hjc, tx_end r c g _ hir] at h
    exact absurd (Option.some.inj h) (by decide)
theorem NoP.next {r c : Nat} {g : Nat → UInt8} {p : Nat} (h : NoP r c g p) (hn : (tx (r + 1) c g)[p]? ≠ some 35) : NoP r c g (p + 1) := fun i hi j hj hlt e => by
  by_cases q : i * (c + 1) + j = p
  · apply hn; rw [← q, tx_get r c g i j hi hj, e]
  · exact h i hi j hj (by omega) e
theorem NoP.first {r c : Nat} {g : Nat → UInt8} {i j k : Nat} (hk : MskP (r + 1) c g k) (hr : r + 1 ≤ 8) (hc : c ≤ 8) (hi : i < r + 1) (hj : j < c) (h : NoP r c g (i * (c + 1) + j)) (ho : g (i * 8 + j) = 35) : k < allC ∧ fstC k = i * 8 + j := by
  refine fst_is hk.1 (by omega) ?_ fun z hz => ?_
  · rw [hk.2 _ (by omega), isC_iff.2 ⟨by omega, by omega, ho⟩]; rfl
  · rw [hk.2 z (by omega)]
    have e : isC (r + 1) c g z = false := by
      rw [Bool.eq_false_iff]
      intro q
      obtain ⟨a, b, d⟩ := isC_iff.1 q
      refine h (z / 8) a (z % 8) b ?_ (by rw [show z / 8 * 8 + z % 8 = z by omega]; exact d)
      by_cases e : z / 8 = i
      · rw [e]; omega
      · have h2 : (z / 8 + 1) * (c + 1) ≤ i * (c + 1) := Nat.mul_le_mul_right _ (by omega)
        rw [Nat.succ_mul] at h2
        omega
    rw [e]; rfl
theorem may_right {r c : Nat} {g : Nat → UInt8} {i j k : Nat} (hk : MskP (r + 1) c g k) (hr : r + 1 ≤ 8) (hc : c ≤ 8) (hi : i < r + 1) (hj : j < c) (hf : fstC k = i * 8 + j) : mayL k = true ↔ j + 1 < c ∧ g (i * 8 + (j + 1)) = 35 := by
  unfold mayL
  rw [hf]
  simp only [Bool.and_eq_true, decide_eq_true_eq, Bool.not_eq_true']
  constructor
  · rintro ⟨a, b⟩
    rw [hk.2 _ (by omega)] at b
    have b2 : isC (r + 1) c g (i * 8 + j + 1) = true := by revert b; cases isC (r + 1) c g (i * 8 + j + 1) <;> simp
    obtain ⟨q1, q2, q3⟩ := isC_iff.1 b2
    exact ⟨by omega, q3⟩
  · rintro ⟨a, b⟩
    refine ⟨by omega, ?_⟩
    show k.testBit (i * 8 + (j + 1)) = false
    rw [hk.2 _ (by omega), isC_iff.2 ⟨by omega, by omega, b⟩]; rfl
theorem may_below {r c : Nat} {g : Nat → UInt8} {i j k : Nat} (hk : MskP (r + 1) c g k) (hr : r + 1 ≤ 8) (hc : c ≤ 8) (hi : i < r + 1) (hj : j < c) (hf : fstC k = i * 8 + j) : mayS k = true ↔ i + 1 < r + 1 ∧ g ((i + 1) * 8 + j) = 35 := by
  unfold mayS
  rw [hf]
  simp only [Bool.and_eq_true, decide_eq_true_eq, Bool.not_eq_true']
  rw [show (i + 1) * 8 + j = i * 8 + j + 8 by omega]
  constructor
  · rintro ⟨a, b⟩
    rw [hk.2 _ (by omega)] at b
    have b2 : isC (r + 1) c g (i * 8 + j + 8) = true := by revert b; cases isC (r + 1) c g (i * 8 + j + 8) <;> simp
    obtain ⟨q1, q2, q3⟩ := isC_iff.1 b2
    exact ⟨by omega, q3⟩
  · rintro ⟨a, b⟩
    refine ⟨by omega, ?_⟩
    rw [hk.2 _ (by omega), isC_iff.2 ⟨by omega, by omega, b⟩]; rfl
/-- What holds while the tiling is laid. -/
structure FtI (r c x0 : Nat) (g gl f : Nat → UInt8) (k p : Nat) : Prop where
  msk : MskP (r + 1) c gl k
  run : FG x0 g k f
  pos : 0 < cntC k
  lets : ∀ i, i < r + 1 → ∀ j, j < c → gl (i * 8 + j) ∈ bdL
  none : NoP r c gl p
theorem NoP.up {r c : Nat} {g : Nat → UInt8} {p a b : Nat} (h : NoP r c g p) : NoP r c (up2 g a 46 b 46) p := fun i hi j hj hlt e => by
  unfold up2 upB at e
  split at e
  · exact absurd e (by decide)
  · split at e
    · exact absurd e (by decide)
    · exact h i hi j hj hlt e
theorem up_letters {r c : Nat} {g : Nat → UInt8} {a b : Nat} (h : ∀ i, i < r + 1 → ∀ j, j < c → g (i * 8 + j) ∈ bdL) : ∀ i, i < r + 1 → ∀ j, j < c → up2 g a 46 b 46 (i * 8 + j) ∈ bdL := fun i hi j hj => by
  unfold up2 upB
  split
  · decide
  · split
    · decide
    · exact h i hi j hj
theorem FtI.done {r c x0 : Nat} {g gl f : Nat → UInt8} {k p : Nat} (h : FtI r c x0 g gl f k p) (hp : (r + 1) * (c + 1) - 1 ≤ p) : f = fstG 64 x0 g := by
  have e : k = allC := none_all h.msk fun i hi j hj => h.none i hi j hj (by
    have h1 : (i + 1) * (c + 1) ≤ (r + 1) * (c + 1) := Nat.mul_le_mul_right _ (by omega)
    rw [Nat.succ_mul] at h1
    omega)
  have := h.run
  rw [e] at this
  exact this.done
theorem FtI.stand {r c x0 : Nat} {g gl f : Nat → UInt8} {k p : Nat} (h : FtI r c x0 g gl f k p) (hk : k < allC) (hno : ¬ (mayL k = true ∧ 0 < cntC (lieC k))) : mayS k = true ∧ 0 < cntC (staC k) := by
  have h0 := h.pos
  rw [cntC_step hk] at h0
  have hz : (if mayL k = true then cntC (lieC k) else 0) = 0 := by
    by_cases q : mayL k = true
    · rw [if_pos q]
      rcases Nat.eq_zero_or_pos (cntC (lieC k)) with e | e
      · exact e
      · exact absurd ⟨q, e⟩ hno
    · rw [if_neg q]
  rw [hz, Nat.zero_add] at h0
  by_cases q : mayS k = true
  · rw [if_pos q] at h0; exact ⟨q, h0⟩
  · rw [if_neg q] at h0; omega

end Go.Proofs.YtcnmndbckjmliaaDoor
