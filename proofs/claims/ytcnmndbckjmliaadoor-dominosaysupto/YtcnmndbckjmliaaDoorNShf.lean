/-
  Builder.WriteByte, Write, String and strings.Split, IndexByte as package domino calls them.
-/
import Derived.Test.YtcnmndbckjmliaaDoorNDmm
import Derived.Test.YtcnmndbckjmliaaDoorShelf
import Derived.Test.YtcnmndbckjmliaaDoorBApp
import Derived.Lib.SplitLaws
import Derived.Lib.IndexBytes
import Derived.Lib.Join
import Derived.Lib.BufferWrite
namespace Go.Proofs.YtcnmndbckjmliaaDoor
open Go.RowKit

theorem isb_belowN {T e : TypeId} {B b : Nat} {bs : List Value} {w w' : World} (h : Lib.IsBuilder T e B b bs w) (hb : Below w.heap.size w w') : Lib.IsBuilder T e B b bs w' := by
  have key : ∀ p, Lib.BuilderAt T e B b p bs w → Lib.BuilderAt T e B b p bs w' := fun p h => by
    have hl := h.lt
    obtain ⟨hB, v, h1, h2, h3⟩ := h
    exact ⟨hB, v, by rw [hb.block b hl]; exact h1, ownsRow_blocks h2 (fun k e => hb.block k (h2.lt k e).2), h3⟩
  rcases h with h | h
  · exact Or.inl (key _ h)
  · exact Or.inr (key _ h)
theorem WriteB_z (B b : Nat) (l : List UInt8) (x : UInt8) (w : World) (h : Lib.IsBuilder 97 5 B b (Lib.byteCells l) w) (hlen : l.length ≤ 100000000) (hBw : B ≤ w.heap.size) :
    Calls Tryd.prog 58 #[.pointer (some ⟨b, 0, none⟩), .int .u8 (x.toNat : Int)] w fun e w' => e = .returned .nilIface ∧ Hid (Lib.IsBuilder 97 5 B b (Lib.byteCells (l ++ [x])) w') ∧ Hid (Below B w w') := by
  have hc := Any.Builder_WriteByte Go.Proofs.Tryd.lays167 Go.Proofs.Tryd.Builder_Extra_167 B b (Lib.byteCells l) (x.toNat : Int) w h (by rw [Lib.byteCells_length]; omega) hBw
  refine Calls.mono hc ?_
  rintro e w' ⟨rfl, h1, h2⟩
  refine ⟨rfl, Or.inr ?_, h2⟩
  rw [Lib.byteCells_append]
  exact h1
theorem Write_z (B b : Nat) (l s : List UInt8) (G o m c : Nat) (w : World) (h : Lib.IsBuilder 97 5 B b (Lib.byteCells l) w) (hm : m = s.length) (hs : ∀ j, j < s.length → w.cell? ⟨G, o + j, none⟩ = some (.int .u8 ((s.getD j 0).toNat : Int))) (hG : G < B) (hlen : l.length + s.length ≤ 100000000) (hBw : B ≤ w.heap.size) :
    Calls Tryd.prog 59 #[.pointer (some ⟨b, 0, none⟩), .slice (some ⟨G, o, none⟩) m c] w fun e w' => e = .returned (.tuple #[.int .i64 (m : Int), .nilIface]) ∧ Hid (Lib.IsBuilder 97 5 B b (Lib.byteCells (l ++ s)) w') ∧ Hid (Below B w w') := by
  subst hm
  have hc := Any7.Builder_Write Go.Proofs.Tryd.lays35 { Go.Proofs.Tryd.lays167 with } Go.Proofs.Tryd.Builder_Extra_167 rfl rfl rfl B b (Lib.byteCells l) ⟨G, o, none⟩ s.length c (Lib.byteCells s) w h (Lib.byteCells_length _) (fun j u hu => by
      have hj : j < s.length := by
        rw [← Lib.byteCells_length s]
        rcases Nat.lt_or_ge j (Lib.byteCells s).length with q | q
        · exact q
        · rw [List.getElem?_eq_none q] at hu; cases hu
      have e : (Lib.byteCells s)[j]? = some (.int .u8 ((s.getD j 0).toNat : Int)) := by
        unfold Lib.byteCells
        rw [List.getElem?_map, List.getElem?_eq_getElem hj]
        simp [List.getD, List.getElem?_eq_getElem hj]
      rw [e] at hu
      obtain rfl := Option.some.inj hu
      have hadd : (⟨G, o, none⟩ : Addr).add j = ⟨G, o + j, none⟩ := by unfold Addr.add; split <;> simp_all
      rw [hadd]
      exact hs j hj) hG (Lib.byteCells_one s) (by rw [Lib.byteCells_length]; omega) hBw
  refine Calls.mono hc ?_
  rintro e w' ⟨rfl, h1, h2⟩
  refine ⟨rfl, Or.inr ?_, h2⟩
  rw [Lib.byteCells_append]
  exact h1

theorem index_atz (x : List UInt8) (c : UInt8) (t : List UInt8) (h : c ∉ x) : Lib.indexByte (x ++ c :: t) c = (x.length : Int) := by
  induction x with
  | nil => simp [Lib.indexByte]
  | cons b x ih =>
    have h1 : b ≠ c := fun e => h (by simp [e])
    have h2 := ih (fun e => h (by simp [e]))
    rw [List.cons_append, Lib.indexByte, if_neg (by simpa using h1), h2, if_neg (by simp <;> omega)]
    simp
theorem index_mem (x : List UInt8) (c : UInt8) : (0 ≤ Lib.indexByte x c) ↔ c ∈ x := by
  induction x with
  | nil => simp [Lib.indexByte]
  | cons b x ih =>
    have hg := Lib.indexByte_ge x c
    rw [Lib.indexByte]
    by_cases e : b = c
    · subst e; simp
    · rw [if_neg (by simpa using e)]
      by_cases e2 : Lib.indexByte x c = -1
      · rw [if_pos (by simpa using e2)]
        have : c ∉ x := fun q => by have := ih.2 q; omega
        simp [this, Ne.symm e]
      · rw [if_neg (by simpa using e2)]
        have : c ∈ x := ih.1 (by omega)
        simp [this]; omega
theorem split_joinz (c : UInt8) : ∀ (xs : List (List UInt8)), xs ≠ [] → (∀ x ∈ xs, c ∉ x) → Lib.split (Lib.join xs [c]) [c] = xs ∧ (Lib.join xs [c]).count c + 1 = xs.length := by
  intro xs
  induction xs with
  | nil => intro h; exact absurd rfl h
  | cons x xs ih =>
    intro _ hx
    cases xs with
    | nil =>
      rw [Lib.join_one]
      have h0 : x.count c = 0 := List.count_eq_zero.2 (hx x (by simp))
      refine ⟨?_, by rw [h0]; rfl⟩
      unfold Lib.split
      rw [Lib.count_one, h0]; rfl
    | cons y r =>
      obtain ⟨h1, h2⟩ := ih (by simp) (fun z hz => hx z (by simp [hz]))
      have hc : c ∉ x := hx x (by simp)
      have e : Lib.join (x :: y :: r) [c] = x ++ c :: Lib.join (y :: r) [c] := join_twoz x y r c
      have hcnt : (Lib.join (x :: y :: r) [c]).count c = (Lib.join (y :: r) [c]).count c + 1 := by
        rw [e, List.count_append, List.count_eq_zero.2 hc, List.count_cons_self]; omega
      refine ⟨?_, by rw [hcnt, h2]; simp⟩
      unfold Lib.split at h1 ⊢
      rw [Lib.count_one] at h1 ⊢
      rw [hcnt]
      have hix : Lib.index (Lib.join (x :: y :: r) [c]) [c] = (x.length : Int) := by rw [Lib.index_one, e]; exact index_atz x c _ hc
      rw [Lib.splitK, if_neg (by rw [hix]; simp <;> omega), hix]
      have e1 : (Lib.join (x :: y :: r) [c]).take (((x.length : Int)).toNat + 0) = x := by rw [e]; simp
      have e2 : (Lib.join (x :: y :: r) [c]).drop (((x.length : Int)).toNat + ([c] : List UInt8).length) = Lib.join (y :: r) [c] := by rw [e]; simp
      rw [e1, e2, h1]

/-- The pieces of a text, in a block of their own. -/
def PcZ (w : World) (X : Nat) (P : List ByteArray) : Prop := w.heap[X]? = some (.cells (P.map Value.string).toArray 9 (0, 0))
theorem PcZ.cell {w : World} {X : Nat} {P : List ByteArray} (h : PcZ w X P) {i : Nat} (hi : i < P.length) : w.cell? ⟨X, i, none⟩ = some (.string P[i]) := by
  rw [cell_of_row w X i _ _ _ h]; simp [hi]
set_option maxHeartbeats 1000000 in
theorem Split_z (s : ByteArray) (m : Int) (w : World) (hl : s.size ≤ 4000000000) (hm : w.cell? ⟨0, 0, none⟩ = some (.int .i64 m)) :
    Calls Tryd.prog 43 #[.string s, .string ⟨#[47]⟩] w fun e w' => ∃ P : List ByteArray, Hid (P.map (·.data.toList) = pz s.data.toList) ∧ e = .returned (.slice (some ⟨w.heap.size, 0, none⟩) P.length P.length) ∧ w' = w.alloc (.cells (P.map Value.string).toArray 9) := by
  have h := split_joinz 47 (pz s.data.toList) (pz_ne _) (pz_no _)
  rw [pz_join] at h
  have e : (Lib.splitB ⟨#[47]⟩ 0 (Lib.countB s ⟨#[47]⟩) s).map (·.data.toList) = pz s.data.toList := by
    rw [Lib.splitB_data]
    have := h.1
    unfold Lib.split at this
    exact this
  have e2 : Lib.countB s ⟨#[47]⟩ + 1 = (Lib.splitB ⟨#[47]⟩ 0 (Lib.countB s ⟨#[47]⟩) s).length := by
    have hl := congrArg List.length e
    rw [List.length_map] at hl
    rw [hl, ← h.2]
    show Lib.count s.data.toList [47] + 1 = _
    rw [Lib.count_one]
  refine (Go.Proofs.Tryd.strings_Split s ⟨#[47]⟩ m w (by omega) hm (Nat.le_refl 1)).mono ?_
  rintro e' w' ⟨rfl, rfl⟩
  exact ⟨_, e, by rw [e2], rfl⟩
theorem IndexB_z (s : ByteArray) (x : UInt8) (w : World) :
    Calls Tryd.prog 29 #[.string s, .int .u8 (x.toNat : Int)] w fun e w' => e = .returned (.int .i64 (Lib.indexByte s.data.toList x)) ∧ w' = w := by
  refine (Go.Proofs.Tryd.strings_IndexByte s (x.toNat : Int) w).mono ?_
  rintro e w' ⟨rfl, rfl⟩
  refine ⟨?_, rfl⟩
  have : ((x.toNat : Int)).toNat.toUInt8 = x := by
    rw [Int.toNat_natCast]; exact UInt8.ofNat_toNat
  rw [this]

end Go.Proofs.YtcnmndbckjmliaaDoor
