/-
  The contract of slides.rowsOfNumbers.
-/
import Derived.Test.YtpbkidgdpejenaeSWrd
import Derived.Test.YtpbkidgdpejenaeSPrm
namespace Go.Proofs.Ytpbkidgdpejenae
open Go.RowKit

/-- The numbers of the first rows, of the first boxes of row i, are done. -/
structure Nums (o : List (List Int)) (N i j : Nat) (L : List Int) : Prop where
  len : L.length = N
  at' : ∀ a b, b < (row o a).length → (a < i ∨ (a = i ∧ b < j)) → L.getD ((box o a b).toNat - 1) 0 = (a : Int)
theorem Nums.step {o : List (List Int)} {N i j : Nat} {L : List Int} (h : Nums o N i j L) (ho : Std N o) (hj : j < (row o i).length) : Nums o N i (j + 1) (L.set ((box o i j).toNat - 1) (i : Int)) := by
  refine ⟨by rw [List.length_set]; exact h.len, fun a b hb hd => ?_⟩
  have hb1 := ho.box hb
  have hb2 := ho.box hj
  rw [getD_set, h.len]
  by_cases e : a = i ∧ b = j
  · rw [if_pos ⟨by rw [e.1, e.2], by omega⟩, e.1]
  · have hne : box o a b ≠ box o i j := fun q => by
      have := ho.dis (o.length + 1) 0 a b i j hb hj (fun z => by have := row_lt hb; have := z.1; omega) (fun z => by have := row_lt hj; have := z.1; omega) q
      exact e this
    rw [if_neg (fun z => by have := z.1; omega)]
    exact h.at' a b hb (by
      rcases hd with q | q
      · exact Or.inl q
      · right; exact ⟨q.1, by have : b ≠ j := fun z => e ⟨q.1, z⟩; omega⟩)
theorem Nums.next {o : List (List Int)} {N i : Nat} {L : List Int} (h : Nums o N i (row o i).length L) : Nums o N (i + 1) 0 L :=
  ⟨h.len, fun a b hb hd => h.at' a b hb (by
    rcases hd with q | q
    · by_cases e : a = i
      · right; exact ⟨e, by rw [← e]; exact hb⟩
      · left; omega
    · omega)⟩
theorem Nums.done {o : List (List Int)} {N : Nat} {L : List Int} (h : Nums o N o.length 0 L) (ho : Std N o) : ∃ rows : List Nat, L = rows.map (fun k : Nat => (k : Int)) ∧ RowsOf o N rows := by
  have hall : ∀ m, m < N → ∃ a b, b < (row o a).length ∧ (box o a b).toNat - 1 = m := fun m hm => by
    obtain ⟨a, b, ha, hb, e⟩ := flat_mem (wrd_mem.1 (ho.all (v := (m : Int) + 1) (by omega) (by omega)))
    exact ⟨a, b, hb, by rw [e]; omega⟩
  have hnn : ∀ m, m < N → 0 ≤ L.getD m 0 := fun m hm => by
    obtain ⟨a, b, hb, e⟩ := hall m hm
    have := h.at' a b hb (Or.inl (row_lt hb))
    rw [e] at this
    omega
  refine ⟨L.map Int.toNat, ?_, ⟨by rw [List.length_map]; exact h.len, fun a b hb => ?_⟩⟩
  · refine ext_getD (by simp) (fun m hm => ?_)
    have := hnn m (by rw [← h.len]; exact hm)
    simp [List.getD, List.getElem?_eq_getElem hm] at this ⊢
    omega
  · have h1 := h.at' a b hb (Or.inl (row_lt hb))
    have hb1 := ho.box hb
    have hlt : (box o a b).toNat - 1 < L.length := by rw [h.len]; omega
    simp [List.getD, List.getElem?_eq_getElem hlt] at h1 ⊢
    omega

set_option maxHeartbeats 8000000 in
theorem rowsOfNumbers_at (a : Option Addr) (n cap : Nat) (o : List (List Int)) (N : Nat) (w : World) (hs : Table w a o) (hn : n = o.length) (ho : Std N o) :
    Calls Try.prog 61 #[.slice a n cap] w fun e w' => ∃ (v : Value) (rows : List Nat), e = .returned v ∧ Owns w' w.heap.size v (rows.map (fun k : Nat => (k : Int))) ∧ RowsOf o N rows ∧ Below w.heap.size w w' := by
  subst hn
  obtain ⟨i0, hi, hz0, hz1, hz2⟩ := info_parts Try.info3
  have HS : Hid (Table w a o) := hs
  have HO : Hid (Std N o) := ho
  have HF : Hid (Few o) := few_std ho
  have hN : N ≤ 40 := by have := ho.perm.len; rw [ho.len] at this; exact this
  have hl := HF.out.len
  have HNf : Hid (o.flatten.length = N) := ho.flat
  clear hs ho
  go_enter Try.func61, Try.ntmps61
  go_wp2_with fail
  refine (sboxesOf_at a _ cap o w HS.out rfl (by omega) (by rw [HNf.out]; omega)).mono ?_
  rintro e w0 ⟨rfl, hw0⟩
  obtain rfl : w = w0 := hw0.symm
  clear hw0
  rw [HNf.out]
  go_wp2_with (at_make; refine wpList_make_full _ rfl _ _ 22 rfl w.heap.size 3 i0 (.int .i64 0) 1 Try.underlying22 hi hz0 hz1 _ _ _ _ N rfl rfl rfl rfl ?b1 ?b2 ?b3 ?_)
  case b1 => rw [hz2]; omega
  case b2 => unfold maxLen; omega
  case b3 => exact Nat.le_refl _
  intro w1 hown hgrow
  have HB1 : Hid (Below w.heap.size w w1) := (Below.refl _ _).grown hgrow (Nat.le_refl _) (fun k h => by cases h)
  have HL1 : Hid (Owns w1 w.heap.size (.slice (some ⟨w.heap.size, 0, none⟩) N N) (List.replicate N 0)) := by
    show Owns _ _ _ _
    unfold Owns
    rw [toList_madeCells_one] at hown
    simpa using hown
  clear hown hgrow
  go_wp2
  go_loopw [13] (fun q wr => ∃ (i : Nat) (L : List Int), i ≤ o.length ∧ q = .int .i64 i ∧ Hid (Nums o N i 0 L) ∧ Hid (Owns wr w.heap.size (.slice (some ⟨w.heap.size, 0, none⟩) N N) L) ∧ Hid (Below w.heap.size w wr)) (fun q _ => o.length - (intOf q).toNat)
  case atStart => exact ⟨0, _, Nat.zero_le _, rfl, ⟨by simp, fun a b _ hd => by omega⟩, HL1, HB1⟩
  case round =>
    obtain ⟨i, L, hi', rfl, HN, HL, HB⟩ := hrel
    by_cases hil : i < o.length
    · have hil' : (i : Int) < (o.length : Int) := by omega
      have HIl : Hid (i < o.length) := hil
      obtain ⟨b, off, ai, m, ci, rfl, HC, HM, HSk, -, -⟩ := HS.out.elemB hil
      have hc := HC.out _ HB.out
      have hm1 : m ≤ 1000 := by rw [HM.out]; exact (HF.out.one _ (row_mem hil)).2
      go_wp2
      go_loopw [20] (fun q wr => ∃ (j : Nat) (L : List Int), j ≤ m ∧ q = .int .i64 j ∧ Hid (Nums o N i j L) ∧ Hid (Owns wr w.heap.size (.slice (some ⟨w.heap.size, 0, none⟩) N N) L) ∧ Hid (Below w.heap.size w wr)) (fun q _ => m - (intOf q).toNat)
      case atStart => exact ⟨0, L, Nat.zero_le _, rfl, HN, HL, HB⟩
      case round =>
        obtain ⟨j, L, hj, rfl, HNj, HLj, HBj⟩ := hrel
        by_cases hjm : j < m
        · have hjm' : (j : Int) < (m : Int) := by omega
          have HJ : Hid (j < (row o i).length) := by rw [← HM.out]; exact hjm
          obtain ⟨b2, off2, z, rfl, HZ, -, -, hcz⟩ := (HSk.out.below HBj.out).elem HJ.out
          have hzb : 1 ≤ z ∧ z ≤ (N : Int) := by rw [HZ.out]; exact HO.out.box HJ.out
          obtain ⟨d, HD⟩ : ∃ d : Nat, Hid (z = (d : Int) + 1) := ⟨(z - 1).toNat, by show _ = _; omega⟩
          have hzd := HD.out
          subst hzd
          have hdN : (d : Int) < (N : Int) := by omega
          have hsub : IntKind.i64.wrap ((d : Int) + 1 - 1) = (d : Int) := by rw [IntWalk.i64_left, IntWalk.wrap64_in _ (by omega)]; omega
          have HLl : Hid (L.length = N) := HNj.out.len
          obtain ⟨-, hfz, hcl⟩ := HLj.out.at (by rw [HLl.out])
          have hfd := hfz d
          have hcd := hcl d (by rw [HLl.out]; omega)
          have HBx : Hid ((box o i j).toNat - 1 = d) := by
            show _ = _
            have : box o i j = (d : Int) + 1 := HZ.out.symm
            rw [this]; omega
          have HN2 : Hid (Nums o N i (j + 1) (L.set d (i : Int))) := by have := HNj.out.step HO.out HJ.out; rw [HBx.out] at this; exact this
          have HL2 : Hid (Owns (wr.setCell ⟨w.heap.size, d, none⟩ (.int .i64 (i : Int))) w.heap.size (.slice (some ⟨w.heap.size, 0, none⟩) N N) (L.set d (i : Int))) := HLj.out.store HLl.out.symm d (i : Int)
          have HB2 : Hid (Below w.heap.size w (wr.setCell ⟨w.heap.size, d, none⟩ (.int .i64 (i : Int)))) := HBj.out.setCell (p := ⟨w.heap.size, d, none⟩) (Nat.le_refl _) _
          clear hfz hcl
          go_wp2
          go_roundw
          case rel => exact ⟨j + 1, _, by omega, by go_num, HN2, HL2, HB2⟩
          case measure => simp [intOf]; omega
        · obtain rfl : j = m := by omega
          have hjm' : ¬ (j : Int) < (j : Int) := by omega
          have HN2 : Hid (Nums o N (i + 1) 0 L) := by
            have := HNj.out
            rw [HM.out] at this
            exact this.next
          go_wp2
          go_roundw
          case rel => exact ⟨i + 1, _, by omega, by go_num, HN2, HLj, HBj⟩
          case measure => simp [intOf]; omega
    · obtain rfl : i = o.length := by omega
      have hil' : ¬ (o.length : Int) < (o.length : Int) := by omega
      obtain ⟨rows, hr1, hr2⟩ := HN.out.done HO.out
      have HLe : Hid (Owns wr w.heap.size (.slice (some ⟨w.heap.size, 0, none⟩) N N) (rows.map (fun k : Nat => (k : Int)))) := by rw [← hr1]; exact HL.out
      have HRo : Hid (RowsOf o N rows) := hr2
      clear hr1 hr2
      go_wp2
      go_ret
      exact ⟨_, rfl, rows, HLe.out, HRo.out, HB.out⟩

end Go.Proofs.Ytpbkidgdpejenae
