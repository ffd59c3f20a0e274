/-
  The contract of cubes.edge.
-/
import Derived.Test.YtniedfecmakhpaaDoorDLay
import Derived.Test.YtniedfecmakhpaaDoorShelf
import Derived.Shelf.Strings.Builder1
namespace Go.Proofs.YtniedfecmakhpaaDoor
open Go.RowKit

theorem repeat_one (b : UInt8) : ∀ n, Lib.repeatL [b] n = List.replicate n b
  | 0 => rfl
  | n + 1 => by
    have := repeat_one b n
    rw [List.replicate_succ, ← this]
    rfl

theorem isb_belowD {T e : TypeId} {B b : Nat} {bs : List Value} {w w' : World} (h : Lib.IsBuilder T e B b bs w) (hb : Below w.heap.size w w') : Lib.IsBuilder T e B b bs w' := by
  have key : ∀ p, Lib.BuilderAt T e B b p bs w → Lib.BuilderAt T e B b p bs w' := fun p h => by
    have hl := h.lt
    obtain ⟨hB, v, h1, h2, h3⟩ := h
    exact ⟨hB, v, by rw [hb.block b hl]; exact h1, ownsRow_blocks h2 (fun k e => hb.block k (h2.lt k e).2), h3⟩
  rcases h with h | h
  · exact Or.inl (key _ h)
  · exact Or.inr (key _ h)
theorem WriteS_d (B b : Nat) (l s : List UInt8) (w : World) (h : Lib.IsBuilder 54 5 B b (Lib.byteCells l) w) (hlen : l.length + s.length ≤ 100000000) (hBw : B ≤ w.heap.size) :
    Calls Tryd.prog 30 #[.pointer (some ⟨b, 0, none⟩), .string ⟨s.toArray⟩] w fun e w' => e = .returned (.tuple #[.int .i64 ((s.length : Nat) : Int), .nilIface]) ∧ Hid (Lib.IsBuilder 54 5 B b (Lib.byteCells (l ++ s)) w') ∧ Hid (Below B w w') := by
  have hc := Any.Builder_WriteString (ρ := Go.Proofs.Tryd.lays105_ren) { Go.Proofs.Tryd.lays105 with } Go.Proofs.Tryd.Builder_Extra_105 B b (Lib.byteCells l) ⟨s.toArray⟩ w h (by rw [Lib.byteCells_length]; show l.length + s.toArray.size ≤ _; simp; omega) hBw
  refine Calls.mono hc ?_
  rintro e w' ⟨rfl, h1, h2⟩
  refine ⟨rfl, Or.inr ?_, h2⟩
  rw [Lib.byteCells_append]
  exact h1
theorem WriteB_d (B b : Nat) (l : List UInt8) (x : UInt8) (w : World) (h : Lib.IsBuilder 54 5 B b (Lib.byteCells l) w) (hlen : l.length ≤ 100000000) (hBw : B ≤ w.heap.size) :
    Calls Tryd.prog 31 #[.pointer (some ⟨b, 0, none⟩), .int .u8 (x.toNat : Int)] w fun e w' => e = .returned .nilIface ∧ Hid (Lib.IsBuilder 54 5 B b (Lib.byteCells (l ++ [x])) w') ∧ Hid (Below B w w') := by
  have hc := Any.Builder_WriteByte Go.Proofs.Tryd.lays167 Go.Proofs.Tryd.Builder_Extra_105 B b (Lib.byteCells l) (x.toNat : Int) w h (by rw [Lib.byteCells_length]; omega) hBw
  refine Calls.mono hc ?_
  rintro e w' ⟨rfl, h1, h2⟩
  refine ⟨rfl, Or.inr ?_, h2⟩
  rw [Lib.byteCells_append]
  exact h1

theorem et_small {bx : Nat → Nat} {r : Nat} (h : ∀ i, i < r → bx i ≤ 100) : ∀ d, d ≤ r → (et bx r d).length ≤ 101 * d
  | 0, _ => by simp [et]
  | d + 1, hd => by
    have := et_small h d (by omega)
    have := h (r - 1 - d) (by omega)
    simp only [et, List.length_append, List.length_replicate, List.length_singleton]
    omega

set_option maxHeartbeats 4000000 in
set_option maxRecDepth 100000 in
theorem edge_at (X r c : Nat) (bx : Nat → Nat) (w : World) (hx : Row w X r bx) (hd : ∀ i, i + 1 < r → bx (i + 1) ≤ bx i) (hc : ∀ i, i < r → bx i ≤ c) (r1 : 1 ≤ r) (r8 : r ≤ 8) (c8 : c ≤ 8) :
    Calls Tryd.prog 18 #[.slice (some ⟨X, 0, none⟩) r r, .int .i64 (c : Int)] w fun e w' => e = .returned (.string ⟨(edg bx r c).toArray⟩) ∧ Hid (Below w.heap.size w w') := by
  have HC : Hid (∀ W i, Below w.heap.size w W → i < r → W.cell? ⟨X, i, none⟩ = some (.int .i64 (bx i : Int))) := fun W i hW hi => ((hx.below hW).cell hi).1
  have HD : Hid (∀ d, d < r → gn bx r d ≤ bx (r - 1 - d)) := gn_le hd
  have HX : Hid (∀ i, i < r → bx i ≤ c) := hc
  have HB0 : Hid (Below w.heap.size w (w.alloc (.cells #[.pointer none, .slice none 0 0] 54))) := (Below.refl _ _).alloc (Nat.le_refl _) _
  have HI0 : Hid (Lib.IsBuilder 54 5 w.heap.size w.heap.size (Lib.byteCells (et bx r 0)) (w.alloc (.cells #[.pointer none, .slice none 0 0] 54))) :=
    Or.inl ⟨Nat.le_refl _, .slice none 0 0, heap_alloc_new _ _, World.ownsRow_nil _ _ _ _, by simp [Value.ownBlock]⟩
  have HRp : Hid (∀ (n : Nat) (W : World), n ≤ 8 → Calls Tryd.prog 28 #[.string ⟨#[82]⟩, .int .i64 (n : Int)] W fun e w' => e = .returned (.string ⟨(List.replicate n 82).toArray⟩) ∧ Hid (Below W.heap.size W w')) := fun n W hn => by
    have h := Go.Proofs.Tryd.strings_Repeat ⟨#[82]⟩ n W (by omega) (by show 1 * n ≤ _; omega)
    rw [show Lib.repeatL (ByteArray.mk #[82]).data.toList n = List.replicate n 82 from repeat_one 82 n] at h
    exact h
  have HLn : Hid (∀ d, d ≤ r → (et bx r d).length ≤ 101 * d) := et_small (fun i hi => by have := hc i hi; omega)
  have HGc : Hid (∀ d, d ≤ r → gn bx r d ≤ c) := gn_c hc
  clear hx hd hc
  go_enter Tryd.func18, Tryd.ntmps18
  go_wp2_with fail
  go_loopw [6, 7] (fun gv iv wr => ∃ (k g : Nat) (j : Int), k ≤ r ∧ iv = .int .i64 j ∧ gv = .int .i64 (g : Int) ∧ Hid (j = (r : Int) - 1 - (k : Int)) ∧ Hid (g = gn bx r k) ∧ Hid (Lib.IsBuilder 54 5 w.heap.size w.heap.size (Lib.byteCells (et bx r k)) wr) ∧ Hid (Below w.heap.size w wr)) (fun _ iv _ => ((intOf iv) + 1).toNat)
  case atStart => exact ⟨0, 0, (r : Int) - 1, Nat.zero_le _, by first | rfl | go_num, rfl, by show _ = _; omega, rfl, HI0, HB0⟩
  case round =>
    clear HI0 HB0
    obtain ⟨k, g, j, hk, rfl, rfl, HJ, HG, HI, HB⟩ := hrel
    by_cases hlt : k < r
    · obtain ⟨i, hi⟩ : ∃ i : Nat, j = (i : Int) := ⟨r - 1 - k, by have := HJ.out; omega⟩
      subst hi
      have HIk : Hid (i = r - 1 - k) := by show _ = _; have := HJ.out; omega
      have hin : i < r := by have := HIk.out; omega
      have hin' : (i : Int) < (r : Int) := by omega
      have hge : (i : Int) ≥ 0 := by omega
      have hci := HC.out wr i HB.out hin
      obtain ⟨u, HU⟩ : ∃ u, Hid (u = bx i) := ⟨_, rfl⟩
      rw [← HU.out] at hci
      have huc : u ≤ c := by rw [HU.out]; exact HX.out i hin
      have hgu : g ≤ u := by rw [HU.out, HG.out, HIk.out]; exact HD.out k hlt
      obtain ⟨n, HN⟩ : ∃ n, Hid (n = u - g) := ⟨_, rfl⟩
      have hun : (u : Int) - (g : Int) = (n : Int) := by have := HN.out; omega
      have hn8 : n ≤ 8 := by have := HN.out; omega
      obtain ⟨s, HS⟩ : ∃ s : ByteArray, Hid (s = ⟨(List.replicate n 82).toArray⟩) := ⟨_, rfl⟩
      have HF := hid_w (HRp.out n wr hn8)
      rw [← HS.out] at HF
      have HLk : Hid ((et bx r k).length ≤ 101 * k) := HLn.out k hk
      have HTk : Hid (et bx r (k + 1) = (et bx r k ++ List.replicate n 82) ++ [85]) := by
        show _ = _
        rw [et, HN.out, HG.out, HU.out, HIk.out]
      go_wp2_with fail
      refine HF.out.mono ?_
      rintro e w1 ⟨rfl, HB1⟩
      have HB2 : Hid (Below w.heap.size w w1) := HB.out.trans (HB1.out.mono HB.out.size)
      have HI1 : Hid (Lib.IsBuilder 54 5 w.heap.size w.heap.size (Lib.byteCells (et bx r k)) w1) := isb_belowD HI.out HB1.out
      have HWc : Hid (Calls Tryd.prog 30 #[.pointer (some ⟨w.heap.size, 0, none⟩), .string s] w1 fun e w' => e = .returned (.tuple #[.int .i64 (n : Int), .nilIface]) ∧ Hid (Lib.IsBuilder 54 5 w.heap.size w.heap.size (Lib.byteCells (et bx r k ++ List.replicate n 82)) w') ∧ Hid (Below w.heap.size w1 w')) := by
        have h := WriteS_d _ _ (et bx r k) (List.replicate n 82) w1 HI1.out (by have := HLk.out; rw [List.length_replicate]; omega) HB2.out.size
        rw [List.length_replicate] at h
        rw [HS.out]; exact h
      clear HF
      go_wp2_with fail
      refine HWc.out.mono ?_
      rintro e w2 ⟨rfl, HI2, HB3⟩
      have HB4 : Hid (Below w.heap.size w w2) := HB2.out.trans HB3.out
      have HWb : Hid (Calls Tryd.prog 31 #[.pointer (some ⟨w.heap.size, 0, none⟩), .int .u8 85] w2 fun e w' => e = .returned .nilIface ∧ Hid (Lib.IsBuilder 54 5 w.heap.size w.heap.size (Lib.byteCells (et bx r (k + 1))) w') ∧ Hid (Below w.heap.size w2 w')) := by
        rw [HTk.out]
        exact WriteB_d _ _ _ 85 w2 HI2.out (by have := HLk.out; rw [List.length_append, List.length_replicate]; omega) HB4.out.size
      clear HWc
      go_wp2_with fail
      refine HWb.out.mono ?_
      rintro e w3 ⟨rfl, HI3, HB5⟩
      have HB6 : Hid (Below w.heap.size w w3) := HB4.out.trans HB5.out
      have hci3 := HC.out w3 i HB6.out hin
      rw [← HU.out] at hci3
      have HG3 : Hid (u = gn bx r (k + 1)) := by show _ = bx (r - 1 - k); rw [HU.out, HIk.out]
      go_wp2
      go_roundw
      case rel => exact ⟨k + 1, u, (i : Int) - 1, by omega, by first | rfl | go_num, rfl, by show _ = _; have := HIk.out; omega, HG3, HI3, HB6⟩
      case measure => first | (simp [intOf]; done) | (simp [intOf]; omega)
    · obtain rfl : k = r := by omega
      have hge : ¬ (j ≥ 0) := by have := HJ.out; omega
      have hgc : g ≤ c := by rw [HG.out]; exact HGc.out k (Nat.le_refl _)
      obtain ⟨n, HN⟩ : ∃ n, Hid (n = c - g) := ⟨_, rfl⟩
      have hun : (c : Int) - (g : Int) = (n : Int) := by have := HN.out; omega
      have hn8 : n ≤ 8 := by have := HN.out; omega
      obtain ⟨s, HS⟩ : ∃ s : ByteArray, Hid (s = ⟨(List.replicate n 82).toArray⟩) := ⟨_, rfl⟩
      have HF := hid_w (HRp.out n wr hn8)
      rw [← HS.out] at HF
      have HLk : Hid ((et bx k k).length ≤ 101 * k) := HLn.out k hk
      have HTk : Hid (edg bx k c = et bx k k ++ List.replicate n 82) := by show _ = _; unfold edg; rw [HN.out, HG.out]
      go_wp2_with fail
      refine HF.out.mono ?_
      rintro e w1 ⟨rfl, HB1⟩
      have HB2 : Hid (Below w.heap.size w w1) := HB.out.trans (HB1.out.mono HB.out.size)
      have HI1 : Hid (Lib.IsBuilder 54 5 w.heap.size w.heap.size (Lib.byteCells (et bx k k)) w1) := isb_belowD HI.out HB1.out
      have HWc : Hid (Calls Tryd.prog 30 #[.pointer (some ⟨w.heap.size, 0, none⟩), .string s] w1 fun e w' => e = .returned (.tuple #[.int .i64 (n : Int), .nilIface]) ∧ Hid (Lib.IsBuilder 54 5 w.heap.size w.heap.size (Lib.byteCells (edg bx k c)) w') ∧ Hid (Below w.heap.size w1 w')) := by
        have h := WriteS_d _ _ (et bx k k) (List.replicate n 82) w1 HI1.out (by have := HLk.out; rw [List.length_replicate]; omega) HB2.out.size
        rw [List.length_replicate] at h
        rw [HS.out, HTk.out]; exact h
      clear HF
      go_wp2_with fail
      refine HWc.out.mono ?_
      rintro e w2 ⟨rfl, HI2, HB3⟩
      have HB4 : Hid (Below w.heap.size w w2) := HB2.out.trans HB3.out
      have HSt := hid_w (Go.Proofs.Tryd.Builder_String_any w.heap.size w.heap.size (edg bx k c) w2 HI2.out HB4.out.size)
      obtain ⟨t, HTt⟩ : ∃ t : ByteArray, Hid (t = ⟨(edg bx k c).toArray⟩) := ⟨_, rfl⟩
      rw [← HTt.out] at HSt
      clear HWc
      go_wp2_with fail
      refine HSt.out.mono ?_
      rintro e w5 ⟨rfl, hb5⟩
      have HB5 : Hid (Below w.heap.size w w5) := HB4.out.trans hb5
      clear hb5
      go_wp2
      go_ret
      exact ⟨by rw [← HTt.out]; rfl, HB5⟩

end Go.Proofs.YtniedfecmakhpaaDoor
