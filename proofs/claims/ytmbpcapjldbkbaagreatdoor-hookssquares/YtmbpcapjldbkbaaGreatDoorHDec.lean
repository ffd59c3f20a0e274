/-
  The contract of strconv.FormatUint at base 10.
  The contract of wide's text of groups.
  The text of a number, by its groups.
  The text of groups of nine digits is the number's own; what digits tell.
-/
import Derived.Test.YtmbpcapjldbkbaaGreatDoorTTab
import Derived.Test.YtmbpcapjldbkbaaGreatDoorShelf
import Derived.Lib.ItoaMem
import Derived.Lib.AppendIntMem
import Derived.WalkKit
import Derived.BigCall
import Derived.BigGuard
import Derived.Test.YtmbpcapjldbkbaaGreatDoorWNum
import Derived.Shelf.Strings.Builder1
import Derived.Test.YtmbpcapjldbkbaaGreatDoorAWho
namespace Go.Proofs.YtmbpcapjldbkbaaGreatDoor
open Go.RowKit Go.Sort Go.Lib

set_option maxHeartbeats 6400000 in
set_option maxRecDepth 100000 in
theorem FormatUintI_at (u : Nat) (hu64 : u < 18446744073709551616) (w : World) (htab : Lib.TabIs Tryz.prog w "internal/strconv.uint64pow10" .u64 Lib.pow10Tab) :
    Calls Tryz.prog 161 #[.int .u64 (u : Int), .int .i64 10] w fun e w' => e = .returned (.string ⟨(Lib.decDigits u).toArray⟩) ∧ ∃ k os, w' = grow (w.drewN k) os := by
  by_cases hs : u < 100
  · have g0 : decide ((u : Int) < 100) = true := decide_eq_true (by omega)
    have g1 : (u : Int) < 100 := by omega
    have hwr : IntKind.i64.wrap (u : Int) = (u : Int) := by rw [IntKind.wrap_i64]; omega
    go_enter Tryz.func161, Tryz.ntmps161
    go_wp2_with fail
    refine (Go.Proofs.Tryz.internal_strconv_small u hs _).mono ?_
    rintro e w' ⟨rfl, rfl⟩
    go_wp2
    go_ret
    exact ⟨rfl, 0, #[], by simp [World.drewN_zero]⟩
  · have hu1 : 1 ≤ u := by omega
    have g0 : decide ((u : Int) < 100) = false := decide_eq_false (by omega)
    have g1 : ¬ (u : Int) < 100 := by omega
    have hnd20 : Lib.nDigits u ≤ 20 := by have := Lib.numDigits_eq u hu1 hu64; split at this <;> omega
    have hal : Tryz.prog.arrayLen 147 = 24 := by kernel_rfl
    have hsl1 : ∀ W, (Instr.sliceAt 147 (.pointer (some ⟨w.heap.size, 0, none⟩)) none (some (.int .i64 (Lib.nDigits u : Int))) none).run Tryz.prog W = .ok (.slice (some ⟨w.heap.size, 0, none⟩) (Lib.nDigits u) 24) W := fun W => by
      rw [run_sliceAt_array_h W 147 ⟨w.heap.size, 0, none⟩ (by kernel_rfl) .i64 (Lib.nDigits u : Int) (by omega) (by rw [hal]; omega)]
      go_simp
    have hH0 : Holds (fun (b : UInt8) => Value.int .u8 (b.toNat : Int)) (w.alloc (.cells Lib.zeros24 147)) w.heap.size 0 (Array.replicate (Lib.nDigits u) 0) := fun j hj => by
      have hj' : j < Lib.nDigits u := by simpa using hj
      refine ⟨?_, World.frozen?_alloc_new _ _ _ _⟩
      rw [World.cell?_alloc_new, Lib.zeros24_at _ (by omega), getElem!_pos _ j hj]
      simp
    have hfmt := Go.Proofs.Tryz.internal_strconv_formatBase10 w.heap.size 0 24 u (Array.replicate (Lib.nDigits u) 0) (w.alloc (.cells Lib.zeros24 147)) hH0 (by rw [Array.size_replicate]; exact Lib.lt_pow_nDigits u) hu64 (by rw [Array.size_replicate]; omega)
    rw [Array.size_replicate] at hfmt
    have HH0 := Lib.hid hH0
    clear hH0 hal
    go_enter Tryz.func161, Tryz.ntmps161
    go_wp2_with fail
    refine (Go.Proofs.Tryz.internal_strconv_numDigits u hu1 hu64 _ (Lib.tabIs_alloc htab _)).mono ?_
    rintro e w' ⟨rfl, rfl⟩
    go_wp2_with fail
    refine hfmt.mono ?_
    rintro e w' ⟨rfl, k, v', dk, rfl, hF⟩
    have hcv : (convert 121 9 (.slice (some ⟨w.heap.size, 0, none⟩) (Lib.nDigits u) 24)).run Tryz.prog ((putRow (fun (b : UInt8) => Value.int .u8 (b.toNat : Int)) (w.alloc (.cells Lib.zeros24 147)) w.heap.size 0 dk).drewN k) = .ok (.string ⟨(Lib.decDigits u).toArray⟩) ((putRow (fun (b : UInt8) => Value.int .u8 (b.toNat : Int)) (w.alloc (.cells Lib.zeros24 147)) w.heap.size 0 dk).drewN k) := by
      have h := run_convert_bytes_back (P := Tryz.prog) ((putRow (fun (b : UInt8) => Value.int .u8 (b.toNat : Int)) (w.alloc (.cells Lib.zeros24 147)) w.heap.size 0 dk).drewN k) 121 9 5 ⟨w.heap.size, 0, none⟩ 24 (Lib.decDigits u) Tryz.underlying121 Tryz.underlying5 Tryz.underlying9 (fun j hj => by
        rw [Lib.row_is_numeral hF j hj, Lib.add_plain, World.cell?_drewN]
        exact cell?_putRow (fun (b : UInt8) => Value.int .u8 (b.toNat : Int)) _ w.heap.size 0 _ dk HH0.out (by rw [hF.size, Array.size_replicate]) j (by rw [hF.size]; rw [Lib.decDigits_length] at hj; exact hj))
      rw [Lib.decDigits_length] at h
      exact h
    go_wp2
    go_ret
    refine ⟨rfl, ?_⟩
    rw [alloc_eq_grow]
    obtain ⟨os', _, e⟩ := putRow_grow_new (fun (b : UInt8) => Value.int .u8 (b.toNat : Int)) w #[.cells Lib.zeros24 147] w.heap.size 0 dk (Nat.le_refl _)
    exact ⟨k, os', by rw [e]; rfl⟩

set_option maxHeartbeats 1000000 in
theorem FormatUint_at (u : Nat) (hu64 : u < 18446744073709551616) (w : World) (htab : Lib.TabIs Tryz.prog w "internal/strconv.uint64pow10" .u64 Lib.pow10Tab) :
    Calls Tryz.prog 147 #[.int .u64 (u : Int), .int .i64 10] w fun e w' => e = .returned (.string ⟨(Lib.decDigits u).toArray⟩) ∧ Below w.heap.size w w' := by
  go_enter Tryz.func147, Tryz.ntmps147
  go_wp2_with fail
  refine (FormatUintI_at u hu64 _ htab).mono ?_
  rintro e w' ⟨rfl, k, os, rfl⟩
  go_wp2
  go_ret
  exact ⟨rfl, ⟨rfl, rfl, rfl, by first | (simp [grow]; done) | (simp [grow]; omega), fun i hi => by
    show ((w.drewN k).heap ++ os)[i]? = _
    rw [Array.getElem?_append_left (by show i < w.heap.size; omega)]
    rfl⟩⟩

end Go.Proofs.YtmbpcapjldbkbaaGreatDoor

namespace Go.Proofs.YtmbpcapjldbkbaaGreatDoor
open Go.RowKit

/-- What group i adds to the text. -/
def grpT (f : Nat → Nat) (n i : Nat) : List UInt8 := (if i + 1 < n then Lib.repeatL [48] (9 - (Lib.decDigits (f i)).length) else []) ++ Lib.decDigits (f i)
/-- The text of the k highest groups. -/
def txtG (f : Nat → Nat) (n : Nat) : Nat → List UInt8
  | 0 => []
  | k + 1 => txtG f n k ++ grpT f n (n - 1 - k)
/-- The text of n groups. -/
def textG (f : Nat → Nat) (n : Nat) : List UInt8 := if n = 0 then [48] else txtG f n n
theorem nDig_pow : ∀ (k u : Nat), u < 10 ^ (k + 1) → Lib.nDigits u ≤ k + 1
  | 0, u, h => by rw [Lib.nDigits_small (by simpa using h)]; omega
  | k + 1, u, h => by
    by_cases e : u < 10
    · rw [Lib.nDigits_small e]; omega
    · rw [Lib.nDigits_big e]
      have := nDig_pow k (u / 10) (Nat.div_lt_of_lt_mul (by rw [Nat.mul_comm, ← Nat.pow_succ]; exact h))
      omega
theorem nDig_le {u : Nat} (h : u < 1000000000) : (Lib.decDigits u).length ≤ 9 := by rw [Lib.decDigits_length]; exact nDig_pow 8 u h
theorem grpT_len {f : Nat → Nat} {n i : Nat} (h : f i < 1000000000) : (grpT f n i).length ≤ 9 := by
  have := nDig_le h
  unfold grpT
  rw [List.length_append]
  split
  · rw [Lib.repeatL_length]; simp; omega
  · simp; omega
theorem txtG_len {f : Nat → Nat} {n : Nat} (h : ∀ i, i < n → f i < 1000000000) : ∀ k, k ≤ n → (txtG f n k).length ≤ 9 * k
  | 0, _ => by simp [txtG]
  | k + 1, hk => by
    rw [txtG, List.length_append]
    have := txtG_len h k (by omega)
    have := grpT_len (n := n) (h (n - 1 - k) (by omega))
    omega

theorem isb_below {T e : TypeId} {B b : Nat} {bs : List Value} {w w' : World} (h : Lib.IsBuilder T e B b bs w) (hb : Below w.heap.size w w') : Lib.IsBuilder T e B b bs w' := by
  have key : ∀ p, Lib.BuilderAt T e B b p bs w → Lib.BuilderAt T e B b p bs w' := fun p h => by
    have hl := h.lt
    obtain ⟨hB, v, h1, h2, h3⟩ := h
    exact ⟨hB, v, by rw [hb.block b hl]; exact h1, ownsRow_blocks h2 (fun k e => hb.block k (h2.lt k e).2), h3⟩
  rcases h with h | h
  · exact Or.inl (key _ h)
  · exact Or.inr (key _ h)
theorem WriteS_at (B b : Nat) (l : List UInt8) (s : List UInt8) (w : World) (h : Lib.IsBuilder 161 5 B b (Lib.byteCells l) w) (hlen : l.length + s.length ≤ 100000000) (hBw : B ≤ w.heap.size) :
    Calls Tryz.prog 148 #[.pointer (some ⟨b, 0, none⟩), .string ⟨s.toArray⟩] w fun e w' => e = .returned (.tuple #[.int .i64 ((s.length : Nat) : Int), .nilIface]) ∧ Lib.IsBuilder 161 5 B b (Lib.byteCells (l ++ s)) w' ∧ Below B w w' := by
  have hc := Any.Builder_WriteString (ρ := Go.Proofs.Tryz.lays105_ren) { Go.Proofs.Tryz.lays105 with } Go.Proofs.Tryz.Builder_Extra_105 B b (Lib.byteCells l) ⟨s.toArray⟩ w h (by rw [Lib.byteCells_length]; show l.length + s.toArray.size ≤ _; simp; omega) hBw
  refine Calls.mono hc ?_
  rintro e w' ⟨rfl, h1, h2⟩
  refine ⟨rfl, Or.inr ?_, h2⟩
  rw [Lib.byteCells_append]
  exact h1

set_option maxHeartbeats 4000000 in
set_option maxRecDepth 100000 in
theorem gtext_at (v : Value) (n : Nat) (f : Nat → Nat) (w : World) {lo : Nat} (hv : GrV w lo v n f) (hd : ∀ j, j < n → f j < 1000000000) (hn : n ≤ 100000) (htab : Lib.TabIs Tryz.prog w "internal/strconv.uint64pow10" .u64 Lib.pow10Tab) :
    Calls Tryz.prog 121 #[v] w fun e w' => e = .returned (.string ⟨(textG f n).toArray⟩) ∧ Below w.heap.size w w' := by
  obtain ⟨a, cap, rfl, hv⟩ := hv
  by_cases h0 : n = 0
  · subst h0
    clear hv htab
    have HE : Hid ((textG f 0).toArray = #[48]) := by show _ = _; unfold textG; rw [if_pos rfl]
    go_enter Tryz.func121, Tryz.ntmps121
    go_wp2
    go_ret
    exact ⟨by rw [HE.out]; rfl, Below.refl _ _⟩
  · obtain ⟨g, rfl, -, hg, hc⟩ := hv (by omega)
    have HC : Hid (∀ W i, Below w.heap.size w W → i < n → W.cell? ⟨g, i, none⟩ = some (.int .u64 (f i : Int))) := fun W i hW hi => (hW.cell (p := ⟨g, i, none⟩) hg).trans (hc i hi)
    have HD : Hid (∀ j, j < n → f j < 1000000000) := hd
    have HTab : Hid (∀ W, Below w.heap.size w W → Lib.TabIs Tryz.prog W "internal/strconv.uint64pow10" .u64 Lib.pow10Tab) := fun W hW => Lib.tabBelow_of_tabIs htab W hW
    have HB0 : Hid (Below w.heap.size w (w.alloc (.cells #[.pointer none, .slice none 0 0] 161))) := (Below.refl _ _).alloc (Nat.le_refl _) _
    have HI0 : Hid (Lib.IsBuilder 161 5 w.heap.size w.heap.size (Lib.byteCells (txtG f n 0)) (w.alloc (.cells #[.pointer none, .slice none 0 0] 161))) :=
      Or.inl ⟨Nat.le_refl _, .slice none 0 0, heap_alloc_new _ _, World.ownsRow_nil _ _ _ _, by simp [Value.ownBlock]⟩
    have HT : Hid (textG f n = txtG f n n) := by show _ = _; unfold textG; rw [if_neg h0]
    rw [HT.out]
    have hn0 : ((n : Int) == 0) = false := by simp; omega
    clear hv htab hc hd
    go_enter Tryz.func121, Tryz.ntmps121
    go_wp2_with fail
    go_loopw [4] (fun iv wr => ∃ (k : Nat) (j : Int), k ≤ n ∧ iv = .int .i64 j ∧ Hid (j = (n : Int) - 1 - (k : Int)) ∧ Hid (Lib.IsBuilder 161 5 w.heap.size w.heap.size (Lib.byteCells (txtG f n k)) wr) ∧ Hid (Below w.heap.size w wr)) (fun iv _ => ((intOf iv) + 1).toNat)
    case atStart => exact ⟨0, (n : Int) - 1, Nat.zero_le _, by first | rfl | go_num, by show _ = _; omega, HI0, HB0⟩
    case round =>
      clear HI0 HB0
      obtain ⟨k, j, hk, rfl, HJ, HI, HB⟩ := hrel
      by_cases hlt : k < n
      · obtain ⟨i, hi⟩ : ∃ i : Nat, j = (i : Int) := ⟨n - 1 - k, by have := HJ.out; omega⟩
        subst hi
        have HIk : Hid (i = n - 1 - k) := by show _ = _; have := HJ.out; omega
        have hin : i < n := by have := HIk.out; omega
        have hge : (i : Int) ≥ 0 := by omega
        have hci := HC.out wr i HB.out hin
        obtain ⟨u, HU⟩ : ∃ u, Hid (u = f i) := ⟨_, rfl⟩
        rw [← HU.out] at hci
        have hu : u < 1000000000 := by rw [HU.out]; exact HD.out i hin
        obtain ⟨s, HS⟩ : ∃ s : ByteArray, Hid (s = ⟨(Lib.decDigits u).toArray⟩) := ⟨_, rfl⟩
        obtain ⟨D, HDl⟩ : ∃ D, Hid (D = (Lib.decDigits u).length) := ⟨_, rfl⟩
        have hD : D ≤ 9 := by rw [HDl.out]; exact nDig_le hu
        have hsz : s.size = D := by rw [HS.out, HDl.out]; show (Lib.decDigits u).toArray.size = _; simp
        have HF : Hid (Calls Tryz.prog 147 #[.int .u64 (u : Int), .int .i64 10] wr fun e w' => e = .returned (.string s) ∧ Hid (Below wr.heap.size wr w')) := by
          rw [HS.out]; exact FormatUint_at u (by omega) wr (HTab.out wr HB.out)
        have HLk : Hid ((txtG f n k).length ≤ 9 * k) := txtG_len HD.out k hk
        have HW : Hid (∀ W l, Lib.IsBuilder 161 5 w.heap.size w.heap.size (Lib.byteCells l) W → l.length ≤ 9 * k + 9 → Below w.heap.size w W → Calls Tryz.prog 148 #[.pointer (some ⟨w.heap.size, 0, none⟩), .string s] W fun e w' => e = .returned (.tuple #[.int .i64 (D : Int), .nilIface]) ∧ Hid (Lib.IsBuilder 161 5 w.heap.size w.heap.size (Lib.byteCells (l ++ Lib.decDigits u)) w') ∧ Hid (Below w.heap.size W w')) := fun W l h1 h2 h3 => by
          rw [HS.out, HDl.out]; exact WriteS_at _ _ l (Lib.decDigits u) W h1 (by have := HDl.out; omega) h3.size
        by_cases hk0 : k = 0
        · have hlt2 : ¬ ((i : Int) < (n : Int) - 1) := by have := HIk.out; omega
          have HTk : Hid (txtG f n (k + 1) = txtG f n k ++ Lib.decDigits u) := by
            show _ = _
            rw [txtG, grpT, ← HIk.out, if_neg (by have := HIk.out; omega), List.nil_append, HU.out]
          go_wp2_with fail
          refine HF.out.mono ?_
          rintro e w1 ⟨rfl, HB1⟩
          have HB2 : Hid (Below w.heap.size w w1) := HB.out.trans (HB1.out.mono HB.out.size)
          have HI1 : Hid (Lib.IsBuilder 161 5 w.heap.size w.heap.size (Lib.byteCells (txtG f n k)) w1) := isb_below HI.out HB1.out
          have HWc := hid_w (HW.out w1 _ HI1.out (by have := HLk.out; omega) HB2.out)
          clear HF HW
          go_wp2_with fail
          refine HWc.out.mono ?_
          rintro e w3 ⟨rfl, HI3, HB3⟩
          have HI4 : Hid (Lib.IsBuilder 161 5 w.heap.size w.heap.size (Lib.byteCells (txtG f n (k + 1))) w3) := by rw [HTk.out]; exact HI3.out
          have HB4 : Hid (Below w.heap.size w w3) := HB2.out.trans HB3.out
          go_wp2
          go_roundw
          case rel => exact ⟨k + 1, (i : Int) - 1, by omega, by first | rfl | go_num, by show _ = _; have := HIk.out; omega, HI4, HB4⟩
          case measure => first | (simp [intOf]; done) | (simp [intOf]; omega)
        · have hlt2 : (i : Int) < (n : Int) - 1 := by have := HIk.out; omega
          obtain ⟨c, HCc⟩ : ∃ c, Hid (c = 9 - D) := ⟨_, rfl⟩
          have hcs : (9 : Int) - (D : Int) = (c : Int) := by have := HCc.out; omega
          have hc9 : c ≤ 9 := by have := HCc.out; omega
          obtain ⟨z, HZ⟩ : ∃ z : ByteArray, Hid (z = ⟨(Lib.repeatL [48] c).toArray⟩) := ⟨_, rfl⟩
          have HR : Hid (∀ W, Calls Tryz.prog 149 #[.string ⟨#[48]⟩, .int .i64 (c : Int)] W fun e w' => e = .returned (.string z) ∧ Hid (Below W.heap.size W w')) := fun W => by
            rw [HZ.out]
            exact Go.Proofs.Tryz.strings_Repeat ⟨#[48]⟩ c W (by omega) (by show 1 * c ≤ _; omega)
          have HZw : Hid (∀ W l, Lib.IsBuilder 161 5 w.heap.size w.heap.size (Lib.byteCells l) W → l.length ≤ 9 * k → Below w.heap.size w W → Calls Tryz.prog 148 #[.pointer (some ⟨w.heap.size, 0, none⟩), .string z] W fun e w' => e = .returned (.tuple #[.int .i64 (c : Int), .nilIface]) ∧ Hid (Lib.IsBuilder 161 5 w.heap.size w.heap.size (Lib.byteCells (l ++ Lib.repeatL [48] c)) w') ∧ Hid (Below w.heap.size W w')) := fun W l h1 h2 h3 => by
            have h := WriteS_at _ _ l (Lib.repeatL [48] c) W h1 (by rw [Lib.repeatL_length]; simp; omega) h3.size
            rw [Lib.repeatL_length, show c * [(48 : UInt8)].length = c by simp] at h
            rw [HZ.out]; exact h
          have HTk : Hid (txtG f n (k + 1) = (txtG f n k ++ Lib.repeatL [48] c) ++ Lib.decDigits u) := by
            show _ = _
            rw [txtG, grpT, ← HIk.out, if_pos (by have := HIk.out; omega), ← HU.out, ← HDl.out, ← HCc.out, List.append_assoc]
          have HLz : Hid ((txtG f n k ++ Lib.repeatL [48] c).length ≤ 9 * k + 9) := by
            show _ ≤ _
            rw [List.length_append, Lib.repeatL_length]; have := HLk.out; simp; omega
          go_wp2_with fail
          refine HF.out.mono ?_
          rintro e w1 ⟨rfl, HB1⟩
          have HB2 : Hid (Below w.heap.size w w1) := HB.out.trans (HB1.out.mono HB.out.size)
          have HI1 : Hid (Lib.IsBuilder 161 5 w.heap.size w.heap.size (Lib.byteCells (txtG f n k)) w1) := isb_below HI.out HB1.out
          clear HF
          go_wp2_with fail
          refine (HR.out w1).mono ?_
          rintro e w2 ⟨rfl, HB5⟩
          have HB6 : Hid (Below w.heap.size w w2) := HB2.out.trans (HB5.out.mono HB2.out.size)
          have HI2 : Hid (Lib.IsBuilder 161 5 w.heap.size w.heap.size (Lib.byteCells (txtG f n k)) w2) := isb_below HI1.out HB5.out
          have HZc := hid_w (HZw.out w2 _ HI2.out HLk.out HB6.out)
          clear HR HZw
          go_wp2_with fail
          refine HZc.out.mono ?_
          rintro e w3 ⟨rfl, HI3, HB7⟩
          have HB8 : Hid (Below w.heap.size w w3) := HB6.out.trans HB7.out
          have HWc := hid_w (HW.out w3 _ HI3.out HLz.out HB8.out)
          clear HZc HW
          go_wp2_with fail
          refine HWc.out.mono ?_
          rintro e w4 ⟨rfl, HI5, HB9⟩
          have HI6 : Hid (Lib.IsBuilder 161 5 w.heap.size w.heap.size (Lib.byteCells (txtG f n (k + 1))) w4) := by rw [HTk.out]; exact HI5.out
          have HB10 : Hid (Below w.heap.size w w4) := HB8.out.trans HB9.out
          go_wp2
          go_roundw
          case rel => exact ⟨k + 1, (i : Int) - 1, by omega, by first | rfl | go_num, by show _ = _; have := HIk.out; omega, HI6, HB10⟩
          case measure => first | (simp [intOf]; done) | (simp [intOf]; omega)
      · obtain rfl : k = n := by omega
        have hge : ¬ (j ≥ 0) := by have := HJ.out; omega
        have HS := hid_w (Go.Proofs.Tryz.Builder_String_any w.heap.size w.heap.size (txtG f k k) wr HI.out HB.out.size)
        obtain ⟨t, HTt⟩ : ∃ t : ByteArray, Hid (t = ⟨(txtG f k k).toArray⟩) := ⟨_, rfl⟩
        rw [← HTt.out] at HS
        go_wp2_with fail
        refine HS.out.mono ?_
        rintro e w5 ⟨rfl, hb5⟩
        have HB5 : Hid (Below w.heap.size w w5) := HB.out.trans hb5
        clear hb5
        go_wp2
        go_ret
        exact ⟨by rw [← HTt.out]; rfl, HB5.out⟩

end Go.Proofs.YtmbpcapjldbkbaaGreatDoor

namespace Go.Proofs.YtmbpcapjldbkbaaGreatDoor
open Go.RowKit

theorem valF_shift (f : Nat → Nat) : ∀ n, valF f (n + 1) = f 0 + 1000000000 * valF (fun i => f (i + 1)) n
  | 0 => by simp [valF]
  | n + 1 => by
    rw [valF, valF_shift f n, valF, Nat.mul_add, Nat.pow_succ, Nat.add_assoc]
    congr 2
    ac_rfl
/-- How many groups. -/
def ngr : Nat → Nat → Nat
  | 0, _ => 0
  | k + 1, x => if x = 0 then 0 else ngr k (x / 1000000000) + 1
def dgt (x i : Nat) : Nat := x / 1000000000 ^ i % 1000000000
theorem dgt_succ (x i : Nat) : dgt x (i + 1) = dgt (x / 1000000000) i := by
  unfold dgt; rw [Nat.div_div_eq_div_mul, Nat.pow_succ, Nat.mul_comm]
theorem can_ngr : ∀ k x, x ≤ k → Can (ngr k x) (dgt x) x
  | 0, x, h => by
    obtain rfl : x = 0 := by omega
    exact ⟨fun j hj => by simp [ngr] at hj, fun h => by simp [ngr] at h, rfl⟩
  | k + 1, x, h => by
    rw [ngr]
    by_cases e : x = 0
    · rw [if_pos e, e]; exact ⟨fun j hj => by omega, fun h => by omega, rfl⟩
    · rw [if_neg e]
      have ih := can_ngr k (x / 1000000000) (by have := Nat.div_lt_self (show 0 < x by omega) (show 1 < 1000000000 by omega); omega)
      refine ⟨fun j _ => Nat.mod_lt _ (by omega), fun _ => ?_, ?_⟩
      · rw [Nat.add_sub_cancel]
        rcases Nat.eq_zero_or_pos (ngr k (x / 1000000000)) with q | q
        · rw [q]
          have hv := ih.val
          rw [q, valF] at hv
          unfold dgt
          have := Nat.mod_add_div x 1000000000
          simp; omega
        · obtain ⟨m, hm⟩ : ∃ m, ngr k (x / 1000000000) = m + 1 := ⟨_, (Nat.succ_pred_eq_of_pos q).symm⟩
          rw [hm, dgt_succ]
          have := ih.top q
          rw [hm, Nat.add_sub_cancel] at this
          exact this
      · rw [valF_shift, show (fun i => dgt x (i + 1)) = dgt (x / 1000000000) from funext fun i => dgt_succ x i, ih.val]
        unfold dgt
        have := Nat.mod_add_div x 1000000000
        simp; omega
/-- The text of x. -/
def numT (x : Nat) : List UInt8 := textG (dgt x) (ngr x x)
theorem txtG_congr {f g : Nat → Nat} {n : Nat} (h : ∀ i, i < n → f i = g i) : ∀ k, k ≤ n → txtG f n k = txtG g n k
  | 0, _ => rfl
  | k + 1, hk => by rw [txtG, txtG, txtG_congr h k (by omega), grpT, grpT, h _ (by omega)]
theorem Can.text {n : Nat} {f : Nat → Nat} {x : Nat} (h : Can n f x) : textG f n = numT x := by
  obtain ⟨e1, e2⟩ := h.same (can_ngr x x (Nat.le_refl _))
  unfold numT textG
  rw [← e1]
  split
  · rfl
  · exact txtG_congr e2 n (Nat.le_refl _)
theorem dec_zero : Lib.decDigits 0 = [48] := by rw [Lib.decDigits_one (by omega)]; rfl
theorem numT_small {x : Nat} (h : x < 1000000000) : numT x = Lib.decDigits x := by
  rcases Nat.eq_zero_or_pos x with e | e
  · subst e
    rw [← (can_zero).text, dec_zero]; rfl
  · have hc : Can 1 (fun _ => x) x := ⟨fun _ _ => h, fun _ => by show x ≠ 0; omega, by simp [valF]⟩
    rw [← hc.text]
    simp [textG, txtG, grpT]
theorem numT_ne {x : Nat} (h : x ≠ 0) : numT x ≠ [48] := by
  by_cases hx : x < 1000000000
  · rw [numT_small hx]
    intro e
    have hl : (Lib.decDigits x).length = 1 := by rw [e]; rfl
    by_cases h10 : x < 10
    · rw [Lib.decDigits_one h10] at e
      have e2 := congrArg (fun l : List UInt8 => (l.headD 0).toNat) e
      simp at e2
      omega
    · rw [Lib.decDigits_length, Lib.nDigits_big h10] at hl
      have := Lib.nDigits_pos (x / 10)
      omega
  · have hc := can_ngr x x (Nat.le_refl _)
    have hn : 1 < ngr x x := by
      rcases Nat.lt_or_ge 1 (ngr x x) with q | q
      · exact q
      · have := hc.lt
        have := Nat.pow_le_pow_right (show 0 < 1000000000 by omega) q
        omega
    intro e
    have hl : (numT x).length = 1 := by rw [e]; rfl
    unfold numT textG at hl
    rw [if_neg (by omega)] at hl
    obtain ⟨m, hm⟩ : ∃ m, ngr x x = m + 2 := ⟨ngr x x - 2, by omega⟩
    rw [hm] at hl
    rw [txtG, txtG, List.length_append, List.length_append] at hl
    have h1 : 1 ≤ (grpT (dgt x) (m + 2) (m + 2 - 1 - (m + 1))).length := by
      unfold grpT; rw [List.length_append]; have := Lib.nDigits_pos (dgt x (m + 2 - 1 - (m + 1))); rw [Lib.decDigits_length]; omega
    have h2 : 1 ≤ (grpT (dgt x) (m + 2) (m + 2 - 1 - m)).length := by
      unfold grpT; rw [List.length_append]; have := Lib.nDigits_pos (dgt x (m + 2 - 1 - m)); rw [Lib.decDigits_length]; omega
    omega

end Go.Proofs.YtmbpcapjldbkbaaGreatDoor

namespace Go.Proofs.YtmbpcapjldbkbaaGreatDoor
open Go.RowKit

theorem dec_step {y : Nat} (h : ¬ y < 10) : Lib.decDigits y = Lib.decDigits (y / 10) ++ [UInt8.ofNat (48 + y % 10)] := by
  rw [Lib.decDigits, dif_neg h]
/-- k digits of r. -/
def padK : Nat → Nat → List UInt8
  | 0, _ => []
  | k + 1, r => padK k (r / 10) ++ [UInt8.ofNat (48 + r % 10)]
theorem dec_join : ∀ (k q r : Nat), 0 < q → r < 10 ^ k → Lib.decDigits (q * 10 ^ k + r) = Lib.decDigits q ++ padK k r
  | 0, q, r, _, hr => by
    have : r = 0 := by simpa using hr
    subst this; simp [padK]
  | k + 1, q, r, hq, hr => by
    have h1 : (q * 10 ^ (k + 1) + r) / 10 = q * 10 ^ k + r / 10 := by
      rw [Nat.pow_succ, ← Nat.mul_assoc]; omega
    have h2 : (q * 10 ^ (k + 1) + r) % 10 = r % 10 := by
      rw [Nat.pow_succ, ← Nat.mul_assoc]; omega
    have h3 : 1 ≤ 10 ^ k := Nat.one_le_pow _ _ (by omega)
    have h4 : 1 * 10 ^ k ≤ q * 10 ^ k := Nat.mul_le_mul_right _ hq
    rw [dec_step (by rw [Nat.pow_succ, ← Nat.mul_assoc]; omega), h1, h2, dec_join k q (r / 10) hq (by rw [Nat.pow_succ] at hr; omega), padK, List.append_assoc]
theorem rep_succ (n : Nat) : Lib.repeatL [(48 : UInt8)] n ++ [48] = Lib.repeatL [48] (n + 1) := by
  induction n with
  | zero => rfl
  | succ n ih => simp [Lib.repeatL] at ih ⊢; exact ih
theorem padK_zero : ∀ k, padK k 0 = Lib.repeatL [(48 : UInt8)] k
  | 0 => rfl
  | k + 1 => by rw [padK, padK_zero k, ← rep_succ]; rfl
theorem padK_dec : ∀ (k r : Nat), r < 10 ^ (k + 1) → padK (k + 1) r = Lib.repeatL [(48 : UInt8)] (k + 1 - (Lib.decDigits r).length) ++ Lib.decDigits r
  | 0, r, h => by
    rw [Lib.decDigits_one (by simpa using h)]
    simp [padK, Lib.repeatL]
    congr 1; omega
  | k + 1, r, h => by
    by_cases h10 : r < 10
    · rw [padK, Nat.div_eq_of_lt h10, padK_zero, Lib.decDigits_one h10, Nat.mod_eq_of_lt h10]; rfl
    · rw [padK, padK_dec k (r / 10) (by rw [Nat.pow_succ] at h; omega), dec_step h10, List.append_assoc]
      congr 2
      simp
theorem txtG_shift (f : Nat → Nat) (n : Nat) : ∀ k, k ≤ n → txtG f (n + 1) k = txtG (fun i => f (i + 1)) n k
  | 0, _ => rfl
  | k + 1, h => by
    rw [txtG, txtG, txtG_shift f n k (by omega)]
    congr 1
    unfold grpT
    rw [show n + 1 - 1 - k = n - 1 - k + 1 by omega]
    by_cases c : n - 1 - k + 1 < n
    · rw [if_pos (by omega), if_pos c]
    · rw [if_neg (by omega), if_neg c]
theorem numT_dec (x : Nat) : numT x = Lib.decDigits x := by
  induction x using Nat.strongRecOn with
  | _ x IH =>
    by_cases hx : x < 1000000000
    · exact numT_small hx
    · obtain ⟨k, rfl⟩ : ∃ k, x = k + 1 := ⟨x - 1, by omega⟩
      have hle : (k + 1) / 1000000000 ≤ k := by omega
      have hc := can_ngr k ((k + 1) / 1000000000) hle
      obtain ⟨n, hn⟩ : ∃ n, ngr k ((k + 1) / 1000000000) = n + 1 := by
        rcases Nat.eq_zero_or_pos (ngr k ((k + 1) / 1000000000)) with e | e
        · rw [e] at hc
          have := hc.val
          simp [valF] at this
          omega
        · exact ⟨_, (Nat.succ_pred_eq_of_pos e).symm⟩
      have ht := hc.text
      rw [IH _ (by omega), hn, textG, if_neg (by omega)] at ht
      unfold numT
      rw [ngr, if_neg (by omega), hn, textG, if_neg (by omega), txtG, txtG_shift _ _ _ (Nat.le_refl _), show (fun i => dgt (k + 1) (i + 1)) = dgt ((k + 1) / 1000000000) from funext fun i => dgt_succ _ i, ht]
      have hj := dec_join 9 ((k + 1) / 1000000000) ((k + 1) % 1000000000) (by omega) (by omega)
      rw [show (k + 1) / 1000000000 * 10 ^ 9 + (k + 1) % 1000000000 = k + 1 by omega] at hj
      rw [hj]
      congr 1
      rw [padK_dec 8 _ (by omega)]
      unfold grpT
      rw [if_pos (by omega), show n + 1 + 1 - 1 - (n + 1) = 0 by omega]
      have : dgt (k + 1) 0 = (k + 1) % 1000000000 := by unfold dgt; simp
      rw [this]
theorem digit_ofNat {y : Nat} (h : y < 10) : (UInt8.ofNat (48 + y)).toNat = 48 + y := by
  rw [UInt8.toNat_ofNat']; omega
theorem dec_val (x : Nat) : dvl (Lib.decDigits x) = x := by
  induction x using Nat.strongRecOn with
  | _ x IH =>
    by_cases h : x < 10
    · rw [Lib.decDigits_one h]
      have := dvl_snoc [] (UInt8.ofNat (48 + x))
      rw [digit_ofNat h] at this
      simpa [dvl] using this
    · rw [dec_step h, dvl_snoc, IH _ (by omega), digit_ofNat (by omega)]; omega
theorem dec_digits (x : Nat) : ∀ c ∈ Lib.decDigits x, 48 ≤ c.toNat ∧ c.toNat ≤ 57 := by
  induction x using Nat.strongRecOn with
  | _ x IH =>
    by_cases h : x < 10
    · rw [Lib.decDigits_one h]
      intro c hc
      rw [List.mem_singleton] at hc
      rw [hc, digit_ofNat h]; omega
    · rw [dec_step h]
      intro c hc
      rcases List.mem_append.1 hc with q | q
      · exact IH _ (by omega) c q
      · rw [List.mem_singleton] at q
        rw [q, digit_ofNat (by omega)]; omega
theorem dec_len {x k : Nat} (h : x < 10 ^ (k + 1)) : 0 < (Lib.decDigits x).length ∧ (Lib.decDigits x).length ≤ k + 1 := by
  constructor
  · by_cases q : x < 10
    · rw [Lib.decDigits_one q]; simp
    · rw [dec_step q]; simp
  · rw [Lib.decDigits_length]; exact nDig_pow k x h

end Go.Proofs.YtmbpcapjldbkbaaGreatDoor
