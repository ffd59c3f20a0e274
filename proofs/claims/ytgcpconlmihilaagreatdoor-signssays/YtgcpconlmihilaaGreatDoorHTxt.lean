/-
  The contract of wide's text of groups.
  The text of a number, by its groups.
-/
import Derived.Test.YtgcpconlmihilaaGreatDoorWNum
import Derived.Test.YtgcpconlmihilaaGreatDoorCFmt
import Derived.Shelf.Strings.Builder1
namespace Go.Proofs.YtgcpconlmihilaaGreatDoor
open Go.RowKit

/-- What group i adds to the text. -/
def grpT (f : Nat → Nat) (n i : Nat) : List UInt8 := (if i + 1 < n then Lib.repeatL [48] (9 - (Lib.decDigits (f i)).length) else []) ++ Lib.decDigits (f i)
/-- The text of the k highest groups. -/
def txtG (f : Nat → Nat) (n : Nat) : Nat → List UInt8
  | 0 => []
  | k + 1 => txtG f n k ++ grpT f n (n - 1 - k)
/-- The text of n groups. -/
def textG (f : Nat → Nat) (n : Nat) : List UInt8 := if n = 0 then [48] else txtG f n n
theorem nDig_pow : ∀ (k u : Nat), u < 10 ^ (k + 1) → Lib.nDigits u ≤ k + 1
  | 0, u, h => by rw [Lib.nDigits_small (by simpa using h)]; omega
  | k + 1, u, h => by
    by_cases e : u < 10
    · rw [Lib.nDigits_small e]; omega
    · rw [Lib.nDigits_big e]
      have := nDig_pow k (u / 10) (Nat.div_lt_of_lt_mul (by rw [Nat.mul_comm, ← Nat.pow_succ]; exact h))
      omega
theorem nDig_le {u : Nat} (h : u < 1000000000) : (Lib.decDigits u).length ≤ 9 := by rw [Lib.decDigits_length]; exact nDig_pow 8 u h
theorem grpT_len {f : Nat → Nat} {n i : Nat} (h : f i < 1000000000) : (grpT f n i).length ≤ 9 := by
  have := nDig_le h
  unfold grpT
  rw [List.length_append]
  split
  · rw [Lib.repeatL_length]; simp; omega
  · simp; omega
theorem txtG_len {f : Nat → Nat} {n : Nat} (h : ∀ i, i < n → f i < 1000000000) : ∀ k, k ≤ n → (txtG f n k).length ≤ 9 * k
  | 0, _ => by simp [txtG]
  | k + 1, hk => by
    rw [txtG, List.length_append]
    have := txtG_len h k (by omega)
    have := grpT_len (n := n) (h (n - 1 - k) (by omega))
    omega

theorem isb_below {T e : TypeId} {B b : Nat} {bs : List Value} {w w' : World} (h : Lib.IsBuilder T e B b bs w) (hb : Below w.heap.size w w') : Lib.IsBuilder T e B b bs w' := by
  have key : ∀ p, Lib.BuilderAt T e B b p bs w → Lib.BuilderAt T e B b p bs w' := fun p h => by
    have hl := h.lt
    obtain ⟨hB, v, h1, h2, h3⟩ := h
    exact ⟨hB, v, by rw [hb.block b hl]; exact h1, ownsRow_blocks h2 (fun k e => hb.block k (h2.lt k e).2), h3⟩
  rcases h with h | h
  · exact Or.inl (key _ h)
  · exact Or.inr (key _ h)
theorem WriteS_at (B b : Nat) (l : List UInt8) (s : List UInt8) (w : World) (h : Lib.IsBuilder 111 5 B b (Lib.byteCells l) w) (hlen : l.length + s.length ≤ 100000000) (hBw : B ≤ w.heap.size) :
    Calls Tryz.prog 81 #[.pointer (some ⟨b, 0, none⟩), .string ⟨s.toArray⟩] w fun e w' => e = .returned (.tuple #[.int .i64 ((s.length : Nat) : Int), .nilIface]) ∧ Lib.IsBuilder 111 5 B b (Lib.byteCells (l ++ s)) w' ∧ Below B w w' := by
  have hc := Any.Builder_WriteString (ρ := Go.Proofs.Tryz.lays105_ren) { Go.Proofs.Tryz.lays105 with } Go.Proofs.Tryz.Builder_Extra_105 B b (Lib.byteCells l) ⟨s.toArray⟩ w h (by rw [Lib.byteCells_length]; show l.length + s.toArray.size ≤ _; simp; omega) hBw
  refine Calls.mono hc ?_
  rintro e w' ⟨rfl, h1, h2⟩
  refine ⟨rfl, Or.inr ?_, h2⟩
  rw [Lib.byteCells_append]
  exact h1

set_option maxHeartbeats 4000000 in
set_option maxRecDepth 100000 in
theorem gtext_at (v : Value) (n : Nat) (f : Nat → Nat) (w : World) {lo : Nat} (hv : GrV w lo v n f) (hd : ∀ j, j < n → f j < 1000000000) (hn : n ≤ 100000) (htab : Lib.TabIs Tryz.prog w "internal/strconv.uint64pow10" .u64 Lib.pow10Tab) :
    Calls Tryz.prog 56 #[v] w fun e w' => e = .returned (.string ⟨(textG f n).toArray⟩) ∧ Below w.heap.size w w' := by
  obtain ⟨a, cap, rfl, hv⟩ := hv
  by_cases h0 : n = 0
  · subst h0
    clear hv htab
    have HE : Hid ((textG f 0).toArray = #[48]) := by show _ = _; unfold textG; rw [if_pos rfl]
    go_enter Tryz.func56, Tryz.ntmps56
    go_wp2
    go_ret
    exact ⟨by rw [HE.out]; rfl, Below.refl _ _⟩
  · obtain ⟨g, rfl, -, hg, hc⟩ := hv (by omega)
    have HC : Hid (∀ W i, Below w.heap.size w W → i < n → W.cell? ⟨g, i, none⟩ = some (.int .u64 (f i : Int))) := fun W i hW hi => (hW.cell (p := ⟨g, i, none⟩) hg).trans (hc i hi)
    have HD : Hid (∀ j, j < n → f j < 1000000000) := hd
    have HTab : Hid (∀ W, Below w.heap.size w W → Lib.TabIs Tryz.prog W "internal/strconv.uint64pow10" .u64 Lib.pow10Tab) := fun W hW => Lib.tabBelow_of_tabIs htab W hW
    have HB0 : Hid (Below w.heap.size w (w.alloc (.cells #[.pointer none, .slice none 0 0] 111))) := (Below.refl _ _).alloc (Nat.le_refl _) _
    have HI0 : Hid (Lib.IsBuilder 111 5 w.heap.size w.heap.size (Lib.byteCells (txtG f n 0)) (w.alloc (.cells #[.pointer none, .slice none 0 0] 111))) :=
      Or.inl ⟨Nat.le_refl _, .slice none 0 0, heap_alloc_new _ _, World.ownsRow_nil _ _ _ _, by simp [Value.ownBlock]⟩
    have HT : Hid (textG f n = txtG f n n) := by show _ = _; unfold textG; rw [if_neg h0]
    rw [HT.out]
    have hn0 : ((n : Int) == 0) = false := by simp; omega
    clear hv htab hc hd
    go_enter Tryz.func56, Tryz.ntmps56
    go_wp2_with fail
    go_loopw [4] (fun iv wr => ∃ (k : Nat) (j : Int), k ≤ n ∧ iv = .int .i64 j ∧ Hid (j = (n : Int) - 1 - (k : Int)) ∧ Hid (Lib.IsBuilder 111 5 w.heap.size w.heap.size (Lib.byteCells (txtG f n k)) wr) ∧ Hid (Below w.heap.size w wr)) (fun iv _ => ((intOf iv) + 1).toNat)
    case atStart => exact ⟨0, (n : Int) - 1, Nat.zero_le _, by first | rfl | go_num, by show _ = _; omega, HI0, HB0⟩
    case round =>
      clear HI0 HB0
      obtain ⟨k, j, hk, rfl, HJ, HI, HB⟩ := hrel
      by_cases hlt : k < n
      · obtain ⟨i, hi⟩ : ∃ i : Nat, j = (i : Int) := ⟨n - 1 - k, by have := HJ.out; omega⟩
        subst hi
        have HIk : Hid (i = n - 1 - k) := by show _ = _; have := HJ.out; omega
        have hin : i < n := by have := HIk.out; omega
        have hge : (i : Int) ≥ 0 := by omega
        have hci := HC.out wr i HB.out hin
        obtain ⟨u, HU⟩ : ∃ u, Hid (u = f i) := ⟨_, rfl⟩
        rw [← HU.out] at hci
        have hu : u < 1000000000 := by rw [HU.out]; exact HD.out i hin
        obtain ⟨s, HS⟩ : ∃ s : ByteArray, Hid (s = ⟨(Lib.decDigits u).toArray⟩) := ⟨_, rfl⟩
        obtain ⟨D, HDl⟩ : ∃ D, Hid (D = (Lib.decDigits u).length) := ⟨_, rfl⟩
        have hD : D ≤ 9 := by rw [HDl.out]; exact nDig_le hu
        have hsz : s.size = D := by rw [HS.out, HDl.out]; show (Lib.decDigits u).toArray.size = _; simp
        have HF : Hid (Calls Tryz.prog 80 #[.int .u64 (u : Int), .int .i64 10] wr fun e w' => e = .returned (.string s) ∧ Hid (Below wr.heap.size wr w')) := by
          rw [HS.out]; exact FormatUint_at u (by omega) wr (HTab.out wr HB.out)
        have HLk : Hid ((txtG f n k).length ≤ 9 * k) := txtG_len HD.out k hk
        have HW : Hid (∀ W l, Lib.IsBuilder 111 5 w.heap.size w.heap.size (Lib.byteCells l) W → l.length ≤ 9 * k + 9 → Below w.heap.size w W → Calls Tryz.prog 81 #[.pointer (some ⟨w.heap.size, 0, none⟩), .string s] W fun e w' => e = .returned (.tuple #[.int .i64 (D : Int), .nilIface]) ∧ Hid (Lib.IsBuilder 111 5 w.heap.size w.heap.size (Lib.byteCells (l ++ Lib.decDigits u)) w') ∧ Hid (Below w.heap.size W w')) := fun W l h1 h2 h3 => by
          rw [HS.out, HDl.out]; exact WriteS_at _ _ l (Lib.decDigits u) W h1 (by have := HDl.out; omega) h3.size
        by_cases hk0 : k = 0
        · have hlt2 : ¬ ((i : Int) < (n : Int) - 1) := by have := HIk.out; omega
          have HTk : Hid (txtG f n (k + 1) = txtG f n k ++ Lib.decDigits u) := by
            show _ = _
            rw [txtG, grpT, ← HIk.out, if_neg (by have := HIk.out; omega), List.nil_append, HU.out]
          go_wp2_with fail
          refine HF.out.mono ?_
          rintro e w1 ⟨rfl, HB1⟩
          have HB2 : Hid (Below w.heap.size w w1) := HB.out.trans (HB1.out.mono HB.out.size)
          have HI1 : Hid (Lib.IsBuilder 111 5 w.heap.size w.heap.size (Lib.byteCells (txtG f n k)) w1) := isb_below HI.out HB1.out
          have HWc := hid_w (HW.out w1 _ HI1.out (by have := HLk.out; omega) HB2.out)
          clear HF HW
          go_wp2_with fail
          refine HWc.out.mono ?_
          rintro e w3 ⟨rfl, HI3, HB3⟩
          have HI4 : Hid (Lib.IsBuilder 111 5 w.heap.size w.heap.size (Lib.byteCells (txtG f n (k + 1))) w3) := by rw [HTk.out]; exact HI3.out
          have HB4 : Hid (Below w.heap.size w w3) := HB2.out.trans HB3.out
          go_wp2
          go_roundw
          case rel => exact ⟨k + 1, (i : Int) - 1, by omega, by first | rfl | go_num, by show _ = _; have := HIk.out; omega, HI4, HB4⟩
          case measure => first | (simp [intOf]; done) | (simp [intOf]; omega)
        · have hlt2 : (i : Int) < (n : Int) - 1 := by have := HIk.out; omega
          obtain ⟨c, HCc⟩ : ∃ c, Hid (c = 9 - D) := ⟨_, rfl⟩
          have hcs : (9 : Int) - (D : Int) = (c : Int) := by have := HCc.out; omega
          have hc9 : c ≤ 9 := by have := HCc.out; omega
          obtain ⟨z, HZ⟩ : ∃ z : ByteArray, Hid (z = ⟨(Lib.repeatL [48] c).toArray⟩) := ⟨_, rfl⟩
          have HR : Hid (∀ W, Calls Tryz.prog 82 #[.string ⟨#[48]⟩, .int .i64 (c : Int)] W fun e w' => e = .returned (.string z) ∧ Hid (Below W.heap.size W w')) := fun W => by
            rw [HZ.out]
            exact Go.Proofs.Tryz.strings_Repeat ⟨#[48]⟩ c W (by omega) (by show 1 * c ≤ _; omega)
          have HZw : Hid (∀ W l, Lib.IsBuilder 111 5 w.heap.size w.heap.size (Lib.byteCells l) W → l.length ≤ 9 * k → Below w.heap.size w W → Calls Tryz.prog 81 #[.pointer (some ⟨w.heap.size, 0, none⟩), .string z] W fun e w' => e = .returned (.tuple #[.int .i64 (c : Int), .nilIface]) ∧ Hid (Lib.IsBuilder 111 5 w.heap.size w.heap.size (Lib.byteCells (l ++ Lib.repeatL [48] c)) w') ∧ Hid (Below w.heap.size W w')) := fun W l h1 h2 h3 => by
            have h := WriteS_at _ _ l (Lib.repeatL [48] c) W h1 (by rw [Lib.repeatL_length]; simp; omega) h3.size
            rw [Lib.repeatL_length, show c * [(48 : UInt8)].length = c by simp] at h
            rw [HZ.out]; exact h
          have HTk : Hid (txtG f n (k + 1) = (txtG f n k ++ Lib.repeatL [48] c) ++ Lib.decDigits u) := by
            show _ = _
            rw [txtG, grpT, ← HIk.out, if_pos (by have := HIk.out; omega), ← HU.out, ← HDl.out, ← HCc.out, List.append_assoc]
          have HLz : Hid ((txtG f n k ++ Lib.repeatL [48] c).length ≤ 9 * k + 9) := by
            show _ ≤ _
            rw [List.length_append, Lib.repeatL_length]; have := HLk.out; simp; omega
          go_wp2_with fail
          refine HF.out.mono ?_
          rintro e w1 ⟨rfl, HB1⟩
          have HB2 : Hid (Below w.heap.size w w1) := HB.out.trans (HB1.out.mono HB.out.size)
          have HI1 : Hid (Lib.IsBuilder 111 5 w.heap.size w.heap.size (Lib.byteCells (txtG f n k)) w1) := isb_below HI.out HB1.out
          clear HF
          go_wp2_with fail
          refine (HR.out w1).mono ?_
          rintro e w2 ⟨rfl, HB5⟩
          have HB6 : Hid (Below w.heap.size w w2) := HB2.out.trans (HB5.out.mono HB2.out.size)
          have HI2 : Hid (Lib.IsBuilder 111 5 w.heap.size w.heap.size (Lib.byteCells (txtG f n k)) w2) := isb_below HI1.out HB5.out
          have HZc := hid_w (HZw.out w2 _ HI2.out HLk.out HB6.out)
          clear HR HZw
          go_wp2_with fail
          refine HZc.out.mono ?_
          rintro e w3 ⟨rfl, HI3, HB7⟩
          have HB8 : Hid (Below w.heap.size w w3) := HB6.out.trans HB7.out
          have HWc := hid_w (HW.out w3 _ HI3.out HLz.out HB8.out)
          clear HZc HW
          go_wp2_with fail
          refine HWc.out.mono ?_
          rintro e w4 ⟨rfl, HI5, HB9⟩
          have HI6 : Hid (Lib.IsBuilder 111 5 w.heap.size w.heap.size (Lib.byteCells (txtG f n (k + 1))) w4) := by rw [HTk.out]; exact HI5.out
          have HB10 : Hid (Below w.heap.size w w4) := HB8.out.trans HB9.out
          go_wp2
          go_roundw
          case rel => exact ⟨k + 1, (i : Int) - 1, by omega, by first | rfl | go_num, by show _ = _; have := HIk.out; omega, HI6, HB10⟩
          case measure => first | (simp [intOf]; done) | (simp [intOf]; omega)
      · obtain rfl : k = n := by omega
        have hge : ¬ (j ≥ 0) := by have := HJ.out; omega
        have HS := hid_w (Go.Proofs.Tryz.Builder_String_any w.heap.size w.heap.size (txtG f k k) wr HI.out HB.out.size)
        obtain ⟨t, HTt⟩ : ∃ t : ByteArray, Hid (t = ⟨(txtG f k k).toArray⟩) := ⟨_, rfl⟩
        rw [← HTt.out] at HS
        go_wp2_with fail
        refine HS.out.mono ?_
        rintro e w5 ⟨rfl, hb5⟩
        have HB5 : Hid (Below w.heap.size w w5) := HB.out.trans hb5
        clear hb5
        go_wp2
        go_ret
        exact ⟨by rw [← HTt.out]; rfl, HB5.out⟩

end Go.Proofs.YtgcpconlmihilaaGreatDoor

namespace Go.Proofs.YtgcpconlmihilaaGreatDoor
open Go.RowKit

theorem valF_shift (f : Nat → Nat) : ∀ n, valF f (n + 1) = f 0 + 1000000000 * valF (fun i => f (i + 1)) n
  | 0 => by simp [valF]
  | n + 1 => by
    rw [valF, valF_shift f n, valF, Nat.mul_add, Nat.pow_succ, Nat.add_assoc]
    congr 2
    ac_rfl
/-- How many groups. -/
def ngr : Nat → Nat → Nat
  | 0, _ => 0
  | k + 1, x => if x = 0 then 0 else ngr k (x / 1000000000) + 1
def dgt (x i : Nat) : Nat := x / 1000000000 ^ i % 1000000000
theorem dgt_succ (x i : Nat) : dgt x (i + 1) = dgt (x / 1000000000) i := by
  unfold dgt; rw [Nat.div_div_eq_div_mul, Nat.pow_succ, Nat.mul_comm]
theorem can_ngr : ∀ k x, x ≤ k → Can (ngr k x) (dgt x) x
  | 0, x, h => by
    obtain rfl : x = 0 := by omega
    exact ⟨fun j hj => by simp [ngr] at hj, fun h => by simp [ngr] at h, rfl⟩
  | k + 1, x, h => by
    rw [ngr]
    by_cases e : x = 0
    · rw [if_pos e, e]; exact ⟨fun j hj => by omega, fun h => by omega, rfl⟩
    · rw [if_neg e]
      have ih := can_ngr k (x / 1000000000) (by have := Nat.div_lt_self (show 0 < x by omega) (show 1 < 1000000000 by omega); omega)
      refine ⟨fun j _ => Nat.mod_lt _ (by omega), fun _ => ?_, ?_⟩
      · rw [Nat.add_sub_cancel]
        rcases Nat.eq_zero_or_pos (ngr k (x / 1000000000)) with q | q
        · rw [q]
          have hv := ih.val
          rw [q, valF] at hv
          unfold dgt
          have := Nat.mod_add_div x 1000000000
          simp; omega
        · obtain ⟨m, hm⟩ : ∃ m, ngr k (x / 1000000000) = m + 1 := ⟨_, (Nat.succ_pred_eq_of_pos q).symm⟩
          rw [hm, dgt_succ]
          have := ih.top q
          rw [hm, Nat.add_sub_cancel] at this
          exact this
      · rw [valF_shift, show (fun i => dgt x (i + 1)) = dgt (x / 1000000000) from funext fun i => dgt_succ x i, ih.val]
        unfold dgt
        have := Nat.mod_add_div x 1000000000
        simp; omega
/-- The text of x. -/
def numT (x : Nat) : List UInt8 := textG (dgt x) (ngr x x)
theorem txtG_congr {f g : Nat → Nat} {n : Nat} (h : ∀ i, i < n → f i = g i) : ∀ k, k ≤ n → txtG f n k = txtG g n k
  | 0, _ => rfl
  | k + 1, hk => by rw [txtG, txtG, txtG_congr h k (by omega), grpT, grpT, h _ (by omega)]
theorem Can.text {n : Nat} {f : Nat → Nat} {x : Nat} (h : Can n f x) : textG f n = numT x := by
  obtain ⟨e1, e2⟩ := h.same (can_ngr x x (Nat.le_refl _))
  unfold numT textG
  rw [← e1]
  split
  · rfl
  · exact txtG_congr e2 n (Nat.le_refl _)
theorem dec_zero : Lib.decDigits 0 = [48] := by rw [Lib.decDigits_one (by omega)]; rfl
theorem numT_small {x : Nat} (h : x < 1000000000) : numT x = Lib.decDigits x := by
  rcases Nat.eq_zero_or_pos x with e | e
  · subst e
    rw [← (can_zero).text, dec_zero]; rfl
  · have hc : Can 1 (fun _ => x) x := ⟨fun _ _ => h, fun _ => by show x ≠ 0; omega, by simp [valF]⟩
    rw [← hc.text]
    simp [textG, txtG, grpT]
theorem numT_ne {x : Nat} (h : x ≠ 0) : numT x ≠ [48] := by
  by_cases hx : x < 1000000000
  · rw [numT_small hx]
    intro e
    have hl : (Lib.decDigits x).length = 1 := by rw [e]; rfl
    by_cases h10 : x < 10
    · rw [Lib.decDigits_one h10] at e
      have e2 := congrArg (fun l : List UInt8 => (l.headD 0).toNat) e
      simp at e2
      omega
    · rw [Lib.decDigits_length, Lib.nDigits_big h10] at hl
      have := Lib.nDigits_pos (x / 10)
      omega
  · have hc := can_ngr x x (Nat.le_refl _)
    have hn : 1 < ngr x x := by
      rcases Nat.lt_or_ge 1 (ngr x x) with q | q
      · exact q
      · have := hc.lt
        have := Nat.pow_le_pow_right (show 0 < 1000000000 by omega) q
        omega
    intro e
    have hl : (numT x).length = 1 := by rw [e]; rfl
    unfold numT textG at hl
    rw [if_neg (by omega)] at hl
    obtain ⟨m, hm⟩ : ∃ m, ngr x x = m + 2 := ⟨ngr x x - 2, by omega⟩
    rw [hm] at hl
    rw [txtG, txtG, List.length_append, List.length_append] at hl
    have h1 : 1 ≤ (grpT (dgt x) (m + 2) (m + 2 - 1 - (m + 1))).length := by
      unfold grpT; rw [List.length_append]; have := Lib.nDigits_pos (dgt x (m + 2 - 1 - (m + 1))); rw [Lib.decDigits_length]; omega
    have h2 : 1 ≤ (grpT (dgt x) (m + 2) (m + 2 - 1 - m)).length := by
      unfold grpT; rw [List.length_append]; have := Lib.nDigits_pos (dgt x (m + 2 - 1 - m)); rw [Lib.decDigits_length]; omega
    omega

end Go.Proofs.YtgcpconlmihilaaGreatDoor
