/-
  The contract of ferref.Skew.
-/
import Derived.Test.YtjciandmpfcfjaaSRhl
import Derived.Test.YtjciandmpfcfjaaVRef
import Derived.Deep.DeepCutAuto
namespace Go.Proofs.Ytjciandmpfcfjaa
open Go.RowKit

/-- What the reference's 'at' says. -/
def atF (ls : List (List Int)) (i j : Int) : Int × Bool := if i < 0 ∨ j < 0 ∨ j ≥ ((row ls i.toNat).length : Int) then (0, false) else (box ls i.toNat j.toNat, true)
set_option maxHeartbeats 4000000 in
theorem SkewAt_is {x : Int} {ok : Bool} (i j : Int) (B : Nat) (a : Option Addr) (cap : Nat) (ls : List (List Int)) (w : World) (hs : Table w a ls) (hB : w.cell? ⟨B, 0, none⟩ = some (.slice a ls.length cap)) (hi : i < (ls.length : Int)) (E : Hid (atF ls i j = (x, ok))) :
    Calls Try.prog 46 #[.int .i64 i, .int .i64 j, .pointer (some ⟨B, 0, none⟩)] w fun e w' => e = .returned (.tuple #[.int .i64 x, .bool ok]) ∧ w' = w := by
  have HS : Hid (Table w a ls) := hs
  clear hs
  by_cases c1 : i < 0
  · have hc1 : decide (i < 0) = true := by simpa using c1
    have HE : Hid (x = 0 ∧ ok = false) := by
      have := E.out; unfold atF at this; rw [if_pos (Or.inl c1)] at this
      simp only [Prod.mk.injEq] at this; exact ⟨this.1.symm, this.2.symm⟩
    go_enter Try.func46, Try.ntmps46
    go_wp2
    go_ret2
    exact ⟨by rw [HE.out.1, HE.out.2]; rfl, rfl⟩
  · have hc1 : decide (i < 0) = false := by simpa using c1
    by_cases c2 : j < 0
    · have hc2 : decide (j < 0) = true := by simpa using c2
      have HE : Hid (x = 0 ∧ ok = false) := by
        have := E.out; unfold atF at this; rw [if_pos (Or.inr (Or.inl c2))] at this
        simp only [Prod.mk.injEq] at this; exact ⟨this.1.symm, this.2.symm⟩
      go_enter Try.func46, Try.ntmps46
      go_wp2
      go_ret2
      exact ⟨by rw [HE.out.1, HE.out.2]; rfl, rfl⟩
    · have hc2 : decide (j < 0) = false := by simpa using c2
      obtain ⟨p, rfl⟩ : ∃ p : Nat, i = (p : Int) := ⟨i.toNat, by omega⟩
      obtain ⟨q, rfl⟩ : ∃ q : Nat, j = (q : Int) := ⟨j.toNat, by omega⟩
      have hpl : p < ls.length := by omega
      obtain ⟨b, off, ai, m, ci, rfl, hc, HM, HSk, -, hmb⟩ := HS.out.elem hpl
      by_cases c3 : (q : Int) ≥ (m : Int)
      · have hc3 : decide ((q : Int) ≥ (m : Int)) = true := by simpa using c3
        have HE : Hid (x = 0 ∧ ok = false) := by
          have := E.out; unfold atF at this
          rw [Int.toNat_natCast, ← HM.out, if_pos (Or.inr (Or.inr c3))] at this
          simp only [Prod.mk.injEq] at this; exact ⟨this.1.symm, this.2.symm⟩
        go_enter Try.func46, Try.ntmps46
        go_wp2
        go_ret2
        exact ⟨by rw [HE.out.1, HE.out.2]; rfl, rfl⟩
      · have hc3 : decide ((q : Int) ≥ (m : Int)) = false := by simp; omega
        have hqm : (q : Int) < (m : Int) := by omega
        have hqk : q < (row ls p).length := by rw [← HM.out]; omega
        obtain ⟨b2, off2, z, rfl, HZ, -, -, hcz⟩ := HSk.out.elem hqk
        have HE : Hid (x = z ∧ ok = true) := by
          have := E.out; unfold atF at this
          rw [Int.toNat_natCast, Int.toNat_natCast, ← HM.out, if_neg (by omega)] at this
          simp only [Prod.mk.injEq] at this
          exact ⟨by rw [← this.1, HZ.out]; rfl, this.2.symm⟩
        go_enter Try.func46, Try.ntmps46
        go_wp2
        go_ret2
        exact ⟨by rw [HE.out.1, HE.out.2]; rfl, rfl⟩

/-- What the head of a row is asked. -/
def badH (ls : List (List Int)) (i : Nat) : Bool := decide ((row ls i).length = 0 ∨ (0 < i ∧ ((row ls (i - 1)).length < (row ls i).length ∨ H ls (i - 1) < H ls i)))
/-- The boxes of a row up to j are right. -/
def Gd (ls : List (List Int)) (i j : Nat) : Prop := ∀ b, H ls i ≤ b → b < j → (1 ≤ box ls i b ∧ box ls i b ≤ 99) ∧ (H ls i < b → box ls i (b - 1) ≤ box ls i b) ∧ (0 < i → H ls (i - 1) ≤ b → box ls (i - 1) b < box ls i b)
theorem gd_row {ls : List (List Int)} {i : Nat} (hb : badH ls i = false) (hg : Gd ls i (row ls i).length) : skB i (upOf ls i) (row ls i) = true := by
  unfold badH at hb
  have hb := of_decide_eq_false hb
  refine skB_iff.2 ⟨by omega, fun j h1 h2 => (hg j h1 h2).1, fun j h1 h2 => ?_, fun q => ?_, fun q => ?_, fun q j h1 h2 => ?_⟩
  · have := (hg (j + 1) (by show hol (row ls i) ≤ j + 1; omega) h2).2.1 (by show hol (row ls i) < j + 1; omega)
    exact this
  · rw [upOf_pred ls q]; omega
  · rw [upOf_pred ls q]; show H ls i ≤ H ls (i - 1); omega
  · rw [upOf_pred ls q] at h1 ⊢
    exact (hg j (by show H ls i ≤ j; have : H ls (i - 1) ≤ j := h1; omega) h2).2.2 q h1
theorem bad_head {ls : List (List Int)} {i : Nat} (hb : badH ls i = true) : skB i (upOf ls i) (row ls i) = false := by
  have hb := of_decide_eq_true hb
  cases e : skB i (upOf ls i) (row ls i) with
  | false => rfl
  | true =>
    have h := skB_iff.1 e
    exfalso
    rcases hb with q | ⟨q, r⟩
    · have := h.one; omega
    · have h1 := h.len q
      have h2 := h.hol q
      rw [upOf_pred ls q] at h1 h2
      have h2' : H ls i ≤ H ls (i - 1) := h2
      omega
theorem bad_box {ls : List (List Int)} {i j : Nat} (h1 : H ls i ≤ j) (h2 : j < (row ls i).length) (hb : ¬ ((1 ≤ box ls i j ∧ box ls i j ≤ 99) ∧ (H ls i < j → box ls i (j - 1) ≤ box ls i j) ∧ (0 < i → H ls (i - 1) ≤ j → box ls (i - 1) j < box ls i j))) : skB i (upOf ls i) (row ls i) = false := by
  cases e : skB i (upOf ls i) (row ls i) with
  | false => rfl
  | true =>
    have h := skB_iff.1 e
    refine absurd ⟨h.low j h1 h2, fun q => ?_, fun q r => ?_⟩ hb
    · have := h.along (j - 1) (by have : hol (row ls i) < j := q; omega) (by omega)
      rw [show j - 1 + 1 = j by omega] at this
      exact this
    · have := h.over q j (by rw [upOf_pred ls q]; exact r) h2
      rw [upOf_pred ls q] at this
      exact this
theorem gd_next {ls : List (List Int)} {i j : Nat} (hg : Gd ls i j) (h : (1 ≤ box ls i j ∧ box ls i j ≤ 99) ∧ (H ls i < j → box ls i (j - 1) ≤ box ls i j) ∧ (0 < i → H ls (i - 1) ≤ j → box ls (i - 1) j < box ls i j)) : Gd ls i (j + 1) := fun b h1 h2 => by
  by_cases e : b = j
  · subst e; exact h
  · exact hg b h1 (by omega)
theorem at_left {ls : List (List Int)} {i j : Nat} {x : Int} {ok : Bool} (hj : j < (row ls i).length) (h : atF ls (i : Int) ((j : Int) - 1) = (x, ok)) : (ok = true → 0 < j ∧ x = box ls i (j - 1)) ∧ (ok = false → j = 0) := by
  unfold atF at h
  rw [Int.toNat_natCast] at h
  by_cases c : j = 0
  · rw [if_pos (by omega)] at h
    simp only [Prod.mk.injEq] at h
    exact ⟨fun q => (by rw [← h.2] at q; cases q), fun _ => c⟩
  · rw [if_neg (by omega), show ((j : Int) - 1).toNat = j - 1 by omega] at h
    simp only [Prod.mk.injEq] at h
    exact ⟨fun _ => ⟨by omega, h.1.symm⟩, fun q => by rw [← h.2] at q; cases q⟩
theorem at_up {ls : List (List Int)} {i j : Nat} {x : Int} {ok : Bool} (hj : j < (row ls i).length) (hb : badH ls i = false) (h : atF ls ((i : Int) - 1) (j : Int) = (x, ok)) : (ok = true → 0 < i ∧ x = box ls (i - 1) j) ∧ (ok = false → i = 0) := by
  unfold badH at hb
  have hb := of_decide_eq_false hb
  unfold atF at h
  by_cases c : i = 0
  · rw [if_pos (by omega)] at h
    simp only [Prod.mk.injEq] at h
    exact ⟨fun q => (by rw [← h.2] at q; cases q), fun _ => c⟩
  · rw [show ((i : Int) - 1).toNat = i - 1 by omega, if_neg (by omega), Int.toNat_natCast] at h
    simp only [Prod.mk.injEq] at h
    exact ⟨fun _ => ⟨by omega, h.1.symm⟩, fun q => by rw [← h.2] at q; cases q⟩

set_option maxHeartbeats 16000000 in
set_option maxRecDepth 100000 in
theorem Skew_any (a : Option Addr) (cap : Nat) (ls : List (List Int)) (w : World) (hs : Table w a ls) (hl : ls.length ≤ 2000000) (hf : ls.flatten.length ≤ 2000000) :
    Calls Try.prog 13 #[.slice a ls.length cap] w fun e w' => e = .returned (.int .i64 (schk ls)) ∧ Below w.heap.size w w' := by
  have HS : Hid (Table w a ls) := hs
  obtain ⟨N, HN⟩ : ∃ N, Hid (N = ls.flatten.length) := ⟨_, rfl⟩
  have hN : N ≤ 2000000 := by rw [HN.out]; exact hf
  have HFl : Hid (ls.flatten.length ≤ 2000000) := hf
  clear hs hf
  obtain ⟨w0, HW0⟩ : ∃ w0, Hid (w0 = w.alloc (.cells #[.slice a ls.length cap] 23)) := ⟨_, rfl⟩
  have HB0 : Hid (Below w.heap.size w w0) := by rw [HW0.out]; exact (Below.refl _ _).alloc (Nat.le_refl _) _
  have HZ0 : Hid (w0.heap.size = w.heap.size + 1) := by rw [HW0.out]; show _ = _; simp
  have hc0 : w0.cell? ⟨w.heap.size, 0, none⟩ = some (.slice a ls.length cap) := by rw [HW0.out, World.cell?_alloc_at _ _ _ _ rfl]; rfl
  have HC0 : Hid (w0.cell? ⟨w.heap.size, 0, none⟩ = some (.slice a ls.length cap)) := hc0
  go_enter Try.func13, Try.ntmps13
  go_wp2_with fail
  rw [← HW0.out]
  refine (RCount_at a ls.length cap ls w0 (HS.out.below HB0.out) rfl hl HFl.out).mono ?_
  rintro e w1 ⟨rfl, hb1⟩
  rw [← HN.out]
  have HB1 : Hid (Below w.heap.size w w1) := HB0.out.trans (hb1.mono HB0.out.size)
  have hc1 : w1.cell? ⟨w.heap.size, 0, none⟩ = some (.slice a ls.length cap) := by
    rw [hb1.cell (p := ⟨w.heap.size, 0, none⟩) (by have := HZ0.out; show w.heap.size < w0.heap.size; omega)]; exact HC0.out
  have HC1 : Hid (w1.cell? ⟨w.heap.size, 0, none⟩ = some (.slice a ls.length cap)) := hc1
  have HS1 : Hid (Table w1 a ls) := HS.out.below HB1.out
  clear hb1 hc0
  by_cases h40 : 40 < N
  · have hb : decide ((N : Int) > 40) = true := by simp; omega
    have HE : Hid (schk ls = 2) := by show _ = _; unfold schk; rw [← HN.out, if_pos h40]
    clear h40
    go_wp2
    go_ret
    exact ⟨ret_int HE.out.symm, HB1.out⟩
  · have hb : decide ((N : Int) > 40) = false := by simp; omega
    have HE : Hid (schk ls = if okSk ls = true then 0 else 1) := by show _ = _; unfold schk; rw [← HN.out, if_neg h40]
    clear h40
    go_wp2
    go_loopw [4] (fun iv wr => ∃ i : Nat, i ≤ ls.length ∧ iv = .int .i64 i ∧ Hid (∀ q, q < i → skB q (upOf ls q) (row ls q) = true) ∧ Hid (∃ d, wr = w1.drewN d)) (fun iv _ => ls.length - (intOf iv).toNat)
    case atStart => exact ⟨0, Nat.zero_le _, rfl, fun q hq => by omega, ⟨0, rfl⟩⟩
    case round =>
      obtain ⟨i, hi, rfl, HR, HD⟩ := hrel
      have hcw : wr.cell? ⟨w.heap.size, 0, none⟩ = some (.slice a ls.length cap) := by obtain ⟨d, hd⟩ := HD.out; rw [hd]; exact HC1.out
      have HTw : Hid (Table wr a ls) := by obtain ⟨d, hd⟩ := HD.out; show Table _ _ _; rw [hd]; exact HS1.out.drewN d
      by_cases hil : i < ls.length
      · have hil' : (i : Int) < (ls.length : Int) := by omega
        have HIl : Hid (i < ls.length) := hil
        have HNo : Hid (skB i (upOf ls i) (row ls i) = false → schk ls = 1) := fun h => by rw [HE.out, okSk_no HIl.out h]; rfl
        obtain ⟨b, off, ai, m, ci, rfl, hc, HM, HSk, -, hmb⟩ := HTw.out.elem hil
        obtain ⟨bad, HBad⟩ : ∃ bad, Hid (badH ls i = bad) := ⟨_, rfl⟩
        obtain ⟨p, HP⟩ : ∃ p, Hid (hol (row ls i) = p) := ⟨_, rfl⟩
        have hpm : p ≤ m := by rw [← HP.out, HM.out]; exact hol_le _
        have hisub : IntKind.i64.wrap ((i : Int) - 1) = (i : Int) - 1 := by rw [IntWalk.i64_left, IntWalk.wrap64_in _ (by omega)]
        have HDn : Hid (∀ n, Hid (∃ d, wr.drewN n = w1.drewN d)) := fun n => by obtain ⟨d, hd⟩ := HD.out; exact ⟨d + n, by rw [hd, World.drewN_drewN]⟩
        go_upto_region 7 with fail
        go_cut [58] (fun s58 wc => s58 = .bool bad ∧ Hid (∃ d, wc = w1.drewN d))
        case first =>
          by_cases h0 : m = 0
          · subst h0
            have HBd : Hid (bad = true) := by show _ = _; rw [← HBad.out]; unfold badH; exact decide_eq_true (Or.inl HM.out.symm)
            have h00 : (((0 : Nat) : Int) == 0) = true := by simp
            go_quiet (fail)
            go_wp2_with fail
            go_meet
            exact ⟨by rw [HBd.out], HDn.out _⟩
          · have h00 : ((m : Int) == 0) = false := beq_false_of_ne (by omega)
            by_cases hi0 : i = 0
            · have HBd : Hid (bad = false) := by show _ = _; rw [← HBad.out]; unfold badH; exact decide_eq_false (by rw [← HM.out]; omega)
              have hig : decide ((i : Int) > 0) = false := by simp; omega
              have hig2 : decide (0 < i) = false := by simp; omega
              clear hi0
              go_quiet (fail)
              go_wp2_with fail
              go_meet
              exact ⟨by rw [HBd.out], HDn.out _⟩
            · have hig : decide ((i : Int) > 0) = true := by simp; omega
              have hig2 : decide (0 < i) = true := by simp; omega
              have hig' : (i : Int) > 0 := by omega
              obtain ⟨k, hk⟩ : ∃ k, i = k + 1 := ⟨i - 1, by omega⟩
              have hikl : k < ls.length := by omega
              have hisub2 : IntKind.i64.wrap ((i : Int) - 1) = (k : Int) := by rw [hisub]; omega
              have hikl' : (k : Int) < (ls.length : Int) := by omega
              obtain ⟨b', off', ai2, m2, ci2, ha2, hcc2, HM2, HSk2, -, hmb2⟩ := HTw.out.elem hikl
              simp only [Option.some.injEq, Addr.mk.injEq, and_true] at ha2
              obtain ⟨rfl, rfl⟩ := ha2
              obtain ⟨q, HQ⟩ : ∃ q, Hid (hol (row ls k) = q) := ⟨_, rfl⟩
              have hqb : q ≤ m2 := by rw [← HQ.out, HM2.out]; exact hol_le _
              have HBe : Hid (bad = decide (m2 < m ∨ q < p)) := by
                show _ = _; rw [← HBad.out]; unfold badH H
                rw [show i - 1 = k by omega, ← HM.out, ← HM2.out, HP.out, HQ.out]
                exact decide_eq_decide.2 (by omega)
              clear hisub hk
              by_cases hmm : m2 < m
              · have hmg : decide ((m : Int) > (m2 : Int)) = true := by simp; omega
                have hmg2 : decide (m2 < m) = true := by simp; omega
                have HBd : Hid (bad = true) := by rw [HBe.out]; exact decide_eq_true (Or.inl hmm)
                go_quiet (fail)
                go_wp2_with fail
                go_meet
                exact ⟨by rw [HBd.out], HDn.out _⟩
              · have hmg : decide ((m : Int) > (m2 : Int)) = false := by simp; omega
                have hmg2 : decide (m2 < m) = false := by simp; omega
                have HLi : Hid ((row ls i).length ≤ 17592186044416) := HSk.out.len
                have HLi2 : Hid ((row ls k).length ≤ 17592186044416) := HSk2.out.len
                have HBd : Hid (decide ((p : Int) > (q : Int)) = bad) := by
                  rw [HBe.out]; exact decide_eq_decide.2 (by omega)
                obtain ⟨bb, hbb⟩ : ∃ bb, decide ((p : Int) > (q : Int)) = bb := ⟨_, rfl⟩
                have hbb2 : decide (q < p) = bb := by rw [← hbb]; exact decide_eq_decide.2 (by omega)
                have HBb : Hid (bb = bad) := by show _ = _; rw [← hbb]; exact HBd.out
                go_quiet (first | (go_at_call_of 19 (Value.slice ai2 m2 ci2); exact Calls.quiet_of_same (RHoles_is _ _ _ (row ls k) _ (HSk2.out.drewN _) HM2.out HLi2.out HQ)) | (go_at_call_of 19 (Value.slice ai m ci); exact Calls.quiet_of_same (RHoles_is _ _ _ (row ls i) _ (HSk.out.drewN _) HM.out HLi.out HP)))
                go_wp2_with fail
                go_meet
                exact ⟨by rw [← HBb.out], HDn.out _⟩
        case rest =>
          obtain ⟨rfl, HDc⟩ := hcut
          have hcc : wc.cell? ⟨w.heap.size, 0, none⟩ = some (.slice (some ⟨b, off, none⟩) ls.length cap) := by obtain ⟨d, hd⟩ := HDc.out; rw [hd]; exact HC1.out
          have hcrow : wc.cell? ⟨b, off + i, none⟩ = some (.slice ai m ci) := by
            obtain ⟨d, hd⟩ := HDc.out
            obtain ⟨d0, hd0⟩ := HD.out
            rw [hd]; rw [hd0] at hc; exact hc
          have HSkc : Hid (Shows wc ai (row ls i)) := by
            have HTc : Table wc (some ⟨b, off, none⟩) ls := by obtain ⟨d, hd⟩ := HDc.out; rw [hd]; exact HS1.out.drewN d
            obtain ⟨_, _, ai', m', ci', hab', hcz', -, HSk', -, -⟩ := HTc.elem HIl.out
            simp only [Option.some.injEq, Addr.mk.injEq, and_true] at hab'
            obtain ⟨rfl, rfl⟩ := hab'
            rw [hcrow] at hcz'
            simp only [Option.some.injEq, Value.slice.injEq] at hcz'
            obtain ⟨rfl, rfl, rfl⟩ := hcz'
            exact HSk'.out
          cases bad with
          | true =>
            have HF : Hid (schk ls = 1) := HNo.out (bad_head HBad.out)
            have HBe : Hid (Below w.heap.size w wc) := by obtain ⟨d, hd⟩ := HDc.out; rw [hd]; exact below_drewN HB1.out d
            go_wp2
            go_ret
            exact ⟨ret_int HF.out.symm, HBe.out⟩
          | false =>
            have hmb' : m ≤ 17592186044416 := hmb
            have HG0 : Hid (Gd ls i p) := fun b h1 h2 => by
              have h3 : p ≤ b := by rw [← HP.out]; exact h1
              omega
            go_wp2_with fail
            refine (RHoles_is _ _ _ (row ls i) wc HSkc.out HM.out HSkc.out.len HP).mono ?_
            rintro e wy ⟨rfl, hwy⟩
            obtain rfl : wc = wy := hwy.symm
            clear hwy
            go_wp2
            go_loopw [5] (fun jv wr => ∃ j : Nat, p ≤ j ∧ j ≤ m ∧ jv = .int .i64 j ∧ Hid (Gd ls i j) ∧ Hid (∃ d, wr = w1.drewN d)) (fun jv _ => m - (intOf jv).toNat)
            case atStart => exact ⟨p, Nat.le_refl _, hpm, rfl, HG0, HDc⟩
            case round =>
              obtain ⟨j, hpj, hjm, rfl, HG, HDr⟩ := hrel
              have hcr : wr.cell? ⟨w.heap.size, 0, none⟩ = some (.slice (some ⟨b, off, none⟩) ls.length cap) := by obtain ⟨d, hd⟩ := HDr.out; rw [hd]; exact HC1.out
              have hcrw : wr.cell? ⟨b, off + i, none⟩ = some (.slice ai m ci) := by
                obtain ⟨d, hd⟩ := HDr.out
                obtain ⟨d0, hd0⟩ := HD.out
                rw [hd]; rw [hd0] at hc; exact hc
              have HTr : Hid (Table wr (some ⟨b, off, none⟩) ls) := by obtain ⟨d, hd⟩ := HDr.out; show Table _ _ _; rw [hd]; exact HS1.out.drewN d
              have HBe : Hid (Below w.heap.size w wr) := by obtain ⟨d, hd⟩ := HDr.out; rw [hd]; exact below_drewN HB1.out d
              by_cases hlt : j < m
              · have hlt' : (j : Int) < (m : Int) := by omega
                have HJl : Hid (j < (row ls i).length) := by show _ < _; rw [← HM.out]; exact hlt
                have HJh : Hid (H ls i ≤ j) := by show hol (row ls i) ≤ j; rw [HP.out]; exact hpj
                obtain ⟨_, _, ai', m', ci', hab', hcz', HM', HSk', -, -⟩ := HTr.out.elem HIl.out
                simp only [Option.some.injEq, Addr.mk.injEq, and_true] at hab'
                obtain ⟨rfl, rfl⟩ := hab'
                rw [hcrw] at hcz'
                simp only [Option.some.injEq, Value.slice.injEq] at hcz'
                obtain ⟨rfl, rfl, rfl⟩ := hcz'
                obtain ⟨b2, off2, z, hai2, HZ, hz1, hz2, hcz⟩ := HSk'.out.elem HJl.out
                subst hai2
                have hjsub : IntKind.i64.wrap ((j : Int) - 1) = (j : Int) - 1 := by rw [IntWalk.i64_left, IntWalk.wrap64_in _ (by omega)]
                clear HM' HSk'
                by_cases hz : z < 1
                · have hzb : decide (z < 1) = true := by simpa using hz
                  have HF : Hid (schk ls = 1) := HNo.out (bad_box HJh.out HJl.out (fun q => by have h1 := q.1.1; have h2 : box ls i j = z := HZ.out.symm; omega))
                  go_wp2
                  go_ret
                  exact ⟨ret_int HF.out.symm, HBe.out⟩
                have hzb : decide (z < 1) = false := by simpa using hz
                by_cases hz9 : z > 99
                · have hzb9 : decide (z > 99) = true := by simpa using hz9
                  have HF : Hid (schk ls = 1) := HNo.out (bad_box HJh.out HJl.out (fun q => by have h1 := q.1.2; have h2 : box ls i j = z := HZ.out.symm; omega))
                  go_wp2
                  go_ret
                  exact ⟨ret_int HF.out.symm, HBe.out⟩
                have hzb9 : decide (z > 99) = false := by simpa using hz9
                have HZb : Hid (box ls i j = z) := HZ.out.symm
                have HZr : Hid (1 ≤ box ls i j ∧ box ls i j ≤ 99) := by have h2 : box ls i j = z := HZ.out.symm; show _ ∧ _; omega
                -- at(i, j-1)
                obtain ⟨l, ok1, HL⟩ : ∃ l ok1, Hid (atF ls (i : Int) ((j : Int) - 1) = (l, ok1)) := ⟨_, _, rfl⟩
                have hle := at_left HJl.out HL.out
                go_wp2_with fail
                refine (SkewAt_is (i : Int) ((j : Int) - 1) w.heap.size (some ⟨b, off, none⟩) cap ls wr HTr.out hcr hil' HL).mono ?_
                rintro e wz ⟨rfl, hwz⟩
                obtain rfl : wr = wz := hwz.symm
                clear hwz
                cases ok1 with
                | false =>
                  have hj0 : j = 0 := hle.2 rfl
                  have HAl : Hid (H ls i < j → box ls i (j - 1) ≤ box ls i j) := fun q => by omega
                  clear hle hj0
                  -- at(i-1, j)
                  obtain ⟨u, ok2, HU⟩ : ∃ u ok2, Hid (atF ls ((i : Int) - 1) (j : Int) = (u, ok2)) := ⟨_, _, rfl⟩
                  have hup := at_up HJl.out HBad.out HU.out
                  go_wp2_with fail
                  refine (SkewAt_is ((i : Int) - 1) (j : Int) w.heap.size (some ⟨b, off, none⟩) cap ls wr HTr.out hcr (by omega) HU).mono ?_
                  rintro e wz ⟨rfl, hwz⟩
                  obtain rfl : wr = wz := hwz.symm
                  clear hwz
                  cases ok2 with
                  | false =>
                    have hi0 : i = 0 := hup.2 rfl
                    have HGn : Hid (Gd ls i (j + 1)) := gd_next HG.out ⟨HZr.out, HAl.out, fun q => by omega⟩
                    clear hup hi0
                    go_wp2
                    go_roundw
                    case rel => exact ⟨j + 1, by omega, by omega, by go_num, HGn, HDr⟩
                    case measure => simp [intOf]; omega
                  | true =>
                    obtain ⟨hi0, hu⟩ := hup.1 rfl
                    by_cases huz : u ≥ z
                    · have hub : decide (u ≥ z) = true := by simpa using huz
                      have HF : Hid (schk ls = 1) := HNo.out (bad_box HJh.out HJl.out (fun q => by
                        rcases Nat.lt_or_ge j (H ls (i - 1)) with c | c
                        · have := hol_zero (row ls (i - 1)) j c
                          have h2 : u = 0 := by rw [hu]; exact this
                          have := HZr.out; have := HZb.out; omega
                        · have := q.2.2 hi0 c
                          rw [← hu, HZb.out] at this; omega))
                      clear hup hu hi0
                      go_wp2
                      go_ret
                      exact ⟨ret_int HF.out.symm, HBe.out⟩
                    · have hub : decide (u ≥ z) = false := by simpa using huz
                      have HGn : Hid (Gd ls i (j + 1)) := gd_next HG.out ⟨HZr.out, HAl.out, fun _ _ => by rw [← hu, HZb.out]; omega⟩
                      clear hup hu hi0
                      go_wp2
                      go_roundw
                      case rel => exact ⟨j + 1, by omega, by omega, by go_num, HGn, HDr⟩
                      case measure => simp [intOf]; omega
                | true =>
                  obtain ⟨hj0, hl1⟩ := hle.1 rfl
                  by_cases hlz : l > z
                  · have hlb : decide (l > z) = true := by simpa using hlz
                    have HF : Hid (schk ls = 1) := HNo.out (bad_box HJh.out HJl.out (fun q => by
                      rcases Nat.lt_or_ge (j - 1) (H ls i) with c | c
                      · have := hol_zero (row ls i) (j - 1) c
                        have h2 : l = 0 := by rw [hl1]; exact this
                        omega
                      · have := q.2.1 (by omega)
                        rw [← hl1] at this
                        have h2 : box ls i j = z := HZ.out.symm
                        omega))
                    clear hle hl1 hj0
                    go_wp2
                    go_ret
                    exact ⟨ret_int HF.out.symm, HBe.out⟩
                  have hlb : decide (l > z) = false := by simpa using hlz
                  have HAl : Hid (H ls i < j → box ls i (j - 1) ≤ box ls i j) := fun q => by
                    have h2 : box ls i j = z := HZ.out.symm
                    rw [← hl1, h2]; omega
                  clear hle hl1 hj0
                  -- at(i-1, j)
                  obtain ⟨u, ok2, HU⟩ : ∃ u ok2, Hid (atF ls ((i : Int) - 1) (j : Int) = (u, ok2)) := ⟨_, _, rfl⟩
                  have hup := at_up HJl.out HBad.out HU.out
                  go_wp2_with fail
                  refine (SkewAt_is ((i : Int) - 1) (j : Int) w.heap.size (some ⟨b, off, none⟩) cap ls wr HTr.out hcr (by omega) HU).mono ?_
                  rintro e wz ⟨rfl, hwz⟩
                  obtain rfl : wr = wz := hwz.symm
                  clear hwz
                  cases ok2 with
                  | false =>
                    have hi0 : i = 0 := hup.2 rfl
                    have HGn : Hid (Gd ls i (j + 1)) := gd_next HG.out ⟨HZr.out, HAl.out, fun q => by omega⟩
                    clear hup hi0
                    go_wp2
                    go_roundw
                    case rel => exact ⟨j + 1, by omega, by omega, by go_num, HGn, HDr⟩
                    case measure => simp [intOf]; omega
                  | true =>
                    obtain ⟨hi0, hu⟩ := hup.1 rfl
                    by_cases huz : u ≥ z
                    · have hub : decide (u ≥ z) = true := by simpa using huz
                      have HF : Hid (schk ls = 1) := HNo.out (bad_box HJh.out HJl.out (fun q => by
                        rcases Nat.lt_or_ge j (H ls (i - 1)) with c | c
                        · have := hol_zero (row ls (i - 1)) j c
                          have h2 : u = 0 := by rw [hu]; exact this
                          have := HZr.out; have := HZb.out; omega
                        · have := q.2.2 hi0 c
                          rw [← hu, HZb.out] at this; omega))
                      clear hup hu hi0
                      go_wp2
                      go_ret
                      exact ⟨ret_int HF.out.symm, HBe.out⟩
                    · have hub : decide (u ≥ z) = false := by simpa using huz
                      have HGn : Hid (Gd ls i (j + 1)) := gd_next HG.out ⟨HZr.out, HAl.out, fun _ _ => by rw [← hu, HZb.out]; omega⟩
                      clear hup hu hi0
                      go_wp2
                      go_roundw
                      case rel => exact ⟨j + 1, by omega, by omega, by go_num, HGn, HDr⟩
                      case measure => simp [intOf]; omega
              · obtain rfl : j = m := by omega
                have hlt' : ¬ (j : Int) < (j : Int) := by omega
                have HRn : Hid (∀ q, q < i + 1 → skB q (upOf ls q) (row ls q) = true) := fun q hq => by
                  by_cases e : q = i
                  · subst e; exact gd_row HBad.out (by rw [← HM.out]; exact HG.out)
                  · exact HR.out q (by omega)
                go_wp2
                go_roundw
                case rel => exact ⟨i + 1, by omega, by go_num, HRn, HDr⟩
                case measure => simp [intOf]; omega
      · obtain rfl : i = ls.length := by omega
        have hil' : ¬ (ls.length : Int) < (ls.length : Int) := by omega
        have HT : Hid (schk ls = 0) := by
          show _ = _
          rw [HE.out, if_pos]
          unfold okSk
          exact List.all_eq_true.2 (fun i hi => HR.out i (List.mem_range.1 hi))
        have HBe : Hid (Below w.heap.size w wr) := by obtain ⟨d, hd⟩ := HD.out; rw [hd]; exact below_drewN HB1.out d
        go_wp2
        go_ret
        exact ⟨ret_int HT.out.symm, HBe.out⟩
theorem Skew_is {c : Int} (a : Option Addr) (n cap : Nat) (ls : List (List Int)) (w : World) (hs : Table w a ls) (hn : n = ls.length) (hl : ls.length ≤ 2000000) (hf : ls.flatten.length ≤ 2000000) (E : Hid (schk ls = c)) :
    Calls Try.prog 13 #[.slice a n cap] w fun e w' => e = .returned (.int .i64 c) ∧ Below w.heap.size w w' := by
  subst hn; have := Skew_any a cap ls w hs hl hf; rw [E.out] at this; exact this

end Go.Proofs.Ytjciandmpfcfjaa
