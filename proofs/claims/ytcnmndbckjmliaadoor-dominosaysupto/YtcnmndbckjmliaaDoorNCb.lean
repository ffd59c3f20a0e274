/-
  coverBlocks: what is left over is covered, block by block.
-/
import Derived.Test.YtcnmndbckjmliaaDoorNSpr
import Derived.Test.YtcnmndbckjmliaaDoorNFs
namespace Go.Proofs.YtcnmndbckjmliaaDoor
open Go.RowKit

/-- A cell that is not covered begins a block. -/
def cbS (i j : Nat) (p : (Nat → UInt8) × List (Int × Int)) : (Nat → UInt8) × List (Int × Int) := if p.1 (i * 8 + j) = 35 then (cvF p.1 i j false, p.2 ++ [((j : Int), (i : Int))]) else p
def cbJ (i : Nat) (p : (Nat → UInt8) × List (Int × Int)) : Nat → (Nat → UInt8) × List (Int × Int)
  | 0 => p
  | j + 1 => cbS i j (cbJ i p j)
def cbI (c : Nat) (g : Nat → UInt8) : Nat → (Nat → UInt8) × List (Int × Int)
  | 0 => (g, [])
  | i + 1 => cbJ i (cbI c g i) c
def cbA (c : Nat) (g : Nat → UInt8) (i j : Nat) : (Nat → UInt8) × List (Int × Int) := cbJ i (cbI c g i) j
theorem cbA_next (c : Nat) (g : Nat → UInt8) (i j : Nat) : cbA c g i (j + 1) = cbS i j (cbA c g i j) := rfl
theorem cbA_row (c : Nat) (g : Nat → UInt8) (i : Nat) : cbA c g i c = cbA c g (i + 1) 0 := rfl
theorem cbS_len (i j : Nat) (p : (Nat → UInt8) × List (Int × Int)) : (cbS i j p).2.length ≤ p.2.length + 1 := by
  unfold cbS; split
  · simp
  · omega
theorem cbJ_len (i : Nat) (p : (Nat → UInt8) × List (Int × Int)) : ∀ j, (cbJ i p j).2.length ≤ p.2.length + j
  | 0 => by simp [cbJ]
  | j + 1 => by
    have h1 := cbJ_len i p j
    have h2 := cbS_len i j (cbJ i p j)
    unfold cbJ; omega
theorem cbI_len (c : Nat) (g : Nat → UInt8) : ∀ i, (cbI c g i).2.length ≤ i * c
  | 0 => by simp [cbI]
  | i + 1 => by
    have h1 := cbI_len c g i
    have h2 := cbJ_len i (cbI c g i) c
    rw [Nat.succ_mul]
    unfold cbI; omega
theorem cbA_len (c : Nat) (g : Nat → UInt8) (i j : Nat) : (cbA c g i j).2.length ≤ i * c + j := by
  have h1 := cbI_len c g i
  have h2 := cbJ_len i (cbI c g i) j
  unfold cbA; omega
/-- All blocks but T are as they were. -/
def KpT (w : World) (T : Nat) (w' : World) : Prop := SmA w w' ∧ w.heap.size ≤ w'.heap.size ∧ ∀ k, k < w.heap.size → k ≠ T → w'.heap[k]? = w.heap[k]?
theorem KpT.below {w a b : World} {T : Nat} (h : KpT w T a) (hb : Below w.heap.size a b) : KpT w T b :=
  ⟨SmA.trans h.1 ⟨hb.os, hb.tape, hb.output⟩, Nat.le_trans h.2.1 hb.size, fun k hk hne => (hb.block k hk).trans (h.2.2 k hk hne)⟩
theorem KpT.put {w a b : World} {T : Nat} (h : KpT w T a) (hk : b.heap.size = a.heap.size ∧ SmA a b ∧ ∀ k, k ≠ T → b.heap[k]? = a.heap[k]?) : KpT w T b :=
  ⟨SmA.trans h.1 hk.2.1, by rw [hk.1]; exact h.2.1, fun k h1 h2 => (hk.2.2 k h2).trans (h.2.2 k h1 h2)⟩
theorem OwPt.put {w a b : World} {T : Nat} {v : Value} {l : List (Int × Int)} (hT : T < w.heap.size) (h : OwPt a w.heap.size v l) (hk : b.heap.size = a.heap.size ∧ SmA a b ∧ ∀ k, k ≠ T → b.heap[k]? = a.heap[k]?) : OwPt b w.heap.size v l :=
  ownsRow_blocks h (fun k e => hk.2.2 k (by have := (h.lt k e).1; omega))

set_option maxHeartbeats 8000000 in
set_option maxRecDepth 100000 in
theorem dblocks_at (T r c : Nat) (g : Nat → UInt8) (w : World) (hT : w.heap[T]? = some (.cells (shC r c g) 62 (0, 0))) (hr : r ≤ 8) (hc : c ≤ 8) (hok : ∀ i j, i < r → j < c → (cbA c g i j).1 (i * 8 + j) = 35 → i + 1 < 8 ∧ j + 1 < 8) :
    Calls Tryd.prog 64 #[.pointer (some ⟨T, 0, none⟩)] w fun e w' => ∃ v, e = .returned v ∧ Hid (OwPt w' w.heap.size v (cbA c g r 0).2) ∧ Hid (w'.heap[T]? = some (.cells (shC r c (cbA c g r 0).1) 62 (0, 0))) ∧ Hid (KpT w T w') := by
  have HTl : Hid (T < w.heap.size) := lt_someN hT
  have HOK := hid_w hok
  have HT0 : Hid (w.heap[T]? = some (.cells (shC r c (cbA c g 0 0).1) 62 (0, 0))) := hT
  have HK0 : Hid (KpT w T w) := ⟨⟨rfl, rfl, rfl⟩, Nat.le_refl _, fun _ _ _ => rfl⟩
  have HO0 : Hid (OwPt w w.heap.size (.slice none 0 0) (cbA c g 0 0).2) := ⟨rfl, Or.inl ⟨rfl, rfl⟩⟩
  have s0 : w.cell? ⟨T, 0, none⟩ = some (.int .i64 (r : Int)) := by rw [cell_of_row w T _ _ _ _ hT, shC_get _ _ _ _ (by omega)]; rfl
  clear hT hok
  go_enter Tryd.func64, Tryd.ntmps64
  go_wp2_with fail
  go_loopw [3, 10] (fun lv v wr => ∃ (i : Nat) (L : Value), i ≤ r ∧ v = .int .i64 (i : Int) ∧ L = lv ∧ Hid (OwPt wr w.heap.size L (cbA c g i 0).2) ∧ Hid (wr.heap[T]? = some (.cells (shC r c (cbA c g i 0).1) 62 (0, 0))) ∧ Hid (KpT w T wr)) (fun _ v _ => r - (intOf v).toNat)
  case atStart => exact ⟨0, _, Nat.zero_le _, rfl, rfl, HO0, HT0, HK0⟩
  case round =>
    clear s0 HO0 HT0 HK0
    obtain ⟨i, L, hi, rfl, rfl, HO, HTi, HK⟩ := hrel
    by_cases hlt : i < r
    · have hlt' : (i : Int) < (r : Int) := by omega
      have s1 : wr.cell? ⟨T, 1, none⟩ = some (.int .i64 (c : Int)) := by rw [cell_of_row wr T _ _ _ _ HTi.out, shC_get _ _ _ _ (by omega)]; rfl
      go_wp2_with fail
      go_loopw [3, 17] (fun lv v wr => ∃ (j : Nat) (L : Value), j ≤ c ∧ v = .int .i64 (j : Int) ∧ L = lv ∧ Hid (OwPt wr w.heap.size L (cbA c g i j).2) ∧ Hid (wr.heap[T]? = some (.cells (shC r c (cbA c g i j).1) 62 (0, 0))) ∧ Hid (KpT w T wr)) (fun _ v _ => c - (intOf v).toNat)
      case atStart => exact ⟨0, _, Nat.zero_le _, rfl, rfl, HO, HTi, HK⟩
      case round =>
        clear s1 HO HTi HK
        obtain ⟨j, L, hj, rfl, rfl, HO, HTj, HK⟩ := hrel
        by_cases hltj : j < c
        · have hltj' : (j : Int) < (c : Int) := by omega
          have hi8 : (i : Int) < 8 := by omega
          have hj8 : (j : Int) < 8 := by omega
          have c0 : wr.cell? ⟨T, 2 + i * 8 + j, none⟩ = some (.int .u8 (((cbA c g i j).1 (i * 8 + j)).toNat : Int)) := by
            have h := sh_cell (w := wr) HTj.out (i * 8 + j) (by omega)
            rw [← Nat.add_assoc] at h; exact h
          by_cases h1 : (cbA c g i j).1 (i * 8 + j) = 35
          · have HN : Hid (cbA c g i (j + 1) = (cvF (cbA c g i j).1 i j false, (cbA c g i j).2 ++ [((j : Int), (i : Int))])) := by
              show _ = _
              rw [cbA_next]; unfold cbS; rw [if_pos h1]
            obtain ⟨hi1, hj1⟩ := HOK.out i j hlt hltj h1
            rw [h1, show (35 : UInt8).toNat = 35 from rfl] at c0
            have HLn : Hid ((cbA c g i j).2.length ≤ 1000) := by
              have h := cbA_len c g i j
              have h3 : i * c ≤ 8 * 8 := Nat.mul_le_mul (by omega) hc
              show _ ≤ _
              omega
            have HC : Hid (∀ W : World, Hid (W.heap[T]? = some (.cells (shC r c (cbA c g i j).1) 62 (0, 0))) → Calls Tryd.prog 47 #[.pointer (some ⟨T, 0, none⟩), .int .i64 (i : Int), .int .i64 (j : Int), .bool false] W fun e w' => e = .returned (.tuple #[]) ∧ Hid (w'.heap[T]? = some (.cells (shC r c (cbA c g i (j + 1)).1) 62 (0, 0))) ∧ Hid (w'.heap.size = W.heap.size ∧ SmA W w' ∧ ∀ k, k ≠ T → w'.heap[k]? = W.heap[k]?)) := fun W hW => by
              rw [HN.out]
              exact dcover_at T r c _ i j false W hW.out hi1 hj1
            clear h1 hi1 hj1
            go_upto_region 10 with (at_builtin; refine append_pt1 (base := w.heap.size) rfl _ _ rfl rfl rfl HO.out HLn.out HK.out.2.1 ?_; intro L2 W4 HO4 HB4)
            have HT4 : Hid (W4.heap[T]? = some (.cells (shC r c (cbA c g i j).1) 62 (0, 0))) := (HB4.out.block T HTl.out).trans HTj.out
            have HK4 : Hid (KpT w T W4) := HK.out.below HB4.out
            have HC4 := hid_w (HC.out W4 HT4)
            go_wp2_with (go_at_call 47; with_reducible (refine HC4.out.mono ?_); rintro e W5 ⟨rfl, HT5, HK5⟩)
            have HO5 : Hid (OwPt W5 w.heap.size L2 (cbA c g i (j + 1)).2) := by rw [HN.out]; exact HO4.out.put HTl.out HK5.out
            have HK6 : Hid (KpT w T W5) := HK4.out.put HK5.out
            go_roundw
            case rel => exact ⟨j + 1, _, by omega, by go_num, rfl, HO5, HT5, HK6⟩
            case measure => simp [intOf]; omega
          · have HN : Hid (cbA c g i (j + 1) = cbA c g i j) := by
              show _ = _
              rw [cbA_next]; unfold cbS; rw [if_neg h1]
            have e1 := u8_ne (by decide) h1
            obtain ⟨mm, hmm⟩ : ∃ mm : Nat, mm = ((cbA c g i j).1 (i * 8 + j)).toNat := ⟨_, rfl⟩
            rw [← hmm] at c0 e1
            have e3 : ((mm : Int) == 35) = false := beq_false_of_ne e1
            have HO2 : Hid (OwPt wr w.heap.size L (cbA c g i (j + 1)).2) := by rw [HN.out]; exact HO.out
            have HT2 : Hid (wr.heap[T]? = some (.cells (shC r c (cbA c g i (j + 1)).1) 62 (0, 0))) := by
              show _ = _
              rw [HN.out]; exact HTj.out
            clear h1 hmm
            go_wp2_with fail
            go_roundw
            case rel => exact ⟨j + 1, _, by omega, by go_num, rfl, HO2, HT2, HK⟩
            case measure => simp [intOf]; omega
        · obtain rfl : j = c := by omega
          have HO2 : Hid (OwPt wr w.heap.size L (cbA j g (i + 1) 0).2) := HO
          have HT2 : Hid (wr.heap[T]? = some (.cells (shC r j (cbA j g (i + 1) 0).1) 62 (0, 0))) := HTj
          go_wp2_with fail
          go_roundw
          case rel => exact ⟨i + 1, _, by omega, by go_num, rfl, HO2, HT2, HK⟩
          case measure => simp [intOf]; omega
    · obtain rfl : i = r := by omega
      go_wp2_with fail
      go_ret
      exact ⟨_, rfl, HO, HTi, HK⟩

end Go.Proofs.YtcnmndbckjmliaaDoor
