/-
  coverBlocks: what is left over is covered, block by block.
  The shuffled tilings of the diamonds, one by one: the kernel runs through them. Plain.
-/
import Derived.Test.YtcnmndbckjmliaaDoorNSpr
import Derived.Test.YtcnmndbckjmliaaDoorNFs
import Derived.Test.YtcnmndbckjmliaaDoorNPk
namespace Go.Proofs.YtcnmndbckjmliaaDoor
open Go.RowKit

/-- A cell that is not covered begins a block. -/
def cbS (i j : Nat) (p : (Nat → UInt8) × List (Int × Int)) : (Nat → UInt8) × List (Int × Int) := if p.1 (i * 8 + j) = 35 then (cvF p.1 i j false, p.2 ++ [((j : Int), (i : Int))]) else p
def cbJ (i : Nat) (p : (Nat → UInt8) × List (Int × Int)) : Nat → (Nat → UInt8) × List (Int × Int)
  | 0 => p
  | j + 1 => cbS i j (cbJ i p j)
def cbI (c : Nat) (g : Nat → UInt8) : Nat → (Nat → UInt8) × List (Int × Int)
  | 0 => (g, [])
  | i + 1 => cbJ i (cbI c g i) c
def cbA (c : Nat) (g : Nat → UInt8) (i j : Nat) : (Nat → UInt8) × List (Int × Int) := cbJ i (cbI c g i) j
theorem cbA_next (c : Nat) (g : Nat → UInt8) (i j : Nat) : cbA c g i (j + 1) = cbS i j (cbA c g i j) := rfl
theorem cbA_row (c : Nat) (g : Nat → UInt8) (i : Nat) : cbA c g i c = cbA c g (i + 1) 0 := rfl
theorem cbS_len (i j : Nat) (p : (Nat → UInt8) × List (Int × Int)) : (cbS i j p).2.length ≤ p.2.length + 1 := by
  unfold cbS; split
  · simp
  · omega
theorem cbJ_len (i : Nat) (p : (Nat → UInt8) × List (Int × Int)) : ∀ j, (cbJ i p j).2.length ≤ p.2.length + j
  | 0 => by simp [cbJ]
  | j + 1 => by
    have h1 := cbJ_len i p j
    have h2 := cbS_len i j (cbJ i p j)
    unfold cbJ; omega
theorem cbI_len (c : Nat) (g : Nat → UInt8) : ∀ i, (cbI c g i).2.length ≤ i * c
  | 0 => by simp [cbI]
  | i + 1 => by
    have h1 := cbI_len c g i
    have h2 := cbJ_len i (cbI c g i) c
    rw [Nat.succ_mul]
    unfold cbI; omega
theorem cbA_len (c : Nat) (g : Nat → UInt8) (i j : Nat) : (cbA c g i j).2.length ≤ i * c + j := by
  have h1 := cbI_len c g i
  have h2 := cbJ_len i (cbI c g i) j
  unfold cbA; omega
/-- All blocks but T are as they were. -/
def KpT (w : World) (T : Nat) (w' : World) : Prop := SmA w w' ∧ w.heap.size ≤ w'.heap.size ∧ ∀ k, k < w.heap.size → k ≠ T → w'.heap[k]? = w.heap[k]?
theorem KpT.below {w a b : World} {T : Nat} (h : KpT w T a) (hb : Below w.heap.size a b) : KpT w T b :=
  ⟨SmA.trans h.1 ⟨hb.os, hb.tape, hb.output⟩, Nat.le_trans h.2.1 hb.size, fun k hk hne => (hb.block k hk).trans (h.2.2 k hk hne)⟩
theorem KpT.put {w a b : World} {T : Nat} (h : KpT w T a) (hk : b.heap.size = a.heap.size ∧ SmA a b ∧ ∀ k, k ≠ T → b.heap[k]? = a.heap[k]?) : KpT w T b :=
  ⟨SmA.trans h.1 hk.2.1, by rw [hk.1]; exact h.2.1, fun k h1 h2 => (hk.2.2 k h2).trans (h.2.2 k h1 h2)⟩
theorem OwPt.put {w a b : World} {T : Nat} {v : Value} {l : List (Int × Int)} (hT : T < w.heap.size) (h : OwPt a w.heap.size v l) (hk : b.heap.size = a.heap.size ∧ SmA a b ∧ ∀ k, k ≠ T → b.heap[k]? = a.heap[k]?) : OwPt b w.heap.size v l :=
  ownsRow_blocks h (fun k e => hk.2.2 k (by have := (h.lt k e).1; omega))

set_option maxHeartbeats 8000000 in
set_option maxRecDepth 100000 in
theorem dblocks_at (T r c : Nat) (g : Nat → UInt8) (w : World) (hT : w.heap[T]? = some (.cells (shC r c g) 62 (0, 0))) (hr : r ≤ 8) (hc : c ≤ 8) (hok : ∀ i j, i < r → j < c → (cbA c g i j).1 (i * 8 + j) = 35 → i + 1 < 8 ∧ j + 1 < 8) :
    Calls Tryd.prog 64 #[.pointer (some ⟨T, 0, none⟩)] w fun e w' => ∃ v, e = .returned v ∧ Hid (OwPt w' w.heap.size v (cbA c g r 0).2) ∧ Hid (w'.heap[T]? = some (.cells (shC r c (cbA c g r 0).1) 62 (0, 0))) ∧ Hid (KpT w T w') := by
  have HTl : Hid (T < w.heap.size) := lt_someN hT
  have HOK := hid_w hok
  have HT0 : Hid (w.heap[T]? = some (.cells (shC r c (cbA c g 0 0).1) 62 (0, 0))) := hT
  have HK0 : Hid (KpT w T w) := ⟨⟨rfl, rfl, rfl⟩, Nat.le_refl _, fun _ _ _ => rfl⟩
  have HO0 : Hid (OwPt w w.heap.size (.slice none 0 0) (cbA c g 0 0).2) := ⟨rfl, Or.inl ⟨rfl, rfl⟩⟩
  have s0 : w.cell? ⟨T, 0, none⟩ = some (.int .i64 (r : Int)) := by rw [cell_of_row w T _ _ _ _ hT, shC_get _ _ _ _ (by omega)]; rfl
  clear hT hok
  go_enter Tryd.func64, Tryd.ntmps64
  go_wp2_with fail
  go_loopw [3, 10] (fun lv v wr => ∃ (i : Nat) (L : Value), i ≤ r ∧ v = .int .i64 (i : Int) ∧ L = lv ∧ Hid (OwPt wr w.heap.size L (cbA c g i 0).2) ∧ Hid (wr.heap[T]? = some (.cells (shC r c (cbA c g i 0).1) 62 (0, 0))) ∧ Hid (KpT w T wr)) (fun _ v _ => r - (intOf v).toNat)
  case atStart => exact ⟨0, _, Nat.zero_le _, rfl, rfl, HO0, HT0, HK0⟩
  case round =>
    clear s0 HO0 HT0 HK0
    obtain ⟨i, L, hi, rfl, rfl, HO, HTi, HK⟩ := hrel
    by_cases hlt : i < r
    · have hlt' : (i : Int) < (r : Int) := by omega
      have s1 : wr.cell? ⟨T, 1, none⟩ = some (.int .i64 (c : Int)) := by rw [cell_of_row wr T _ _ _ _ HTi.out, shC_get _ _ _ _ (by omega)]; rfl
      go_wp2_with fail
      go_loopw [3, 17] (fun lv v wr => ∃ (j : Nat) (L : Value), j ≤ c ∧ v = .int .i64 (j : Int) ∧ L = lv ∧ Hid (OwPt wr w.heap.size L (cbA c g i j).2) ∧ Hid (wr.heap[T]? = some (.cells (shC r c (cbA c g i j).1) 62 (0, 0))) ∧ Hid (KpT w T wr)) (fun _ v _ => c - (intOf v).toNat)
      case atStart => exact ⟨0, _, Nat.zero_le _, rfl, rfl, HO, HTi, HK⟩
      case round =>
        clear s1 HO HTi HK
        obtain ⟨j, L, hj, rfl, rfl, HO, HTj, HK⟩ := hrel
        by_cases hltj : j < c
        · have hltj' : (j : Int) < (c : Int) := by omega
          have hi8 : (i : Int) < 8 := by omega
          have hj8 : (j : Int) < 8 := by omega
          have c0 : wr.cell? ⟨T, 2 + i * 8 + j, none⟩ = some (.int .u8 (((cbA c g i j).1 (i * 8 + j)).toNat : Int)) := by
            have h := sh_cell (w := wr) HTj.out (i * 8 + j) (by omega)
            rw [← Nat.add_assoc] at h; exact h
          by_cases h1 : (cbA c g i j).1 (i * 8 + j) = 35
          · have HN : Hid (cbA c g i (j + 1) = (cvF (cbA c g i j).1 i j false, (cbA c g i j).2 ++ [((j : Int), (i : Int))])) := by
              show _ = _
              rw [cbA_next]; unfold cbS; rw [if_pos h1]
            obtain ⟨hi1, hj1⟩ := HOK.out i j hlt hltj h1
            rw [h1, show (35 : UInt8).toNat = 35 from rfl] at c0
            have HLn : Hid ((cbA c g i j).2.length ≤ 1000) := by
              have h := cbA_len c g i j
              have h3 : i * c ≤ 8 * 8 := Nat.mul_le_mul (by omega) hc
              show _ ≤ _
              omega
            have HC : Hid (∀ W : World, Hid (W.heap[T]? = some (.cells (shC r c (cbA c g i j).1) 62 (0, 0))) → Calls Tryd.prog 47 #[.pointer (some ⟨T, 0, none⟩), .int .i64 (i : Int), .int .i64 (j : Int), .bool false] W fun e w' => e = .returned (.tuple #[]) ∧ Hid (w'.heap[T]? = some (.cells (shC r c (cbA c g i (j + 1)).1) 62 (0, 0))) ∧ Hid (w'.heap.size = W.heap.size ∧ SmA W w' ∧ ∀ k, k ≠ T → w'.heap[k]? = W.heap[k]?)) := fun W hW => by
              rw [HN.out]
              exact dcover_at T r c _ i j false W hW.out hi1 hj1
            clear h1 hi1 hj1
            go_upto_region 10 with (at_builtin; refine append_pt1 (base := w.heap.size) rfl _ _ rfl rfl rfl HO.out HLn.out HK.out.2.1 ?_; intro L2 W4 HO4 HB4)
            have HT4 : Hid (W4.heap[T]? = some (.cells (shC r c (cbA c g i j).1) 62 (0, 0))) := (HB4.out.block T HTl.out).trans HTj.out
            have HK4 : Hid (KpT w T W4) := HK.out.below HB4.out
            have HC4 := hid_w (HC.out W4 HT4)
            go_wp2_with (go_at_call 47; with_reducible (refine HC4.out.mono ?_); rintro e W5 ⟨rfl, HT5, HK5⟩)
            have HO5 : Hid (OwPt W5 w.heap.size L2 (cbA c g i (j + 1)).2) := by rw [HN.out]; exact HO4.out.put HTl.out HK5.out
            have HK6 : Hid (KpT w T W5) := HK4.out.put HK5.out
            go_roundw
            case rel => exact ⟨j + 1, _, by omega, by go_num, rfl, HO5, HT5, HK6⟩
            case measure => simp [intOf]; omega
          · have HN : Hid (cbA c g i (j + 1) = cbA c g i j) := by
              show _ = _
              rw [cbA_next]; unfold cbS; rw [if_neg h1]
            have e1 := u8_ne (by decide) h1
            obtain ⟨mm, hmm⟩ : ∃ mm : Nat, mm = ((cbA c g i j).1 (i * 8 + j)).toNat := ⟨_, rfl⟩
            rw [← hmm] at c0 e1
            have e3 : ((mm : Int) == 35) = false := beq_false_of_ne e1
            have HO2 : Hid (OwPt wr w.heap.size L (cbA c g i (j + 1)).2) := by rw [HN.out]; exact HO.out
            have HT2 : Hid (wr.heap[T]? = some (.cells (shC r c (cbA c g i (j + 1)).1) 62 (0, 0))) := by
              show _ = _
              rw [HN.out]; exact HTj.out
            clear h1 hmm
            go_wp2_with fail
            go_roundw
            case rel => exact ⟨j + 1, _, by omega, by go_num, rfl, HO2, HT2, HK⟩
            case measure => simp [intOf]; omega
        · obtain rfl : j = c := by omega
          have HO2 : Hid (OwPt wr w.heap.size L (cbA j g (i + 1) 0).2) := HO
          have HT2 : Hid (wr.heap[T]? = some (.cells (shC r j (cbA j g (i + 1) 0).1) 62 (0, 0))) := HTj
          go_wp2_with fail
          go_roundw
          case rel => exact ⟨i + 1, _, by omega, by go_num, rfl, HO2, HT2, HK⟩
          case measure => simp [intOf]; omega
    · obtain rfl : i = r := by omega
      go_wp2_with fail
      go_ret
      exact ⟨_, rfl, HO, HTi, HK⟩

end Go.Proofs.YtcnmndbckjmliaaDoor

namespace Go.Proofs.YtcnmndbckjmliaaDoor
open Go.RowKit

/-- The diamond as one number. -/
def dmK : Nat → Nat
  | 1 => 165928462943017416794915
  | 2 => 4858820113208420033620642622816435520841983837655648177543457219374
  | 3 => 108456221734687383469888073258490445034906893224640385688381357265806832310056807307115984528272879320733789742
  | 4 => 2418663356810390927543499194669085442593550314998880365911013462437673636490164743507625698918037787881523858568461845120279533333798787790770782925106734
  | _ => 0
/-- What lies round the diamond. -/
def dmO : Nat → Nat
  | 1 => 0
  | 2 => 4844365705500310415891544409895153354221829529133609563044664311854
  | 3 => 108454962578190140385565975923086007800851108205789297120936821358793551992021007450875200032916818031101881902
  | 4 => 2418663247122390106870255011178951863237278511152625081640375754011362448346246634115305464620274058206532466783534724201902023058191017173612516510412334
  | _ => 0
/-- All but the cells of the diamond. -/
def dmC : Nat → Nat
  | 1 => 18446744073709550844
  | 2 => 18446744073607901433
  | 3 => 18446730749659898355
  | 4 => 16700333680228418535
  | _ => 0
/-- spread, on numbers. -/
def spN (n S i j G : Nat) : Nat :=
  if gN S (i * 8 + j) = 108 then
    if fwd n i j = true then (if gN S (i * 8 + j + 8) = 108 then G else stN (stN G (i * 8 + j + 17) 108) (i * 8 + j + 18) 114)
    else (if 1 ≤ i ∧ gN S (i * 8 + j - 8) = 108 then G else stN (stN G (i * 8 + j + 1) 108) (i * 8 + j + 2) 114)
  else if gN S (i * 8 + j) = 117 then
    if fwd n i j = true then (if gN S (i * 8 + j + 1) = 117 then G else stN (stN G (i * 8 + j + 10) 117) (i * 8 + j + 18) 100)
    else (if 1 ≤ j ∧ gN S (i * 8 + j - 1) = 117 then G else stN (stN G (i * 8 + j + 8) 117) (i * 8 + j + 16) 100)
  else G
def spNJ (n S i G : Nat) : Nat → Nat
  | 0 => G
  | j + 1 => spN n S i j (spNJ n S i G j)
def spNI (c n S : Nat) : Nat → Nat
  | 0 => dmK (n + 1)
  | i + 1 => spNJ n S i (spNI c n S i) c
/-- coverBlocks, on numbers. -/
def cbN (k : Nat) (p : Nat × List Nat) : Nat × List Nat := if gN p.1 k = 35 then (stN (stN (stN (stN p.1 k 108) (k + 1) 114) (k + 8) 108) (k + 9) 114, p.2 ++ [k]) else p
def cbNJ (i : Nat) (p : Nat × List Nat) : Nat → Nat × List Nat
  | 0 => p
  | j + 1 => cbN (i * 8 + j) (cbNJ i p j)
def cbNI (c G : Nat) : Nat → Nat × List Nat
  | 0 => (G, [])
  | i + 1 => cbNJ i (cbNI c G i) c

/-- One sheet, told in two ways. -/
def Rl (G : Nat) (g : Nat → UInt8) : Prop := ∀ k, k < 64 → gN G k = (g k).toNat
theorem Rl.iff {G : Nat} {g : Nat → UInt8} (h : Rl G g) {k : Nat} (hk : k < 64) (b : UInt8) : gN G k = b.toNat ↔ g k = b := by
  rw [h k hk]; exact UInt8.toNat_inj
theorem Rl.put {G : Nat} {g : Nat → UInt8} (h : Rl G g) (p : Nat) (b : UInt8) : Rl (stN G p b.toNat) (upB g p b) := fun k hk => by
  rw [gN_st _ _ _ _ b.toNat_lt]
  unfold upB
  by_cases e : k = p
  · rw [if_pos e, if_pos e]
  · rw [if_neg e, if_neg e]; exact h k hk
theorem Rl.put2 {G : Nat} {g : Nat → UInt8} (h : Rl G g) (p q : Nat) (a b : UInt8) : Rl (stN (stN G p a.toNat) q b.toNat) (up2 g p a q b) := (h.put p a).put q b
theorem sp_rl {r c n S G : Nat} {F g : Nat → UInt8} (hS : Rl S F) (hG : Rl G g) (hr : r ≤ 6) (hc : c ≤ 6) (hout : ∀ k, k < 64 → ¬ (k / 8 < r ∧ k % 8 < c) → F k = 0) {i j : Nat} (hi : i < r) (hj : j < c) : Rl (spN n S i j G) (spS r c n F i j g) := by
  have hk : i * 8 + j < 64 := by omega
  have a1 : gN S (i * 8 + j) = 108 ↔ F (i * 8 + j) = 108 := hS.iff hk 108
  have a2 : gN S (i * 8 + j) = 117 ↔ F (i * 8 + j) = 117 := hS.iff hk 117
  have hat : ∀ (p q : Nat) (b : UInt8), p < 8 → q < 8 → b ≠ 46 → b ≠ 0 → (gN S (p * 8 + q) = b.toNat ↔ atB r c F (p : Int) (q : Int) = b) := fun p q b hp hq h46 h0 => by
    rw [atB_nat, hS.iff (by omega) b]
    by_cases hin : p < r ∧ q < c
    · rw [if_pos hin]
    · rw [if_neg hin, hout (p * 8 + q) (by omega) (by omega)]
      exact ⟨fun e => absurd e.symm h0, fun e => absurd e.symm h46⟩
  have b1 : gN S (i * 8 + j + 8) = 108 ↔ atB r c F ((i : Int) + 1) (j : Int) = 108 := by
    have h := hat (i + 1) j 108 (by omega) (by omega) (by decide) (by decide)
    rw [show (i + 1) * 8 + j = i * 8 + j + 8 by omega, show ((i + 1 : Nat) : Int) = (i : Int) + 1 by omega] at h
    exact h
  have b2 : (1 ≤ i ∧ gN S (i * 8 + j - 8) = 108) ↔ atB r c F ((i : Int) + -1) (j : Int) = 108 := by
    by_cases h1 : 1 ≤ i
    · have h := hat (i - 1) j 108 (by omega) (by omega) (by decide) (by decide)
      rw [show (i - 1) * 8 + j = i * 8 + j - 8 by omega, show ((i - 1 : Nat) : Int) = (i : Int) + -1 by omega] at h
      exact ⟨fun q => h.1 q.2, fun q => ⟨h1, h.2 q⟩⟩
    · unfold atB
      rw [if_neg (by omega)]
      exact ⟨fun q => absurd q.1 h1, fun q => absurd q (by decide)⟩
  have b3 : gN S (i * 8 + j + 1) = 117 ↔ atB r c F (i : Int) ((j : Int) + 1) = 117 := by
    have h := hat i (j + 1) 117 (by omega) (by omega) (by decide) (by decide)
    rw [show i * 8 + (j + 1) = i * 8 + j + 1 by omega, show ((j + 1 : Nat) : Int) = (j : Int) + 1 by omega] at h
    exact h
  have b4 : (1 ≤ j ∧ gN S (i * 8 + j - 1) = 117) ↔ atB r c F (i : Int) ((j : Int) + -1) = 117 := by
    by_cases h1 : 1 ≤ j
    · have h := hat i (j - 1) 117 (by omega) (by omega) (by decide) (by decide)
      rw [show i * 8 + (j - 1) = i * 8 + j - 1 by omega, show ((j - 1 : Nat) : Int) = (j : Int) + -1 by omega] at h
      exact ⟨fun q => h.1 q.2, fun q => ⟨h1, h.2 q⟩⟩
    · unfold atB
      rw [if_neg (by omega)]
      exact ⟨fun q => absurd q.1 h1, fun q => absurd q (by decide)⟩
  unfold spN spS
  simp only [a1, a2, b1, b2, b3, b4]
  rw [show (i + 2) * 8 + (j + 1) = i * 8 + j + 17 by omega, show (i + 2) * 8 + (j + 1 + 1) = i * 8 + j + 18 by omega, show i * 8 + (j + 1) = i * 8 + j + 1 by omega, show i * 8 + (j + 1 + 1) = i * 8 + j + 2 by omega, show (i + 1) * 8 + (j + 2) = i * 8 + j + 10 by omega, show (i + 1) * 8 + j = i * 8 + j + 8 by omega, show (i + 1 + 1) * 8 + j = i * 8 + j + 16 by omega]
  have p1 : Rl (stN (stN G (i * 8 + j + 17) 108) (i * 8 + j + 18) 114) (up2 g (i * 8 + j + 17) 108 (i * 8 + j + 18) 114) := hG.put2 (i * 8 + j + 17) (i * 8 + j + 18) 108 114
  have p2 : Rl (stN (stN G (i * 8 + j + 1) 108) (i * 8 + j + 2) 114) (up2 g (i * 8 + j + 1) 108 (i * 8 + j + 2) 114) := hG.put2 (i * 8 + j + 1) (i * 8 + j + 2) 108 114
  have p3 : Rl (stN (stN G (i * 8 + j + 10) 117) (i * 8 + j + 18) 100) (up2 g (i * 8 + j + 10) 117 (i * 8 + j + 18) 100) := hG.put2 (i * 8 + j + 10) (i * 8 + j + 18) 117 100
  have p4 : Rl (stN (stN G (i * 8 + j + 8) 117) (i * 8 + j + 16) 100) (up2 g (i * 8 + j + 8) 117 (i * 8 + j + 16) 100) := hG.put2 (i * 8 + j + 8) (i * 8 + j + 16) 117 100
  repeat' split
  all_goals with_reducible first | exact hG | exact p1 | exact p2 | exact p3 | exact p4
theorem dmK_rl (n : Nat) (h1 : 1 ≤ n) (h4 : n ≤ 4) : Rl (dmK n) (dmF n) := by
  have h : ∀ n : Fin 5, 1 ≤ n.1 → ∀ k : Fin 64, gN (dmK n.1) k.1 = (dmF n.1 k.1).toNat := by decide +kernel
  exact fun k hk => h ⟨n, by omega⟩ h1 ⟨k, hk⟩
theorem spI_rl {r c n S : Nat} {F : Nat → UInt8} (hS : Rl S F) (hr : r ≤ 6) (hc : c ≤ 6) (h1 : 1 ≤ n) (h3 : n ≤ 3) (hout : ∀ k, k < 64 → ¬ (k / 8 < r ∧ k % 8 < c) → F k = 0) : ∀ i, i ≤ r → Rl (spNI c n S i) (spI r c n F i)
  | 0, _ => dmK_rl (n + 1) (by omega) (by omega)
  | i + 1, hi => by
    have ih := spI_rl hS hr hc h1 h3 hout i (by omega)
    have hJ : ∀ j, j ≤ c → Rl (spNJ n S i (spNI c n S i) j) (spJ r c n F i (spI r c n F i) j) := fun j => by
      induction j with
      | zero => exact fun _ => ih
      | succ j ihj => exact fun hj => sp_rl hS (ihj (by omega)) hr hc hout (by omega) (by omega)
    exact hJ c (Nat.le_refl _)
/-- Its cell as a point. -/
def ptK (k : Nat) : Int × Int := (((k % 8 : Nat) : Int), ((k / 8 : Nat) : Int))
theorem cb_rl {p : Nat × List Nat} {q : (Nat → UInt8) × List (Int × Int)} (h : Rl p.1 q.1) (hl : q.2 = p.2.map ptK) {i j : Nat} (hi : i < 8) (hj : j < 8) : Rl (cbN (i * 8 + j) p).1 (cbS i j q).1 ∧ (cbS i j q).2 = (cbN (i * 8 + j) p).2.map ptK := by
  have a : gN p.1 (i * 8 + j) = 35 ↔ q.1 (i * 8 + j) = 35 := h.iff (by omega) 35
  unfold cbN cbS
  by_cases e : q.1 (i * 8 + j) = 35
  · rw [if_pos e, if_pos (a.2 e)]
    refine ⟨?_, ?_⟩
    · have h2 := (h.put2 (i * 8 + j) (i * 8 + j + 1) 108 114).put2 (i * 8 + j + 8) (i * 8 + j + 9) 108 114
      unfold cvF
      rw [if_neg (by decide), show i * 8 + (j + 1) = i * 8 + j + 1 by omega, show (i + 1) * 8 + j = i * 8 + j + 8 by omega, show (i + 1) * 8 + (j + 1) = i * 8 + j + 9 by omega]
      exact h2
    · rw [List.map_append, hl]
      unfold ptK
      simp only [List.map_cons, List.map_nil]
      rw [show (i * 8 + j) % 8 = j by omega, show (i * 8 + j) / 8 = i by omega]
  · rw [if_neg e, if_neg (fun q => e (a.1 q))]
    exact ⟨h, hl⟩
theorem cbI_rl {c G : Nat} {g : Nat → UInt8} (h : Rl G g) (hc : c ≤ 8) : ∀ i, i ≤ 8 → Rl (cbNI c G i).1 (cbI c g i).1 ∧ (cbI c g i).2 = (cbNI c G i).2.map ptK
  | 0, _ => ⟨h, rfl⟩
  | i + 1, hi => by
    have ih := cbI_rl h hc i (by omega)
    have hJ : ∀ j, j ≤ c → Rl (cbNJ i (cbNI c G i) j).1 (cbJ i (cbI c g i) j).1 ∧ (cbJ i (cbI c g i) j).2 = (cbNJ i (cbNI c G i) j).2.map ptK := fun j => by
      induction j with
      | zero => exact fun _ => ih
      | succ j ihj => exact fun hj => cb_rl (ihj (by omega)).1 (ihj (by omega)).2 (by omega) (by omega)
    exact hJ c (Nat.le_refl _)
theorem cbA_rl {c G : Nat} {g : Nat → UInt8} (h : Rl G g) (hc : c ≤ 8) {i j : Nat} (hi : i < 8) (hj : j ≤ c) : Rl (cbNJ i (cbNI c G i) j).1 (cbA c g i j).1 := by
  have ih := cbI_rl h hc i (by omega)
  have hJ : ∀ j, j ≤ c → Rl (cbNJ i (cbNI c G i) j).1 (cbJ i (cbI c g i) j).1 ∧ (cbJ i (cbI c g i) j).2 = (cbNJ i (cbNI c G i) j).2.map ptK := fun j => by
    induction j with
    | zero => exact fun _ => ih
    | succ j ihj => exact fun hj => cb_rl (ihj (by omega)).1 (ihj (by omega)).2 (by omega) (by omega)
  exact (hJ j hj).1

end Go.Proofs.YtcnmndbckjmliaaDoor
