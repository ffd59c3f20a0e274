/-
  spread: the dominoes of a tiling, each a cell further, laid into the next diamond.
-/
import Derived.Test.YtcnmndbckjmliaaDoorNEq
import Derived.Test.YtcnmndbckjmliaaDoorNDi
import Derived.Test.YtcnmndbckjmliaaDoorNFl
namespace Go.Proofs.YtcnmndbckjmliaaDoor
open Go.RowKit

/-- Does the cell's domino go down, or to the right? -/
def fwd (n i j : Nat) : Bool := !decide ((i + j) % 2 = (n - 1) % 2)
/-- What the cell in row i and column j adds. -/
def spS (r c n : Nat) (F : Nat → UInt8) (i j : Nat) (g : Nat → UInt8) : Nat → UInt8 :=
  if F (i * 8 + j) = 108 then
    if fwd n i j = true then (if atB r c F ((i : Int) + 1) (j : Int) = 108 then g else up2 g ((i + 2) * 8 + (j + 1)) 108 ((i + 2) * 8 + (j + 1 + 1)) 114)
    else (if atB r c F ((i : Int) + -1) (j : Int) = 108 then g else up2 g (i * 8 + (j + 1)) 108 (i * 8 + (j + 1 + 1)) 114)
  else if F (i * 8 + j) = 117 then
    if fwd n i j = true then (if atB r c F (i : Int) ((j : Int) + 1) = 117 then g else up2 g ((i + 1) * 8 + (j + 2)) 117 ((i + 1 + 1) * 8 + (j + 2)) 100)
    else (if atB r c F (i : Int) ((j : Int) + -1) = 117 then g else up2 g ((i + 1) * 8 + j) 117 ((i + 1 + 1) * 8 + j) 100)
  else g
def spJ (r c n : Nat) (F : Nat → UInt8) (i : Nat) (g : Nat → UInt8) : Nat → Nat → UInt8
  | 0 => g
  | j + 1 => spS r c n F i j (spJ r c n F i g j)
def spI (r c n : Nat) (F : Nat → UInt8) : Nat → Nat → UInt8
  | 0 => dmF (n + 1)
  | i + 1 => spJ r c n F i (spI r c n F i) c
def spA (r c n : Nat) (F : Nat → UInt8) (i j : Nat) : Nat → UInt8 := spJ r c n F i (spI r c n F i) j
theorem spA_next (r c n : Nat) (F : Nat → UInt8) (i j : Nat) : spA r c n F i (j + 1) = spS r c n F i j (spA r c n F i j) := rfl
theorem spA_row (r c n : Nat) (F : Nat → UInt8) (i : Nat) : spA r c n F i c = spA r c n F (i + 1) 0 := rfl
theorem u8_ne {x : UInt8} {k : Nat} (hk : k < 256) (h : ¬ x = UInt8.ofNat k) : ¬ ((x.toNat : Nat) : Int) = (k : Int) := fun e => h (by
  apply UInt8.toNat_inj.1
  rw [UInt8.toNat_ofNat']
  omega)

set_option maxHeartbeats 8000000 in
set_option maxRecDepth 100000 in
theorem dspread_at (G r c n : Nat) (F : Nat → UInt8) (w : World) (hG : w.heap[G]? = some (.cells (shC r c F) 62 (0, 0))) (hr : r ≤ 6) (hc : c ≤ 6) (hn1 : 1 ≤ n) (hn3 : n ≤ 3) :
    Calls Tryd.prog 63 #[.pointer (some ⟨G, 0, none⟩), .int .i64 (n : Int)] w fun e w' => e = .returned (.agg (shC (2 * (n + 1)) (2 * (n + 1)) (spA r c n F r 0))) ∧ Hid (Below w.heap.size w w') := by
  have HG : Hid (∀ W, Below w.heap.size w W → W.heap[G]? = some (.cells (shC r c F) 62 (0, 0))) := fun W hW => by rw [hW.block G (lt_someN hG)]; exact hG
  obtain ⟨Z, HZ⟩ : ∃ Z, Hid (Z = shC 0 0 fun _ => 0) := ⟨_, rfl⟩
  have hz : ∀ W : World, (zeroValue 62).run Tryd.prog W = .ok (.agg Z) W := fun W => by rw [HZ.out]; exact (zero_of_info zeroS).1 W
  have HZ6 : Hid (C66 Z) := by rw [HZ.out]; exact shC_66 _ _ _
  obtain ⟨Q, HQ⟩ : ∃ Q, Hid (Q = w.heap.size) := ⟨_, rfl⟩
  obtain ⟨W0, HW0⟩ : ∃ W0, Hid (W0 = w.alloc (.cells Z 62)) := ⟨_, rfl⟩
  have HB0 : Hid (Below w.heap.size w W0) := by rw [HW0.out]; exact (Below.refl _ _).alloc (Nat.le_refl _) _
  have HQ0 : Hid (W0.heap[Q]? = some (.cells Z 62 (0, 0))) := by
    show _ = _
    rw [HW0.out, HQ.out]; exact heap_alloc_last _ _
  obtain ⟨d, HD⟩ : ∃ d, Hid (d = 2 * (n + 1)) := ⟨_, rfl⟩
  obtain ⟨S, HS⟩ : ∃ S, Hid (S = shC d d (spA r c n F 0 0)) := ⟨_, rfl⟩
  have HS6 : Hid (C66 S) := by rw [HS.out]; exact shC_66 _ _ _
  have HCd : Hid (Calls Tryd.prog 45 #[.int .i64 ((n : Int) + 1)] W0 fun e w' => e = .returned (.agg S) ∧ Hid (Below W0.heap.size W0 w')) := by
    have h := diamond_at (n + 1) W0 (by omega)
    rw [show ((n + 1 : Nat) : Int) = (n : Int) + 1 by omega, ← HD.out] at h
    rw [HS.out]; exact h
  rw [← HD.out]
  clear hG
  go_enter Tryd.func63, Tryd.ntmps63
  go_upto_region 1 with fail
  rw [← HQ.out, ← HW0.out]
  go_upto_region 2 with (first | (go_at_call 45; with_reducible (refine HCd.out.mono ?_); rintro e W1 ⟨rfl, HB1⟩) | (refine wpList_store66 rfl (.tmp 5) (.tmp 11) rfl W1.heap.size S Z rfl rfl (heap_alloc_last _ _) HS6.out HZ6.out ?_))
  try simp only [Act.put]
  obtain ⟨T, HT⟩ : ∃ T, Hid (T = W1.heap.size) := ⟨_, rfl⟩
  obtain ⟨W3, HW3⟩ : ∃ W3, Hid (W3 = (W1.alloc (.cells Z 62)).setRow W1.heap.size S) := ⟨_, rfl⟩
  rw [← HW3.out, ← HT.out]
  have hb13 : Below W1.heap.size W1 W3 := by
    rw [HW3.out]; exact below_setRowN ((Below.refl _ _).alloc (Nat.le_refl _) _) _ (Nat.le_refl _) _
  have HB01 : Hid (Below w.heap.size w W1) := HB0.out.trans (HB1.out.mono HB0.out.size)
  have HB3 : Hid (Below w.heap.size w W3) := HB01.out.trans (hb13.mono HB01.out.size)
  have HT3 : Hid (W3.heap[T]? = some (.cells (shC d d (spA r c n F 0 0)) 62 (0, 0))) := by
    show _ = _
    rw [HW3.out, HT.out, ← HS.out]; exact setRow_heap _ _ _ _ _ _ (heap_alloc_last _ _)
  have HQ1 : Hid (W1.heap[Q]? = some (.cells Z 62 (0, 0))) := by
    show _ = _
    rw [HB1.out.block Q (lt_someN HQ0.out)]; exact HQ0.out
  have HQ3 : Hid (W3.heap[Q]? = some (.cells Z 62 (0, 0))) := by
    show _ = _
    rw [hb13.block Q (lt_someN HQ1.out)]; exact HQ1.out
  have HQT : Hid (Q ≠ T ∧ w.heap.size ≤ T) := ⟨by have h1 := lt_someN HQ1.out; have h2 := HT.out; omega, by rw [HT.out]; exact HB01.out.size⟩
  clear hb13
  have s0 : W3.cell? ⟨G, 0, none⟩ = some (.int .i64 (r : Int)) := by rw [cell_of_row W3 G _ _ _ _ (HG.out W3 HB3.out), shC_get _ _ _ _ (by omega)]; rfl
  go_wp2_with fail
  go_loopw [16] (fun v wr => ∃ i : Nat, i ≤ r ∧ v = .int .i64 (i : Int) ∧ Hid (wr.heap[T]? = some (.cells (shC d d (spA r c n F i 0)) 62 (0, 0))) ∧ Hid (wr.heap[Q]? = some (.cells Z 62 (0, 0))) ∧ Hid (Below w.heap.size w wr)) (fun v _ => r - (intOf v).toNat)
  case atStart => exact ⟨0, Nat.zero_le _, rfl, HT3, HQ3, HB3⟩
  case round =>
    clear s0 HT3 HQ3 HB3
    obtain ⟨i, hi, rfl, HTi, HQi, HBi⟩ := hrel
    by_cases hlt : i < r
    · have hlt' : (i : Int) < (r : Int) := by omega
      have s1 : wr.cell? ⟨G, 1, none⟩ = some (.int .i64 (c : Int)) := by rw [cell_of_row wr G _ _ _ _ (HG.out wr HBi.out), shC_get _ _ _ _ (by omega)]; rfl
      go_wp2_with fail
      go_loopw [23] (fun v wr => ∃ j : Nat, j ≤ c ∧ v = .int .i64 (j : Int) ∧ Hid (wr.heap[T]? = some (.cells (shC d d (spA r c n F i j)) 62 (0, 0))) ∧ Hid (wr.heap[Q]? = some (.cells Z 62 (0, 0))) ∧ Hid (Below w.heap.size w wr)) (fun v _ => c - (intOf v).toNat)
      case atStart => exact ⟨0, Nat.zero_le _, rfl, HTi, HQi, HBi⟩
      case round =>
        clear s1 HTi HQi HBi
        obtain ⟨j, hj, rfl, HTj, HQj, HBj⟩ := hrel
        by_cases hltj : j < c
        · have hltj' : (j : Int) < (c : Int) := by omega
          have hm1 : Int.tmod ((i : Int) + (j : Int)) 2 = (((i + j) % 2 : Nat) : Int) := by rw [Int.tmod_eq_emod_of_nonneg (by omega)]; omega
          have hm2 : Int.tmod ((n : Int) - 1) 2 = (((n - 1) % 2 : Nat) : Int) := by rw [Int.tmod_eq_emod_of_nonneg (by omega)]; omega
          obtain ⟨a, HA⟩ : ∃ a, Hid (a = F (i * 8 + j)) := ⟨_, rfl⟩
          have HAt : Hid (atB r c F (i : Int) (j : Int) = a) := by
            show _ = _
            rw [HA.out, atB_nat, if_pos ⟨hlt, hltj⟩]
          have HC0 : Hid (Calls Tryd.prog 48 #[.pointer (some ⟨G, 0, none⟩), .int .i64 (i : Int), .int .i64 (j : Int)] wr fun e w' => e = .returned (.int .u8 ((a.toNat : Nat) : Int)) ∧ w' = wr) := dat_at G r c F (i : Int) (j : Int) wr (HG.out wr HBj.out) (by omega) (by omega) _ (by rw [HAt.out])
          obtain ⟨y, HY⟩ : ∃ y, Hid (y = fwd n i j) := ⟨_, rfl⟩
          have HST : Hid (if y = true then ¬ (((i + j) % 2 : Nat) : Int) = (((n - 1) % 2 : Nat) : Int) else (((i + j) % 2 : Nat) : Int) = (((n - 1) % 2 : Nat) : Int)) := by
            show ite _ _ _
            rw [HY.out]; unfold fwd
            by_cases q : (i + j) % 2 = (n - 1) % 2
            · simp [q]
            · simp only [q, decide_false, Bool.not_false, if_true]; omega
          cases y with
          | true =>
            have hst : ¬ (((i + j) % 2 : Nat) : Int) = (((n - 1) % 2 : Nat) : Int) := by have h := HST.out; simpa using h
            have HYy : Hid (fwd n i j = true) := HY.out.symm
            by_cases h1 : a = 108
            · have HF : Hid (F (i * 8 + j) = 108) := by show _ = _; rw [← HA.out]; exact h1
              obtain ⟨b, HBb⟩ : ∃ b, Hid (b = atB r c F ((i : Int) + 1) (j : Int)) := ⟨_, rfl⟩
              have HC1 : Hid (Calls Tryd.prog 48 #[.pointer (some ⟨G, 0, none⟩), .int .i64 ((i : Int) + 1), .int .i64 (j : Int)] wr fun e w' => e = .returned (.int .u8 ((b.toNat : Nat) : Int)) ∧ w' = wr) := dat_at G r c F ((i : Int) + 1) (j : Int) wr (HG.out wr HBj.out) (by omega) (by omega) _ (by rw [HBb.out])
              rw [h1, show (108 : UInt8).toNat = 108 from rfl] at HC0
              by_cases h2 : b = 108
              · have HE : Hid (atB r c F ((i : Int) + 1) (j : Int) = 108) := by show _ = _; rw [← HBb.out]; exact h2
                have HTn : Hid (wr.heap[T]? = some (.cells (shC d d (spA r c n F i (j + 1))) 62 (0, 0))) := by
                  show _ = _
                  rw [spA_next]; unfold spS; rw [if_pos HF.out, HYy.out, if_pos rfl, if_pos HE.out]; exact HTj.out
                rw [h2, show (108 : UInt8).toNat = 108 from rfl] at HC1
                clear HBb HA HAt
                go_wp2_with (first | (go_at_call 48; with_reducible (refine HC0.out.mono ?_); rintro e v1 ⟨rfl, rfl⟩) | (go_at_call 48; with_reducible (refine HC1.out.mono ?_); rintro e v1 ⟨rfl, rfl⟩))
                go_roundw
                case rel => exact ⟨j + 1, by omega, by go_num, HTn, HQj, HBj⟩
                case measure => simp [intOf]; omega
              · have HE : Hid (¬ atB r c F ((i : Int) + 1) (j : Int) = 108) := by rw [← HBb.out]; exact h2
                have e1 := u8_ne (by decide) h2
                obtain ⟨mm, hmm⟩ : ∃ mm : Nat, mm = b.toNat := ⟨_, rfl⟩
                rw [← hmm] at HC1 e1
                have e3 : ((mm : Int) == 108) = false := beq_false_of_ne e1
                have HC2 : Hid (Calls Tryd.prog 36 #[.pointer (some ⟨T, 0, none⟩), .int .i64 ((i : Int) + 1 + 1), .int .i64 ((j : Int) + 1)] wr fun e w' => e = .returned (.tuple #[]) ∧ Hid (w'.heap[T]? = some (.cells (shC d d (spA r c n F i (j + 1))) 62 (0, 0))) ∧ Hid (w'.heap.size = wr.heap.size ∧ SmA wr w' ∧ ∀ k, k ≠ T → w'.heap[k]? = wr.heap[k]?)) := by
                  have h := dlie_at T d d (spA r c n F i j) (i + 2) (j + 1) wr HTj.out (by omega) (by omega)
                  have e : spA r c n F i (j + 1) = up2 (spA r c n F i j) ((i + 2) * 8 + (j + 1)) 108 ((i + 2) * 8 + (j + 1 + 1)) 114 := by
                    rw [spA_next]; unfold spS; rw [if_pos HF.out, HYy.out, if_pos rfl, if_neg HE.out]
                  rw [e]
                  rw [show ((i : Int) + 1 + 1) = (((i + 2) : Nat) : Int) by omega, show ((j : Int) + 1) = (((j + 1) : Nat) : Int) by omega]
                  exact h
                clear HBb HA HAt hmm h2
                go_wp2_with (first | (go_at_call 48; with_reducible (refine HC0.out.mono ?_); rintro e v1 ⟨rfl, rfl⟩) | (go_at_call 48; with_reducible (refine HC1.out.mono ?_); rintro e v1 ⟨rfl, rfl⟩) | (go_at_call 36; with_reducible (refine HC2.out.mono ?_); rintro e v2 ⟨rfl, HTn, HKn⟩))
                have HQn : Hid (v2.heap[Q]? = some (.cells Z 62 (0, 0))) := (HKn.out.2.2 Q HQT.out.1).trans HQj.out
                have HBn : Hid (Below w.heap.size w v2) := below_smA HBj.out HQT.out.2 HKn.out
                go_roundw
                case rel => exact ⟨j + 1, by omega, by go_num, HTn, HQn, HBn⟩
                case measure => simp [intOf]; omega
            · by_cases h3 : a = 117
              · have HF : Hid (F (i * 8 + j) = 117) := by show _ = _; rw [← HA.out]; exact h3
                obtain ⟨b, HBb⟩ : ∃ b, Hid (b = atB r c F (i : Int) ((j : Int) + 1)) := ⟨_, rfl⟩
                have HC1 : Hid (Calls Tryd.prog 48 #[.pointer (some ⟨G, 0, none⟩), .int .i64 (i : Int), .int .i64 ((j : Int) + 1)] wr fun e w' => e = .returned (.int .u8 ((b.toNat : Nat) : Int)) ∧ w' = wr) := dat_at G r c F (i : Int) ((j : Int) + 1) wr (HG.out wr HBj.out) (by omega) (by omega) _ (by rw [HBb.out])
                rw [h3, show (117 : UInt8).toNat = 117 from rfl] at HC0
                by_cases h2 : b = 117
                · have HE : Hid (atB r c F (i : Int) ((j : Int) + 1) = 117) := by show _ = _; rw [← HBb.out]; exact h2
                  have HTn : Hid (wr.heap[T]? = some (.cells (shC d d (spA r c n F i (j + 1))) 62 (0, 0))) := by
                    show _ = _
                    rw [spA_next]; unfold spS; rw [if_neg (by rw [HF.out]; decide), if_pos HF.out, HYy.out, if_pos rfl, if_pos HE.out]; exact HTj.out
                  rw [h2, show (117 : UInt8).toNat = 117 from rfl] at HC1
                  clear HBb HA HAt
                  go_wp2_with (first | (go_at_call 48; with_reducible (refine HC0.out.mono ?_); rintro e v1 ⟨rfl, rfl⟩) | (go_at_call 48; with_reducible (refine HC1.out.mono ?_); rintro e v1 ⟨rfl, rfl⟩))
                  go_roundw
                  case rel => exact ⟨j + 1, by omega, by go_num, HTn, HQj, HBj⟩
                  case measure => simp [intOf]; omega
                · have HE : Hid (¬ atB r c F (i : Int) ((j : Int) + 1) = 117) := by rw [← HBb.out]; exact h2
                  have e1 := u8_ne (by decide) h2
                  obtain ⟨mm, hmm⟩ : ∃ mm : Nat, mm = b.toNat := ⟨_, rfl⟩
                  rw [← hmm] at HC1 e1
                  have e3 : ((mm : Int) == 117) = false := beq_false_of_ne e1
                  have HC2 : Hid (Calls Tryd.prog 38 #[.pointer (some ⟨T, 0, none⟩), .int .i64 ((i : Int) + 1), .int .i64 ((j : Int) + 1 + 1)] wr fun e w' => e = .returned (.tuple #[]) ∧ Hid (w'.heap[T]? = some (.cells (shC d d (spA r c n F i (j + 1))) 62 (0, 0))) ∧ Hid (w'.heap.size = wr.heap.size ∧ SmA wr w' ∧ ∀ k, k ≠ T → w'.heap[k]? = wr.heap[k]?)) := by
                    have h := dstand_at T d d (spA r c n F i j) (i + 1) (j + 2) wr HTj.out (by omega) (by omega)
                    have e : spA r c n F i (j + 1) = up2 (spA r c n F i j) ((i + 1) * 8 + (j + 2)) 117 ((i + 1 + 1) * 8 + (j + 2)) 100 := by
                      rw [spA_next]; unfold spS; rw [if_neg (by rw [HF.out]; decide), if_pos HF.out, HYy.out, if_pos rfl, if_neg HE.out]
                    rw [e]
                    rw [show ((i : Int) + 1) = (((i + 1) : Nat) : Int) by omega, show ((j : Int) + 1 + 1) = (((j + 2) : Nat) : Int) by omega]
                    exact h
                  clear HBb HA HAt hmm h2
                  go_wp2_with (first | (go_at_call 48; with_reducible (refine HC0.out.mono ?_); rintro e v1 ⟨rfl, rfl⟩) | (go_at_call 48; with_reducible (refine HC1.out.mono ?_); rintro e v1 ⟨rfl, rfl⟩) | (go_at_call 38; with_reducible (refine HC2.out.mono ?_); rintro e v2 ⟨rfl, HTn, HKn⟩))
                  have HQn : Hid (v2.heap[Q]? = some (.cells Z 62 (0, 0))) := (HKn.out.2.2 Q HQT.out.1).trans HQj.out
                  have HBn : Hid (Below w.heap.size w v2) := below_smA HBj.out HQT.out.2 HKn.out
                  go_roundw
                  case rel => exact ⟨j + 1, by omega, by go_num, HTn, HQn, HBn⟩
                  case measure => simp [intOf]; omega
              · have HF : Hid (¬ F (i * 8 + j) = 108 ∧ ¬ F (i * 8 + j) = 117) := by rw [← HA.out]; exact ⟨h1, h3⟩
                have e1 := u8_ne (by decide) h1
                have e2 := u8_ne (by decide) h3
                obtain ⟨mm, hmm⟩ : ∃ mm : Nat, mm = a.toNat := ⟨_, rfl⟩
                rw [← hmm] at HC0 e1 e2
                have HTn : Hid (wr.heap[T]? = some (.cells (shC d d (spA r c n F i (j + 1))) 62 (0, 0))) := by
                  show _ = _
                  rw [spA_next]; unfold spS; rw [if_neg HF.out.1, if_neg HF.out.2]; exact HTj.out
                clear h1 h3 hmm HA HAt
                have e3 : ((mm : Int) == 108) = false := beq_false_of_ne e1
                have e4 : ((mm : Int) == 117) = false := beq_false_of_ne e2
                go_wp2_with (go_at_call 48; with_reducible (refine HC0.out.mono ?_); rintro e v1 ⟨rfl, rfl⟩)
                go_roundw
                case rel => exact ⟨j + 1, by omega, by go_num, HTn, HQj, HBj⟩
                case measure => simp [intOf]; omega
          | false =>
            have hst : (((i + j) % 2 : Nat) : Int) = (((n - 1) % 2 : Nat) : Int) := by have h := HST.out; simpa using h
            have HYy : Hid (fwd n i j = false) := HY.out.symm
            by_cases h1 : a = 108
            · have HF : Hid (F (i * 8 + j) = 108) := by show _ = _; rw [← HA.out]; exact h1
              obtain ⟨b, HBb⟩ : ∃ b, Hid (b = atB r c F ((i : Int) + -1) (j : Int)) := ⟨_, rfl⟩
              have HC1 : Hid (Calls Tryd.prog 48 #[.pointer (some ⟨G, 0, none⟩), .int .i64 ((i : Int) + -1), .int .i64 (j : Int)] wr fun e w' => e = .returned (.int .u8 ((b.toNat : Nat) : Int)) ∧ w' = wr) := dat_at G r c F ((i : Int) + -1) (j : Int) wr (HG.out wr HBj.out) (by omega) (by omega) _ (by rw [HBb.out])
              rw [h1, show (108 : UInt8).toNat = 108 from rfl] at HC0
              by_cases h2 : b = 108
              · have HE : Hid (atB r c F ((i : Int) + -1) (j : Int) = 108) := by show _ = _; rw [← HBb.out]; exact h2
                have HTn : Hid (wr.heap[T]? = some (.cells (shC d d (spA r c n F i (j + 1))) 62 (0, 0))) := by
                  show _ = _
                  rw [spA_next]; unfold spS; rw [if_pos HF.out, HYy.out, if_neg Bool.false_ne_true, if_pos HE.out]; exact HTj.out
                rw [h2, show (108 : UInt8).toNat = 108 from rfl] at HC1
                clear HBb HA HAt
                go_wp2_with (first | (go_at_call 48; with_reducible (refine HC0.out.mono ?_); rintro e v1 ⟨rfl, rfl⟩) | (go_at_call 48; with_reducible (refine HC1.out.mono ?_); rintro e v1 ⟨rfl, rfl⟩))
                go_roundw
                case rel => exact ⟨j + 1, by omega, by go_num, HTn, HQj, HBj⟩
                case measure => simp [intOf]; omega
              · have HE : Hid (¬ atB r c F ((i : Int) + -1) (j : Int) = 108) := by rw [← HBb.out]; exact h2
                have e1 := u8_ne (by decide) h2
                obtain ⟨mm, hmm⟩ : ∃ mm : Nat, mm = b.toNat := ⟨_, rfl⟩
                rw [← hmm] at HC1 e1
                have e3 : ((mm : Int) == 108) = false := beq_false_of_ne e1
                have HC2 : Hid (Calls Tryd.prog 36 #[.pointer (some ⟨T, 0, none⟩), .int .i64 ((i : Int) + 1 + -1), .int .i64 ((j : Int) + 1)] wr fun e w' => e = .returned (.tuple #[]) ∧ Hid (w'.heap[T]? = some (.cells (shC d d (spA r c n F i (j + 1))) 62 (0, 0))) ∧ Hid (w'.heap.size = wr.heap.size ∧ SmA wr w' ∧ ∀ k, k ≠ T → w'.heap[k]? = wr.heap[k]?)) := by
                  have h := dlie_at T d d (spA r c n F i j) i (j + 1) wr HTj.out (by omega) (by omega)
                  have e : spA r c n F i (j + 1) = up2 (spA r c n F i j) (i * 8 + (j + 1)) 108 (i * 8 + (j + 1 + 1)) 114 := by
                    rw [spA_next]; unfold spS; rw [if_pos HF.out, HYy.out, if_neg Bool.false_ne_true, if_neg HE.out]
                  rw [e]
                  rw [show ((i : Int) + 1 + -1) = ((i : Nat) : Int) by omega, show ((j : Int) + 1) = (((j + 1) : Nat) : Int) by omega]
                  exact h
                clear HBb HA HAt hmm h2
                go_wp2_with (first | (go_at_call 48; with_reducible (refine HC0.out.mono ?_); rintro e v1 ⟨rfl, rfl⟩) | (go_at_call 48; with_reducible (refine HC1.out.mono ?_); rintro e v1 ⟨rfl, rfl⟩) | (go_at_call 36; with_reducible (refine HC2.out.mono ?_); rintro e v2 ⟨rfl, HTn, HKn⟩))
                have HQn : Hid (v2.heap[Q]? = some (.cells Z 62 (0, 0))) := (HKn.out.2.2 Q HQT.out.1).trans HQj.out
                have HBn : Hid (Below w.heap.size w v2) := below_smA HBj.out HQT.out.2 HKn.out
                go_roundw
                case rel => exact ⟨j + 1, by omega, by go_num, HTn, HQn, HBn⟩
                case measure => simp [intOf]; omega
            · by_cases h3 : a = 117
              · have HF : Hid (F (i * 8 + j) = 117) := by show _ = _; rw [← HA.out]; exact h3
                obtain ⟨b, HBb⟩ : ∃ b, Hid (b = atB r c F (i : Int) ((j : Int) + -1)) := ⟨_, rfl⟩
                have HC1 : Hid (Calls Tryd.prog 48 #[.pointer (some ⟨G, 0, none⟩), .int .i64 (i : Int), .int .i64 ((j : Int) + -1)] wr fun e w' => e = .returned (.int .u8 ((b.toNat : Nat) : Int)) ∧ w' = wr) := dat_at G r c F (i : Int) ((j : Int) + -1) wr (HG.out wr HBj.out) (by omega) (by omega) _ (by rw [HBb.out])
                rw [h3, show (117 : UInt8).toNat = 117 from rfl] at HC0
                by_cases h2 : b = 117
                · have HE : Hid (atB r c F (i : Int) ((j : Int) + -1) = 117) := by show _ = _; rw [← HBb.out]; exact h2
                  have HTn : Hid (wr.heap[T]? = some (.cells (shC d d (spA r c n F i (j + 1))) 62 (0, 0))) := by
                    show _ = _
                    rw [spA_next]; unfold spS; rw [if_neg (by rw [HF.out]; decide), if_pos HF.out, HYy.out, if_neg Bool.false_ne_true, if_pos HE.out]; exact HTj.out
                  rw [h2, show (117 : UInt8).toNat = 117 from rfl] at HC1
                  clear HBb HA HAt
                  go_wp2_with (first | (go_at_call 48; with_reducible (refine HC0.out.mono ?_); rintro e v1 ⟨rfl, rfl⟩) | (go_at_call 48; with_reducible (refine HC1.out.mono ?_); rintro e v1 ⟨rfl, rfl⟩))
                  go_roundw
                  case rel => exact ⟨j + 1, by omega, by go_num, HTn, HQj, HBj⟩
                  case measure => simp [intOf]; omega
                · have HE : Hid (¬ atB r c F (i : Int) ((j : Int) + -1) = 117) := by rw [← HBb.out]; exact h2
                  have e1 := u8_ne (by decide) h2
                  obtain ⟨mm, hmm⟩ : ∃ mm : Nat, mm = b.toNat := ⟨_, rfl⟩
                  rw [← hmm] at HC1 e1
                  have e3 : ((mm : Int) == 117) = false := beq_false_of_ne e1
                  have HC2 : Hid (Calls Tryd.prog 38 #[.pointer (some ⟨T, 0, none⟩), .int .i64 ((i : Int) + 1), .int .i64 ((j : Int) + 1 + -1)] wr fun e w' => e = .returned (.tuple #[]) ∧ Hid (w'.heap[T]? = some (.cells (shC d d (spA r c n F i (j + 1))) 62 (0, 0))) ∧ Hid (w'.heap.size = wr.heap.size ∧ SmA wr w' ∧ ∀ k, k ≠ T → w'.heap[k]? = wr.heap[k]?)) := by
                    have h := dstand_at T d d (spA r c n F i j) (i + 1) j wr HTj.out (by omega) (by omega)
                    have e : spA r c n F i (j + 1) = up2 (spA r c n F i j) ((i + 1) * 8 + j) 117 ((i + 1 + 1) * 8 + j) 100 := by
                      rw [spA_next]; unfold spS; rw [if_neg (by rw [HF.out]; decide), if_pos HF.out, HYy.out, if_neg Bool.false_ne_true, if_neg HE.out]
                    rw [e]
                    rw [show ((i : Int) + 1) = (((i + 1) : Nat) : Int) by omega, show ((j : Int) + 1 + -1) = ((j : Nat) : Int) by omega]
                    exact h
                  clear HBb HA HAt hmm h2
                  go_wp2_with (first | (go_at_call 48; with_reducible (refine HC0.out.mono ?_); rintro e v1 ⟨rfl, rfl⟩) | (go_at_call 48; with_reducible (refine HC1.out.mono ?_); rintro e v1 ⟨rfl, rfl⟩) | (go_at_call 38; with_reducible (refine HC2.out.mono ?_); rintro e v2 ⟨rfl, HTn, HKn⟩))
                  have HQn : Hid (v2.heap[Q]? = some (.cells Z 62 (0, 0))) := (HKn.out.2.2 Q HQT.out.1).trans HQj.out
                  have HBn : Hid (Below w.heap.size w v2) := below_smA HBj.out HQT.out.2 HKn.out
                  go_roundw
                  case rel => exact ⟨j + 1, by omega, by go_num, HTn, HQn, HBn⟩
                  case measure => simp [intOf]; omega
              · have HF : Hid (¬ F (i * 8 + j) = 108 ∧ ¬ F (i * 8 + j) = 117) := by rw [← HA.out]; exact ⟨h1, h3⟩
                have e1 := u8_ne (by decide) h1
                have e2 := u8_ne (by decide) h3
                obtain ⟨mm, hmm⟩ : ∃ mm : Nat, mm = a.toNat := ⟨_, rfl⟩
                rw [← hmm] at HC0 e1 e2
                have HTn : Hid (wr.heap[T]? = some (.cells (shC d d (spA r c n F i (j + 1))) 62 (0, 0))) := by
                  show _ = _
                  rw [spA_next]; unfold spS; rw [if_neg HF.out.1, if_neg HF.out.2]; exact HTj.out
                clear h1 h3 hmm HA HAt
                have e3 : ((mm : Int) == 108) = false := beq_false_of_ne e1
                have e4 : ((mm : Int) == 117) = false := beq_false_of_ne e2
                go_wp2_with (go_at_call 48; with_reducible (refine HC0.out.mono ?_); rintro e v1 ⟨rfl, rfl⟩)
                go_roundw
                case rel => exact ⟨j + 1, by omega, by go_num, HTn, HQj, HBj⟩
                case measure => simp [intOf]; omega
        · obtain rfl : j = c := by omega
          have HTn : Hid (wr.heap[T]? = some (.cells (shC d d (spA r j n F (i + 1) 0)) 62 (0, 0))) := HTj
          go_wp2_with fail
          go_roundw
          case rel => exact ⟨i + 1, by omega, by go_num, HTn, HQj, HBj⟩
          case measure => simp [intOf]; omega
    · obtain rfl : i = r := by omega
      obtain ⟨Y, HY⟩ : ∃ Y, Hid (Y = shC d d (spA i c n F i 0)) := ⟨_, rfl⟩
      have HY6 : Hid (C66 Y) := by rw [HY.out]; exact shC_66 _ _ _
      rw [← HY.out] at HTi
      have HLd : Hid ((loadVar 62 ⟨Q, 0, none⟩).run Tryd.prog (wr.setRow Q Y) = .ok (.agg Y) (wr.setRow Q Y)) := load_66 _ _ _ HY6.out (setRow_heap _ _ _ _ _ _ HQi.out)
      have HBd : Hid (Below w.heap.size w (wr.setRow Q Y)) := below_setRowN HBi.out Q (by rw [HQ.out]; exact Nat.le_refl _) _
      go_wp2_with (first | (refine wpList_load66 rfl (.tmp 5) rfl T Y rfl HTi.out HY6.out ?_) | (refine wpList_store66 rfl (.tmp 4) (.tmp 72) rfl Q Y Z rfl rfl HQi.out HY6.out HZ6.out ?_))
      refine bodyPost_ret (v := .agg Y) ?_ rfl ⟨by rw [HY.out], HBd⟩
      exact results_cell_row rfl _ _ Q 62 Y (0, 0) _ rfl (setRow_heap _ _ _ _ _ _ HQi.out) Tryd.underlying62 rfl (by rw [infoS, HY6.out.1])


end Go.Proofs.YtcnmndbckjmliaaDoor
