/-
  ferref.Tilings: in how many ways, with what is known kept in a map of texts.
-/
import Derived.Test.YtcnmndbckjmliaaDoorNTs
import Derived.Test.YtcnmndbckjmliaaDoorBApp
import Derived.Test.YtcnmndbckjmliaaDoorNCb
import Derived.Test.YtcnmndbckjmliaaDoorNBka
import Derived.Deep.CutBlock
namespace Go.Proofs.YtcnmndbckjmliaaDoor
open Go.RowKit
open Go.ChangeMaps
open Go.Maps (string_keyed)

theorem KpT.trans {w a z : World} {T : Nat} (h : KpT w T a) (h2 : KpT a T z) : KpT w T z :=
  ⟨SmA.trans h.1 h2.1, Nat.le_trans h.2.1 h2.2.1, fun k hk hne => (h2.2.2 k (Nat.lt_of_lt_of_le hk h.2.1) hne).trans (h.2.2 k hk hne)⟩
theorem KpT.refl (w : World) (T : Nat) : KpT w T w := ⟨⟨rfl, rfl, rfl⟩, Nat.le_refl _, fun _ _ _ => rfl⟩
theorem byte_at (S : ByteArray) (j : Nat) (hj : j < S.size) (l : List UInt8) (hl : S.data.toList = l) (b : UInt8) (h : l[j]? = some b) : (S[j]'hj).toNat = b.toNat := by
  subst hl
  have hj' : j < S.data.toList.length := by simpa using hj
  rw [List.getElem?_eq_getElem hj'] at h
  have := Option.some.inj h
  rw [← this]; rfl
theorem no47d : (47 : UInt8) ∉ bdL := by decide
/-- The first open cell, column by column. -/
def FstO (r c : Nat) (g : Nat → UInt8) (i j : Nat) : Prop := i < r + 1 ∧ j < c ∧ g (i * 8 + j) = 35 ∧ (∀ i', i' < r + 1 → ∀ j', j' < j → g (i' * 8 + j') ≠ 35) ∧ ∀ i', i' < i → g (i' * 8 + j) ≠ 35
def NoO (r : Nat) (g : Nat → UInt8) (j : Nat) : Prop := ∀ i', i' < r + 1 → ∀ j', j' < j → g (i' * 8 + j') ≠ 35
/-- What the two rounds come to. -/
def tlT (r c : Nat) (g : Nat → UInt8) (x i j : Nat) (q : Nat) : Nat :=
  if q = 0 then (if j + 1 < c ∧ g (i * 8 + (j + 1)) = 35 then cntC (addC x (i * 8 + j) (i * 8 + (j + 1))) else 0)
  else (if i + 1 < r + 1 ∧ g ((i + 1) * 8 + j) = 35 then cntC (addC x (i * 8 + j) ((i + 1) * 8 + j)) else 0)
theorem tlT_sum {r c : Nat} {g : Nat → UInt8} {x i j : Nat} (hx : MskP (r + 1) c g x) (hr : r + 1 ≤ 8) (hc : c ≤ 8) (h : FstO r c g i j) : cntC x = tlT r c g x i j 0 + tlT r c g x i j 1 := by
  obtain ⟨h1, h2, h3, h4, h5⟩ := h
  have hk : i * 8 + j < 64 := by omega
  have bit : ∀ k, k < 64 → (x.testBit k = false ↔ k / 8 < r + 1 ∧ k % 8 < c ∧ g k = 35) := fun k hk => by
    rw [hx.2 k hk, ← isC_iff]
    cases isC (r + 1) c g k <;> simp
  rw [cnt_corner hx.1 hk ((bit _ hk).2 ⟨by omega, by omega, h3⟩) (fun q => ?_) (fun q => ?_)]
  · have t0 : tlT r c g x i j 0 = if j + 1 < c ∧ g (i * 8 + (j + 1)) = 35 then cntC (addC x (i * 8 + j) (i * 8 + (j + 1))) else 0 := rfl
    have t1 : tlT r c g x i j 1 = if i + 1 < r + 1 ∧ g ((i + 1) * 8 + j) = 35 then cntC (addC x (i * 8 + j) ((i + 1) * 8 + j)) else 0 := rfl
    rw [t0, t1]
    have e1 : ((i * 8 + j) % 8 < 7 ∧ x.testBit (i * 8 + j + 1) = false) ↔ (j + 1 < c ∧ g (i * 8 + (j + 1)) = 35) := by
      constructor
      · rintro ⟨a, b⟩
        have := (bit _ (by omega)).1 b
        exact ⟨by omega, this.2.2⟩
      · rintro ⟨a, b⟩
        exact ⟨by omega, (bit _ (by omega)).2 ⟨by omega, by omega, b⟩⟩
    have e2 : (i * 8 + j < 56 ∧ x.testBit (i * 8 + j + 8) = false) ↔ (i + 1 < r + 1 ∧ g ((i + 1) * 8 + j) = 35) := by
      rw [show i * 8 + j + 8 = (i + 1) * 8 + j by omega]
      constructor
      · rintro ⟨a, b⟩
        have := (bit _ (by omega)).1 b
        exact ⟨by omega, this.2.2⟩
      · rintro ⟨a, b⟩
        exact ⟨by omega, (bit _ (by omega)).2 ⟨by omega, by omega, b⟩⟩
    simp only [e1, e2]
    rw [show i * 8 + j + 8 = (i + 1) * 8 + j by omega]
    rfl
  · have hne : x.testBit (i * 8 + j - 1) ≠ false := fun z => by
      have := (bit _ (by omega)).1 z
      have h6 := h4 i h1 (j - 1) (by omega)
      rw [show i * 8 + (j - 1) = i * 8 + j - 1 by omega] at h6
      exact h6 this.2.2
    simpa using hne
  · have hne : x.testBit (i * 8 + j - 8) ≠ false := fun z => by
      have := (bit _ (by omega)).1 z
      have h6 := h5 (i - 1) (by omega)
      rw [show (i - 1) * 8 + j = i * 8 + j - 8 by omega] at h6
      exact h6 this.2.2
    simpa using hne
/-- Nothing is open. -/
theorem none_all {r c : Nat} {g : Nat → UInt8} {x : Nat} (hx : MskP (r + 1) c g x) (h : NoO r g c) : x = allC := by
  have hz : MskP (r + 1) c g allC := ⟨Nat.le_refl _, fun k hk => by
    have e : isC (r + 1) c g k = false := by
      rw [Bool.eq_false_iff]
      intro q
      obtain ⟨a, b, d⟩ := isC_iff.1 q
      have := h _ a _ b
      rw [show k / 8 * 8 + k % 8 = k by omega] at this
      exact this d
    rw [e, allC_bit k hk]; rfl⟩
  exact hx.one hz
/-- What is reckoned behind q rounds. -/
def tlM (r c : Nat) (g : Nat → UInt8) (x i j : Nat) : Nat → Nat
  | 0 => 0
  | 1 => tlT r c g x i j 0
  | _ => tlT r c g x i j 0 + tlT r c g x i j 1
theorem tlT_le {r c : Nat} {g : Nat → UInt8} {x : Nat} (hx : MskP (r + 1) c g x) (hr : r + 1 ≤ 8) (hc : c ≤ 8) {i j : Nat} (h : FstO r c g i j) (q : Nat) : tlT r c g x i j q ≤ 4294967296 := by
  have h1 := h.1
  have h2 := h.2.1
  unfold tlT
  split
  · split
    · next z => exact cnt_small (add_le hx.1 (by omega) (by have := z.1; omega))
    · omega
  · split
    · next z => exact cnt_small (add_le hx.1 (by omega) (by have := z.1; omega))
    · omega
theorem tlM_le {r c : Nat} {g : Nat → UInt8} {x : Nat} (hx : MskP (r + 1) c g x) (hr : r + 1 ≤ 8) (hc : c ≤ 8) {i j : Nat} (h : FstO r c g i j) (q : Nat) : tlM r c g x i j q ≤ 8589934592 := by
  have h1 := tlT_le hx hr hc h 0
  have h2 := tlT_le hx hr hc h 1
  match q with
  | 0 => show 0 ≤ _; omega
  | 1 => show tlT r c g x i j 0 ≤ _; omega
  | q + 2 => show tlT r c g x i j 0 + tlT r c g x i j 1 ≤ _; omega
def TlS (r c K : Nat) : Prop := ∀ (g : Nat → UInt8) (x : Nat), MskP (r + 1) c g x → (∀ i, i < r + 1 → ∀ j, j < c → g (i * 8 + j) ∈ bdL) → freeC x ≤ 2 * K → ∀ (w : World) (b n : Nat), Hid (KnowS r c w b n) → n + 2 ^ (K + 1) ≤ 1000000000000 →
  ∀ S : ByteArray, S.data.toList = tx (r + 1) c g → Calls Tryd.prog 16 #[.string S, .map (some b)] w fun e w' => e = .returned (.int .i64 (cntC x : Int)) ∧ Hid (KnowS r c w' b (n + (2 ^ (K + 1) - 1))) ∧ Hid (KpT w b w')

set_option maxHeartbeats 16000000 in
set_option maxRecDepth 100000 in
theorem til_step (r c K : Nat) (hr : r + 1 ≤ 8) (hc1 : 1 ≤ c) (hc : c ≤ 8) (IH : ∀ K', K' < K → TlS r c K') : TlS r c K := by
  intro g x hx hlet hfr v9 b n HKn hn S hS
  have HX := hid_w hx
  have HLet := hid_w hlet
  have HS := hid_w hS
  have HIH := hid_w IH
  have HFr := hid_w hfr
  have HNn := hid_w hn
  have HI : Hid (Calls Tryd.prog 29 #[.string (S ++ ⟨#[47]⟩), .int .u8 47] v9 fun e w' => e = .returned (.int .i64 (c : Int)) ∧ w' = v9) := by
    have h := IndexB_z (S ++ ⟨#[47]⟩) 47 v9
    rw [ByteArray.data_append, Array.toList_append, hS] at h
    have hz : Shz bdL (r + 1) c (pz (tx (r + 1) c g)) := by
      rw [pz_tx (lt := bdL) (by omega) hlet no47d]
      exact shz_rwz (by omega) hr hc1 hc hlet
    have e : Lib.indexByte (tx (r + 1) c g ++ (⟨#[47]⟩ : ByteArray).data.toList) 47 = (c : Int) := wid_at hz
    rw [e] at h; exact h
  obtain ⟨wd, HWd⟩ : ∃ wd : Nat, Hid (wd = c + 1) := ⟨_, rfl⟩
  have hwd1 : (c : Int) + 1 = (wd : Int) := by have := HWd.out; omega
  have hwd2 : (wd : Int) - 1 = (c : Int) := by have := HWd.out; omega
  have hwd9 : wd ≤ 9 := by have := HWd.out; omega
  have HSz : Hid (S.size = (r + 1) * (c + 1) - 1) := by
    show _ = _
    rw [← ba_len, hS, tx_length]
  have h47 : (ByteArray.mk #[47]).size = 1 := rfl
  have hS71 : S.size ≤ 71 := by
    have h1 : (r + 1) * (c + 1) ≤ 8 * 9 := Nat.mul_le_mul hr (by omega)
    rw [HSz.out]; omega
  -- the places of the cells
  have HPos : Hid (∀ i j, i < r + 1 → j < c → i * (c + 1) + j < S.size) := fun i j hi hj => by
    have h1 : (i + 1) * (c + 1) ≤ (r + 1) * (c + 1) := Nat.mul_le_mul_right _ (by omega)
    rw [Nat.succ_mul] at h1
    rw [HSz.out]; omega
  have HByte : Hid (∀ i j (hi : i < r + 1) (hj : j < c), (S[i * (c + 1) + j]'(HPos.out i j hi hj)).toNat = (g (i * 8 + j)).toNat) := fun i j hi hj => byte_at S _ _ _ HS.out _ (tx_get r c g i j hi hj)
  clear hx hlet hfr hn hS IH
  go_enter Tryd.func16, Tryd.ntmps16
  go_upto_block 0 with (go_at_call 29; with_reducible (refine HI.out.mono ?_); rintro e w ⟨rfl, rfl⟩)
  clear hwd1
  have HNo0 : Hid (NoO r g 0) := fun i _ j hj => absurd hj (Nat.not_lt_zero _)
  go_cut [5, 7, 8] (fun s5 s7 s8 wx => ∃ kv : Int, s5 = .int .i64 kv ∧ Hid ((kv = -1 ∧ NoO r g c) ∨ ∃ i j : Nat, kv = ((i * (c + 1) + j : Nat) : Int) ∧ FstO r c g i j) ∧ wx = w)
  case first =>
    go_wp2_with fail
    go_loopw [5, 7] (fun kv v wr => ∃ (j : Nat) (k : Int), j ≤ c ∧ v = .int .i64 (j : Int) ∧ kv = .int .i64 k ∧ Hid ((k = -1 ∧ NoO r g j) ∨ ∃ i jj : Nat, k = ((i * (c + 1) + jj : Nat) : Int) ∧ FstO r c g i jj) ∧ w = wr) (fun _ v _ => c - (intOf v).toNat)
    case atStart => exact ⟨0, _, Nat.zero_le _, rfl, rfl, Or.inl ⟨rfl, HNo0⟩, by first | rfl | trivial⟩
    case round =>
      clear HNo0
      obtain ⟨j, k, hj, rfl, rfl, HD, rfl⟩ := hrel
      rcases HD.out with ⟨rfl, hno⟩ | ⟨i, jj, rfl, hf⟩
      case inr =>
        have HF := hid_w hf
        clear HD hf
        obtain ⟨kk, hkk⟩ : ∃ kk, kk = i * (c + 1) + jj := ⟨_, by first | rfl | trivial⟩
        have HKK : Hid (kk = i * (c + 1) + jj) := hkk
        rw [← hkk]
        have hk0 : ¬ ((kk : Int) < 0) := by omega
        clear hkk
        by_cases hlt : j < c
        · have hlt' : (j : Int) < (c : Int) := by omega
          go_wp2_with fail
          go_meet
          exact ⟨_, rfl, Or.inr ⟨i, jj, by rw [HKK.out], HF.out⟩, by first | rfl | trivial⟩
        · have hlt' : ¬ ((j : Int) < (c : Int)) := by omega
          go_wp2_with fail
          go_meet
          exact ⟨_, rfl, Or.inr ⟨i, jj, by rw [HKK.out], HF.out⟩, by first | rfl | trivial⟩
      case inl =>
        have HNo := hid_w hno
        clear HD hno
        by_cases hlt : j < c
        · have hlt' : (j : Int) < (c : Int) := by omega
          have HA0 : Hid (∀ i', i' < 0 → g (i' * 8 + j) ≠ 35) := fun i' h => absurd h (Nat.not_lt_zero _)
          go_wp2_with fail
          go_loopw [5, 8] (fun kv v wr => ∃ a : Nat, a ≤ r + 1 ∧ v = .int .i64 ((a * (c + 1) + j : Nat) : Int) ∧ kv = .int .i64 (-1) ∧ Hid (∀ i', i' < a → g (i' * 8 + j) ≠ 35) ∧ w = wr) (fun _ v _ => 100 - (intOf v).toNat)
          case atStart => exact ⟨0, Nat.zero_le _, by simp, rfl, HA0, by first | rfl | trivial⟩
          case round =>
            clear HA0
            obtain ⟨a, ha, rfl, rfl, HA, rfl⟩ := hrel
            obtain ⟨p, hp⟩ : ∃ p, p = a * (c + 1) + j := ⟨_, by first | rfl | trivial⟩
            have HP : Hid (p = a * (c + 1) + j) := hp
            rw [← hp]
            by_cases hal : a < r + 1
            · have hps : p < S.size := by rw [hp]; exact HPos.out a j hal hlt
              have hps' : (p : Int) < (S.size : Int) := by omega
              obtain ⟨y, HY⟩ : ∃ y : Nat, Hid (y = (g (a * 8 + j)).toNat) := ⟨_, by first | rfl | trivial⟩
              have hby : (S[p]'hps).toNat = y := by
                have := HByte.out a j hal hlt
                rw [HY.out, ← this]; simp only [hp]
              have hp71 : p ≤ 71 := by omega
              clear hp
              by_cases g1 : (y : Int) = 35
              · have HFs : Hid (FstO r c g a j) := ⟨hal, hlt, UInt8.toNat_inj.1 (by rw [← HY.out]; exact Int.ofNat.inj g1), HNo.out, HA.out⟩
                go_wp2_with fail
                go_roundw
                case rel => exact ⟨j + 1, _, by omega, by go_num, rfl, Or.inr ⟨a, j, by rw [HP.out], HFs.out⟩, by first | rfl | trivial⟩
                case measure => simp [intOf]; omega
              · have hq1 : ((y : Int) == 35) = false := beq_false_of_ne g1
                have HA2 : Hid (∀ i', i' < a + 1 → g (i' * 8 + j) ≠ 35) := fun i' h => by
                  by_cases e : i' = a
                  · subst e; intro z; apply g1; rw [HY.out, z]; rfl
                  · exact HA.out i' (by omega)
                have hnx : p + wd = (a + 1) * (c + 1) + j := by rw [HP.out, HWd.out, Nat.succ_mul]; omega
                have HNx := hid_w hnx
                clear hnx
                go_wp2_with fail
                go_roundw
                case rel => exact ⟨a + 1, by omega, by rw [← HNx.out]; go_num, rfl, HA2, by first | rfl | trivial⟩
                case measure => have := HNx.out; simp [intOf]; omega
            · obtain rfl : a = r + 1 := by omega
              have hpn : ¬ ((p : Int) < (S.size : Int)) := by
                have := HSz.out
                omega
              have HNo2 : Hid (NoO r g (j + 1)) := fun i' hi j' hj' => by
                by_cases e : j' = j
                · subst e; exact HA.out i' hi
                · exact HNo.out i' hi j' (by omega)
              clear hp
              go_wp2_with fail
              go_roundw
              case rel => exact ⟨j + 1, _, by omega, by go_num, rfl, Or.inl ⟨rfl, HNo2⟩, by first | rfl | trivial⟩
              case measure => simp [intOf]; omega
        · obtain rfl : j = c := by omega
          have hlt' : ¬ ((j : Int) < (j : Int)) := by omega
          go_wp2_with fail
          go_meet
          exact ⟨_, rfl, Or.inl ⟨rfl, HNo.out⟩, by first | rfl | trivial⟩
  case rest =>
    obtain ⟨kv, rfl, HD, rfl⟩ := hcut
    rcases HD.out with ⟨rfl, hno⟩ | ⟨i, j, rfl, hf⟩
    case inl =>
      have HAll : Hid (x = allC) := none_all HX.out hno
      have HC1 : Hid (cntC x = 1) := by show _ = _; rw [HAll.out]; exact cntC_all
      clear HD hno
      go_wp2_with fail
      go_ret
      exact ⟨by rw [HC1.out]; rfl, HKn.out.mono (by omega), KpT.refl _ _⟩
    case inr =>
      have HF : Hid (FstO r c g i j) := hf
      obtain ⟨kk, hkk⟩ : ∃ kk, kk = i * (c + 1) + j := ⟨_, rfl⟩
      have HKK : Hid (kk = i * (c + 1) + j) := hkk
      rw [← hkk]
      have hks : kk < S.size := by rw [hkk]; exact HPos.out i j hf.1 hf.2.1
      have hk0 : ¬ ((kk : Int) < 0) := by omega
      obtain ⟨D, h1, h2, h3⟩ := HKn.out
      have HOwn := hid_w h1
      have HKey : Hid (keyOf Tryd.prog 9 (.string S) = some (keyS (tx (r + 1) c g))) := by have h := keyS_of S hS71; rw [HS.out] at h; exact h
      have hz2 : ∀ W : World, (zeroValue 2).run Tryd.prog W = .ok (.int .i64 0) W := fun W => Tryd.zeroValue2 W
      have HBl : Hid (b < wc.heap.size) := h1.lt
      have hK1 : 1 ≤ K := by
        have hb : x.testBit (i * 8 + j) = false := by
          rw [HX.out.2 _ (by have := hf.1; have := hf.2.1; omega)]
          have : isC (r + 1) c g (i * 8 + j) = true := isC_iff.2 ⟨by have := hf.1; have := hf.2.1; omega, by have := hf.2.1; omega, hf.2.2.1⟩
          rw [this]; rfl
        have := free_less (q := i * 8 + j) (by have := hf.1; have := hf.2.1; omega) hb
        have := HFr.out
        omega
      have Hpw : Hid (2 ^ (K + 1) = 2 ^ K + 2 ^ K ∧ 1 ≤ 2 ^ K) := ⟨by rw [Nat.pow_succ]; omega, Nat.one_le_two_pow⟩
      cases hh : Maps.has D (keyS (tx (r + 1) c g)) with
      | true =>
        have HAt := hid_w (h3 g x HX.out hh)
        clear h1 h2 h3 hf HD hkk
        go_wp2_with (at_lookup; refine wpList_lookup_own_ok_int _ rfl _ _ 33 rfl 9 2 .i64 (string_keyed Tryd.underlying9) Tryd.underlying33 Tryd.underlying2 (hz2 _) b n D rfl HOwn.out _ _ rfl HKey.out ?_; intro v hat hwf; rw [hh])
        go_ret
        have e := HAt.out
        rw [hat] at e
        simp only [DataW.lit.injEq, Lit.int.injEq, true_and] at e
        exact ⟨by rw [← e]; rfl, HKn.out.mono (by omega), KpT.refl _ _⟩
      | false =>
      clear h1 h2 h3
      obtain ⟨p0, hp0⟩ : ∃ p0, p0 = kk + 1 := ⟨_, rfl⟩
      obtain ⟨p1, hp1⟩ : ∃ p1, p1 = kk + wd := ⟨_, rfl⟩
      have HP01 := hid_w (And.intro hp0 hp1)
      have hq0 : (kk : Int) + 1 = (p0 : Int) := by omega
      have hq1 : (kk : Int) + (wd : Int) = (p1 : Int) := by omega
      have hp71 : kk ≤ 71 ∧ p0 ≤ 72 ∧ p1 ≤ 80 := by omega
      obtain ⟨hpa, hpb, hpc⟩ := hp71
      clear hp0 hp1 hkk hf HD
      go_upto_region 18 with (at_lookup; refine wpList_lookup_own_ok_int _ rfl _ _ 33 rfl 9 2 .i64 (string_keyed Tryd.underlying9) Tryd.underlying33 Tryd.underlying2 (hz2 _) b n D rfl HOwn.out _ _ rfl HKey.out ?_; intro v hat hwf; rw [hh])
      obtain ⟨PP, HPP⟩ : ∃ PP, Hid (PP = wc.heap.size) := ⟨_, rfl⟩
      obtain ⟨Wa, HWa⟩ : ∃ Wa, Hid (Wa = wc.alloc (.cells #[.int .i64 (p0 : Int), .int .i64 (p1 : Int)] 3)) := ⟨_, rfl⟩
      have HRow0 : Hid (Wa.heap[PP]? = some (.cells #[.int .i64 (p0 : Int), .int .i64 (p1 : Int)] 3 (0, 0))) := by
        show _ = _
        rw [HWa.out, HPP.out]; exact heap_alloc_last _ _
      have HBa : Hid (Below wc.heap.size wc Wa) := by rw [HWa.out]; exact (Below.refl _ _).alloc (Nat.le_refl _) _
      have HKp0 : Hid (KpT wc b Wa) := (KpT.refl wc b).below HBa.out
      have HKs0 : Hid (KnowS r c Wa b (n + 0 * (2 ^ K - 1))) := by rw [Nat.zero_mul]; exact HKn.out.same (HBa.out.block b HBl.out)
      have HM0 : Hid (tlM r c g x i j 0 = 0) := rfl
      rw [← HPP.out, ← HWa.out]
      go_loopw [11, 59] (fun nv v wr => ∃ q m : Nat, q ≤ 2 ∧ v = .int .i64 (q : Int) ∧ nv = .int .i64 (m : Int) ∧ Hid (tlM r c g x i j q = m) ∧ Hid (KnowS r c wr b (n + q * (2 ^ K - 1))) ∧ Hid (wr.heap[PP]? = some (.cells #[.int .i64 (p0 : Int), .int .i64 (p1 : Int)] 3 (0, 0))) ∧ Hid (KpT wc b wr)) (fun _ v _ => 2 - (intOf v).toNat)
      case atStart => exact ⟨0, 0, by omega, rfl, rfl, HM0, HKs0, HRow0, HKp0⟩
      case round =>
        clear HM0 HKs0 HRow0 HKp0
        obtain ⟨q, m, hq, rfl, rfl, HMq, HKs, HRow, HKp⟩ := hrel
        have c0 : wr.cell? ⟨PP, 0, none⟩ = some (.int .i64 (p0 : Int)) := by rw [cell_of_row wr PP _ _ _ _ HRow.out]; rfl
        have c1 : wr.cell? ⟨PP, 1, none⟩ = some (.int .i64 (p1 : Int)) := by rw [cell_of_row wr PP _ _ _ _ HRow.out]; rfl
        have hm32 : m ≤ 8589934592 := by
          rw [← HMq.out]; exact tlM_le HX.out hr hc HF.out q
        rcases (by omega : q = 0 ∨ q = 1 ∨ q = 2) with rfl | rfl | rfl
        · -- to the right
          have HT0 : Hid (m = 0) := HMq.out.symm
          by_cases hA : j + 1 < c
          · have HPT : Hid (p0 = i * (c + 1) + (j + 1)) := by show _ = _; have := HP01.out.1; have := HKK.out; omega
            have hpl0 : p0 < S.size := by rw [HPT.out]; exact HPos.out i (j + 1) HF.out.1 hA
            have hpl0' : (p0 : Int) < (S.size : Int) := by omega
            obtain ⟨y0, HY0⟩ : ∃ y0 : Nat, Hid (y0 = (g (i * 8 + (j + 1))).toNat) := ⟨_, rfl⟩
            have hby : (S[p0]'hpl0).toNat = y0 := by
              have := byte_at S p0 hpl0 _ HS.out _ (by rw [HPT.out]; exact tx_get r c g i (j + 1) HF.out.1 hA)
              rw [HY0.out]; exact this
            by_cases hop : g (i * 8 + (j + 1)) = 35
            · have hy35 : (y0 : Int) = 35 := by rw [HY0.out, hop]; rfl
              have hi1 := HF.out.1
              have hj1 := HF.out.2.1
              have hkl : kk < S.size := by rw [HKK.out]; exact HPos.out i j HF.out.1 HF.out.2.1
              have hpl : p0 < S.size := by rw [HPT.out]; exact HPos.out (i) (j + 1) (by omega) (by omega)
              have hkl' : (kk : Int) < (S.size : Int) := by omega
              have hpl' : (p0 : Int) < (S.size : Int) := by omega
              have hkp : kk ≠ p0 := by omega
              obtain ⟨G, HG⟩ : ∃ G, Hid (G = wr.heap.size) := ⟨_, rfl⟩
              obtain ⟨cap, HCap⟩ : ∃ cap, Hid (cap = grownCap wr S.size 0 5) := ⟨_, rfl⟩
              obtain ⟨W1, HW1⟩ : ∃ W1, Hid (W1 = wr.drew.alloc (.cells (bytesRow S cap) 5 ((bytesRow S cap).size, (bytesRow S cap).size + 1))) := ⟨_, rfl⟩
              have hcv : (convert 9 80 (.string S)).run Tryd.prog wr = .ok (.slice (some ⟨G, 0, none⟩) S.size cap) W1 := by
                rw [HW1.out, HCap.out, HG.out]
                exact run_bytes_of_string wr 9 80 5 S Tryd.underlying9 Tryd.underlying80 Tryd.underlying5
              have HB1 : Hid (Below wr.heap.size wr W1) := by rw [HW1.out]; exact (Below.refl _ _).drew.alloc (Nat.le_refl _) _
              have HR1 : Hid (ByR W1 G (tx (r + 1) c g)) := by
                have h := byr_conv S wr cap
                rw [HW1.out, HG.out, ← HS.out]; exact h
              have HTx : Hid ((tx (r + 1) c g).length = S.size) := by show _ = _; rw [← HS.out]; exact ba_len S
              have HS1 : Hid (ByR (W1.setCell ⟨G, kk, none⟩ (.int .u8 46)) G ((tx (r + 1) c g).set kk 46)) := HR1.out.store kk 46 (by rw [HTx.out]; omega)
              have HS2 : Hid (ByR ((W1.setCell ⟨G, kk, none⟩ (.int .u8 46)).setCell ⟨G, p0, none⟩ (.int .u8 46)) G (((tx (r + 1) c g).set kk 46).set p0 46)) := HS1.out.store p0 46 (by rw [List.length_set, HTx.out]; omega)
              have g0 : W1.cell? ⟨G, kk, none⟩ = some (.int .u8 (((tx (r + 1) c g).getD kk 0).toNat : Int)) := HR1.out.cell (by rw [HTx.out]; omega)
              have f0 : W1.frozen? ⟨G, kk, none⟩ = false := HR1.out.frozen (by rw [HTx.out]; omega)
              have g1 : (W1.setCell ⟨G, kk, none⟩ (.int .u8 46)).cell? ⟨G, p0, none⟩ = some (.int .u8 ((((tx (r + 1) c g).set kk 46).getD p0 0).toNat : Int)) := HS1.out.cell (by rw [List.length_set, HTx.out]; omega)
              have f1 : (W1.setCell ⟨G, kk, none⟩ (.int .u8 46)).frozen? ⟨G, p0, none⟩ = false := HS1.out.frozen (by rw [List.length_set, HTx.out]; omega)
              obtain ⟨W3, HW3⟩ : ∃ W3, Hid (W3 = (W1.setCell ⟨G, kk, none⟩ (.int .u8 46)).setCell ⟨G, p0, none⟩ (.int .u8 46)) := ⟨_, rfl⟩
              obtain ⟨S2, HS2e⟩ : ∃ S2 : ByteArray, Hid (S2 = ⟨(((tx (r + 1) c g).set kk 46).set p0 46).toArray⟩) := ⟨_, rfl⟩
              have HSt : Hid (S2.data.toList = tx (r + 1) c (up2 g (i * 8 + j) 46 ((i) * 8 + (j + 1)) 46)) := by
                have e1 := tx_set r c g i j HF.out.1 HF.out.2.1 hc 46
                have e2 := tx_set r c (fun z => if z = i * 8 + j then 46 else g z) (i) (j + 1) (by omega) (by omega) hc 46
                show _ = _
                rw [HS2e.out, HKK.out, HPT.out]
                show ((tx (r + 1) c g).set (i * (c + 1) + j) 46).set _ 46 = _
                rw [e1, e2]; rfl
              have HB3 : Hid (Below wr.heap.size wr W3) := by
                have hs : ∀ (W : World) (z : Nat) (v : Value), Below wr.heap.size wr W → Below wr.heap.size wr (W.setCell ⟨G, z, none⟩ v) := fun W z v hb =>
                  hb.trans ⟨rfl, rfl, rfl, by simp, fun i hi => heap_setCell_other _ _ _ _ (show i ≠ G by have := HG.out; omega)⟩
                rw [HW3.out]; exact hs _ _ _ (hs _ _ _ HB1.out)
              have hback : (convert 80 9 (.slice (some ⟨G, 0, none⟩) S.size cap)).run Tryd.prog W3 = .ok (.string S2) W3 := by
                have h := HS2.out.back (cap := cap)
                rw [List.length_set, List.length_set, HTx.out, ← HW3.out, ← HS2e.out] at h; exact h
              obtain ⟨y, HYx⟩ : ∃ y, Hid (y = addC x (i * 8 + j) ((i) * 8 + (j + 1))) := ⟨_, rfl⟩
              have hbk : ∀ k, k < 64 → (x.testBit k = false ↔ k / 8 < r + 1 ∧ k % 8 < c ∧ g k = 35) := fun k hk => by
                rw [HX.out.2 k hk, ← isC_iff]
                cases isC (r + 1) c g k <;> simp
              have hij := HF.out
              have hMy : MskP (r + 1) c (up2 g (i * 8 + j) 46 ((i) * 8 + (j + 1)) 46) y := by
                rw [HYx.out]; exact msk_put HX.out (by have := hij.1; have := hij.2.1; omega) (by have := hij.1; have := hij.2.1; omega) (by omega)
              have hFy : freeC y + 2 ≤ freeC x := by
                rw [HYx.out]
                exact free_two (by have := hij.1; have := hij.2.1; omega) (by have := hij.1; have := hij.2.1; omega) ((hbk _ (by have := hij.1; have := hij.2.1; omega)).2 ⟨by have := hij.2.1; omega, by have := hij.2.1; omega, hij.2.2.1⟩) ((hbk _ (by have := hij.1; have := hij.2.1; omega)).2 ⟨by have := hij.1; have := hij.2.1; omega, by have := hij.1; have := hij.2.1; omega, hop⟩) (by omega)
              have hLy : ∀ i', i' < r + 1 → ∀ j', j' < c → up2 g (i * 8 + j) 46 ((i) * 8 + (j + 1)) 46 (i' * 8 + j') ∈ bdL := fun i' hi' j' hj' => by
                unfold up2 upB
                split
                · decide
                · split
                  · decide
                  · exact HLet.out i' hi' j' hj'
              have HKs3 : Hid (KnowS r c W3 b (n + 0 * (2 ^ K - 1))) := HKs.out.same (HB3.out.block b (Nat.lt_of_lt_of_le HBl.out HKp.out.2.1))
              have HIc : Hid (Calls Tryd.prog 16 #[.string S2, .map (some b)] W3 fun e w' => e = .returned (.int .i64 (cntC y : Int)) ∧ Hid (KnowS r c w' b (n + 0 * (2 ^ K - 1) + (2 ^ K - 1))) ∧ Hid (KpT W3 b w')) := by
                have h := HIH.out (K - 1) (by omega) _ y hMy hLy (by have := HFr.out; omega) W3 b _ HKs3 (by have h1 := HNn.out; rw [show K - 1 + 1 = K by omega]; have := Hpw.out; omega) S2 HSt.out
                rw [show K - 1 + 1 = K by omega] at h
                exact h
              obtain ⟨z, HZ⟩ : ∃ z, Hid (z = cntC y) := ⟨_, rfl⟩
              have hz32 : z ≤ 4294967296 := by rw [HZ.out]; exact cnt_small hMy.1
              rw [← HZ.out] at HIc
              have HTq : Hid (tlT r c g x i j 0 = z) := by
                show _ = _
                show (if _ then _ else 0) = z
                rw [if_pos ⟨hA, hop⟩]
                rw [HZ.out, HYx.out]
              clear hbk hij hMy hFy hLy
              go_upto_region 23 with fail
              rw [← HW3.out]
              go_wp2_with (go_at_call 16; with_reducible (refine HIc.out.mono ?_); rintro e w5 ⟨rfl, HK5, HKp5⟩)
              have HKpn : Hid (KpT wc b w5) := HKp.out.trans (((KpT.refl wr b).below HB3.out).trans HKp5.out)
              have HRown : Hid (w5.heap[PP]? = some (.cells #[.int .i64 (p0 : Int), .int .i64 (p1 : Int)] 3 (0, 0))) := by
                have hpp := lt_someN HRow.out
                have e1 := HKp5.out.2.2 PP (Nat.lt_of_lt_of_le hpp HB3.out.size) (by have := HBl.out; have := HPP.out; omega)
                have e2 := HB3.out.block PP hpp
                exact (e1.trans e2).trans HRow.out
              go_roundw
              case rel => exact ⟨0 + 1, m + z, by omega, by go_num, by go_num, (by show tlT r c g x i j 0 = m + z; rw [HTq.out, HT0.out, Nat.zero_add]), HK5.out.mono (by omega), HRown, HKpn⟩
              case measure => simp [intOf]
            · have hyn : ((y0 : Int) == 35) = false := beq_false_of_ne (fun e => hop (UInt8.toNat_inj.1 (by rw [← HY0.out]; exact Int.ofNat.inj e)))
              have HM1 : Hid (tlM r c g x i j 1 = m) := by
                show tlT r c g x i j 0 = m
                show (if _ then _ else 0) = m
                rw [if_neg (fun z => hop z.2), HT0.out]
              go_wp2_with fail
              go_roundw
              case rel => exact ⟨1, m, by omega, by go_num, rfl, HM1, HKs.out.mono (by omega), HRow, HKp⟩
              case measure => simp [intOf]
          · have HM1 : Hid (tlM r c g x i j 1 = m) := by
              show tlT r c g x i j 0 = m
              show (if _ then _ else 0) = m
              rw [if_neg (fun z => hA z.1), HT0.out]
            by_cases hir : i < r
            · have hjc : j + 1 = c := by have := HF.out.2.1; omega
              have hpl0 : p0 < S.size := by
                have h1 : (i + 1 + 1) * (c + 1) ≤ (r + 1) * (c + 1) := Nat.mul_le_mul_right _ (by omega)
                rw [Nat.succ_mul, Nat.succ_mul] at h1
                have := HP01.out.1
                have := HKK.out
                have := HSz.out
                omega
              have hpl0' : (p0 : Int) < (S.size : Int) := by omega
              have hby : (S[p0]'hpl0).toNat = 47 := byte_at S p0 hpl0 _ HS.out 47 (by
                have := HP01.out.1
                have := HKK.out
                rw [show p0 = i * (c + 1) + c by omega]; exact tx_end r c g i hir)
              go_wp2_with fail
              go_roundw
              case rel => exact ⟨1, m, by omega, by go_num, rfl, HM1, HKs.out.mono (by omega), HRow, HKp⟩
              case measure => simp [intOf]
            · have hpn : ¬ ((p0 : Int) < (S.size : Int)) := by
                have h0 : i = r := by have := HF.out.1; omega
                have hjc : j + 1 = c := by have := HF.out.2.1; omega
                have := HP01.out.1
                have hk := HKK.out
                have hz := HSz.out
                rw [h0] at hk
                rw [Nat.succ_mul] at hz
                omega
              go_wp2_with fail
              go_roundw
              case rel => exact ⟨1, m, by omega, by go_num, rfl, HM1, HKs.out.mono (by omega), HRow, HKp⟩
              case measure => simp [intOf]
        · -- below
          by_cases hA : i + 1 < r + 1
          · have HPT : Hid (p1 = (i + 1) * (c + 1) + j) := by show _ = _; have := HP01.out.2; have := HKK.out; have := HWd.out; rw [Nat.succ_mul]; omega
            have hpl0 : p1 < S.size := by rw [HPT.out]; exact HPos.out (i + 1) j hA HF.out.2.1
            have hpl0' : (p1 : Int) < (S.size : Int) := by omega
            obtain ⟨y0, HY0⟩ : ∃ y0 : Nat, Hid (y0 = (g ((i + 1) * 8 + j)).toNat) := ⟨_, rfl⟩
            have hby : (S[p1]'hpl0).toNat = y0 := by
              have := byte_at S p1 hpl0 _ HS.out _ (by rw [HPT.out]; exact tx_get r c g (i + 1) j hA HF.out.2.1)
              rw [HY0.out]; exact this
            by_cases hop : g ((i + 1) * 8 + j) = 35
            · have hy35 : (y0 : Int) = 35 := by rw [HY0.out, hop]; rfl
              have hi1 := HF.out.1
              have hj1 := HF.out.2.1
              have hkl : kk < S.size := by rw [HKK.out]; exact HPos.out i j HF.out.1 HF.out.2.1
              have hpl : p1 < S.size := by rw [HPT.out]; exact HPos.out (i + 1) (j) (by omega) (by omega)
              have hkl' : (kk : Int) < (S.size : Int) := by omega
              have hpl' : (p1 : Int) < (S.size : Int) := by omega
              have hkp : kk ≠ p1 := by omega
              obtain ⟨G, HG⟩ : ∃ G, Hid (G = wr.heap.size) := ⟨_, rfl⟩
              obtain ⟨cap, HCap⟩ : ∃ cap, Hid (cap = grownCap wr S.size 0 5) := ⟨_, rfl⟩
              obtain ⟨W1, HW1⟩ : ∃ W1, Hid (W1 = wr.drew.alloc (.cells (bytesRow S cap) 5 ((bytesRow S cap).size, (bytesRow S cap).size + 1))) := ⟨_, rfl⟩
              have hcv : (convert 9 80 (.string S)).run Tryd.prog wr = .ok (.slice (some ⟨G, 0, none⟩) S.size cap) W1 := by
                rw [HW1.out, HCap.out, HG.out]
                exact run_bytes_of_string wr 9 80 5 S Tryd.underlying9 Tryd.underlying80 Tryd.underlying5
              have HB1 : Hid (Below wr.heap.size wr W1) := by rw [HW1.out]; exact (Below.refl _ _).drew.alloc (Nat.le_refl _) _
              have HR1 : Hid (ByR W1 G (tx (r + 1) c g)) := by
                have h := byr_conv S wr cap
                rw [HW1.out, HG.out, ← HS.out]; exact h
              have HTx : Hid ((tx (r + 1) c g).length = S.size) := by show _ = _; rw [← HS.out]; exact ba_len S
              have HS1 : Hid (ByR (W1.setCell ⟨G, kk, none⟩ (.int .u8 46)) G ((tx (r + 1) c g).set kk 46)) := HR1.out.store kk 46 (by rw [HTx.out]; omega)
              have HS2 : Hid (ByR ((W1.setCell ⟨G, kk, none⟩ (.int .u8 46)).setCell ⟨G, p1, none⟩ (.int .u8 46)) G (((tx (r + 1) c g).set kk 46).set p1 46)) := HS1.out.store p1 46 (by rw [List.length_set, HTx.out]; omega)
              have g0 : W1.cell? ⟨G, kk, none⟩ = some (.int .u8 (((tx (r + 1) c g).getD kk 0).toNat : Int)) := HR1.out.cell (by rw [HTx.out]; omega)
              have f0 : W1.frozen? ⟨G, kk, none⟩ = false := HR1.out.frozen (by rw [HTx.out]; omega)
              have g1 : (W1.setCell ⟨G, kk, none⟩ (.int .u8 46)).cell? ⟨G, p1, none⟩ = some (.int .u8 ((((tx (r + 1) c g).set kk 46).getD p1 0).toNat : Int)) := HS1.out.cell (by rw [List.length_set, HTx.out]; omega)
              have f1 : (W1.setCell ⟨G, kk, none⟩ (.int .u8 46)).frozen? ⟨G, p1, none⟩ = false := HS1.out.frozen (by rw [List.length_set, HTx.out]; omega)
              obtain ⟨W3, HW3⟩ : ∃ W3, Hid (W3 = (W1.setCell ⟨G, kk, none⟩ (.int .u8 46)).setCell ⟨G, p1, none⟩ (.int .u8 46)) := ⟨_, rfl⟩
              obtain ⟨S2, HS2e⟩ : ∃ S2 : ByteArray, Hid (S2 = ⟨(((tx (r + 1) c g).set kk 46).set p1 46).toArray⟩) := ⟨_, rfl⟩
              have HSt : Hid (S2.data.toList = tx (r + 1) c (up2 g (i * 8 + j) 46 ((i + 1) * 8 + (j)) 46)) := by
                have e1 := tx_set r c g i j HF.out.1 HF.out.2.1 hc 46
                have e2 := tx_set r c (fun z => if z = i * 8 + j then 46 else g z) (i + 1) (j) (by omega) (by omega) hc 46
                show _ = _
                rw [HS2e.out, HKK.out, HPT.out]
                show ((tx (r + 1) c g).set (i * (c + 1) + j) 46).set _ 46 = _
                rw [e1, e2]; rfl
              have HB3 : Hid (Below wr.heap.size wr W3) := by
                have hs : ∀ (W : World) (z : Nat) (v : Value), Below wr.heap.size wr W → Below wr.heap.size wr (W.setCell ⟨G, z, none⟩ v) := fun W z v hb =>
                  hb.trans ⟨rfl, rfl, rfl, by simp, fun i hi => heap_setCell_other _ _ _ _ (show i ≠ G by have := HG.out; omega)⟩
                rw [HW3.out]; exact hs _ _ _ (hs _ _ _ HB1.out)
              have hback : (convert 80 9 (.slice (some ⟨G, 0, none⟩) S.size cap)).run Tryd.prog W3 = .ok (.string S2) W3 := by
                have h := HS2.out.back (cap := cap)
                rw [List.length_set, List.length_set, HTx.out, ← HW3.out, ← HS2e.out] at h; exact h
              obtain ⟨y, HYx⟩ : ∃ y, Hid (y = addC x (i * 8 + j) ((i + 1) * 8 + (j))) := ⟨_, rfl⟩
              have hbk : ∀ k, k < 64 → (x.testBit k = false ↔ k / 8 < r + 1 ∧ k % 8 < c ∧ g k = 35) := fun k hk => by
                rw [HX.out.2 k hk, ← isC_iff]
                cases isC (r + 1) c g k <;> simp
              have hij := HF.out
              have hMy : MskP (r + 1) c (up2 g (i * 8 + j) 46 ((i + 1) * 8 + (j)) 46) y := by
                rw [HYx.out]; exact msk_put HX.out (by have := hij.1; have := hij.2.1; omega) (by have := hij.1; have := hij.2.1; omega) (by omega)
              have hFy : freeC y + 2 ≤ freeC x := by
                rw [HYx.out]
                exact free_two (by have := hij.1; have := hij.2.1; omega) (by have := hij.1; have := hij.2.1; omega) ((hbk _ (by have := hij.1; have := hij.2.1; omega)).2 ⟨by have := hij.2.1; omega, by have := hij.2.1; omega, hij.2.2.1⟩) ((hbk _ (by have := hij.1; have := hij.2.1; omega)).2 ⟨by have := hij.1; have := hij.2.1; omega, by have := hij.1; have := hij.2.1; omega, hop⟩) (by omega)
              have hLy : ∀ i', i' < r + 1 → ∀ j', j' < c → up2 g (i * 8 + j) 46 ((i + 1) * 8 + (j)) 46 (i' * 8 + j') ∈ bdL := fun i' hi' j' hj' => by
                unfold up2 upB
                split
                · decide
                · split
                  · decide
                  · exact HLet.out i' hi' j' hj'
              have HKs3 : Hid (KnowS r c W3 b (n + 1 * (2 ^ K - 1))) := HKs.out.same (HB3.out.block b (Nat.lt_of_lt_of_le HBl.out HKp.out.2.1))
              have HIc : Hid (Calls Tryd.prog 16 #[.string S2, .map (some b)] W3 fun e w' => e = .returned (.int .i64 (cntC y : Int)) ∧ Hid (KnowS r c w' b (n + 1 * (2 ^ K - 1) + (2 ^ K - 1))) ∧ Hid (KpT W3 b w')) := by
                have h := HIH.out (K - 1) (by omega) _ y hMy hLy (by have := HFr.out; omega) W3 b _ HKs3 (by have h1 := HNn.out; rw [show K - 1 + 1 = K by omega]; have := Hpw.out; omega) S2 HSt.out
                rw [show K - 1 + 1 = K by omega] at h
                exact h
              obtain ⟨z, HZ⟩ : ∃ z, Hid (z = cntC y) := ⟨_, rfl⟩
              have hz32 : z ≤ 4294967296 := by rw [HZ.out]; exact cnt_small hMy.1
              rw [← HZ.out] at HIc
              have HTq : Hid (tlT r c g x i j 1 = z) := by
                show _ = _
                show (if _ then _ else 0) = z
                rw [if_pos ⟨hA, hop⟩]
                rw [HZ.out, HYx.out]
              clear hbk hij hMy hFy hLy
              go_upto_region 23 with fail
              rw [← HW3.out]
              go_wp2_with (go_at_call 16; with_reducible (refine HIc.out.mono ?_); rintro e w5 ⟨rfl, HK5, HKp5⟩)
              have HKpn : Hid (KpT wc b w5) := HKp.out.trans (((KpT.refl wr b).below HB3.out).trans HKp5.out)
              have HRown : Hid (w5.heap[PP]? = some (.cells #[.int .i64 (p0 : Int), .int .i64 (p1 : Int)] 3 (0, 0))) := by
                have hpp := lt_someN HRow.out
                have e1 := HKp5.out.2.2 PP (Nat.lt_of_lt_of_le hpp HB3.out.size) (by have := HBl.out; have := HPP.out; omega)
                have e2 := HB3.out.block PP hpp
                exact (e1.trans e2).trans HRow.out
              go_roundw
              case rel => exact ⟨1 + 1, m + z, by omega, by go_num, by go_num, (by show tlT r c g x i j 0 + tlT r c g x i j 1 = m + z; rw [HTq.out]; have h := HMq.out; show _ = _; rw [← h]; rfl), HK5.out.mono (by omega), HRown, HKpn⟩
              case measure => simp [intOf]
            · have hyn : ((y0 : Int) == 35) = false := beq_false_of_ne (fun e => hop (UInt8.toNat_inj.1 (by rw [← HY0.out]; exact Int.ofNat.inj e)))
              have HM1 : Hid (tlM r c g x i j 2 = m) := by
                show tlT r c g x i j 0 + tlT r c g x i j 1 = m
                have e : tlT r c g x i j 1 = 0 := by show (if _ then _ else 0) = 0; rw [if_neg (fun z => hop z.2)]
                rw [e, Nat.add_zero]; exact HMq.out
              go_wp2_with fail
              go_roundw
              case rel => exact ⟨2, m, by omega, by go_num, rfl, HM1, HKs.out.mono (by omega), HRow, HKp⟩
              case measure => simp [intOf]
          · have HM1 : Hid (tlM r c g x i j 2 = m) := by
              show tlT r c g x i j 0 + tlT r c g x i j 1 = m
              have e : tlT r c g x i j 1 = 0 := by show (if _ then _ else 0) = 0; rw [if_neg (fun z => hA z.1)]
              rw [e, Nat.add_zero]; exact HMq.out
            have hpn : ¬ ((p1 : Int) < (S.size : Int)) := by
              have h0 : i = r := by have := HF.out.1; omega
              have := HP01.out.2
              have hk := HKK.out
              have hz := HSz.out
              have := HWd.out
              rw [h0] at hk
              rw [Nat.succ_mul] at hz
              omega
            go_wp2_with fail
            go_roundw
            case rel => exact ⟨2, m, by omega, by go_num, rfl, HM1, HKs.out.mono (by omega), HRow, HKp⟩
            case measure => simp [intOf]
        · -- both are done
          have HTot : Hid (cntC x = m) := by
            show _ = _
            rw [tlT_sum HX.out hr hc HF.out, ← HMq.out]; rfl
          obtain ⟨D4, h41, h42, h43⟩ := HKs.out
          have HO4 := hid_w h41
          have HN4 := hid_w (knowS_put HX.out h42 h43)
          have HVal : Hid (plainElem (H := Unit) Tryd.prog 2 (.int .i64 (m : Int)) = some (.lit (.int .i64 (cntC x : Int)), [])) := by
            rw [HTot.out]
            exact plainElem_int Tryd.underlying2 (num_wf (by rw [← HTot.out]; exact cnt_small HX.out.1))
          clear h41 h42 h43
          have HRoom : Hid (n + 2 * (2 ^ K - 1) < maxLen) := by
            have hml : 1000000000001 ≤ maxLen := by decide
            have := HNn.out
            have := Hpw.out
            show _ < _
            omega
          obtain ⟨w6, hrun6, hO6, hG6⟩ := HO4.out.update (string_keyed Tryd.underlying9) Tryd.underlying33 HRoom.out HKey.out HVal.out
          have HO6 := hid_w hO6
          have HG6 := hid_w hG6
          clear hO6 hG6
          go_wp2_with fail
          have HK6 : Hid (KnowS r c w6 b (n + (2 ^ (K + 1) - 1))) := by
            refine KnowS.mono (n := n + 2 * (2 ^ K - 1) + 1) ⟨_, HO6.out, HN4.out.1, HN4.out.2⟩ (by have := Hpw.out; omega)
          have HKf : Hid (KpT wc b w6) := HKp.out.trans ⟨⟨HG6.out.os, HG6.out.tape, HG6.out.output⟩, HG6.out.size, fun k hk hne => HG6.out.block k hk (by simpa using hne)⟩
          go_ret
          exact ⟨by rw [HTot.out]; rfl, HK6, HKf⟩

/-- In how many ways. -/
theorem tilings_all (r c : Nat) (hr : r + 1 ≤ 8) (hc1 : 1 ≤ c) (hc : c ≤ 8) : ∀ K, TlS r c K := fun K =>
  Nat.strongRecOn K fun K ih => til_step r c K hr hc1 hc ih

end Go.Proofs.YtcnmndbckjmliaaDoor
