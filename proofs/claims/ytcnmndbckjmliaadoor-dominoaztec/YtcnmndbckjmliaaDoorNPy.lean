/-
  A shuffled tiling of a diamond is one of the next.
-/
import Derived.Test.YtcnmndbckjmliaaDoorNPx
namespace Go.Proofs.YtcnmndbckjmliaaDoor
open Go.RowKit

theorem getD_ptK (ks : List Nat) (m : Nat) (hm : m < ks.length) : (ks.map ptK).getD m (0, 0) = (((ks.getD m 0 % 8 : Nat) : Int), ((ks.getD m 0 / 8 : Nat) : Int)) := by
  simp [List.getD, hm, ptK]
/-- What comes of shuffling, whatever is chosen. -/
structure ShR (n d : Nat) (l : List (Int × Int)) (N0 N1 : Nat → UInt8) : Prop where
  many : n + 1 ≤ l.length
  few : l.length ≤ 64
  pts : ∀ k, k < l.length → ∃ i j : Nat, l.getD k (0, 0) = ((j : Int), (i : Int)) ∧ i + 1 < 8 ∧ j + 1 < 8
  same : ∀ us : List Bool, tx d d (cvK l us N0 l.length) = tx d d (cvK l us N1 l.length)
  til : ∀ us : List Bool, Til (tx d d (cvK l us N1 l.length)) d d ∧ brdT (tx d d (cvK l us N1 l.length)) d d = tx d d (dmF (n + 1))
  two : ∀ (us vs : List Bool) (q : Nat), q < l.length → us.getD q false ≠ vs.getD q false → tx d d (cvK l us N1 l.length) ≠ tx d d (cvK l vs N1 l.length)
theorem dm_shuf {s : List UInt8} {n : Nat} (h1 : 1 ≤ n) (h3 : n ≤ 3) (hT : Til s (2 * n) (2 * n)) (hb : brdT s (2 * n) (2 * n) = tx (2 * n) (2 * n) (dmF n)) : ∃ N0 l N1, ShH s n N0 l N1 ∧ ShR n (2 * (n + 1)) l N0 N1 := by
  obtain ⟨S, hS, hh⟩ := dm_all h1 (by omega) hT hb
  unfold holN at hh
  simp only [Bool.and_eq_true, Bool.or_eq_true, beq_iff_eq] at hh
  have hsh : shN n S = true := by rcases hh.2 with e | e; exact absurd e (by omega); exact e
  obtain ⟨d, hd⟩ : ∃ d, d = 2 * (n + 1) := ⟨_, rfl⟩
  obtain ⟨F, hF⟩ : ∃ F, F = cef (pz s) := ⟨_, rfl⟩
  obtain ⟨G0, hG0⟩ : ∃ G0, G0 = spNI (2 * n) n S (2 * n) := ⟨_, rfl⟩
  obtain ⟨N0, hN0⟩ : ∃ N0, N0 = spI (2 * n) (2 * n) n F (2 * n) := ⟨_, rfl⟩
  have hR0 : Rl G0 N0 := by
    rw [hG0, hN0]
    exact spI_rl (by rw [hF]; exact hS) (by omega) (by omega) h1 h3 (fun k _ q => by rw [hF]; exact cef_out hT.1 q) (2 * n) (Nat.le_refl _)
  obtain ⟨q, hq⟩ : ∃ q, q = cbNI d G0 d := ⟨_, rfl⟩
  obtain ⟨N1, hN1⟩ : ∃ N1, N1 = (cbI d N0 d).1 := ⟨_, rfl⟩
  obtain ⟨l, hl⟩ : ∃ l, l = (cbI d N0 d).2 := ⟨_, rfl⟩
  have hcb := cbI_rl (c := d) hR0 (by omega) d (by omega)
  rw [← hq, ← hN1, ← hl] at hcb
  obtain ⟨hR1, hlk⟩ := hcb
  unfold shN at hsh
  dsimp only at hsh
  rw [← hG0, ← hd, ← hq] at hsh
  simp only [Bool.and_eq_true, decide_eq_true_eq] at hsh
  obtain ⟨⟨⟨⟨⟨c1, c2⟩, c3⟩, c4⟩, c5⟩, c6⟩ := hsh
  obtain ⟨ks, hks⟩ : ∃ ks, ks = q.2 := ⟨_, rfl⟩
  rw [← hks] at c1 c3 c4 c5 hlk
  have hlen : l.length = ks.length := by rw [hlk, List.length_map]
  obtain ⟨t1, t2, t3⟩ := tiN_use (n := n + 1) (by omega) (by omega) hR1 c2
  rw [← hd] at t1 t2 t3
  have hmem : ∀ m, m < ks.length → ks.getD m 0 ∈ ks := fun m hm => by rw [List.getD_eq_getElem?_getD, List.getElem?_eq_getElem hm, Option.getD_some]; exact List.getElem_mem _
  have hblk : ∀ m, m < ks.length → ks.getD m 0 < 54 ∧ ks.getD m 0 % 8 < 7 ∧ N1 (ks.getD m 0) = 108 ∧ N1 (ks.getD m 0 + 1) = 114 ∧ N1 (ks.getD m 0 + 8) = 108 ∧ N1 (ks.getD m 0 + 9) = 114 := fun m hm => by
    have h := List.all_eq_true.1 c4 _ (hmem m hm)
    simp only [Bool.and_eq_true, decide_eq_true_eq, beq_iff_eq] at h
    obtain ⟨⟨⟨⟨⟨e1, e2⟩, e3⟩, e4⟩, e5⟩, e6⟩ := h
    exact ⟨e1, e2, (hR1.iff (by omega) 108).1 e3, (hR1.iff (by omega) 114).1 e4, (hR1.iff (by omega) 108).1 e5, (hR1.iff (by omega) 114).1 e6⟩
  obtain ⟨r, hr⟩ : ∃ r, d = r + 1 := ⟨d - 1, by omega⟩
  have hL : ∀ m, m < ks.length → l.getD m (0, 0) = (((ks.getD m 0 % 8 : Nat) : Int), ((ks.getD m 0 / 8 : Nat) : Int)) := fun m hm => by rw [hlk]; exact getD_ptK ks m hm
  have hin : ∀ m, m < ks.length → ks.getD m 0 / 8 < r ∧ ks.getD m 0 % 8 < r := fun m hm => by
    obtain ⟨e1, e2, _, _, _, e6⟩ := hblk m hm
    by_cases z : (ks.getD m 0 + 9) / 8 < d ∧ (ks.getD m 0 + 9) % 8 < d
    · omega
    · rw [t3 _ (by omega) z] at e6; exact absurd e6 (by decide)
  have hdis : ∀ m m', m < ks.length → m' < ks.length → m ≠ m' → ∀ k, inC (ks.getD m 0 / 8) (ks.getD m 0 % 8) k → ¬ inC (ks.getD m' 0 / 8) (ks.getD m' 0 % 8) k := fun m m' hm hm' hne k hk => by
    rcases Nat.lt_or_gt_of_ne hne with e | e
    · exact fun z => dis_at ks c3 m m' e hm' k z hk
    · exact dis_at ks c3 m' m e hm k hk
  have hqr : ∀ m, m < ks.length → qR N1 (ks.getD m 0 / 8) (ks.getD m 0 % 8) = true := fun m hm => by
    obtain ⟨e1, e2, e3, e4, e5, e6⟩ := hblk m hm
    unfold qR
    rw [show ks.getD m 0 / 8 * 8 + ks.getD m 0 % 8 = ks.getD m 0 by omega, show ks.getD m 0 / 8 * 8 + (ks.getD m 0 % 8 + 1) = ks.getD m 0 + 1 by omega, show (ks.getD m 0 / 8 + 1) * 8 + ks.getD m 0 % 8 = ks.getD m 0 + 8 by omega, show (ks.getD m 0 / 8 + 1) * 8 + (ks.getD m 0 % 8 + 1) = ks.getD m 0 + 9 by omega, e3, e4, e5, e6]
    rfl
  have hinv : ∀ us : List Bool, _ := fun us => cvK_inv (l := l) (us := us) (r := r) (L := ks.length) (I := fun m => ks.getD m 0 / 8) (J := fun m => ks.getD m 0 % 8) hL hin (by omega) hdis (g := N1) (by rw [← hr]; exact t1) hqr ks.length (Nat.le_refl _)
  have htwo := fun us : List Bool => cvK_two (l := l) (us := us) (r := r) (L := ks.length) (I := fun m => ks.getD m 0 / 8) (J := fun m => ks.getD m 0 % 8) hL hin (by omega) (g := N0) (g' := N1) (fun k hk => by
    have h := List.all_eq_true.1 c5 k (List.mem_range.2 hk)
    simp only [Bool.or_eq_true, beq_iff_eq] at h
    rcases h with e | e
    · left
      rw [hR0 k hk, hR1 k hk] at e
      exact UInt8.toNat_inj.1 e
    · right
      obtain ⟨a, ha, hak⟩ := List.any_eq_true.1 e
      obtain ⟨m, hm, rfl⟩ := List.getElem_of_mem ha
      refine ⟨m, hm, ?_⟩
      have := (inB_iff _ _).1 hak
      simpa [List.getD, hm] using this) ks.length (Nat.le_refl _)
  have htil : ∀ us : List Bool, (∀ i, i < d → ∀ j, j < d → cvK l us N1 ks.length (i * 8 + j) ∈ lrud) := fun us i hi j hj => by
    have h := (hinv us).2.2.1 (i * 8 + j)
    apply lrud_of
    rcases h with e | e
    · exact Or.inl e
    · rw [e]
      exact (t2 (i * 8 + j) (by omega) ⟨by omega, by omega⟩).2
  have hcell : ∀ us : List Bool, ∀ i, i < d → ∀ j, j < d → cef (pz (tx d d (cvK l us N1 ks.length))) (i * 8 + j) = cvK l us N1 ks.length (i * 8 + j) := fun us i hi j hj => cef_tx (by omega) (by omega) (htil us) no47 hi hj
  refine ⟨N0, l, N1, ⟨h1, h3, hT, hb, ?_, ?_, ?_, ?_⟩, ?_⟩
  · rw [hN0, hF]; rfl
  · rw [← hd]
    intro i j hi hj h35
    by_cases z : i + 1 < 8 ∧ j + 1 < 8
    · exact z
    · exfalso
      have hA := cbA_rl (c := d) hR0 (by omega) (show i < 8 by omega) (show j ≤ d by omega)
      have h35' := (hA.iff (show i * 8 + j < 64 by omega) 35).2 h35
      simp only [Bool.or_eq_true, decide_eq_true_eq] at c6
      rcases c6 with e | e
      · omega
      · have hd8 : d = 8 := by omega
        rw [hd8] at h35'
        by_cases hi7 : i = 7
        · have h := List.all_eq_true.1 e j (List.mem_range.2 (by omega))
          simp only [Bool.and_eq_true, Bool.not_eq_true', beq_eq_false_iff_ne] at h
          subst hi7
          exact h.1 (by rw [show 56 + j = 7 * 8 + j by omega]; exact h35')
        · have hj7 : j = 7 := by omega
          have h := List.all_eq_true.1 e i (List.mem_range.2 (by omega))
          simp only [Bool.and_eq_true, Bool.not_eq_true', beq_eq_false_iff_ne] at h
          subst hj7
          exact h.2 h35'
  · rw [hl, ← hd]; rfl
  · rw [hN1, ← hd]; rfl
  · rw [← hd]
    refine ⟨by rw [hlen]; exact c1, ?_, fun k hk => ?_, fun us => ?_, fun us => ⟨?_, ?_⟩, fun us vs p hp hne e => ?_⟩
    · have h := cbI_len d N0 d
      rw [← hl] at h
      have h2 : d * d ≤ 8 * 8 := Nat.mul_le_mul (by omega) (by omega)
      omega
    · rw [hlen] at hk
      exact ⟨_, _, hL k hk, by have := hin k hk; omega, by have := hin k hk; omega⟩
    · rw [hlen]
      refine tx_congr (fun i hi j hj => ?_)
      rcases htwo us (i * 8 + j) (by omega) with e | ⟨m, e1, e2, _⟩
      · exact e
      · omega
    · rw [hlen]
      have h := (hinv us).1
      rw [← hr] at h
      exact til_mk (by omega) (by omega) (by omega) (by omega) (htil us) h
    · rw [hlen]
      unfold brdT
      refine tx_congr (fun i hi j hj => ?_)
      have e1 := (hinv us).2.1 (i * 8 + j)
      have e2 := (t2 (i * 8 + j) (by omega) ⟨by omega, by omega⟩).1
      unfold brdF at e1 e2 ⊢
      rw [hcell us i hi j hj]
      rw [e1, e2]
    · rw [hlen] at e hp
      have hi := hin p hp
      have e1 := hcell us (ks.getD p 0 / 8) (by omega) (ks.getD p 0 % 8) (by omega)
      have e2 := hcell vs (ks.getD p 0 / 8) (by omega) (ks.getD p 0 % 8) (by omega)
      rw [e, e2] at e1
      have a1 := (hinv us).2.2.2.2 p hp
      have a2 := (hinv vs).2.2.2.2 p hp
      rw [a1, a2] at e1
      cases hu : us.getD p false <;> cases hv : vs.getD p false <;> rw [hu, hv] at hne e1
      · exact hne rfl
      · exact absurd e1 (by decide)
      · exact absurd e1 (by decide)
      · exact hne rfl

end Go.Proofs.YtcnmndbckjmliaaDoor
