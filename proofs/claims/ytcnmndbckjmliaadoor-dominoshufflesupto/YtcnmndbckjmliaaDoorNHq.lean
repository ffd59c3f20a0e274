/-
  A shuffled tiling of a diamond is one of the next.
  Where the blocks of a shuffled diamond stand: each begins in the first cell that is open (by the kernel).
-/
import Derived.Test.YtcnmndbckjmliaaDoorNPx
namespace Go.Proofs.YtcnmndbckjmliaaDoor
open Go.RowKit

theorem getD_ptK (ks : List Nat) (m : Nat) (hm : m < ks.length) : (ks.map ptK).getD m (0, 0) = (((ks.getD m 0 % 8 : Nat) : Int), ((ks.getD m 0 / 8 : Nat) : Int)) := by
  simp [List.getD, hm, ptK]
/-- What comes of shuffling, whatever is chosen. -/
structure ShR (n d : Nat) (l : List (Int × Int)) (N0 N1 : Nat → UInt8) : Prop where
  many : n + 1 ≤ l.length
  few : l.length ≤ 64
  pts : ∀ k, k < l.length → ∃ i j : Nat, l.getD k (0, 0) = ((j : Int), (i : Int)) ∧ i + 1 < 8 ∧ j + 1 < 8
  same : ∀ us : List Bool, tx d d (cvK l us N0 l.length) = tx d d (cvK l us N1 l.length)
  til : ∀ us : List Bool, Til (tx d d (cvK l us N1 l.length)) d d ∧ brdT (tx d d (cvK l us N1 l.length)) d d = tx d d (dmF (n + 1))
  two : ∀ (us vs : List Bool) (q : Nat), q < l.length → us.getD q false ≠ vs.getD q false → tx d d (cvK l us N1 l.length) ≠ tx d d (cvK l vs N1 l.length)
theorem dm_shuf {s : List UInt8} {n : Nat} (h1 : 1 ≤ n) (h3 : n ≤ 3) (hT : Til s (2 * n) (2 * n)) (hb : brdT s (2 * n) (2 * n) = tx (2 * n) (2 * n) (dmF n)) : ∃ N0 l N1, ShH s n N0 l N1 ∧ ShR n (2 * (n + 1)) l N0 N1 := by
  obtain ⟨S, hS, hh⟩ := dm_all h1 (by omega) hT hb
  unfold holN at hh
  simp only [Bool.and_eq_true, Bool.or_eq_true, beq_iff_eq] at hh
  have hsh : shN n S = true := by rcases hh.2 with e | e; exact absurd e (by omega); exact e
  obtain ⟨d, hd⟩ : ∃ d, d = 2 * (n + 1) := ⟨_, rfl⟩
  obtain ⟨F, hF⟩ : ∃ F, F = cef (pz s) := ⟨_, rfl⟩
  obtain ⟨G0, hG0⟩ : ∃ G0, G0 = spNI (2 * n) n S (2 * n) := ⟨_, rfl⟩
  obtain ⟨N0, hN0⟩ : ∃ N0, N0 = spI (2 * n) (2 * n) n F (2 * n) := ⟨_, rfl⟩
  have hR0 : Rl G0 N0 := by
    rw [hG0, hN0]
    exact spI_rl (by rw [hF]; exact hS) (by omega) (by omega) h1 h3 (fun k _ q => by rw [hF]; exact cef_out hT.1 q) (2 * n) (Nat.le_refl _)
  obtain ⟨q, hq⟩ : ∃ q, q = cbNI d G0 d := ⟨_, rfl⟩
  obtain ⟨N1, hN1⟩ : ∃ N1, N1 = (cbI d N0 d).1 := ⟨_, rfl⟩
  obtain ⟨l, hl⟩ : ∃ l, l = (cbI d N0 d).2 := ⟨_, rfl⟩
  have hcb := cbI_rl (c := d) hR0 (by omega) d (by omega)
  rw [← hq, ← hN1, ← hl] at hcb
  obtain ⟨hR1, hlk⟩ := hcb
  unfold shN at hsh
  dsimp only at hsh
  rw [← hG0, ← hd, ← hq] at hsh
  simp only [Bool.and_eq_true, decide_eq_true_eq] at hsh
  obtain ⟨⟨⟨⟨⟨c1, c2⟩, c3⟩, c4⟩, c5⟩, c6⟩ := hsh
  obtain ⟨ks, hks⟩ : ∃ ks, ks = q.2 := ⟨_, rfl⟩
  rw [← hks] at c1 c3 c4 c5 hlk
  have hlen : l.length = ks.length := by rw [hlk, List.length_map]
  obtain ⟨t1, t2, t3⟩ := tiN_use (n := n + 1) (by omega) (by omega) hR1 c2
  rw [← hd] at t1 t2 t3
  have hmem : ∀ m, m < ks.length → ks.getD m 0 ∈ ks := fun m hm => by rw [List.getD_eq_getElem?_getD, List.getElem?_eq_getElem hm, Option.getD_some]; exact List.getElem_mem _
  have hblk : ∀ m, m < ks.length → ks.getD m 0 < 54 ∧ ks.getD m 0 % 8 < 7 ∧ N1 (ks.getD m 0) = 108 ∧ N1 (ks.getD m 0 + 1) = 114 ∧ N1 (ks.getD m 0 + 8) = 108 ∧ N1 (ks.getD m 0 + 9) = 114 := fun m hm => by
    have h := List.all_eq_true.1 c4 _ (hmem m hm)
    simp only [Bool.and_eq_true, decide_eq_true_eq, beq_iff_eq] at h
    obtain ⟨⟨⟨⟨⟨e1, e2⟩, e3⟩, e4⟩, e5⟩, e6⟩ := h
    exact ⟨e1, e2, (hR1.iff (by omega) 108).1 e3, (hR1.iff (by omega) 114).1 e4, (hR1.iff (by omega) 108).1 e5, (hR1.iff (by omega) 114).1 e6⟩
  obtain ⟨r, hr⟩ : ∃ r, d = r + 1 := ⟨d - 1, by omega⟩
  have hL : ∀ m, m < ks.length → l.getD m (0, 0) = (((ks.getD m 0 % 8 : Nat) : Int), ((ks.getD m 0 / 8 : Nat) : Int)) := fun m hm => by rw [hlk]; exact getD_ptK ks m hm
  have hin : ∀ m, m < ks.length → ks.getD m 0 / 8 < r ∧ ks.getD m 0 % 8 < r := fun m hm => by
    obtain ⟨e1, e2, _, _, _, e6⟩ := hblk m hm
    by_cases z : (ks.getD m 0 + 9) / 8 < d ∧ (ks.getD m 0 + 9) % 8 < d
    · omega
    · rw [t3 _ (by omega) z] at e6; exact absurd e6 (by decide)
  have hdis : ∀ m m', m < ks.length → m' < ks.length → m ≠ m' → ∀ k, inC (ks.getD m 0 / 8) (ks.getD m 0 % 8) k → ¬ inC (ks.getD m' 0 / 8) (ks.getD m' 0 % 8) k := fun m m' hm hm' hne k hk => by
    rcases Nat.lt_or_gt_of_ne hne with e | e
    · exact fun z => dis_at ks c3 m m' e hm' k z hk
    · exact dis_at ks c3 m' m e hm k hk
  have hqr : ∀ m, m < ks.length → qR N1 (ks.getD m 0 / 8) (ks.getD m 0 % 8) = true := fun m hm => by
    obtain ⟨e1, e2, e3, e4, e5, e6⟩ := hblk m hm
    unfold qR
    rw [show ks.getD m 0 / 8 * 8 + ks.getD m 0 % 8 = ks.getD m 0 by omega, show ks.getD m 0 / 8 * 8 + (ks.getD m 0 % 8 + 1) = ks.getD m 0 + 1 by omega, show (ks.getD m 0 / 8 + 1) * 8 + ks.getD m 0 % 8 = ks.getD m 0 + 8 by omega, show (ks.getD m 0 / 8 + 1) * 8 + (ks.getD m 0 % 8 + 1) = ks.getD m 0 + 9 by omega, e3, e4, e5, e6]
    rfl
  have hinv : ∀ us : List Bool, _ := fun us => cvK_inv (l := l) (us := us) (r := r) (L := ks.length) (I := fun m => ks.getD m 0 / 8) (J := fun m => ks.getD m 0 % 8) hL hin (by omega) hdis (g := N1) (by rw [← hr]; exact t1) hqr ks.length (Nat.le_refl _)
  have htwo := fun us : List Bool => cvK_two (l := l) (us := us) (r := r) (L := ks.length) (I := fun m => ks.getD m 0 / 8) (J := fun m => ks.getD m 0 % 8) hL hin (by omega) (g := N0) (g' := N1) (fun k hk => by
    have h := List.all_eq_true.1 c5 k (List.mem_range.2 hk)
    simp only [Bool.or_eq_true, beq_iff_eq] at h
    rcases h with e | e
    · left
      rw [hR0 k hk, hR1 k hk] at e
      exact UInt8.toNat_inj.1 e
    · right
      obtain ⟨a, ha, hak⟩ := List.any_eq_true.1 e
      obtain ⟨m, hm, rfl⟩ := List.getElem_of_mem ha
      refine ⟨m, hm, ?_⟩
      have := (inB_iff _ _).1 hak
      simpa [List.getD, hm] using this) ks.length (Nat.le_refl _)
  have htil : ∀ us : List Bool, (∀ i, i < d → ∀ j, j < d → cvK l us N1 ks.length (i * 8 + j) ∈ lrud) := fun us i hi j hj => by
    have h := (hinv us).2.2.1 (i * 8 + j)
    apply lrud_of
    rcases h with e | e
    · exact Or.inl e
    · rw [e]
      exact (t2 (i * 8 + j) (by omega) ⟨by omega, by omega⟩).2
  have hcell : ∀ us : List Bool, ∀ i, i < d → ∀ j, j < d → cef (pz (tx d d (cvK l us N1 ks.length))) (i * 8 + j) = cvK l us N1 ks.length (i * 8 + j) := fun us i hi j hj => cef_tx (by omega) (by omega) (htil us) no47 hi hj
  refine ⟨N0, l, N1, ⟨h1, h3, hT, hb, ?_, ?_, ?_, ?_⟩, ?_⟩
  · rw [hN0, hF]; rfl
  · rw [← hd]
    intro i j hi hj h35
    by_cases z : i + 1 < 8 ∧ j + 1 < 8
    · exact z
    · exfalso
      have hA := cbA_rl (c := d) hR0 (by omega) (show i < 8 by omega) (show j ≤ d by omega)
      have h35' := (hA.iff (show i * 8 + j < 64 by omega) 35).2 h35
      simp only [Bool.or_eq_true, decide_eq_true_eq] at c6
      rcases c6 with e | e
      · omega
      · have hd8 : d = 8 := by omega
        rw [hd8] at h35'
        by_cases hi7 : i = 7
        · have h := List.all_eq_true.1 e j (List.mem_range.2 (by omega))
          simp only [Bool.and_eq_true, Bool.not_eq_true', beq_eq_false_iff_ne] at h
          subst hi7
          exact h.1 (by rw [show 56 + j = 7 * 8 + j by omega]; exact h35')
        · have hj7 : j = 7 := by omega
          have h := List.all_eq_true.1 e i (List.mem_range.2 (by omega))
          simp only [Bool.and_eq_true, Bool.not_eq_true', beq_eq_false_iff_ne] at h
          subst hj7
          exact h.2 h35'
  · rw [hl, ← hd]; rfl
  · rw [hN1, ← hd]; rfl
  · rw [← hd]
    refine ⟨by rw [hlen]; exact c1, ?_, fun k hk => ?_, fun us => ?_, fun us => ⟨?_, ?_⟩, fun us vs p hp hne e => ?_⟩
    · have h := cbI_len d N0 d
      rw [← hl] at h
      have h2 : d * d ≤ 8 * 8 := Nat.mul_le_mul (by omega) (by omega)
      omega
    · rw [hlen] at hk
      exact ⟨_, _, hL k hk, by have := hin k hk; omega, by have := hin k hk; omega⟩
    · rw [hlen]
      refine tx_congr (fun i hi j hj => ?_)
      rcases htwo us (i * 8 + j) (by omega) with e | ⟨m, e1, e2, _⟩
      · exact e
      · omega
    · rw [hlen]
      have h := (hinv us).1
      rw [← hr] at h
      exact til_mk (by omega) (by omega) (by omega) (by omega) (htil us) h
    · rw [hlen]
      unfold brdT
      refine tx_congr (fun i hi j hj => ?_)
      have e1 := (hinv us).2.1 (i * 8 + j)
      have e2 := (t2 (i * 8 + j) (by omega) ⟨by omega, by omega⟩).1
      unfold brdF at e1 e2 ⊢
      rw [hcell us i hi j hj]
      rw [e1, e2]
    · rw [hlen] at e hp
      have hi := hin p hp
      have e1 := hcell us (ks.getD p 0 / 8) (by omega) (ks.getD p 0 % 8) (by omega)
      have e2 := hcell vs (ks.getD p 0 / 8) (by omega) (ks.getD p 0 % 8) (by omega)
      rw [e, e2] at e1
      have a1 := (hinv us).2.2.2.2 p hp
      have a2 := (hinv vs).2.2.2.2 p hp
      rw [a1, a2] at e1
      cases hu : us.getD p false <;> cases hv : vs.getD p false <;> rw [hu, hv] at hne e1
      · exact hne rfl
      · exact absurd e1 (by decide)
      · exact absurd e1 (by decide)
      · exact hne rfl

end Go.Proofs.YtcnmndbckjmliaaDoor

namespace Go.Proofs.YtcnmndbckjmliaaDoor
open Go.RowKit

/-- Is the cell open? -/
def opN (G k : Nat) : Bool := gN G k == 35
def ordN : Nat → List Nat → Bool
  | G, [] => (List.range 64).all fun k => !opN G k
  | G, a :: ks => opN G a && opN G (a + 1) && opN G (a + 8) && opN G (a + 9) && decide (a % 8 < 7) && decide (a < 55) && ((List.range a).all fun p => !opN G p) && ordN (stN (stN (stN (stN G a 46) (a + 1) 46) (a + 8) 46) (a + 9) 46) ks
def ltN (x : Nat) : Bool := x == 35 || x == 46 || x == 108 || x == 114 || x == 117 || x == 100
def ordK (n S : Nat) : Bool :=
  let G0 := spNI (2 * n) n S (2 * n)
  ordN G0 (cbNI (2 * (n + 1)) G0 (2 * (n + 1))).2 && (List.range 64).all fun k => if k / 8 < 2 * (n + 1) ∧ k % 8 < 2 * (n + 1) then ltN (gN G0 k) else !opN G0 k
set_option maxRecDepth 1000000 in
theorem ord1 : chk (ordK 1) 33 (dmC 1) (dmO 1) = true := by decide +kernel
set_option maxRecDepth 1000000 in
theorem ord2 : chk (ordK 2) 33 (dmC 2) (dmO 2) = true := by decide +kernel
set_option maxRecDepth 1000000 in
theorem ord3 : chk (ordK 3) 33 (dmC 3) (dmO 3) = true := by decide +kernel

/-- Open blocks, one after the other. -/
def OrdB : (Nat → Bool) → List Nat → Prop
  | h, [] => ∀ k, k < 64 → h k = false
  | h, a :: ks => (h a = true ∧ h (a + 1) = true ∧ h (a + 8) = true ∧ h (a + 9) = true) ∧ a % 8 < 7 ∧ a < 55 ∧ (∀ p, p < a → h p = false) ∧ OrdB (fun k => h k && !inB a k) ks
theorem OrdB.congr : ∀ (ks : List Nat) (h h' : Nat → Bool), (∀ k, k < 64 → h k = h' k) → OrdB h ks → OrdB h' ks
  | [], h, h', e, o => fun k hk => by rw [← e k hk]; exact o k hk
  | a :: ks, h, h', e, o => by
    obtain ⟨⟨o1, o2, o3, o4⟩, o5, o6, o7, o8⟩ := o
    exact ⟨⟨by rw [← e a (by omega)]; exact o1, by rw [← e _ (by omega)]; exact o2, by rw [← e _ (by omega)]; exact o3, by rw [← e _ (by omega)]; exact o4⟩, o5, o6, fun p hp => by rw [← e p (by omega)]; exact o7 p hp, OrdB.congr ks _ _ (fun k hk => by rw [e k hk]) o8⟩
theorem op_cover (G a k : Nat) : opN (stN (stN (stN (stN G a 46) (a + 1) 46) (a + 8) 46) (a + 9) 46) k = (opN G k && !inB a k) := by
  unfold opN inB
  rw [gN_st _ _ _ _ (by decide), gN_st _ _ _ _ (by decide), gN_st _ _ _ _ (by decide), gN_st _ _ _ _ (by decide)]
  by_cases e4 : k = a + 9
  · subst e4; simp
  · by_cases e3 : k = a + 8
    · subst e3; simp
    · by_cases e2 : k = a + 1
      · subst e2; simp
      · by_cases e1 : k = a
        · subst e1; simp
        · simp [e1, e2, e3, e4]
theorem ordN_ord : ∀ (ks : List Nat) (G : Nat), ordN G ks = true → OrdB (opN G) ks
  | [], G, h => fun k hk => by
    have := List.all_eq_true.1 h k (List.mem_range.2 hk)
    simpa using this
  | a :: ks, G, h => by
    unfold ordN at h
    simp only [Bool.and_eq_true, decide_eq_true_eq] at h
    obtain ⟨⟨⟨⟨⟨⟨⟨h1, h2⟩, h3⟩, h4⟩, h5⟩, h6⟩, h7⟩, h8⟩ := h
    refine ⟨⟨h1, h2, h3, h4⟩, h5, h6, fun p hp => ?_, OrdB.congr ks _ _ (fun k _ => op_cover G a k) (ordN_ord ks _ h8)⟩
    have := List.all_eq_true.1 h7 p (List.mem_range.2 hp)
    simpa using this

/-- The letters of a diamond that is being shuffled. -/
def shL : List UInt8 := [35, 46, 108, 114, 117, 100]
theorem dm_ord {s : List UInt8} {n : Nat} (h1 : 1 ≤ n) (h3 : n ≤ 3) (hT : Til s (2 * n) (2 * n)) (hb : brdT s (2 * n) (2 * n) = tx (2 * n) (2 * n) (dmF n)) {N0 : Nat → UInt8} {l : List (Int × Int)} (h0 : N0 = spA (2 * n) (2 * n) n (cef (pz s)) (2 * n) 0) (hl : l = (cbA (2 * (n + 1)) N0 (2 * (n + 1)) 0).2) :
    ∃ ks : List Nat, l = ks.map ptK ∧ OrdB (fun k => N0 k == 35) ks ∧ (∀ i, i < 2 * (n + 1) → ∀ j, j < 2 * (n + 1) → N0 (i * 8 + j) ∈ shL) ∧ ∀ k, k < 64 → ¬ (k / 8 < 2 * (n + 1) ∧ k % 8 < 2 * (n + 1)) → N0 k ≠ 35 := by
  have hall : chk (ordK n) 33 (dmC n) (dmO n) = true := by
    rcases (by omega : n = 1 ∨ n = 2 ∨ n = 3) with rfl | rfl | rfl
    · exact ord1
    · exact ord2
    · exact ord3
  obtain ⟨S, hS, hh⟩ := chk_ok (ordK n) (cef (pz s)) (til_two hT) 33 _ _ (dm_met h1 (by omega) hT hb) hall
  have hR0 : Rl (spNI (2 * n) n S (2 * n)) N0 := by
    rw [h0]
    exact spI_rl hS (by omega) (by omega) h1 h3 (fun k _ q => cef_out hT.1 q) (2 * n) (Nat.le_refl _)
  have hcb := cbI_rl (c := 2 * (n + 1)) hR0 (by omega) (2 * (n + 1)) (by omega)
  unfold ordK at hh
  dsimp only at hh
  rw [Bool.and_eq_true] at hh
  refine ⟨_, hl.trans hcb.2, OrdB.congr _ _ _ (fun k hk => ?_) (ordN_ord _ _ hh.1), fun i hi j hj => ?_, fun k hk q => ?_⟩
  · unfold opN
    rw [hR0 k hk]
    by_cases e : N0 k = 35
    · rw [e]; rfl
    · have e2 : (N0 k).toNat ≠ 35 := fun q => e (UInt8.toNat_inj.1 q)
      rw [beq_false_of_ne e2, beq_false_of_ne e]
  · have hk : i * 8 + j < 64 := by omega
    have h := List.all_eq_true.1 hh.2 _ (List.mem_range.2 hk)
    rw [if_pos (by omega)] at h
    unfold ltN at h
    rw [hR0 _ hk] at h
    simp only [Bool.or_eq_true, beq_iff_eq] at h
    unfold shL
    simp only [List.mem_cons, List.not_mem_nil, or_false]
    rcases h with ((((h | h) | h) | h) | h) | h
    · exact Or.inl (UInt8.toNat_inj.1 h)
    · exact Or.inr (Or.inl (UInt8.toNat_inj.1 h))
    · exact Or.inr (Or.inr (Or.inl (UInt8.toNat_inj.1 h)))
    · exact Or.inr (Or.inr (Or.inr (Or.inl (UInt8.toNat_inj.1 h))))
    · exact Or.inr (Or.inr (Or.inr (Or.inr (Or.inl (UInt8.toNat_inj.1 h)))))
    · exact Or.inr (Or.inr (Or.inr (Or.inr (Or.inr (UInt8.toNat_inj.1 h)))))
  · have h := List.all_eq_true.1 hh.2 _ (List.mem_range.2 hk)
    rw [if_neg q] at h
    unfold opN at h
    rw [hR0 k hk] at h
    intro e
    rw [e] at h
    exact absurd h (by decide)

end Go.Proofs.YtcnmndbckjmliaaDoor
