/-
  What the kernel found, said of texts.
  Blocks covered one after the other, this way or that. Plain.
  The shuffled tilings of a diamond: what is laid, what is left, what it comes to.
-/
import Derived.Test.YtcnmndbckjmliaaDoorNPq
import Derived.Test.YtcnmndbckjmliaaDoorNNee
namespace Go.Proofs.YtcnmndbckjmliaaDoor
open Go.RowKit

theorem dmC_bit (n : Nat) (h1 : 1 ≤ n) (h4 : n ≤ 4) (k : Nat) (hk : k < 64) : (dmC n).testBit k = !decide (dmF n k = 35) := by
  have h : ∀ n : Fin 5, 1 ≤ n.1 → ∀ k : Fin 64, (dmC n.1).testBit k.1 = !decide (dmF n.1 k.1 = 35) := by decide +kernel
  exact h ⟨n, by omega⟩ h1 ⟨k, hk⟩
theorem dmO_at (n : Nat) (h1 : 1 ≤ n) (h4 : n ≤ 4) (k : Nat) (hk : k < 64) : gN (dmO n) k = if dmF n k = 46 then 46 else 0 := by
  have h : ∀ n : Fin 5, 1 ≤ n.1 → ∀ k : Fin 64, gN (dmO n.1) k.1 = if dmF n.1 k.1 = 46 then 46 else 0 := by decide +kernel
  exact h ⟨n, by omega⟩ h1 ⟨k, hk⟩
theorem dmC_le (n : Nat) (h1 : 1 ≤ n) (h4 : n ≤ 4) : dmC n ≤ allC := by
  have h : ∀ n : Fin 5, 1 ≤ n.1 → dmC n.1 ≤ allC := by decide +kernel
  exact h ⟨n, by omega⟩ h1
theorem til_two {s : List UInt8} {r c : Nat} (h : Til s r c) : Two (cef (pz s)) := fun k hk => by
  have hc8 := h.1.2.2.2.2.1
  have hr8 := h.1.2.2.1
  have hin : ∀ b : UInt8, b ≠ 0 → cef (pz s) k = b → k / 8 < r ∧ k % 8 < c := fun b hb e => by
    by_cases q : k / 8 < r ∧ k % 8 < c
    · exact q
    · rw [cef_out h.1 q] at e; exact absurd e.symm hb
  have hp : ∀ _ : k / 8 < r ∧ k % 8 < c, prB r c (cef (pz s)) (k / 8) (k % 8) = true := fun q => h.2 _ q.1 _ q.2
  refine ⟨fun e => ?_, fun e => ?_, fun e => ?_, fun e => ?_⟩
  · have q := hin 108 (by decide) e
    have p := hp q
    unfold prB at p
    rw [atB_k _ _ _ k q, e, if_pos rfl] at p
    have p := of_decide_eq_true p
    rw [show (((k % 8 : Nat) : Int) + 1) = ((k % 8 + 1 : Nat) : Int) by omega, atB_nat] at p
    by_cases g : k / 8 < r ∧ k % 8 + 1 < c
    · rw [if_pos g, show k / 8 * 8 + (k % 8 + 1) = k + 1 by omega] at p
      exact ⟨by omega, p⟩
    · rw [if_neg g] at p; exact absurd p (by decide)
  · have q := hin 114 (by decide) e
    have p := hp q
    unfold prB at p
    rw [atB_k _ _ _ k q, e, if_neg (by decide), if_pos rfl] at p
    have p := of_decide_eq_true p
    by_cases h1 : 1 ≤ k % 8
    · rw [show (((k % 8 : Nat) : Int) - 1) = ((k % 8 - 1 : Nat) : Int) by omega, atB_nat, if_pos (by omega), show k / 8 * 8 + (k % 8 - 1) = k - 1 by omega] at p
      exact ⟨by omega, p⟩
    · unfold atB at p
      rw [if_neg (by omega)] at p; exact absurd p (by decide)
  · have q := hin 117 (by decide) e
    have p := hp q
    unfold prB at p
    rw [atB_k _ _ _ k q, e, if_neg (by decide), if_neg (by decide), if_pos rfl] at p
    have p := of_decide_eq_true p
    rw [show (((k / 8 : Nat) : Int) + 1) = ((k / 8 + 1 : Nat) : Int) by omega, atB_nat] at p
    by_cases g : k / 8 + 1 < r ∧ k % 8 < c
    · rw [if_pos g, show (k / 8 + 1) * 8 + k % 8 = k + 8 by omega] at p
      exact ⟨by omega, p⟩
    · rw [if_neg g] at p; exact absurd p (by decide)
  · have q := hin 100 (by decide) e
    have p := hp q
    unfold prB at p
    rw [atB_k _ _ _ k q, e, if_neg (by decide), if_neg (by decide), if_neg (by decide), if_pos rfl] at p
    have p := of_decide_eq_true p
    by_cases h1 : 1 ≤ k / 8
    · rw [show (((k / 8 : Nat) : Int) - 1) = ((k / 8 - 1 : Nat) : Int) by omega, atB_nat, if_pos (by omega), show (k / 8 - 1) * 8 + k % 8 = k - 8 by omega] at p
      exact ⟨by omega, p⟩
    · unfold atB at p
      rw [if_neg (by omega)] at p; exact absurd p (by decide)
theorem dm_range {n k : Nat} (h : dmF n k ≠ 0) : k / 8 < 2 * n ∧ k % 8 < 2 * n := by
  by_cases q : k / 8 < 2 * n ∧ k % 8 < 2 * n
  · exact q
  · unfold dmF at h; rw [if_neg q] at h; exact absurd rfl h
theorem dm_met {s : List UInt8} {n : Nat} (h1 : 1 ≤ n) (h4 : n ≤ 4) (hT : Til s (2 * n) (2 * n)) (hb : brdT s (2 * n) (2 * n) = tx (2 * n) (2 * n) (dmF n)) : Met (cef (pz s)) (dmC n) (dmO n) := by
  have hcov : ∀ k, k < 64 → (dmC n).testBit k = true → gN (dmO n) k = (cef (pz s) k).toNat ∧ (cef (pz s) k = 46 ∨ cef (pz s) k = 0) := fun k hk hb' => by
    rw [dmC_bit n h1 h4 k hk] at hb'
    have h35 : ¬ dmF n k = 35 := by simpa using hb'
    rw [dmO_at n h1 h4 k hk]
    by_cases q : k / 8 < 2 * n ∧ k % 8 < 2 * n
    · have e := brd_dm h1 h4 hT hb q
      rcases dm_inB q with g | g
      · exact absurd g h35
      · rw [g] at e
        have e2 : cef (pz s) k = 46 := by
          unfold brdF at e
          by_cases z : cef (pz s) k ≠ 46
          · rw [if_pos z] at e; exact absurd e (by decide)
          · exact Decidable.not_not.1 z
        rw [if_pos g, e2]; exact ⟨rfl, Or.inl rfl⟩
    · have e2 := cef_out hT.1 q
      have e3 : dmF n k = 0 := by unfold dmF; rw [if_neg q]
      rw [e3, e2, if_neg (by decide)]; exact ⟨rfl, Or.inr rfl⟩
  refine ⟨dmC_le n h1 h4, fun k hk h => (hcov k hk h).1, fun k hk h => ?_, fun k hk h => ?_⟩
  · rw [dmC_bit n h1 h4 k hk] at h
    have h35 : dmF n k = 35 := by simpa using h
    have q := dm_range (n := n) (k := k) (by rw [h35]; decide)
    have e := brd_dm h1 h4 hT hb q
    rw [h35] at e
    have hne : cef (pz s) k ≠ 46 := by
      intro z
      unfold brdF at e
      rw [if_neg (by rw [z]; simp)] at e; exact absurd e (by decide)
    have hm := shz_at hT.1 q.1 q.2
    rw [show k / 8 * 8 + k % 8 = k by omega] at hm
    unfold lrud at hm
    simp only [List.mem_cons, List.not_mem_nil, or_false] at hm
    unfold isH
    rcases hm with e | e | e | e | e
    · exact Or.inl e
    · exact Or.inr (Or.inl e)
    · exact Or.inr (Or.inr (Or.inl e))
    · exact Or.inr (Or.inr (Or.inr e))
    · exact absurd e hne
  · have g := (hcov k hk h).2
    refine ⟨fun e => ?_, fun e => ?_, fun e => ?_, fun e => ?_⟩ <;> (rw [e] at g; exact absurd g (by decide))
theorem dm_all {s : List UInt8} {n : Nat} (h1 : 1 ≤ n) (h4 : n ≤ 4) (hT : Til s (2 * n) (2 * n)) (hb : brdT s (2 * n) (2 * n) = tx (2 * n) (2 * n) (dmF n)) : ∃ S, Rl S (cef (pz s)) ∧ holN n S = true := by
  have hall : chk (holN n) 33 (dmC n) (dmO n) = true := by
    rcases (by omega : n = 1 ∨ n = 2 ∨ n = 3 ∨ n = 4) with rfl | rfl | rfl | rfl
    · exact all1
    · exact all2
    · exact all3
    · exact all4
  exact chk_ok (holN n) (cef (pz s)) (til_two hT) 33 _ _ (dm_met h1 h4 hT hb) hall
/-- Some block may be turned. -/
theorem dm_flip {s : List UInt8} {r : Nat} (h4 : r + 1 ≤ 8) (h2 : (r + 1) % 2 = 0) (hT : Til s (r + 1) (r + 1)) (hb : brdT s (r + 1) (r + 1) = tx (r + 1) (r + 1) (dmF ((r + 1) / 2))) : 0 < (blQ s r r).length := by
  obtain ⟨n, hn⟩ : ∃ n, n = (r + 1) / 2 := ⟨_, rfl⟩
  have hr : r + 1 = 2 * n := by omega
  rw [← hn] at hb
  obtain ⟨S, hS, hh⟩ := dm_all (s := s) (n := n) (by omega) (by omega) (by rw [← hr]; exact hT) (by rw [← hr]; exact hb)
  unfold holN flN at hh
  simp only [Bool.and_eq_true] at hh
  obtain ⟨k, hk, hq⟩ := List.any_eq_true.1 hh.1
  have hk54 := List.mem_range.1 hk
  simp only [Bool.and_eq_true, decide_eq_true_eq] at hq
  obtain ⟨h7, hq⟩ := hq
  have hv : ∀ j, j < 64 → ∀ b : UInt8, (gN S j == b.toNat) = (cef (pz s) j == b) := fun j hj b => by
    rw [Bool.eq_iff_iff, beq_iff_eq, beq_iff_eq]; exact hS.iff hj b
  have hqr : qR (cef (pz s)) (k / 8) (k % 8) = true := by
    unfold qR
    rw [show k / 8 * 8 + k % 8 = k by omega, show k / 8 * 8 + (k % 8 + 1) = k + 1 by omega, show (k / 8 + 1) * 8 + k % 8 = k + 8 by omega, show (k / 8 + 1) * 8 + (k % 8 + 1) = k + 9 by omega]
    rw [← hv k (by omega) 108, ← hv (k + 1) (by omega) 114, ← hv (k + 8) (by omega) 108, ← hv (k + 9) (by omega) 114, ← hv k (by omega) 117, ← hv (k + 1) (by omega) 117, ← hv (k + 8) (by omega) 100, ← hv (k + 9) (by omega) 100]
    exact hq
  have hin : (k + 9) / 8 < r + 1 ∧ (k + 9) % 8 < r + 1 := by
    by_cases q : (k + 9) / 8 < r + 1 ∧ (k + 9) % 8 < r + 1
    · exact q
    · have z := cef_out hT.1 q
      unfold qR at hqr
      rw [show (k / 8 + 1) * 8 + (k % 8 + 1) = k + 9 by omega, z] at hqr
      simp at hqr
  exact List.length_pos_iff.2 (List.ne_nil_of_mem ((mem_flp _ _ _ ((k % 8 : Nat) : Int) ((k / 8 : Nat) : Int)).2 ⟨k / 8, k % 8, by omega, by omega, hqr, rfl, rfl⟩))

end Go.Proofs.YtcnmndbckjmliaaDoor

namespace Go.Proofs.YtcnmndbckjmliaaDoor
open Go.RowKit

/-- A cell of a block. -/
def inC (i j k : Nat) : Prop := k = i * 8 + j ∨ k = i * 8 + (j + 1) ∨ k = (i + 1) * 8 + j ∨ k = (i + 1) * 8 + (j + 1)
theorem cv_out {f : Nat → UInt8} {i j : Nat} {up : Bool} (hj : j + 1 < 8) {k : Nat} (h : ¬ inC i j k) : cvF f i j up k = f k :=
  cv_far hj (fun e => h (Or.inl e)) (fun e => h (Or.inr (Or.inl e))) (fun e => h (Or.inr (Or.inr (Or.inl e)))) (fun e => h (Or.inr (Or.inr (Or.inr e))))
theorem cv_in {f g : Nat → UInt8} {i j : Nat} {up : Bool} (hj : j + 1 < 8) {k : Nat} (h : inC i j k) : cvF f i j up k = cvF g i j up k := by
  rcases h with e | e | e | e <;> subst e
  · rw [cv_corner2 f i j up hj, cv_corner2 g i j up hj]
  · rw [cv01 f i j up hj, cv01 g i j up hj]
  · rw [cv10 f i j up hj, cv10 g i j up hj]
  · rw [cv11 f i j up hj, cv11 g i j up hj]
section
variable {l : List (Int × Int)} {us : List Bool} {r L : Nat} {I J : Nat → Nat} (hl : ∀ m, m < L → l.getD m (0, 0) = ((J m : Int), (I m : Int))) (hin : ∀ m, m < L → I m < r ∧ J m < r) (hr : r + 1 ≤ 8)
  (hdis : ∀ m m', m < L → m' < L → m ≠ m' → ∀ k, inC (I m) (J m) k → ¬ inC (I m') (J m') k)
include hl in
theorem cvK_step (g : Nat → UInt8) {t : Nat} (ht : t < L) : cvK l us g (t + 1) = cvF (cvK l us g t) (I t) (J t) (us.getD t false) := by
  show cvF _ _ _ _ = _
  rw [hl t ht]; rfl
include hl hin hr hdis in
theorem cvK_inv {g : Nat → UInt8} (hok : OkT (r + 1) (r + 1) g) (hq : ∀ m, m < L → qR g (I m) (J m) = true) : ∀ t, t ≤ L →
    OkT (r + 1) (r + 1) (cvK l us g t) ∧ (∀ k, brdF (cvK l us g t) k = brdF g k) ∧ (∀ k, isH (cvK l us g t k) ∨ cvK l us g t k = g k) ∧ (∀ m, t ≤ m → m < L → qR (cvK l us g t) (I m) (J m) = true) ∧ ∀ m, m < t → cvK l us g t (I m * 8 + J m) = if us.getD m false = true then 117 else 108
  | 0, _ => ⟨hok, fun _ => rfl, fun _ => Or.inr rfl, fun m _ h => hq m h, fun m h => by omega⟩
  | t + 1, ht => by
    obtain ⟨a1, a2, a3, a4, a5⟩ := cvK_inv hok hq t (by omega)
    have hti := hin t (by omega)
    have hj8 : J t + 1 < 8 := by omega
    have hqt := a4 t (Nat.le_refl _) (by omega)
    rw [cvK_step hl g (show t < L by omega)]
    refine ⟨cv_ok _ hr hti.1 hti.2 hqt a1, fun k => ?_, fun k => ?_, fun m h1 h2 => ?_, fun m h1 => ?_⟩
    · rw [brd_same _ hj8 hqt, a2]
    · rcases cv_half (f := cvK l us g t) (i := I t) (us.getD t false) hj8 k with e | e
      · exact Or.inl e
      · rw [e]; exact a3 k
    · have h := a4 m (by omega) h2
      have hd := hdis m t h2 (by omega) (by omega)
      unfold qR at h ⊢
      rw [cv_out hj8 (hd _ (Or.inl rfl)), cv_out hj8 (hd _ (Or.inr (Or.inl rfl))), cv_out hj8 (hd _ (Or.inr (Or.inr (Or.inl rfl)))), cv_out hj8 (hd _ (Or.inr (Or.inr (Or.inr rfl))))]
      exact h
    · by_cases e : m = t
      · subst e
        rw [cv_corner2 _ _ _ _ hj8]
      · rw [cv_out hj8 (hdis m t (by omega) (by omega) e _ (Or.inl rfl))]
        exact a5 m (by omega)
include hl hin hr in
theorem cvK_two {g g' : Nat → UInt8} (h : ∀ k, k < 64 → g k = g' k ∨ ∃ m, m < L ∧ inC (I m) (J m) k) : ∀ t, t ≤ L → ∀ k, k < 64 → cvK l us g t k = cvK l us g' t k ∨ ∃ m, t ≤ m ∧ m < L ∧ inC (I m) (J m) k
  | 0, _, k, hk => by
    rcases h k hk with e | ⟨m, h1, h2⟩
    · exact Or.inl e
    · exact Or.inr ⟨m, Nat.zero_le _, h1, h2⟩
  | t + 1, ht, k, hk => by
    have ih := cvK_two h t (by omega) k hk
    have hti := hin t (by omega)
    have hj8 : J t + 1 < 8 := by omega
    rw [cvK_step hl g (show t < L by omega), cvK_step hl g' (show t < L by omega)]
    by_cases hc : inC (I t) (J t) k
    · exact Or.inl (cv_in hj8 hc)
    · rw [cv_out hj8 hc, cv_out hj8 hc]
      rcases ih with e | ⟨m, h1, h2, h3⟩
      · exact Or.inl e
      · by_cases e : m = t
        · subst e; exact absurd h3 hc
        · exact Or.inr ⟨m, by omega, h2, h3⟩
end

end Go.Proofs.YtcnmndbckjmliaaDoor

namespace Go.Proofs.YtcnmndbckjmliaaDoor
open Go.RowKit

theorem inB_iff (a k : Nat) : inB a k = true ↔ inC (a / 8) (a % 8) k := by
  unfold inB inC
  simp only [Bool.or_eq_true, beq_iff_eq]
  constructor
  · rintro (((e | e) | e) | e)
    · exact Or.inl (by omega)
    · exact Or.inr (Or.inl (by omega))
    · exact Or.inr (Or.inr (Or.inl (by omega)))
    · exact Or.inr (Or.inr (Or.inr (by omega)))
  · rintro (e | e | e | e)
    · exact Or.inl (Or.inl (Or.inl (by omega)))
    · exact Or.inl (Or.inl (Or.inr (by omega)))
    · exact Or.inl (Or.inr (by omega))
    · exact Or.inr (by omega)
theorem dis_at : ∀ (ks : List Nat), disN ks = true → ∀ m m', m < m' → m' < ks.length → ∀ k, inC (ks.getD m' 0 / 8) (ks.getD m' 0 % 8) k → ¬ inC (ks.getD m 0 / 8) (ks.getD m 0 % 8) k
  | [], _, m, m', _, h2, _, _ => by simp at h2
  | a :: l, h, m, m', h1, h2, k, hk => by
    unfold disN at h
    simp only [Bool.and_eq_true] at h
    obtain ⟨m'', rfl⟩ : ∃ q, m' = q + 1 := ⟨m' - 1, by omega⟩
    have hlen : m'' < l.length := by simpa using h2
    rw [List.getD_cons_succ] at hk
    cases m with
    | zero =>
      rw [List.getD_cons_zero]
      have hb := List.all_eq_true.1 h.1 (l.getD m'' 0) (by rw [List.getD_eq_getElem?_getD, List.getElem?_eq_getElem hlen, Option.getD_some]; exact List.getElem_mem _)
      simp only [Bool.and_eq_true, Bool.not_eq_true'] at hb
      obtain ⟨⟨⟨h3, h4⟩, h5⟩, h6⟩ := hb
      intro q
      have q := (inB_iff a k).2 q
      rcases hk with e | e | e | e
      · rw [show k = l.getD m'' 0 by omega, h3] at q; cases q
      · rw [show k = l.getD m'' 0 + 1 by omega, h4] at q; cases q
      · rw [show k = l.getD m'' 0 + 8 by omega, h5] at q; cases q
      · rw [show k = l.getD m'' 0 + 9 by omega, h6] at q; cases q
    | succ m =>
      rw [List.getD_cons_succ]
      exact dis_at l h.2 m m'' (by omega) hlen k hk
/-- A tiling of the diamond, told by numbers. -/
theorem tiN_use {n G : Nat} {f : Nat → UInt8} (h1 : 1 ≤ n) (h4 : n ≤ 4) (hG : Rl G f) (h : tiN n G = true) :
    OkT (2 * n) (2 * n) f ∧ (∀ k, k < 64 → k / 8 < 2 * n ∧ k % 8 < 2 * n → brdF f k = dmF n k ∧ (isH (f k) ∨ f k = 46)) ∧ ∀ k, k < 64 → ¬ (k / 8 < 2 * n ∧ k % 8 < 2 * n) → f k = 0 := by
  have hk : ∀ k, k < 64 → if k / 8 < 2 * n ∧ k % 8 < 2 * n then prN G k = true ∧ ((gN G k == 46) == (gN (dmK n) k == 46)) = true else (gN G k == 0) = true := fun k hk => by
    have := List.all_eq_true.1 h k (List.mem_range.2 hk)
    by_cases q : k / 8 < 2 * n ∧ k % 8 < 2 * n
    · rw [if_pos q] at this ⊢
      simpa using this
    · rw [if_neg q] at this ⊢; exact this
  have hout : ∀ k, k < 64 → ¬ (k / 8 < 2 * n ∧ k % 8 < 2 * n) → f k = 0 := fun k hk' q => by
    have e := hk k hk'
    rw [if_neg q] at e
    exact (hG.iff hk' 0).1 (by simpa using e)
  have hat : ∀ k, k < 64 → ∀ b : UInt8, b ≠ 0 → f k = b → atB (2 * n) (2 * n) f ((k / 8 : Nat) : Int) ((k % 8 : Nat) : Int) = b := fun k hk' b hb e => by
    by_cases q : k / 8 < 2 * n ∧ k % 8 < 2 * n
    · rw [atB_k _ _ _ k q, e]
    · rw [hout k hk' q] at e; exact absurd e.symm hb
  refine ⟨fun i hi j hj => ?_, fun k hk' q => ?_, hout⟩
  · obtain ⟨k, hkk⟩ : ∃ k, k = i * 8 + j := ⟨_, rfl⟩
    have hi8 : i = k / 8 := by omega
    have hj8 : j = k % 8 := by omega
    have hk' : k < 64 := by omega
    have e := hk k hk'
    rw [if_pos ⟨by omega, by omega⟩] at e
    have p := e.1
    have a0 := atB_k (2 * n) (2 * n) f k ⟨by omega, by omega⟩
    subst hi8 hj8
    unfold prN at p
    by_cases c1 : gN G k = 108
    · rw [if_pos c1] at p
      simp only [Bool.and_eq_true, decide_eq_true_eq, beq_iff_eq] at p
      have v := hat (k + 1) (by omega) 114 (by decide) ((hG.iff (by omega) 114).1 p.2)
      rw [show (k + 1) / 8 = k / 8 by omega, show (((k + 1) % 8 : Nat) : Int) = ((k % 8 : Nat) : Int) + 1 by omega] at v
      exact prB_l (by rw [a0]; exact (hG.iff hk' 108).1 c1) v
    · rw [if_neg c1] at p
      by_cases c2 : gN G k = 114
      · rw [if_pos c2] at p
        simp only [Bool.and_eq_true, decide_eq_true_eq, beq_iff_eq] at p
        have v := hat (k - 1) (by omega) 108 (by decide) ((hG.iff (by omega) 108).1 p.2)
        rw [show (k - 1) / 8 = k / 8 by omega, show (((k - 1) % 8 : Nat) : Int) = ((k % 8 : Nat) : Int) - 1 by omega] at v
        exact prB_r (by rw [a0]; exact (hG.iff hk' 114).1 c2) v
      · rw [if_neg c2] at p
        by_cases c3 : gN G k = 117
        · rw [if_pos c3] at p
          simp only [Bool.and_eq_true, decide_eq_true_eq, beq_iff_eq] at p
          have v := hat (k + 8) (by omega) 100 (by decide) ((hG.iff (by omega) 100).1 p.2)
          rw [show (((k + 8) / 8 : Nat) : Int) = ((k / 8 : Nat) : Int) + 1 by omega, show (k + 8) % 8 = k % 8 by omega] at v
          exact prB_u (by rw [a0]; exact (hG.iff hk' 117).1 c3) v
        · rw [if_neg c3] at p
          by_cases c4 : gN G k = 100
          · rw [if_pos c4] at p
            simp only [Bool.and_eq_true, decide_eq_true_eq, beq_iff_eq] at p
            have v := hat (k - 8) (by omega) 117 (by decide) ((hG.iff (by omega) 117).1 p.2)
            rw [show (((k - 8) / 8 : Nat) : Int) = ((k / 8 : Nat) : Int) - 1 by omega, show (k - 8) % 8 = k % 8 by omega] at v
            exact prB_d (by rw [a0]; exact (hG.iff hk' 100).1 c4) v
          · rw [if_neg c4] at p
            have v : f k = 46 := (hG.iff hk' 46).1 (by simpa using p)
            unfold prB
            rw [a0, v, if_neg (by decide), if_neg (by decide), if_neg (by decide), if_neg (by decide)]
  · have e := hk k hk'
    rw [if_pos q] at e
    have d := dmK_rl n h1 h4 k hk'
    refine ⟨?_, ?_⟩
    · have e2 := e.2
      rw [d] at e2
      unfold brdF
      rcases dm_inB q with g | g
      · rw [g, show (35 : UInt8).toNat = 35 from rfl] at e2
        have : f k ≠ 46 := fun z => by
          have := (hG.iff hk' 46).2 z
          rw [this] at e2
          exact absurd e2 (by decide)
        rw [if_pos this, g]
      · rw [g, show (46 : UInt8).toNat = 46 from rfl] at e2
        have : f k = 46 := (hG.iff hk' 46).1 (by
          show gN G k = 46
          simpa using e2)
        rw [if_neg (by rw [this]; simp), g]
    · have p := e.1
      unfold prN at p
      unfold isH
      by_cases c1 : gN G k = 108
      · exact Or.inl (Or.inl ((hG.iff hk' 108).1 c1))
      · by_cases c2 : gN G k = 114
        · exact Or.inl (Or.inr (Or.inl ((hG.iff hk' 114).1 c2)))
        · by_cases c3 : gN G k = 117
          · exact Or.inl (Or.inr (Or.inr (Or.inl ((hG.iff hk' 117).1 c3))))
          · by_cases c4 : gN G k = 100
            · exact Or.inl (Or.inr (Or.inr (Or.inr ((hG.iff hk' 100).1 c4))))
            · rw [if_neg c1, if_neg c2, if_neg c3, if_neg c4] at p
              exact Or.inr ((hG.iff hk' 46).1 (by simpa using p))

end Go.Proofs.YtcnmndbckjmliaaDoor
