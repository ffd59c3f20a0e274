/-
  A walk's text, cut at its steps up; the contract of strings.Split at it.
-/
import Derived.Test.YtniedfecmakhpaaDoorDEdg
import Derived.Test.YtniedfecmakhpaaDoorShelf
import Derived.Test.YtniedfecmakhpaaDoorBApp
import Derived.Lib.SplitLaws
import Derived.Lib.IndexBytes
import Derived.Lib.Join
namespace Go.Proofs.YtniedfecmakhpaaDoor
open Go.RowKit

def pcs : List UInt8 → List (List UInt8)
  | [] => [[]]
  | b :: s => if b = 85 then [] :: pcs s else (b :: (pcs s).headD []) :: (pcs s).tail
theorem pcs_ne : ∀ s, pcs s ≠ []
  | [] => by simp [pcs]
  | b :: s => by unfold pcs; split <;> simp
theorem pcs_cons (s : List UInt8) : pcs s = (pcs s).headD [] :: (pcs s).tail := by
  have := pcs_ne s
  cases h : pcs s with
  | nil => exact absurd h this
  | cons x xs => rfl
theorem pcs_no : ∀ s, ∀ x ∈ pcs s, (85 : UInt8) ∉ x
  | [], x, h => by simp [pcs] at h; subst h; simp
  | b :: s, x, h => by
    unfold pcs at h
    by_cases hb : b = 85
    · rw [if_pos hb] at h
      rcases List.mem_cons.1 h with rfl | h
      · simp
      · exact pcs_no s x h
    · rw [if_neg hb] at h
      rcases List.mem_cons.1 h with rfl | h
      · have h1 := pcs_no s ((pcs s).headD []) (by rw [pcs_cons s]; simp)
        intro h2
        rcases List.mem_cons.1 h2 with h3 | h3
        · exact hb h3.symm
        · exact h1 h3
      · exact pcs_no s x (List.mem_of_mem_tail h)
theorem join_two (x y : List UInt8) (r : List (List UInt8)) (c : UInt8) : Lib.join (x :: y :: r) [c] = x ++ c :: Lib.join (y :: r) [c] := by
  rw [Lib.join_cons, Lib.join_cons]; simp [Lib.joinTail]
theorem pcs_join : ∀ s, Lib.join (pcs s) [85] = s
  | [] => by simp [pcs, Lib.join_one]
  | b :: s => by
    have ih := pcs_join s
    unfold pcs
    by_cases hb : b = 85
    · rw [if_pos hb, pcs_cons s, join_two, ← pcs_cons s, ih, hb]; rfl
    · rw [if_neg hb]
      rw [pcs_cons s] at ih
      cases ht : (pcs s).tail with
      | nil => rw [ht, Lib.join_one] at ih; rw [Lib.join_one, ih]
      | cons y r => rw [ht, join_two] at ih; rw [join_two, List.cons_append, ih]
theorem bxs_pcs : ∀ (s : List UInt8) (g i : Nat), (∀ b ∈ s, b = 82 ∨ b = 85) → i < (bxs g s).length → (bxs g s).getD i 0 = g + S (i + 1) fun t => ((pcs s).getD t []).length
  | [], g, i, _, h => by simp [bxs] at h
  | b :: s, g, i, hb, h => by
    have hs : ∀ b ∈ s, b = 82 ∨ b = 85 := fun x hx => hb x (List.mem_cons_of_mem _ hx)
    rcases hb b List.mem_cons_self with rfl | rfl
    · have e1 : bxs g (82 :: s) = bxs (g + 1) s := by simp [bxs]
      have e2 : pcs (82 :: s) = (82 :: (pcs s).headD []) :: (pcs s).tail := by rw [pcs, if_neg (by decide)]
      rw [e1] at h ⊢
      rw [bxs_pcs s (g + 1) i hs h, e2, S_front, S_front]
      have e3 : ((pcs s).getD 0 []).length = ((pcs s).headD []).length := by rw [pcs_cons s]; rfl
      have e4 : S i (fun t => ((pcs s).getD (t + 1) []).length) = S i (fun t => (((82 :: (pcs s).headD []) :: (pcs s).tail).getD (t + 1) []).length) := S_congr (fun t _ => by
        rw [pcs_cons s]; rfl)
      rw [e3, e4]
      show _ = g + (((pcs s).headD []).length + 1 + _)
      omega
    · have e1 : bxs g (85 :: s) = g :: bxs g s := by rw [bxs, if_neg (by decide)]
      have e2 : pcs (85 :: s) = [] :: pcs s := by rw [pcs, if_pos rfl]
      rw [e1] at h ⊢
      rw [e2, S_front]
      cases i with
      | zero => simp [S]
      | succ i =>
        have h2 : i < (bxs g s).length := by simpa using h
        have := bxs_pcs s g i hs h2
        show (bxs g s).getD i 0 = _
        rw [this]
        show _ = g + (0 + S (i + 1) fun t => ((pcs s).getD t []).length)
        omega
theorem isE.only {r c : Nat} {s : List UInt8} (h : isE r c s) : ∀ b ∈ s, b = 82 ∨ b = 85 := by
  have key : ∀ s : List UInt8, s.length ≤ s.count 85 + s.count 82 → ∀ b ∈ s, b = 82 ∨ b = 85 := by
    intro s
    induction s with
    | nil => intro _ b hb; cases hb
    | cons x s ih =>
      intro hl b hb
      have h1 : s.count 85 + s.count 82 ≤ s.length := by
        clear ih hl hb
        induction s with
        | nil => simp
        | cons y s ih =>
          by_cases e1 : y = 82
          · subst e1; rw [List.count_cons_self, List.count_cons_of_ne (by decide)]; simp; omega
          · by_cases e2 : y = 85
            · subst e2; rw [List.count_cons_self, List.count_cons_of_ne (by decide)]; simp; omega
            · rw [List.count_cons_of_ne e1, List.count_cons_of_ne e2]; simp; omega
      by_cases e1 : x = 82
      · subst e1
        rw [List.count_cons_self, List.count_cons_of_ne (by decide), List.length_cons] at hl
        rcases List.mem_cons.1 hb with rfl | hb
        · exact Or.inl rfl
        · exact ih (by omega) b hb
      · by_cases e2 : x = 85
        · subst e2
          rw [List.count_cons_self, List.count_cons_of_ne (by decide), List.length_cons] at hl
          rcases List.mem_cons.1 hb with rfl | hb
          · exact Or.inr rfl
          · exact ih (by omega) b hb
        · rw [List.count_cons_of_ne e1, List.count_cons_of_ne e2, List.length_cons] at hl
          omega
  exact key s (by have := h.1; have := h.2.1; have := h.2.2; omega)
theorem pcs_len (s : List UInt8) : (pcs s).length = s.count 85 + 1 := by
  induction s with
  | nil => rfl
  | cons b s ih =>
    unfold pcs
    by_cases hb : b = 85
    · subst hb; rw [if_pos rfl, List.length_cons, ih, List.count_cons_self]
    · rw [if_neg hb, List.count_cons_of_ne hb, ← ih]
      conv => rhs; rw [pcs_cons s]
      simp
/-- how many boxes lie ahead of the i-th step up -/
def pn (s : List UInt8) (i : Nat) : Nat := S i fun t => ((pcs s).getD t []).length
theorem pn_bo {r c : Nat} {s : List UInt8} (h : isE r c s) {i : Nat} (hi : i < r) : pn s (i + 1) = bo s (r - 1 - i) := by
  have hl := h.len
  have h1 := bxs_pcs s 0 i h.only (by omega)
  unfold pn bo
  rw [Nat.zero_add] at h1
  rw [← h1]
  have h3 : i < (bxs 0 s).length := by omega
  have h2 : r - 1 - i < (bxs 0 s).reverse.length := by rw [List.length_reverse]; omega
  rw [List.getD, List.getD, List.getElem?_eq_getElem h3, List.getElem?_eq_getElem h2]
  simp only [Option.getD_some, List.getElem_reverse]
  congr 1
  omega

theorem index_at (x : List UInt8) (c : UInt8) (t : List UInt8) (h : c ∉ x) : Lib.indexByte (x ++ c :: t) c = (x.length : Int) := by
  induction x with
  | nil => simp [Lib.indexByte]
  | cons b x ih =>
    have h1 : b ≠ c := fun e => h (by simp [e])
    have h2 := ih (fun e => h (by simp [e]))
    rw [List.cons_append, Lib.indexByte, if_neg (by simpa using h1), h2, if_neg (by simp <;> omega)]
    simp
theorem split_join (c : UInt8) : ∀ (xs : List (List UInt8)), xs ≠ [] → (∀ x ∈ xs, c ∉ x) → Lib.split (Lib.join xs [c]) [c] = xs ∧ (Lib.join xs [c]).count c + 1 = xs.length := by
  intro xs
  induction xs with
  | nil => intro h; exact absurd rfl h
  | cons x xs ih =>
    intro _ hx
    cases xs with
    | nil =>
      rw [Lib.join_one]
      have h0 : x.count c = 0 := List.count_eq_zero.2 (hx x (by simp))
      refine ⟨?_, by rw [h0]; rfl⟩
      unfold Lib.split
      rw [Lib.count_one, h0]; rfl
    | cons y r =>
      obtain ⟨h1, h2⟩ := ih (by simp) (fun z hz => hx z (by simp [hz]))
      have hc : c ∉ x := hx x (by simp)
      have e : Lib.join (x :: y :: r) [c] = x ++ c :: Lib.join (y :: r) [c] := join_two x y r c
      have hcnt : (Lib.join (x :: y :: r) [c]).count c = (Lib.join (y :: r) [c]).count c + 1 := by
        rw [e, List.count_append, List.count_eq_zero.2 hc, List.count_cons_self]; omega
      refine ⟨?_, by rw [hcnt, h2]; simp⟩
      unfold Lib.split at h1 ⊢
      rw [Lib.count_one] at h1 ⊢
      rw [hcnt]
      have hix : Lib.index (Lib.join (x :: y :: r) [c]) [c] = (x.length : Int) := by rw [Lib.index_one, e]; exact index_at x c _ hc
      rw [Lib.splitK, if_neg (by rw [hix]; simp <;> omega), hix]
      have e1 : (Lib.join (x :: y :: r) [c]).take (((x.length : Int)).toNat + 0) = x := by rw [e]; simp
      have e2 : (Lib.join (x :: y :: r) [c]).drop (((x.length : Int)).toNat + ([c] : List UInt8).length) = Lib.join (y :: r) [c] := by rw [e]; simp
      rw [e1, e2, h1]

set_option maxHeartbeats 1000000 in
theorem Split_d (s : ByteArray) (m : Int) (w : World) (hl : s.size ≤ 1000) (hm : w.cell? ⟨0, 0, none⟩ = some (.int .i64 m)) :
    Calls Tryd.prog 26 #[.string s, .string ⟨#[85]⟩] w fun e w' => ∃ P : List ByteArray, P.map (·.data.toList) = pcs s.data.toList ∧ e = .returned (.slice (some ⟨w.heap.size, 0, none⟩) P.length P.length) ∧ w' = w.alloc (.cells (P.map Value.string).toArray 9) := by
  have h := split_join 85 (pcs s.data.toList) (pcs_ne _) (pcs_no _)
  rw [pcs_join] at h
  have e : (Lib.splitB ⟨#[85]⟩ 0 (Lib.countB s ⟨#[85]⟩) s).map (·.data.toList) = pcs s.data.toList := by
    rw [Lib.splitB_data]
    have := h.1
    unfold Lib.split at this
    exact this
  have e2 : Lib.countB s ⟨#[85]⟩ + 1 = (Lib.splitB ⟨#[85]⟩ 0 (Lib.countB s ⟨#[85]⟩) s).length := by
    have hl := congrArg List.length e
    rw [List.length_map] at hl
    rw [hl, ← h.2]
    show Lib.count s.data.toList [85] + 1 = _
    rw [Lib.count_one]
  refine (Go.Proofs.Tryd.strings_Split s ⟨#[85]⟩ m w (by omega) hm (Nat.le_refl 1)).mono ?_
  rintro e' w' ⟨rfl, rfl⟩
  exact ⟨_, e, by rw [e2], rfl⟩

end Go.Proofs.YtniedfecmakhpaaDoor
