/-
  The contract of ferref.Strips: the same list as the program's.
-/
import Derived.Test.YtheebpjkjclgbaaLSrt
namespace Go.Proofs.Ytheebpjkjclgbaa
open Go.RowKit Go.Shelf

/-- Where the first difference lies. -/
theorem cmpL_at : ∀ (m : Nat) (a b : List Int), (∀ r, r < m → a.getD r 0 = b.getD r 0) → m ≤ b.length → m < a.length → (b.length = m ∨ b.getD m 0 < a.getD m 0) → cmpL b a < 0
  | 0, a, b, _, _, ha, h => by
    cases a with
    | nil => simp at ha
    | cons x a =>
      cases b with
      | nil => rw [cmpL]; omega
      | cons y b =>
        rcases h with h | h
        · simp at h
        · have h2 : y < x := by simpa [List.getD] using h
          rw [cmpL, if_pos h2]; omega
  | m + 1, a, b, he, hb, ha, h => by
    cases a with
    | nil => simp at ha
    | cons x a =>
      cases b with
      | nil => simp at hb
      | cons y b =>
        have h0 : x = y := by simpa [List.getD] using he 0 (by omega)
        subst h0
        rw [cmpL, if_neg (by omega), if_neg (by omega)]
        refine cmpL_at m a b (fun r hr => by simpa [List.getD] using he (r + 1) (by omega)) (by simpa using hb) (by simpa using ha) ?_
        rcases h with h | h
        · left; simpa using h
        · right; simpa [List.getD] using h
theorem stP_at {zs : List Int} {i j r : Nat} (h : r < (stP zs i j).length) : (stP zs i j).getD r 0 = ((rmF (pF zs) i j r : Nat) : Int) := by
  rw [stP_len] at h
  have hn := lfN_le zs i j
  unfold stP
  rw [List.getD, List.getElem?_take, if_pos h, ← List.getD, lfL_at (by omega)]
/-- The lower a strip begins, the greater is what is left. -/
theorem stP_lt {zs : List Int} (h : IsPt zs) {i i' j j' : Nat} (hi : i < zs.length) (hii : i' < i) (hj' : j' < pF zs i') : cmpL (stP zs i' j') (stP zs i j) < 0 := by
  have hrm : rmF (pF zs) i' j' i' < pF zs i' := by
    unfold rmF
    have := pF_anti h i'
    rw [if_neg (by omega)]
    split <;> omega
  have hup : ∀ {i j r : Nat}, r < i → rmF (pF zs) i j r = pF zs r := fun {i j r} q => by unfold rmF; rw [if_pos q]
  have hla : i' < (stP zs i j).length := by
    rw [stP_len]
    rcases Nat.lt_or_ge i' (lfN zs i j) with q | q
    · exact q
    · have := lfN_zero h hi q
      rw [hup hii] at this
      have := pF_pos h (show i' < zs.length by omega)
      omega
  have hlb : i' ≤ (stP zs i' j').length := by
    rw [stP_len]
    rcases Nat.lt_or_ge (lfN zs i' j') i' with q | q
    · have := lfN_zero h (i := i') (j := j') (by omega) (Nat.le_refl (lfN zs i' j'))
      rw [hup q] at this
      have := pF_pos h (show lfN zs i' j' < zs.length by omega)
      omega
    · exact q
  refine cmpL_at i' (stP zs i j) (stP zs i' j') (fun r hr => ?_) hlb hla ?_
  · rw [stP_at (by omega), stP_at (by omega), hup (by omega), hup hr]
  · rcases Nat.lt_or_ge i' (stP zs i' j').length with q | q
    · right
      rw [stP_at q, stP_at hla, hup hii]
      omega
    · left; omega
theorem stAt_mem {zs : List Int} {k i : Nat} {s : List Int × Nat} (hs : s ∈ stAt zs k i) : ∃ j, j < pF zs i ∧ s = (stP zs i j, htF zs j - 1 - i) := by
  unfold stAt at hs
  obtain ⟨j, hj, hs⟩ := List.mem_flatMap.1 hs
  split at hs
  · exact ⟨j, List.mem_range.1 hj, List.mem_singleton.1 hs⟩
  · cases hs
theorem stUp_down {zs : List Int} (h : IsPt zs) (k : Nat) : ∀ t, t ≤ zs.length → (stUp zs k t).Pairwise (fun x y => cmpL y.1 x.1 < 0)
  | 0, _ => by simp [stUp]
  | t + 1, ht => by
    rw [stUp_succ, List.pairwise_append]
    refine ⟨stUp_down h k t (by omega), ?_, fun x hx y hy => ?_⟩
    · have := stAt_len h k (zs.length - 1 - t)
      match hl : stAt zs k (zs.length - 1 - t), this with
      | [], _ => exact List.Pairwise.nil
      | [x], _ => exact List.pairwise_singleton _ _
      | _ :: _ :: _, q => simp at q
    · obtain ⟨j', hj', rfl⟩ := stAt_mem hy
      unfold stUp at hx
      obtain ⟨s, hs, hx⟩ := List.mem_flatMap.1 hx
      have hs := List.mem_range.1 hs
      obtain ⟨j, hj, rfl⟩ := stAt_mem hx
      exact stP_lt h (by omega) (by omega) hj'
theorem flat_rev {α : Type} (f : Nat → List α) : ∀ n, ((List.range n).flatMap fun s => f (n - 1 - s)).Perm ((List.range n).flatMap f)
  | 0 => List.Perm.refl _
  | n + 1 => by
    rw [List.range_succ_eq_map, List.flatMap_cons, List.flatMap_map]
    have e : ((List.range n).flatMap fun s => f (n + 1 - 1 - (s + 1))) = (List.range n).flatMap fun s => f (n - 1 - s) := by
      congr 1
      funext s
      congr 1
      omega
    have e2 : (List.range (n + 1)).flatMap f = (List.range n).flatMap f ++ f n := by rw [List.range_succ, List.flatMap_append, List.flatMap_singleton]
    have e3 : (0 :: (List.range n).map Nat.succ).flatMap f = (List.range (n + 1)).flatMap f := by rw [List.range_succ_eq_map]
    rw [show n + 1 - 1 - 0 = n by omega]
    have e4 : ((List.range n).flatMap fun a => f (n + 1 - 1 - a.succ)) = (List.range n).flatMap fun s => f (n - 1 - s) := e
    refine List.Perm.trans ?_ (List.Perm.of_eq e3.symm)
    rw [e2]
    rw [e4]
    exact (List.perm_append_comm).trans ((flat_rev f n).append_right _)
theorem raw_perm (zs : List Int) (k : Nat) : (stpL zs k).Perm (rawS zs k zs.length) := flat_rev (stAt zs k) zs.length
/-- What is sorted is the program's list. -/
theorem strips_same {zs : List Int} (h : IsPt zs) (k : Nat) {l : List (List Int × Nat)} (hp : l.Perm (rawS zs k zs.length)) (hs : l.Pairwise (fun x y => ¬ cmpL x.1 y.1 < 0)) : l = stpL zs k := by
  have hd := stUp_down h k zs.length (Nat.le_refl _)
  have hd2 : (stpL zs k).Pairwise (fun x y => ¬ cmpL x.1 y.1 < 0) := hd.imp fun {a b} q => cmpL_asym q
  have huniq : ∀ a ∈ stpL zs k, ∀ b ∈ stpL zs k, a.1 = b.1 → a = b := by
    have key : ∀ L : List (List Int × Nat), L.Pairwise (fun x y => cmpL y.1 x.1 < 0) → ∀ a ∈ L, ∀ b ∈ L, a.1 = b.1 → a = b := by
      intro L
      induction L with
      | nil => intro _ a ha; cases ha
      | cons x L ih =>
        intro hL a ha b hb hab
        have hc := List.pairwise_cons.1 hL
        rcases List.mem_cons.1 ha with qa | qa
        · rcases List.mem_cons.1 hb with qb | qb
          · rw [qa, qb]
          · have := hc.1 b qb
            rw [← hab, qa, cmpL_refl] at this
            omega
        · rcases List.mem_cons.1 hb with qb | qb
          · have := hc.1 a qa
            rw [hab, qb, cmpL_refl] at this
            omega
          · exact ih hc.2 a qa b qb hab
    exact key _ hd
  have hpl : l.Perm (stpL zs k) := hp.trans (raw_perm zs k).symm
  exact List.Perm.eq_of_pairwise (le := fun x y => ¬ cmpL x.1 y.1 < 0) (fun a b ha hb q1 q2 => huniq a (hpl.mem_iff.1 ha) b hb (cmpL_eq q1 q2)) hs hd2 hpl

theorem RStrips_at {ρ : Ren} (L : SlLaysF0.n6 Try.prog ρ) (hρ : ρ.f 6 = 22) (hτ : ρ.t 24 = 30) (aE : ∀ w, (isAgg 30).run Try.prog w = .ok true w) (zE : ∀ w, (Go.sizeOf 30).run Try.prog w = .ok 2 w) (ef : ∀ args w, (callFunc 23 args).run Try.prog w = .ok (.enter 23 args) w)
    (a : Option Addr) (n cap k : Nat) (zs : List Int) (w : World) (hs : Shows w a zs) (hn : n = zs.length) (hp : IsPt zs) :
    Calls Try.prog 6 #[.slice a n cap, .int .i64 (k : Int)] w fun e w' => ∃ v, e = .returned v ∧ StpR zs k w w' v := by
  refine RStrips_c a n cap k zs w hs hn hp (fun v w' => StpR zs k w w' v) (fun W v hR => ?_)
  obtain ⟨X, hX, hXs, hB⟩ := hR
  have hmem : ∀ x ∈ X, IsPt x.2.1 := fun x hx => by
    have h1 : x.2 ∈ X.map Prod.snd := List.mem_map.2 ⟨x, hx, rfl⟩
    rw [hXs] at h1
    exact (stpL_mem hp x.2 ((raw_perm zs k).mem_iff.2 h1)).1
  have hl : X.length ≤ 1000 := by
    have h1 := congrArg List.length hXs
    rw [List.length_map] at h1
    have h2 := rawS_len hp k zs.length
    have := hp.len
    omega
  refine (SortStr_at L hρ hτ aE zE ef v X W hX hl hB.size (fun x hx => ⟨by have := (hmem x hx).len; omega, fun z hz => by have := (hmem x hx).range z hz; omega⟩)).mono ?_
  rintro e w' ⟨rfl, X', h1, h2, h3, h4⟩
  refine ⟨rfl, X', h3, ?_, hB.trans h4⟩
  refine strips_same hp k ?_ ?_
  · rw [← hXs]; exact h1.map _
  · rw [List.pairwise_map]; exact h2

end Go.Proofs.Ytheebpjkjclgbaa
