/-
  Cars in a round: who takes which place, and which one stays free (POLLAK).
-/
import Derived.Test.YtihafckdaecgkaaBOwn
namespace Go.Proofs.Ytihafckdaecgkaa
open Go.RowKit

/-- The next place that is free, from p on, at most f are looked at. -/
def hop (N : Nat) (T : Nat → Bool) : Nat → Nat → Nat
  | 0, p => p % N
  | f + 1, p => if T (p % N) then hop N T f (p + 1) else p % N
def nx (N : Nat) (T : Nat → Bool) (p : Nat) : Nat := hop N T N p
def tk (T : Nat → Bool) (x : Nat) : Nat → Bool := fun j => if j = x then true else T j
def pgo (N : Nat) : List Nat → (Nat → Bool) → List Nat
  | [], _ => []
  | p :: l, T => nx N T p :: pgo N l (tk T (nx N T p))
def pfin (N : Nat) : List Nat → (Nat → Bool) → Nat → Bool
  | [], T => T
  | p :: l, T => pfin N l (tk T (nx N T p))
/-- x is the first free place from p on. -/
def Nx (N : Nat) (T : Nat → Bool) (p x : Nat) : Prop := ∃ d, d < N ∧ x = (p + d) % N ∧ T x = false ∧ ∀ e, e < d → T ((p + e) % N) = true

theorem hop_spec (N : Nat) (T : Nat → Bool) : ∀ f p, (∃ d, d < f ∧ T ((p + d) % N) = false) → ∃ d, d < f ∧ hop N T f p = (p + d) % N ∧ T ((p + d) % N) = false ∧ ∀ e, e < d → T ((p + e) % N) = true
  | 0, _, ⟨_, h, _⟩ => absurd h (Nat.not_lt_zero _)
  | f + 1, p, ⟨d, hd, hT⟩ => by
    unfold hop
    cases h : T (p % N) with
    | false => exact ⟨0, by omega, by simp, by simpa using h, fun e he => absurd he (Nat.not_lt_zero _)⟩
    | true =>
      have hd0 : d ≠ 0 := by intro e; subst e; simp [h] at hT
      obtain ⟨d', h1, h2, h3, h4⟩ := hop_spec N T f (p + 1) ⟨d - 1, by omega, by rw [show p + 1 + (d - 1) = p + d by omega]; exact hT⟩
      refine ⟨d' + 1, by omega, ?_, ?_, fun e he => ?_⟩
      · simp only [if_true]; rw [h2, show p + 1 + d' = p + (d' + 1) by omega]
      · rw [show p + (d' + 1) = p + 1 + d' by omega]; exact h3
      · rcases Nat.eq_zero_or_pos e with rfl | h0
        · simpa using h
        · have := h4 (e - 1) (by omega)
          rw [show p + 1 + (e - 1) = p + e by omega] at this; exact this

theorem round_at {N p j : Nat} (hN : 0 < N) (hj : j < N) : ∃ d, d < N ∧ (p + d) % N = j := by
  refine ⟨(j + N - p % N) % N, Nat.mod_lt _ hN, ?_⟩
  have h0 := Nat.mod_lt p hN
  rw [← Nat.mod_add_mod, ← Nat.add_mod_mod, Nat.mod_mod, Nat.add_mod_mod, show p % N + (j + N - p % N) = j + N by omega, Nat.add_mod_right, Nat.mod_eq_of_lt hj]

theorem Nx.of {N : Nat} {T : Nat → Bool} {p : Nat} (h : ∃ j, j < N ∧ T j = false) : Nx N T p (nx N T p) := by
  obtain ⟨j, hj, hT⟩ := h
  obtain ⟨d, hd, hp⟩ := round_at (p := p) (show 0 < N by omega) hj
  obtain ⟨e, h1, h2, h3, h4⟩ := hop_spec N T N p ⟨d, hd, by rw [hp]; exact hT⟩
  exact ⟨e, h1, h2, by unfold nx; rw [h2]; exact h3, h4⟩

theorem Nx.uniq {N : Nat} {T : Nat → Bool} {p x y : Nat} (h : Nx N T p x) (k : Nx N T p y) : x = y := by
  obtain ⟨d, h1, h2, h3, h4⟩ := h
  obtain ⟨e, k1, k2, k3, k4⟩ := k
  rcases Nat.lt_trichotomy d e with hlt | rfl | hlt
  · have := k4 d hlt; rw [← h2, h3] at this; cases this
  · rw [h2, k2]
  · have := h4 e hlt; rw [← k2, k3] at this; cases this

theorem Nx.lt {N : Nat} {T : Nat → Bool} {p x : Nat} (h : Nx N T p x) : x < N := by
  obtain ⟨d, h1, h2, _⟩ := h
  rw [h2]; exact Nat.mod_lt _ (by omega)
theorem Nx.free {N : Nat} {T : Nat → Bool} {p x : Nat} (h : Nx N T p x) : T x = false := by obtain ⟨d, h1, h2, h3, _⟩ := h; exact h3

theorem tk_same (T : Nat → Bool) (x : Nat) : tk T x x = true := by simp [tk]
theorem tk_other (T : Nat → Bool) {x j : Nat} (h : j ≠ x) : tk T x j = T j := by simp [tk, h]

/-- How many places are taken. -/
def tkn (N : Nat) (T : Nat → Bool) : Nat := ((List.range N).filter T).length
theorem tkn_le (N : Nat) (T : Nat → Bool) : tkn N T ≤ N := by
  have := List.length_filter_le T (List.range N)
  simpa [tkn] using this
theorem tkn_succ (N : Nat) (T : Nat → Bool) : tkn (N + 1) T = tkn N T + if T N then 1 else 0 := by
  unfold tkn
  rw [List.range_succ, List.filter_append]
  cases h : T N <;> simp [h]
theorem tkn_congr {T S : Nat → Bool} : ∀ {N : Nat}, (∀ j, j < N → T j = S j) → tkn N T = tkn N S
  | 0, _ => rfl
  | N + 1, h => by rw [tkn_succ, tkn_succ, tkn_congr (fun j hj => h j (by omega)), h N (by omega)]
theorem tkn_tk (T : Nat → Bool) (x : Nat) (hT : T x = false) : ∀ N, tkn N (tk T x) = tkn N T + if x < N then 1 else 0
  | 0 => by simp [tkn]
  | N + 1 => by
    rw [tkn_succ, tkn_succ, tkn_tk T x hT N]
    by_cases h : N = x
    · subst h; simp [tk_same, hT]
    · rw [tk_other T h]
      by_cases h2 : x < N
      · simp [h2, show x < N + 1 by omega]; omega
      · simp [h2, show ¬ x < N + 1 by omega]
theorem tkn_all {T : Nat → Bool} : ∀ {N : Nat}, (∀ j, j < N → T j = true) → tkn N T = N
  | 0, _ => rfl
  | N + 1, h => by rw [tkn_succ, tkn_all (fun j hj => h j (by omega)), h N (by omega)]; simp
theorem free_of {N : Nat} {T : Nat → Bool} (h : tkn N T < N) : ∃ j, j < N ∧ T j = false := by
  by_cases hx : ∃ j, j < N ∧ T j = false
  · exact hx
  · have := tkn_all (T := T) (N := N) (fun j hj => by
      cases h : T j with
      | true => rfl
      | false => exact absurd ⟨j, hj, h⟩ hx)
    omega
def none0 : Nat → Bool := fun _ => false
theorem tkn_none (N : Nat) : tkn N none0 = 0 := by simp [tkn, none0]

theorem Nx.more {N : Nat} {T : Nat → Bool} {p : Nat} (h : tkn N T < N) : Nx N T p (nx N T p) ∧ tkn N (tk T (nx N T p)) = tkn N T + 1 := by
  have hx := Nx.of (p := p) (free_of h)
  refine ⟨hx, ?_⟩
  rw [tkn_tk T _ hx.free, if_pos hx.lt]

theorem pfin_tkn {N : Nat} : ∀ (l : List Nat) (T : Nat → Bool), tkn N T + l.length ≤ N → tkn N (pfin N l T) = tkn N T + l.length
  | [], T, _ => rfl
  | p :: l, T, h => by
    simp only [List.length_cons] at h
    obtain ⟨_, h2⟩ := Nx.more (N := N) (T := T) (p := p) (by omega)
    unfold pfin
    rw [pfin_tkn l _ (by omega), h2, List.length_cons]; omega
theorem pfin_keeps {N : Nat} : ∀ (l : List Nat) (T : Nat → Bool) (j : Nat), T j = true → pfin N l T j = true
  | [], _, _, h => h
  | p :: l, T, j, h => pfin_keeps l _ j (by unfold tk; split <;> simp [h])
theorem pgo_length {N : Nat} : ∀ (l : List Nat) (T : Nat → Bool), (pgo N l T).length = l.length
  | [], _ => rfl
  | p :: l, T => by simp [pgo, pgo_length l]
/-- What is taken in the end was taken, or is told. -/
theorem pfin_iff {N : Nat} : ∀ (l : List Nat) (T : Nat → Bool) (j : Nat), pfin N l T j = true ↔ T j = true ∨ j ∈ pgo N l T
  | [], T, j => by simp [pfin, pgo]
  | p :: l, T, j => by
    unfold pfin pgo
    rw [pfin_iff l, List.mem_cons]
    by_cases h : j = nx N T p
    · subst h; simp [tk_same]
    · rw [tk_other T h]; simp [h]
theorem pgo_spec {N : Nat} : ∀ (l : List Nat) (T : Nat → Bool), tkn N T + l.length ≤ N → (pgo N l T).Nodup ∧ ∀ x ∈ pgo N l T, x < N ∧ T x = false
  | [], _, _ => ⟨List.nodup_nil, fun x hx => by cases hx⟩
  | p :: l, T, h => by
    simp only [List.length_cons] at h
    obtain ⟨h1, h2⟩ := Nx.more (N := N) (T := T) (p := p) (by omega)
    obtain ⟨i1, i2⟩ := pgo_spec (N := N) l (tk T (nx N T p)) (by omega)
    unfold pgo
    refine ⟨List.nodup_cons.2 ⟨fun hm => ?_, i1⟩, fun x hx => ?_⟩
    · have := (i2 _ hm).2; rw [tk_same] at this; cases this
    · rcases List.mem_cons.1 hx with rfl | hx
      · exact ⟨h1.lt, h1.free⟩
      · obtain ⟨a, b⟩ := i2 x hx
        refine ⟨a, ?_⟩
        cases hT : T x with
        | false => rfl
        | true => unfold tk at b; split at b <;> simp [hT] at b

/-- Two cars, in either order: the same places are taken. -/
theorem tk_swap {N : Nat} {T : Nat → Bool} (p q : Nat) (h : tkn N T + 2 ≤ N) : tk (tk T (nx N T p)) (nx N (tk T (nx N T p)) q) = tk (tk T (nx N T q)) (nx N (tk T (nx N T q)) p) := by
  obtain ⟨a1, a2⟩ := Nx.more (N := N) (T := T) (p := p) (by omega)
  obtain ⟨b1, b2⟩ := Nx.more (N := N) (T := T) (p := q) (by omega)
  have c1 := (Nx.more (N := N) (T := tk T (nx N T p)) (p := q) (by omega)).1
  have d1 := (Nx.more (N := N) (T := tk T (nx N T q)) (p := p) (by omega)).1
  generalize nx N T p = x at *
  generalize nx N T q = y at *
  have key : ∀ {T : Nat → Bool} {p x y z : Nat}, Nx N T p x → x ≠ y → Nx N (tk T y) p z → z = x := by
    intro T p x y z h hne hz
    obtain ⟨d, h1, h2, h3, h4⟩ := h
    refine hz.uniq ⟨d, h1, h2, by rw [tk_other T hne]; exact h3, fun e he => ?_⟩
    unfold tk; split
    · rfl
    · exact h4 e he
  by_cases hxy : x = y
  · subst hxy
    have : nx N (tk T x) q = nx N (tk T x) p := by
      -- both are the first free place behind x
      have nxt : ∀ {p z : Nat}, Nx N T p x → Nx N (tk T x) p z → Nx N (tk T x) x z := by
        intro p z h hz
        obtain ⟨d, h1, h2, h3, h4⟩ := h
        obtain ⟨e, k1, k2, k3, k4⟩ := hz
        have hde : d < e := by
          rcases Nat.lt_trichotomy d e with hlt | rfl | hlt
          · exact hlt
          · rw [k2, ← h2, tk_same] at k3; cases k3
          · have := h4 e hlt
            rw [← k2] at this
            have hne : z ≠ x := by intro e'; subst e'; rw [h3] at this; cases this
            rw [tk_other T hne, this] at k3; cases k3
        have hx : ∀ c, (x + c) % N = (p + (d + c)) % N := by intro c; rw [h2, Nat.mod_add_mod, Nat.add_assoc]
        refine ⟨e - d, by omega, by rw [hx, show d + (e - d) = e by omega]; exact k2, k3, fun c hc => ?_⟩
        rw [hx]; exact k4 _ (by omega)
      exact (nxt b1 c1).uniq (nxt a1 d1)
    rw [this]
  · have e1 : nx N (tk T x) q = y := key b1 (fun e => hxy e.symm) c1
    have e2 : nx N (tk T y) p = x := key a1 hxy d1
    rw [e1, e2]
    funext j
    unfold tk
    split <;> split <;> rfl

theorem pfin_perm {N : Nat} {l m : List Nat} (hp : l.Perm m) : ∀ T, tkn N T + l.length ≤ N → pfin N l T = pfin N m T := by
  induction hp with
  | nil => intro _ _; rfl
  | cons p _ ih =>
    intro T h
    simp only [List.length_cons] at h
    unfold pfin
    exact ih _ (by have := (Nx.more (N := N) (T := T) (p := p) (by omega)).2; omega)
  | swap p q l =>
    intro T h
    simp only [List.length_cons] at h
    show pfin N l _ = pfin N l _
    rw [tk_swap q p (by omega)]
  | trans hp1 _ ih1 ih2 =>
    intro T h
    rw [ih1 T h, ih2 T (by have := hp1.length_eq; omega)]

/-- All go s places round. -/
def Turn (N s : Nat) (T S : Nat → Bool) : Prop := ∀ j, j < N → S ((j + s) % N) = T j
theorem Nx.turn {N s : Nat} {T S : Nat → Bool} (hN : 0 < N) (ht : Turn N s T S) {p x : Nat} (h : Nx N T p x) : Nx N S ((p + s) % N) ((x + s) % N) := by
  have hx := h.lt
  obtain ⟨d, h1, h2, h3, h4⟩ := h
  refine ⟨d, h1, ?_, by rw [ht _ hx]; exact h3, fun e he => ?_⟩
  · rw [h2, Nat.mod_add_mod, Nat.mod_add_mod, show p + d + s = p + s + d by omega]
  · rw [Nat.mod_add_mod, show p + s + e = (p + e) + s by omega, ← Nat.mod_add_mod, ht _ (Nat.mod_lt _ hN)]
    exact h4 e he
theorem turn_inj {N s i j : Nat} (hi : i < N) (hj : j < N) (h : (i + s) % N = (j + s) % N) : i = j := by
  have h0 : (i + s % N) % N = (j + s % N) % N := by rw [Nat.add_mod_mod, Nat.add_mod_mod]; exact h
  have hs := Nat.mod_lt s (show 0 < N by omega)
  generalize s % N = r at *
  by_cases h1 : i + r < N
  · rw [Nat.mod_eq_of_lt h1] at h0
    by_cases h2 : j + r < N
    · rw [Nat.mod_eq_of_lt h2] at h0; omega
    · rw [Nat.mod_eq_sub_mod (by omega), Nat.mod_eq_of_lt (by omega)] at h0; omega
  · rw [Nat.mod_eq_sub_mod (by omega), Nat.mod_eq_of_lt (show i + r - N < N by omega)] at h0
    by_cases h2 : j + r < N
    · rw [Nat.mod_eq_of_lt h2] at h0; omega
    · rw [Nat.mod_eq_sub_mod (show j + r ≥ N by omega), Nat.mod_eq_of_lt (show j + r - N < N by omega)] at h0; omega
theorem Turn.tk {N s x : Nat} {T S : Nat → Bool} (hx : x < N) (ht : Turn N s T S) : Turn N s (tk T x) (tk S ((x + s) % N)) := by
  intro j hj
  by_cases h : j = x
  · subst h; simp [tk_same]
  · rw [tk_other T h, tk_other S (fun e => h (turn_inj hj hx e))]; exact ht j hj
theorem pfin_turn {N s : Nat} (hN : 0 < N) : ∀ (l : List Nat) (T S : Nat → Bool), Turn N s T S → tkn N T + l.length ≤ N → Turn N s (pfin N l T) (pfin N (l.map fun p => (p + s) % N) S)
  | [], _, _, ht, _ => ht
  | p :: l, T, S, ht, h => by
    simp only [List.length_cons] at h
    obtain ⟨h1, h2⟩ := Nx.more (N := N) (T := T) (p := p) (by omega)
    have k := h1.turn hN ht
    have e : nx N S ((p + s) % N) = (nx N T p + s) % N := (Nx.of ⟨_, k.lt, k.free⟩).uniq k
    rw [List.map_cons]
    show Turn N s (pfin N l (tk T (nx N T p))) (pfin N _ (tk S (nx N S ((p + s) % N))))
    rw [e]
    exact pfin_turn hN l _ _ (ht.tk h1.lt) (by omega)

/-- f is the place that stays free. -/
def Free (l : List Nat) (f : Nat) : Prop := f < l.length + 1 ∧ pfin (l.length + 1) l none0 f = false
theorem free_ex (l : List Nat) : ∃ f, Free l f := by
  have := pfin_tkn (N := l.length + 1) l none0 (by rw [tkn_none]; omega)
  rw [tkn_none] at this
  exact free_of (T := pfin (l.length + 1) l none0) (N := l.length + 1) (by omega)
theorem Free.uniq {l : List Nat} {f g : Nat} (h : Free l f) (k : Free l g) : f = g := by
  by_cases e : f = g
  · exact e
  · have h0 := pfin_tkn (N := l.length + 1) l none0 (by rw [tkn_none]; omega)
    rw [tkn_none] at h0
    have h1 := tkn_tk (pfin (l.length + 1) l none0) f h.2 (l.length + 1)
    have h2 := tkn_tk (tk (pfin (l.length + 1) l none0) f) g (by rw [tk_other _ (fun e' => e e'.symm)]; exact k.2) (l.length + 1)
    rw [if_pos h.1] at h1
    rw [if_pos k.1] at h2
    have := tkn_le (l.length + 1) (tk (tk (pfin (l.length + 1) l none0) f) g)
    omega
/-- Nobody likes the place that stays free. -/
theorem Free.not_mem {l : List Nat} {f : Nat} (h : Free l f) : f ∉ l := by
  intro hm
  have gen : ∀ (l : List Nat) (N : Nat) (T : Nat → Bool), f < N → f ∈ l → tkn N T + l.length ≤ N → pfin N l T f = true := by
    intro l
    induction l with
    | nil => intro _ _ _ hm; cases hm
    | cons p l ih =>
      intro N T hf hm hc
      simp only [List.length_cons] at hc
      obtain ⟨h1, h2⟩ := Nx.more (N := N) (T := T) (p := p) (by omega)
      show pfin N l _ f = true
      rcases List.mem_cons.1 hm with rfl | hm
      · refine pfin_keeps l _ f ?_
        cases hT : T f with
        | true => unfold tk; split <;> simp [hT]
        | false =>
          have : Nx N T f f := ⟨0, by omega, by rw [Nat.add_zero, Nat.mod_eq_of_lt hf], hT, fun e he => absurd he (Nat.not_lt_zero _)⟩
          rw [h1.uniq this, tk_same]
      · exact ih N _ hf hm (by omega)
  have := gen l (l.length + 1) none0 h.1 hm (by rw [tkn_none]; omega)
  rw [h.2] at this; cases this
theorem Free.perm {l m : List Nat} {f : Nat} (h : Free l f) (hp : l.Perm m) : Free m f := by
  have hl := hp.length_eq
  refine ⟨by rw [← hl]; exact h.1, ?_⟩
  rw [← hl, ← pfin_perm hp none0 (by rw [tkn_none]; omega)]
  exact h.2
theorem Free.turn {l : List Nat} {f : Nat} (s : Nat) (h : Free l f) : Free (l.map fun p => (p + s) % (l.length + 1)) ((f + s) % (l.length + 1)) := by
  have hN : 0 < l.length + 1 := by omega
  refine ⟨by rw [List.length_map]; exact Nat.mod_lt _ hN, ?_⟩
  rw [List.length_map, pfin_turn hN l none0 none0 (fun j _ => rfl) (by rw [tkn_none]; omega) f h.1]
  exact h.2
theorem turn_last {n f s : Nat} (hf : f ≤ n) (hs : s ≤ n) : (f + s) % (n + 1) = n ↔ s = n - f := by
  constructor
  · intro h
    by_cases h1 : f + s < n + 1
    · rw [Nat.mod_eq_of_lt h1] at h; omega
    · rw [Nat.mod_eq_sub_mod (by omega), Nat.mod_eq_of_lt (by omega)] at h; omega
  · rintro rfl
    rw [show f + (n - f) = n by omega, Nat.mod_eq_of_lt (by omega)]

/-- With the last place free, the cars stand on all the others. -/
theorem pgo_all {l : List Nat} (h : Free l l.length) : (pgo (l.length + 1) l none0).Perm (List.range l.length) := by
  obtain ⟨h1, h2⟩ := pgo_spec (N := l.length + 1) l none0 (by rw [tkn_none]; omega)
  refine (List.perm_ext_iff_of_nodup h1 List.nodup_range).2 (fun x => ?_)
  rw [List.mem_range]
  constructor
  · intro hx
    have h3 := (h2 x hx).1
    have h4 : x ≠ l.length := by
      intro e; subst e
      have := (pfin_iff (N := l.length + 1) l none0 l.length).2 (Or.inr hx)
      rw [h.2] at this; cases this
    omega
  · intro hx
    cases hT : pfin (l.length + 1) l none0 x with
    | true =>
      rcases (pfin_iff (N := l.length + 1) l none0 x).1 hT with h3 | h3
      · cases h3
      · exact h3
    | false => exact absurd (Free.uniq h ⟨by omega, hT⟩) (by omega)
end Go.Proofs.Ytihafckdaecgkaa
