/-
  Rows of bools and of ints of the call's own (as PChk has them, under names of their own).
  Cars in a round: who takes which place, and which one stays free (POLLAK).
  The contracts of parking.areWithin, checkPlaces, Check, slices.Index of bools, inRound.
  The contract of parking.inRound.
  The contracts of parking.Park, Lucky.
  Lists of cars that go round: what Park says of them; places in order.
-/
import Derived.Test.YtlghldfolfmoeaaDoorBApp
import Derived.Test.YtlghldfolfmoeaaDoorBOwn
namespace Go.Proofs.YtlghldfolfmoeaaDoor
open Go.RowKit

theorem Tryd.infoT : (Tryd.prog.info? 4).map (fun i => (i.zero, i.size, i.bytes)) = some (some (.bool false), 1, 1) := by kernel_rfl

/-- The value v owns the bools bs. -/
def OwnsT (w : World) (base : Nat) (v : Value) (bs : List Bool) : Prop := w.ownsRow base 4 1 v bs.length (bs.map Value.bool)

def tabT (n : Nat) (f : Nat → Bool) : List Bool := (List.range n).map f
theorem tabT_length (n : Nat) (f : Nat → Bool) : (tabT n f).length = n := by simp [tabT]
theorem tabT_congr {n : Nat} {f g : Nat → Bool} (h : ∀ j, j < n → f j = g j) : tabT n f = tabT n g := List.map_congr_left (fun j hj => h j (List.mem_range.1 hj))
theorem tabT_set (n : Nat) (f : Nat → Bool) (j : Nat) (b : Bool) : (tabT n f).set j b = tabT n (fun i => if i = j then b else f i) := by
  apply List.ext_getElem
  · simp [tabT]
  · intro i h1 h2
    simp only [tabT, List.getElem_set, List.getElem_map, List.getElem_range]
    by_cases e : j = i
    · simp [e]
    · simp [e, Ne.symm e]

theorem OwnsT.at {w : World} {base g cap n : Nat} {f : Nat → Bool} (h : OwnsT w base (.slice (some ⟨g, 0, none⟩) n cap) (tabT n f)) {j : Nat} (hj : j < n) :
    w.frozen? ⟨g, j, none⟩ = false ∧ w.cell? ⟨g, j, none⟩ = some (.bool (f j)) := by
  unfold OwnsT at h
  rw [tabT_length] at h
  refine ⟨World.ownsRow.frozenAt h j, ?_⟩
  rw [World.ownsRow.cellAt h j (by omega)]
  simp [tabT, hj]
theorem OwnsT.store {w : World} {base g cap n : Nat} {f : Nat → Bool} (h : OwnsT w base (.slice (some ⟨g, 0, none⟩) n cap) (tabT n f)) (j : Nat) (b : Bool) :
    OwnsT (w.setCell ⟨g, j, none⟩ (.bool b)) base (.slice (some ⟨g, 0, none⟩) n cap) (tabT n (fun i => if i = j then b else f i)) := by
  unfold OwnsT at h ⊢
  rw [tabT_length] at h ⊢
  have h := (World.ownsRow.stored h j (.bool b)).1
  rw [← tabT_set, List.map_set]; exact h
theorem OwnsT.congr {w : World} {base n : Nat} {v : Value} {f g : Nat → Bool} (h : OwnsT w base v (tabT n f)) (he : ∀ j, j < n → f j = g j) : OwnsT w base v (tabT n g) := by rw [← tabT_congr he]; exact h

theorem ownsT_made {w : World} {base g n : Nat} (h : w.ownsRow base 4 1 (.slice (some ⟨g, 0, none⟩) n n) n (madeCells #[Value.bool false] n).toList) : OwnsT w base (.slice (some ⟨g, 0, none⟩) n n) (tabT n (fun _ => false)) := by
  unfold OwnsT
  rw [tabT_length]
  have e : (tabT n (fun _ => false)).map Value.bool = (madeCells #[Value.bool false] n).toList := by
    rw [toList_madeCells_one]
    simp only [tabT, List.map_map]
    rw [List.eq_replicate_iff]
    refine ⟨by simp, fun v hv => ?_⟩
    obtain ⟨j, _, rfl⟩ := List.mem_map.1 hv
    rfl
  rw [e]; exact h
theorem owns_mkT {w : World} {base g n : Nat} (h : w.ownsRow base 3 1 (.slice (some ⟨g, 0, none⟩) n n) n (madeCells #[Value.int .i64 0] n).toList) : Owns w base (.slice (some ⟨g, 0, none⟩) n n) (tab n (fun _ => 0)) := by
  unfold Owns
  rw [tab_length]
  have e : (tab n (fun _ => 0)).map (Value.int .i64) = (madeCells #[Value.int .i64 0] n).toList := by
    rw [toList_madeCells_one]
    simp only [tab, List.map_map]
    rw [List.eq_replicate_iff]
    refine ⟨by simp, fun v hv => ?_⟩
    obtain ⟨j, _, rfl⟩ := List.mem_map.1 hv
    rfl
  rw [e]; exact h

/-- A function with one value changed. -/
def updT (f : Nat → Int) (j : Nat) (x : Int) : Nat → Int := fun i => if i = j then x else f i
theorem tab_setT (n : Nat) (f : Nat → Int) (j : Nat) (x : Int) : (tab n f).set j x = tab n (updT f j x) := by
  apply List.ext_getElem
  · simp [tab]
  · intro i h1 h2
    simp only [tab, updT, List.getElem_set, List.getElem_map, List.getElem_range]
    by_cases e : j = i
    · simp [e]
    · simp [e, Ne.symm e]
theorem Owns.tabPut {w : World} {base g cap n : Nat} {f : Nat → Int} (h : Owns w base (.slice (some ⟨g, 0, none⟩) n cap) (tab n f)) (j : Nat) (x : Int) :
    Owns (w.setCell ⟨g, j, none⟩ (.int .i64 x)) base (.slice (some ⟨g, 0, none⟩) n cap) (tab n (updT f j x)) := by
  rw [← tab_setT]; exact h.store (tab_length n f).symm j x
theorem Owns.tabBox {w : World} {base g cap n : Nat} {f : Nat → Int} (h : Owns w base (.slice (some ⟨g, 0, none⟩) n cap) (tab n f)) {j : Nat} (hj : j < n) :
    w.frozen? ⟨g, j, none⟩ = false ∧ w.cell? ⟨g, j, none⟩ = some (.int .i64 (f j)) := by
  obtain ⟨_, h1, h2⟩ := h.at (tab_length n f).symm
  refine ⟨h1 j, ?_⟩
  rw [h2 j (by rw [tab_length]; exact hj), tab_getD n f j hj]
theorem Owns.tabSame {w : World} {base n : Nat} {v : Value} {f g : Nat → Int} (h : Owns w base v (tab n f)) (he : ∀ j, j < n → f j = g j) : Owns w base v (tab n g) := by rw [← tab_congr he]; exact h

end Go.Proofs.YtlghldfolfmoeaaDoor

namespace Go.Proofs.YtlghldfolfmoeaaDoor
open Go.RowKit

/-- The next place that is free, from p on, at most f are looked at. -/
def hop (N : Nat) (T : Nat → Bool) : Nat → Nat → Nat
  | 0, p => p % N
  | f + 1, p => if T (p % N) then hop N T f (p + 1) else p % N
def nx (N : Nat) (T : Nat → Bool) (p : Nat) : Nat := hop N T N p
def tk (T : Nat → Bool) (x : Nat) : Nat → Bool := fun j => if j = x then true else T j
def pgo (N : Nat) : List Nat → (Nat → Bool) → List Nat
  | [], _ => []
  | p :: l, T => nx N T p :: pgo N l (tk T (nx N T p))
def pfin (N : Nat) : List Nat → (Nat → Bool) → Nat → Bool
  | [], T => T
  | p :: l, T => pfin N l (tk T (nx N T p))
/-- x is the first free place from p on. -/
def Nx (N : Nat) (T : Nat → Bool) (p x : Nat) : Prop := ∃ d, d < N ∧ x = (p + d) % N ∧ T x = false ∧ ∀ e, e < d → T ((p + e) % N) = true

theorem hop_spec (N : Nat) (T : Nat → Bool) : ∀ f p, (∃ d, d < f ∧ T ((p + d) % N) = false) → ∃ d, d < f ∧ hop N T f p = (p + d) % N ∧ T ((p + d) % N) = false ∧ ∀ e, e < d → T ((p + e) % N) = true
  | 0, _, ⟨_, h, _⟩ => absurd h (Nat.not_lt_zero _)
  | f + 1, p, ⟨d, hd, hT⟩ => by
    unfold hop
    cases h : T (p % N) with
    | false => exact ⟨0, by omega, by simp, by simpa using h, fun e he => absurd he (Nat.not_lt_zero _)⟩
    | true =>
      have hd0 : d ≠ 0 := by intro e; subst e; simp [h] at hT
      obtain ⟨d', h1, h2, h3, h4⟩ := hop_spec N T f (p + 1) ⟨d - 1, by omega, by rw [show p + 1 + (d - 1) = p + d by omega]; exact hT⟩
      refine ⟨d' + 1, by omega, ?_, ?_, fun e he => ?_⟩
      · simp only [if_true]; rw [h2, show p + 1 + d' = p + (d' + 1) by omega]
      · rw [show p + (d' + 1) = p + 1 + d' by omega]; exact h3
      · rcases Nat.eq_zero_or_pos e with rfl | h0
        · simpa using h
        · have := h4 (e - 1) (by omega)
          rw [show p + 1 + (e - 1) = p + e by omega] at this; exact this

theorem round_at {N p j : Nat} (hN : 0 < N) (hj : j < N) : ∃ d, d < N ∧ (p + d) % N = j := by
  refine ⟨(j + N - p % N) % N, Nat.mod_lt _ hN, ?_⟩
  have h0 := Nat.mod_lt p hN
  rw [← Nat.mod_add_mod, ← Nat.add_mod_mod, Nat.mod_mod, Nat.add_mod_mod, show p % N + (j + N - p % N) = j + N by omega, Nat.add_mod_right, Nat.mod_eq_of_lt hj]

theorem Nx.of {N : Nat} {T : Nat → Bool} {p : Nat} (h : ∃ j, j < N ∧ T j = false) : Nx N T p (nx N T p) := by
  obtain ⟨j, hj, hT⟩ := h
  obtain ⟨d, hd, hp⟩ := round_at (p := p) (show 0 < N by omega) hj
  obtain ⟨e, h1, h2, h3, h4⟩ := hop_spec N T N p ⟨d, hd, by rw [hp]; exact hT⟩
  exact ⟨e, h1, h2, by unfold nx; rw [h2]; exact h3, h4⟩

theorem Nx.uniq {N : Nat} {T : Nat → Bool} {p x y : Nat} (h : Nx N T p x) (k : Nx N T p y) : x = y := by
  obtain ⟨d, h1, h2, h3, h4⟩ := h
  obtain ⟨e, k1, k2, k3, k4⟩ := k
  rcases Nat.lt_trichotomy d e with hlt | rfl | hlt
  · have := k4 d hlt; rw [← h2, h3] at this; cases this
  · rw [h2, k2]
  · have := h4 e hlt; rw [← k2, k3] at this; cases this

theorem Nx.lt {N : Nat} {T : Nat → Bool} {p x : Nat} (h : Nx N T p x) : x < N := by
  obtain ⟨d, h1, h2, _⟩ := h
  rw [h2]; exact Nat.mod_lt _ (by omega)
theorem Nx.free {N : Nat} {T : Nat → Bool} {p x : Nat} (h : Nx N T p x) : T x = false := by obtain ⟨d, h1, h2, h3, _⟩ := h; exact h3

theorem tk_same (T : Nat → Bool) (x : Nat) : tk T x x = true := by simp [tk]
theorem tk_other (T : Nat → Bool) {x j : Nat} (h : j ≠ x) : tk T x j = T j := by simp [tk, h]

/-- How many places are taken. -/
def tkn (N : Nat) (T : Nat → Bool) : Nat := ((List.range N).filter T).length
theorem tkn_le (N : Nat) (T : Nat → Bool) : tkn N T ≤ N := by
  have := List.length_filter_le T (List.range N)
  simpa [tkn] using this
theorem tkn_succ (N : Nat) (T : Nat → Bool) : tkn (N + 1) T = tkn N T + if T N then 1 else 0 := by
  unfold tkn
  rw [List.range_succ, List.filter_append]
  cases h : T N <;> simp [h]
theorem tkn_congr {T S : Nat → Bool} : ∀ {N : Nat}, (∀ j, j < N → T j = S j) → tkn N T = tkn N S
  | 0, _ => rfl
  | N + 1, h => by rw [tkn_succ, tkn_succ, tkn_congr (fun j hj => h j (by omega)), h N (by omega)]
theorem tkn_tk (T : Nat → Bool) (x : Nat) (hT : T x = false) : ∀ N, tkn N (tk T x) = tkn N T + if x < N then 1 else 0
  | 0 => by simp [tkn]
  | N + 1 => by
    rw [tkn_succ, tkn_succ, tkn_tk T x hT N]
    by_cases h : N = x
    · subst h; simp [tk_same, hT]
    · rw [tk_other T h]
      by_cases h2 : x < N
      · simp [h2, show x < N + 1 by omega]; omega
      · simp [h2, show ¬ x < N + 1 by omega]
theorem tkn_all {T : Nat → Bool} : ∀ {N : Nat}, (∀ j, j < N → T j = true) → tkn N T = N
  | 0, _ => rfl
  | N + 1, h => by rw [tkn_succ, tkn_all (fun j hj => h j (by omega)), h N (by omega)]; simp
theorem free_of {N : Nat} {T : Nat → Bool} (h : tkn N T < N) : ∃ j, j < N ∧ T j = false := by
  by_cases hx : ∃ j, j < N ∧ T j = false
  · exact hx
  · have := tkn_all (T := T) (N := N) (fun j hj => by
      cases h : T j with
      | true => rfl
      | false => exact absurd ⟨j, hj, h⟩ hx)
    omega
def none0 : Nat → Bool := fun _ => false
theorem tkn_none (N : Nat) : tkn N none0 = 0 := by simp [tkn, none0]

theorem Nx.more {N : Nat} {T : Nat → Bool} {p : Nat} (h : tkn N T < N) : Nx N T p (nx N T p) ∧ tkn N (tk T (nx N T p)) = tkn N T + 1 := by
  have hx := Nx.of (p := p) (free_of h)
  refine ⟨hx, ?_⟩
  rw [tkn_tk T _ hx.free, if_pos hx.lt]

theorem pfin_tkn {N : Nat} : ∀ (l : List Nat) (T : Nat → Bool), tkn N T + l.length ≤ N → tkn N (pfin N l T) = tkn N T + l.length
  | [], T, _ => rfl
  | p :: l, T, h => by
    simp only [List.length_cons] at h
    obtain ⟨_, h2⟩ := Nx.more (N := N) (T := T) (p := p) (by omega)
    unfold pfin
    rw [pfin_tkn l _ (by omega), h2, List.length_cons]; omega
theorem pfin_keeps {N : Nat} : ∀ (l : List Nat) (T : Nat → Bool) (j : Nat), T j = true → pfin N l T j = true
  | [], _, _, h => h
  | p :: l, T, j, h => pfin_keeps l _ j (by unfold tk; split <;> simp [h])
theorem pgo_length {N : Nat} : ∀ (l : List Nat) (T : Nat → Bool), (pgo N l T).length = l.length
  | [], _ => rfl
  | p :: l, T => by simp [pgo, pgo_length l]
/-- What is taken in the end was taken, or is told. -/
theorem pfin_iff {N : Nat} : ∀ (l : List Nat) (T : Nat → Bool) (j : Nat), pfin N l T j = true ↔ T j = true ∨ j ∈ pgo N l T
  | [], T, j => by simp [pfin, pgo]
  | p :: l, T, j => by
    unfold pfin pgo
    rw [pfin_iff l, List.mem_cons]
    by_cases h : j = nx N T p
    · subst h; simp [tk_same]
    · rw [tk_other T h]; simp [h]
theorem pgo_spec {N : Nat} : ∀ (l : List Nat) (T : Nat → Bool), tkn N T + l.length ≤ N → (pgo N l T).Nodup ∧ ∀ x ∈ pgo N l T, x < N ∧ T x = false
  | [], _, _ => ⟨List.nodup_nil, fun x hx => by cases hx⟩
  | p :: l, T, h => by
    simp only [List.length_cons] at h
    obtain ⟨h1, h2⟩ := Nx.more (N := N) (T := T) (p := p) (by omega)
    obtain ⟨i1, i2⟩ := pgo_spec (N := N) l (tk T (nx N T p)) (by omega)
    unfold pgo
    refine ⟨List.nodup_cons.2 ⟨fun hm => ?_, i1⟩, fun x hx => ?_⟩
    · have := (i2 _ hm).2; rw [tk_same] at this; cases this
    · rcases List.mem_cons.1 hx with rfl | hx
      · exact ⟨h1.lt, h1.free⟩
      · obtain ⟨a, b⟩ := i2 x hx
        refine ⟨a, ?_⟩
        cases hT : T x with
        | false => rfl
        | true => unfold tk at b; split at b <;> simp [hT] at b

/-- Two cars, in either order: the same places are taken. -/
theorem tk_swap {N : Nat} {T : Nat → Bool} (p q : Nat) (h : tkn N T + 2 ≤ N) : tk (tk T (nx N T p)) (nx N (tk T (nx N T p)) q) = tk (tk T (nx N T q)) (nx N (tk T (nx N T q)) p) := by
  obtain ⟨a1, a2⟩ := Nx.more (N := N) (T := T) (p := p) (by omega)
  obtain ⟨b1, b2⟩ := Nx.more (N := N) (T := T) (p := q) (by omega)
  have c1 := (Nx.more (N := N) (T := tk T (nx N T p)) (p := q) (by omega)).1
  have d1 := (Nx.more (N := N) (T := tk T (nx N T q)) (p := p) (by omega)).1
  generalize nx N T p = x at *
  generalize nx N T q = y at *
  have key : ∀ {T : Nat → Bool} {p x y z : Nat}, Nx N T p x → x ≠ y → Nx N (tk T y) p z → z = x := by
    intro T p x y z h hne hz
    obtain ⟨d, h1, h2, h3, h4⟩ := h
    refine hz.uniq ⟨d, h1, h2, by rw [tk_other T hne]; exact h3, fun e he => ?_⟩
    unfold tk; split
    · rfl
    · exact h4 e he
  by_cases hxy : x = y
  · subst hxy
    have : nx N (tk T x) q = nx N (tk T x) p := by
      -- both are the first free place behind x
      have nxt : ∀ {p z : Nat}, Nx N T p x → Nx N (tk T x) p z → Nx N (tk T x) x z := by
        intro p z h hz
        obtain ⟨d, h1, h2, h3, h4⟩ := h
        obtain ⟨e, k1, k2, k3, k4⟩ := hz
        have hde : d < e := by
          rcases Nat.lt_trichotomy d e with hlt | rfl | hlt
          · exact hlt
          · rw [k2, ← h2, tk_same] at k3; cases k3
          · have := h4 e hlt
            rw [← k2] at this
            have hne : z ≠ x := by intro e'; subst e'; rw [h3] at this; cases this
            rw [tk_other T hne, this] at k3; cases k3
        have hx : ∀ c, (x + c) % N = (p + (d + c)) % N := by intro c; rw [h2, Nat.mod_add_mod, Nat.add_assoc]
        refine ⟨e - d, by omega, by rw [hx, show d + (e - d) = e by omega]; exact k2, k3, fun c hc => ?_⟩
        rw [hx]; exact k4 _ (by omega)
      exact (nxt b1 c1).uniq (nxt a1 d1)
    rw [this]
  · have e1 : nx N (tk T x) q = y := key b1 (fun e => hxy e.symm) c1
    have e2 : nx N (tk T y) p = x := key a1 hxy d1
    rw [e1, e2]
    funext j
    unfold tk
    split <;> split <;> rfl

theorem pfin_perm {N : Nat} {l m : List Nat} (hp : l.Perm m) : ∀ T, tkn N T + l.length ≤ N → pfin N l T = pfin N m T := by
  induction hp with
  | nil => intro _ _; rfl
  | cons p _ ih =>
    intro T h
    simp only [List.length_cons] at h
    unfold pfin
    exact ih _ (by have := (Nx.more (N := N) (T := T) (p := p) (by omega)).2; omega)
  | swap p q l =>
    intro T h
    simp only [List.length_cons] at h
    show pfin N l _ = pfin N l _
    rw [tk_swap q p (by omega)]
  | trans hp1 _ ih1 ih2 =>
    intro T h
    rw [ih1 T h, ih2 T (by have := hp1.length_eq; omega)]

/-- All go s places round. -/
def Turn (N s : Nat) (T S : Nat → Bool) : Prop := ∀ j, j < N → S ((j + s) % N) = T j
theorem Nx.turn {N s : Nat} {T S : Nat → Bool} (hN : 0 < N) (ht : Turn N s T S) {p x : Nat} (h : Nx N T p x) : Nx N S ((p + s) % N) ((x + s) % N) := by
  have hx := h.lt
  obtain ⟨d, h1, h2, h3, h4⟩ := h
  refine ⟨d, h1, ?_, by rw [ht _ hx]; exact h3, fun e he => ?_⟩
  · rw [h2, Nat.mod_add_mod, Nat.mod_add_mod, show p + d + s = p + s + d by omega]
  · rw [Nat.mod_add_mod, show p + s + e = (p + e) + s by omega, ← Nat.mod_add_mod, ht _ (Nat.mod_lt _ hN)]
    exact h4 e he
theorem turn_inj {N s i j : Nat} (hi : i < N) (hj : j < N) (h : (i + s) % N = (j + s) % N) : i = j := by
  have h0 : (i + s % N) % N = (j + s % N) % N := by rw [Nat.add_mod_mod, Nat.add_mod_mod]; exact h
  have hs := Nat.mod_lt s (show 0 < N by omega)
  generalize s % N = r at *
  by_cases h1 : i + r < N
  · rw [Nat.mod_eq_of_lt h1] at h0
    by_cases h2 : j + r < N
    · rw [Nat.mod_eq_of_lt h2] at h0; omega
    · rw [Nat.mod_eq_sub_mod (by omega), Nat.mod_eq_of_lt (by omega)] at h0; omega
  · rw [Nat.mod_eq_sub_mod (by omega), Nat.mod_eq_of_lt (show i + r - N < N by omega)] at h0
    by_cases h2 : j + r < N
    · rw [Nat.mod_eq_of_lt h2] at h0; omega
    · rw [Nat.mod_eq_sub_mod (show j + r ≥ N by omega), Nat.mod_eq_of_lt (show j + r - N < N by omega)] at h0; omega
theorem Turn.tk {N s x : Nat} {T S : Nat → Bool} (hx : x < N) (ht : Turn N s T S) : Turn N s (tk T x) (tk S ((x + s) % N)) := by
  intro j hj
  by_cases h : j = x
  · subst h; simp [tk_same]
  · rw [tk_other T h, tk_other S (fun e => h (turn_inj hj hx e))]; exact ht j hj
theorem pfin_turn {N s : Nat} (hN : 0 < N) : ∀ (l : List Nat) (T S : Nat → Bool), Turn N s T S → tkn N T + l.length ≤ N → Turn N s (pfin N l T) (pfin N (l.map fun p => (p + s) % N) S)
  | [], _, _, ht, _ => ht
  | p :: l, T, S, ht, h => by
    simp only [List.length_cons] at h
    obtain ⟨h1, h2⟩ := Nx.more (N := N) (T := T) (p := p) (by omega)
    have k := h1.turn hN ht
    have e : nx N S ((p + s) % N) = (nx N T p + s) % N := (Nx.of ⟨_, k.lt, k.free⟩).uniq k
    rw [List.map_cons]
    show Turn N s (pfin N l (tk T (nx N T p))) (pfin N _ (tk S (nx N S ((p + s) % N))))
    rw [e]
    exact pfin_turn hN l _ _ (ht.tk h1.lt) (by omega)

/-- f is the place that stays free. -/
def Free (l : List Nat) (f : Nat) : Prop := f < l.length + 1 ∧ pfin (l.length + 1) l none0 f = false
theorem free_ex (l : List Nat) : ∃ f, Free l f := by
  have := pfin_tkn (N := l.length + 1) l none0 (by rw [tkn_none]; omega)
  rw [tkn_none] at this
  exact free_of (T := pfin (l.length + 1) l none0) (N := l.length + 1) (by omega)
theorem Free.uniq {l : List Nat} {f g : Nat} (h : Free l f) (k : Free l g) : f = g := by
  by_cases e : f = g
  · exact e
  · have h0 := pfin_tkn (N := l.length + 1) l none0 (by rw [tkn_none]; omega)
    rw [tkn_none] at h0
    have h1 := tkn_tk (pfin (l.length + 1) l none0) f h.2 (l.length + 1)
    have h2 := tkn_tk (tk (pfin (l.length + 1) l none0) f) g (by rw [tk_other _ (fun e' => e e'.symm)]; exact k.2) (l.length + 1)
    rw [if_pos h.1] at h1
    rw [if_pos k.1] at h2
    have := tkn_le (l.length + 1) (tk (tk (pfin (l.length + 1) l none0) f) g)
    omega
/-- Nobody likes the place that stays free. -/
theorem Free.not_mem {l : List Nat} {f : Nat} (h : Free l f) : f ∉ l := by
  intro hm
  have gen : ∀ (l : List Nat) (N : Nat) (T : Nat → Bool), f < N → f ∈ l → tkn N T + l.length ≤ N → pfin N l T f = true := by
    intro l
    induction l with
    | nil => intro _ _ _ hm; cases hm
    | cons p l ih =>
      intro N T hf hm hc
      simp only [List.length_cons] at hc
      obtain ⟨h1, h2⟩ := Nx.more (N := N) (T := T) (p := p) (by omega)
      show pfin N l _ f = true
      rcases List.mem_cons.1 hm with rfl | hm
      · refine pfin_keeps l _ f ?_
        cases hT : T f with
        | true => unfold tk; split <;> simp [hT]
        | false =>
          have : Nx N T f f := ⟨0, by omega, by rw [Nat.add_zero, Nat.mod_eq_of_lt hf], hT, fun e he => absurd he (Nat.not_lt_zero _)⟩
          rw [h1.uniq this, tk_same]
      · exact ih N _ hf hm (by omega)
  have := gen l (l.length + 1) none0 h.1 hm (by rw [tkn_none]; omega)
  rw [h.2] at this; cases this
theorem Free.perm {l m : List Nat} {f : Nat} (h : Free l f) (hp : l.Perm m) : Free m f := by
  have hl := hp.length_eq
  refine ⟨by rw [← hl]; exact h.1, ?_⟩
  rw [← hl, ← pfin_perm hp none0 (by rw [tkn_none]; omega)]
  exact h.2
theorem Free.turn {l : List Nat} {f : Nat} (s : Nat) (h : Free l f) : Free (l.map fun p => (p + s) % (l.length + 1)) ((f + s) % (l.length + 1)) := by
  have hN : 0 < l.length + 1 := by omega
  refine ⟨by rw [List.length_map]; exact Nat.mod_lt _ hN, ?_⟩
  rw [List.length_map, pfin_turn hN l none0 none0 (fun j _ => rfl) (by rw [tkn_none]; omega) f h.1]
  exact h.2
theorem turn_last {n f s : Nat} (hf : f ≤ n) (hs : s ≤ n) : (f + s) % (n + 1) = n ↔ s = n - f := by
  constructor
  · intro h
    by_cases h1 : f + s < n + 1
    · rw [Nat.mod_eq_of_lt h1] at h; omega
    · rw [Nat.mod_eq_sub_mod (by omega), Nat.mod_eq_of_lt (by omega)] at h; omega
  · rintro rfl
    rw [show f + (n - f) = n by omega, Nat.mod_eq_of_lt (by omega)]

/-- With the last place free, the cars stand on all the others. -/
theorem pgo_all {l : List Nat} (h : Free l l.length) : (pgo (l.length + 1) l none0).Perm (List.range l.length) := by
  obtain ⟨h1, h2⟩ := pgo_spec (N := l.length + 1) l none0 (by rw [tkn_none]; omega)
  refine (List.perm_ext_iff_of_nodup h1 List.nodup_range).2 (fun x => ?_)
  rw [List.mem_range]
  constructor
  · intro hx
    have h3 := (h2 x hx).1
    have h4 : x ≠ l.length := by
      intro e; subst e
      have := (pfin_iff (N := l.length + 1) l none0 l.length).2 (Or.inr hx)
      rw [h.2] at this; cases this
    omega
  · intro hx
    cases hT : pfin (l.length + 1) l none0 x with
    | true =>
      rcases (pfin_iff (N := l.length + 1) l none0 x).1 hT with h3 | h3
      · cases h3
      · exact h3
    | false => exact absurd (Free.uniq h ⟨by omega, hT⟩) (by omega)
end Go.Proofs.YtlghldfolfmoeaaDoor

namespace Go.Proofs.YtlghldfolfmoeaaDoor
open Go.RowKit

def inIv (zs : List Int) (lo hi : Int) : Bool := zs.all fun z => decide (lo ≤ z) && decide (z ≤ hi)
theorem inIv_iff {zs : List Int} {lo hi : Int} : inIv zs lo hi = true ↔ ∀ z ∈ zs, lo ≤ z ∧ z ≤ hi := by simp [inIv]
theorem inIv_no {zs : List Int} {lo hi : Int} {k : Nat} (hk : k < zs.length) (h : zs.getD k 0 < lo ∨ hi < zs.getD k 0) : inIv zs lo hi = false := by
  rw [Bool.eq_false_iff]; intro e
  have := inIv_iff.1 e _ (getD_mem hk)
  omega
theorem inIv_all {zs : List Int} {lo hi : Int} (h : ∀ j, j < zs.length → lo ≤ zs.getD j 0 ∧ zs.getD j 0 ≤ hi) : inIv zs lo hi = true := by
  rw [inIv_iff]; intro z hz
  obtain ⟨j, hj, rfl⟩ := List.mem_iff_getElem.1 hz
  have := h j hj
  rw [List.getD_eq_getElem?_getD, List.getElem?_eq_getElem hj, Option.getD_some] at this
  exact this

set_option maxHeartbeats 2000000 in
theorem areWithin_at (a : Option Addr) (n cap : Nat) (zs : List Int) (lo hi : Int) (t : Bool) (w : World) (hs : Shows w a zs) (hn : n = zs.length) (ht : inIv zs lo hi = t) :
    Calls Tryd.prog 25 #[.slice a n cap, .int .i64 lo, .int .i64 hi] w fun e w' => e = .returned (.bool t) ∧ w' = w := by
  subst hn
  have HT : Hid (inIv zs lo hi = t) := ht
  clear ht
  have hl := hs.len
  go_enter Tryd.func25, Tryd.ntmps25
  go_wp2
  go_loop [11] (fun j => ∃ k : Nat, k ≤ zs.length ∧ j = .int .i64 k ∧ Hid (∀ j, j < k → lo ≤ zs.getD j 0 ∧ zs.getD j 0 ≤ hi)) (fun j => zs.length - (intOf j).toNat)
  case atStart => exact ⟨0, Nat.zero_le _, rfl, fun j hj => by omega⟩
  case round =>
    obtain ⟨k, hk, rfl, HR⟩ := hrel
    by_cases hlt : k < zs.length
    · have hlt' : (k : Int) < (zs.length : Int) := by omega
      obtain ⟨b, off, z, rfl, HZ, -, -, hc⟩ := hs.elem hlt
      by_cases h1 : z < lo
      · have hb : decide (z < lo) = true := by simpa using h1
        have HE : Hid (t = false) := HT.out.symm.trans (inIv_no hlt (Or.inl (by rw [← HZ.out]; exact h1)))
        obtain rfl := HE.out
        clear h1
        go_wp2
        go_ret
        exact ⟨rfl, rfl⟩
      · have hb : decide (z < lo) = false := by simpa using h1
        by_cases h2 : hi < z
        · have hb2 : decide (z > hi) = true := by simpa using h2
          have HE : Hid (t = false) := HT.out.symm.trans (inIv_no hlt (Or.inr (by rw [← HZ.out]; exact h2)))
          obtain rfl := HE.out
          clear h1 h2
          go_wp2
          go_ret
          exact ⟨rfl, rfl⟩
        · have hb2 : decide (z > hi) = false := by simpa using h2
          have HE : Hid (lo ≤ z ∧ z ≤ hi) := ⟨by omega, by omega⟩
          clear h1 h2
          go_wp2
          go_round
          case rel => exact ⟨k + 1, by omega, by go_num, fun j hj => by
                        by_cases hj' : j < k
                        · exact HR.out j hj'
                        · obtain rfl : j = k := by omega
                          rw [← HZ.out]; exact HE.out⟩
          case measure => simp [intOf]; omega
    · have HE : Hid (t = true) := HT.out.symm.trans (inIv_all (fun j hj => HR.out j (by omega)))
      obtain rfl := HE.out
      go_wp2
      go_ret
      exact ⟨rfl, rfl⟩

/-- What checkPlaces answers. -/
def plC (zs : List Int) (m : Int) : Int := if 20 < zs.length then 2 else if inIv zs 1 m = true then 0 else 1
theorem plC_ok {zs : List Int} {m : Int} : plC zs m = 0 ↔ zs.length ≤ 20 ∧ ∀ z ∈ zs, 1 ≤ z ∧ z ≤ m := by
  unfold plC
  rw [← inIv_iff]
  split
  · constructor
    · intro h; cases h
    · intro h; omega
  · split
    · exact ⟨fun _ => ⟨by omega, by assumption⟩, fun _ => rfl⟩
    · constructor
      · intro h; cases h
      · rintro ⟨_, h⟩; contradiction

set_option maxHeartbeats 2000000 in
theorem checkPlaces_at (a : Option Addr) (n cap : Nat) (zs : List Int) (m c : Int) (w : World) (hs : Shows w a zs) (hn : n = zs.length) (hc : plC zs m = c) :
    Calls Tryd.prog 14 #[.slice a n cap, .int .i64 m] w fun e w' => e = .returned (.int .i64 c) ∧ w' = w := by
  subst hn
  have hl := hs.len
  by_cases h20 : 20 < zs.length
  · have hb : decide ((zs.length : Int) > 20) = true := by simp; omega
    obtain rfl : c = 2 := by rw [← hc]; unfold plC; rw [if_pos h20]
    clear h20 hc
    go_enter Tryd.func14, Tryd.ntmps14
    go_wp2
    go_ret
    exact ⟨rfl, rfl⟩
  · have hb : decide ((zs.length : Int) > 20) = false := by simp; omega
    cases ht : inIv zs 1 m with
    | true =>
      obtain rfl : c = 0 := by rw [← hc]; unfold plC; rw [if_neg h20, if_pos ht]
      have HC := areWithin_at a zs.length cap zs 1 m true w hs rfl ht
      clear h20 hc ht
      go_enter Tryd.func14, Tryd.ntmps14
      go_wp2_with fail
      refine HC.mono ?_
      rintro e w1 ⟨rfl, rfl⟩
      go_wp2
      go_ret
      exact ⟨rfl, rfl⟩
    | false =>
      obtain rfl : c = 1 := by rw [← hc]; unfold plC; rw [if_neg h20, if_neg (by rw [ht]; simp)]
      have HC := areWithin_at a zs.length cap zs 1 m false w hs rfl ht
      clear h20 hc ht
      go_enter Tryd.func14, Tryd.ntmps14
      go_wp2_with fail
      refine HC.mono ?_
      rintro e w1 ⟨rfl, rfl⟩
      go_wp2
      go_ret
      exact ⟨rfl, rfl⟩

set_option maxHeartbeats 2000000 in
theorem PkCheck_at (a : Option Addr) (n cap : Nat) (zs : List Int) (c : Int) (w : World) (hs : Shows w a zs) (hn : n = zs.length) (hc : plC zs zs.length = c) :
    Calls Tryd.prog 6 #[.slice a n cap] w fun e w' => e = .returned (.int .i64 c) ∧ w' = w := by
  subst hn
  have hl := hs.len
  have HC := checkPlaces_at a zs.length cap zs zs.length c w hs rfl hc
  go_enter Tryd.func6, Tryd.ntmps6
  go_wp2_with fail
  refine HC.mono ?_
  rintro e w1 ⟨rfl, rfl⟩
  go_wp2
  go_ret
  exact ⟨rfl, rfl⟩

set_option maxHeartbeats 2000000 in
theorem IndexB_at (g n cap f base : Nat) (T : Nat → Bool) (w : World) (ho : OwnsT w base (.slice (some ⟨g, 0, none⟩) n cap) (tabT n T)) (hn : n ≤ 1000) (hf : f < n) (hT : T f = false) (hu : ∀ j, j < f → T j = true) :
    Calls Tryd.prog 24 #[.slice (some ⟨g, 0, none⟩) n cap, .bool false] w fun e w' => e = .returned (.int .i64 (f : Int)) ∧ w' = w := by
  have HO : Hid (OwnsT w base (.slice (some ⟨g, 0, none⟩) n cap) (tabT n T)) := ho
  have HU : Hid (∀ j, j < f → T j = true) := hu
  have HF : Hid (T f = false) := hT
  clear ho hu hT
  go_enter Tryd.func24, Tryd.ntmps24
  go_wp2
  go_loop [8] (fun j => ∃ k : Nat, k ≤ f ∧ j = .int .i64 k) (fun j => f - (intOf j).toNat)
  case atStart => exact ⟨0, Nat.zero_le _, rfl⟩
  case round =>
    obtain ⟨k, hk, rfl⟩ := hrel
    have hkn : k < n := by omega
    have hlt' : (k : Int) < (n : Int) := by omega
    have hc := (HO.out.at hkn).2
    by_cases hkf : k = f
    · subst hkf
      rw [HF.out] at hc
      go_wp2
      go_ret
      exact ⟨rfl, rfl⟩
    · rw [HU.out k (by omega)] at hc
      have hk2 : k < f := by omega
      clear hkf
      go_wp2
      go_round
      case rel => exact ⟨k + 1, by omega, by go_num⟩
      case measure => simp [intOf]; omega
end Go.Proofs.YtlghldfolfmoeaaDoor

namespace Go.Proofs.YtlghldfolfmoeaaDoor
open Go.RowKit

/-- Places, from 0 on. -/
def lk (zs : List Int) : List Nat := zs.map fun z => (z - 1).toNat
theorem lk_length (zs : List Int) : (lk zs).length = zs.length := by simp [lk]
theorem lk_at {zs : List Int} {k : Nat} (hk : k < zs.length) : (lk zs)[k]? = some ((zs.getD k 0 - 1).toNat) := by
  simp [lk, List.getD, List.getElem?_eq_getElem hk]

theorem pfin_snoc (N : Nat) : ∀ (l : List Nat) (T : Nat → Bool) (p : Nat), pfin N (l ++ [p]) T = tk (pfin N l T) (nx N (pfin N l T) p)
  | [], _, _ => rfl
  | _ :: l, _, p => pfin_snoc N l _ p
theorem pgo_snoc (N : Nat) : ∀ (l : List Nat) (T : Nat → Bool) (p : Nat), pgo N (l ++ [p]) T = pgo N l T ++ [nx N (pfin N l T) p]
  | [], _, _ => rfl
  | q :: l, T, p => by
    show _ :: pgo N (l ++ [p]) _ = _ :: pgo N l _ ++ [_]
    rw [pgo_snoc N l]; rfl
theorem take_some {l : List Nat} {k p : Nat} (h : l[k]? = some p) : l.take (k + 1) = l.take k ++ [p] := by
  obtain ⟨hk, rfl⟩ := List.getElem?_eq_some_iff.1 h
  rw [List.take_succ_eq_append_getElem hk]

/-- The places that the first k have taken, from 1 on. -/
def plcs (N : Nat) (l : List Nat) : List Int := (pgo N l none0).map fun (x : Nat) => (x : Int) + 1
theorem plcs_length (N : Nat) (l : List Nat) : (plcs N l).length = l.length := by simp [plcs, pgo_length]
theorem plcs_snoc (N : Nat) (l : List Nat) (p : Nat) : plcs N (l ++ [p]) = plcs N l ++ [((nx N (pfin N l none0) p : Nat) : Int) + 1] := by simp [plcs, pgo_snoc]

theorem hop_dist {N p d d0 : Nat} (h : d ≤ d0) (h0 : d0 < N) : ((p + d0) % N + N - (p + d) % N) % N = d0 - d := by
  have e : (p + d0) % N = ((p + d) % N + (d0 - d)) % N := by rw [Nat.mod_add_mod]; congr 1; omega
  rw [e]
  have hr := Nat.mod_lt (p + d) (show 0 < N by omega)
  generalize (p + d) % N = r at *
  by_cases h1 : r + (d0 - d) < N
  · rw [Nat.mod_eq_of_lt h1, show r + (d0 - d) + N - r = (d0 - d) + N by omega, Nat.add_mod_right, Nat.mod_eq_of_lt (by omega)]
  · rw [Nat.mod_eq_sub_mod (show r + (d0 - d) ≥ N by omega), Nat.mod_eq_of_lt (show r + (d0 - d) - N < N by omega), show r + (d0 - d) - N + N - r = d0 - d by omega, Nat.mod_eq_of_lt (by omega)]

/-- A row of numbers that is filled from the front. -/
def fillz (n : Nat) (zs : List Int) : Nat → Int := fun j => if j < n then zs.getD j 0 else 0
theorem tab_fill {n : Nat} {zs : List Int} (h : zs.length = n) : tab n (fillz n zs) = zs := by
  refine ext_getD (by rw [tab_length, h]) (fun j hj => ?_)
  rw [tab_length] at hj
  rw [tab_getD n _ j hj]; unfold fillz; rw [if_pos hj]
theorem fill_snoc (n : Nat) (zs : List Int) (x : Int) : ∀ j, j < n → updT (fillz n zs) zs.length x j = fillz n (zs ++ [x]) j := by
  intro j hj
  simp only [updT, fillz, if_pos hj]
  by_cases h : j = zs.length
  · subst h; simp [List.getD]
  · rw [if_neg h]
    by_cases h2 : j < zs.length
    · simp [List.getD, List.getElem?_append_left h2]
    · simp only [List.getD, List.getElem?_eq_none (show zs.length ≤ j by omega)]
      rw [List.getElem?_eq_none (by simp; omega)]
theorem fill_nil (n : Nat) : ∀ j, j < n → (0 : Int) = fillz n [] j := fun j hj => by unfold fillz; rw [if_pos hj]; rfl

theorem OwnsT.below {w w' : World} {base : Nat} {v : Value} {bs : List Bool} (h : OwnsT w base v bs) (hb : Below w.heap.size w w') : OwnsT w' base v bs := by
  obtain ⟨h1, h2⟩ := h
  refine ⟨h1, ?_⟩
  rcases h2 with h2 | ⟨g, cap, cur, hv, hg, hh, r⟩
  · exact Or.inl h2
  · refine Or.inr ⟨g, cap, cur, hv, hg, ?_, r⟩
    rw [hb.block g (by rcases Nat.lt_or_ge g w.heap.size with h | h; exact h; rw [Array.getElem?_eq_none h] at hh; cases hh)]; exact hh
theorem OwnsT.other {w : World} {base g n cap : Nat} {bs : List Bool} (h : OwnsT w base (.slice (some ⟨g, 0, none⟩) n cap) bs) {p : Addr} {x : Value} (hne : p.block ≠ g) : OwnsT (w.setCell p x) base (.slice (some ⟨g, 0, none⟩) n cap) bs := by
  obtain ⟨h1, h2⟩ := h
  refine ⟨h1, ?_⟩
  rcases h2 with h2 | ⟨g', cap', cur, hv, hg, hh, r⟩
  · exact Or.inl h2
  · refine Or.inr ⟨g', cap', cur, hv, hg, ?_, r⟩
    simp only [Value.slice.injEq, Option.some.injEq, Addr.mk.injEq, and_true] at hv
    rw [Below.heap_setCell _ _ _ _ (by rw [← hv.1]; exact fun e => hne e.symm)]; exact hh
theorem Owns.other {w : World} {base g n cap : Nat} {zs : List Int} (h : Owns w base (.slice (some ⟨g, 0, none⟩) n cap) zs) {p : Addr} {x : Value} (hne : p.block ≠ g) : Owns (w.setCell p x) base (.slice (some ⟨g, 0, none⟩) n cap) zs := by
  obtain ⟨h1, h2⟩ := h
  refine ⟨h1, ?_⟩
  rcases h2 with h2 | ⟨g', cap', cur, hv, hg, hh, r⟩
  · exact Or.inl h2
  · refine Or.inr ⟨g', cap', cur, hv, hg, ?_, r⟩
    simp only [Value.slice.injEq, Option.some.injEq, Addr.mk.injEq, and_true] at hv
    rw [Below.heap_setCell _ _ _ _ (by rw [← hv.1]; exact fun e => hne e.symm)]; exact hh

theorem OwnsT.lt {w : World} {base g n cap : Nat} {bs : List Bool} (h : OwnsT w base (.slice (some ⟨g, 0, none⟩) n cap) bs) : base ≤ g ∧ g < w.heap.size := World.ownsRow.lt h g rfl

set_option maxHeartbeats 4000000 in
set_option maxRecDepth 100000 in
theorem inRound_at (a : Option Addr) (n cap f : Nat) (zs : List Int) (w : World) (hs : Shows w a zs) (hn : n = zs.length) (h20 : n ≤ 20) (hz : ∀ z ∈ zs, 1 ≤ z ∧ z ≤ (zs.length : Int) + 1) (hf : Free (lk zs) f) :
    Calls Tryd.prog 13 #[.slice a n cap] w fun e w' => ∃ g, e = .returned (.tuple #[.slice (some ⟨g, 0, none⟩) n n, .int .i64 ((f : Int) + 1)]) ∧ Hid (Owns w' w.heap.size (.slice (some ⟨g, 0, none⟩) n n) (plcs (zs.length + 1) (lk zs))) ∧ Hid (Below w.heap.size w w') := by
  obtain ⟨N, hN⟩ : ∃ N : Nat, N = n + 1 := ⟨_, rfl⟩
  have HN : Hid (N = n + 1) := hN
  have HNz : Hid (n = zs.length) := hn
  have HS : Hid (Shows w a zs) := hs
  have HZ0 : Hid (∀ z ∈ zs, 1 ≤ z ∧ z ≤ (zs.length : Int) + 1) := hz
  have HF : Hid (Free (lk zs) f) := hf
  have hfN : f < N := by have := hf.1; rw [lk_length] at this; omega
  have hnN : (n : Int) + 1 = (N : Int) := by omega
  have hN1 : 1 ≤ N := by omega
  have hN21 : N ≤ 21 := by omega
  clear hN hn hs hz hf
  obtain ⟨i0, hi, hz0, hz1, hz2⟩ := info_parts Tryd.infoT
  obtain ⟨i1, hj, hy0, hy1, hy2⟩ := info_parts Tryd.info3
  go_enter Tryd.func13, Tryd.ntmps13
  go_wp2_with (at_make; refine wpList_make_full _ rfl _ _ 51 rfl w.heap.size 4 i0 (.bool false) 1 Tryd.underlying51 hi hz0 hz1 _ _ _ _ N rfl rfl rfl rfl ?b1 ?b2 ?b3 ?_)
  case b1 => rw [hz2]; omega
  case b2 => unfold maxLen; omega
  case b3 => exact Nat.le_refl _
  intro w1 hown hgrow
  have HB1 : Hid (Below w.heap.size w w1) := (Below.refl _ _).grown hgrow (Nat.le_refl _) (fun k h => by cases h)
  have HO1 : Hid (OwnsT w1 w.heap.size (.slice (some ⟨w.heap.size, 0, none⟩) N N) (tabT N none0)) := ownsT_made hown
  clear hown hgrow
  go_wp2_with (at_make; refine wpList_make_full _ rfl _ _ 22 rfl w1.heap.size 3 i1 (.int .i64 0) 1 Tryd.underlying22 hj hy0 hy1 _ _ _ _ n rfl rfl rfl rfl ?b1 ?b2 ?b3 ?_)
  case b1 => rw [hy2]; omega
  case b2 => unfold maxLen; omega
  case b3 => exact Nat.le_refl _
  intro w2 hown hgrow
  obtain ⟨G, HG⟩ : ∃ G, Hid (G = w1.heap.size) := ⟨_, rfl⟩
  have HGt : Hid (w.heap.size ≠ G) := by have := HO1.out.lt.2; rw [HG.out]; exact Nat.ne_of_lt this
  have HGb : Hid (w.heap.size ≤ G) := by rw [HG.out]; exact HB1.out.size
  have HB12 : Below w1.heap.size w1 w2 := (Below.refl _ _).grown hgrow (Nat.le_refl _) (fun k h => by cases h)
  have HB2 : Hid (Below w.heap.size w w2) := HB1.out.trans (HB12.mono HB1.out.size)
  have HO2 : Hid (OwnsT w2 w.heap.size (.slice (some ⟨w.heap.size, 0, none⟩) N N) (tabT N (pfin N ((lk zs).take 0) none0))) := HO1.out.below HB12
  have HP2 : Hid (Owns w2 w.heap.size (.slice (some ⟨G, 0, none⟩) n n) (tab n (fillz n (plcs N ((lk zs).take 0))))) := by
    rw [HG.out]; exact ((owns_mkT hown).mono HB1.out.size).tabSame (fill_nil n)
  rw [← HG.out]
  clear hown hgrow HB12 HO1 HB1 hi hz0 hz1 hz2 hj hy0 hy1 hy2 i0 i1 HG
  go_wp2
  go_loopw [8, 19] (fun _ q wr => ∃ k : Nat, k ≤ n ∧ q = .int .i64 k ∧ Hid (OwnsT wr w.heap.size (.slice (some ⟨w.heap.size, 0, none⟩) N N) (tabT N (pfin N ((lk zs).take k) none0))) ∧ Hid (Owns wr w.heap.size (.slice (some ⟨G, 0, none⟩) n n) (tab n (fillz n (plcs N ((lk zs).take k))))) ∧ Hid (Below w.heap.size w wr)) (fun _ q _ => n - (intOf q).toNat)
  case atStart => exact ⟨0, Nat.zero_le _, rfl, HO2, HP2, HB2⟩
  case round =>
    clear HO2 HP2 HB2
    obtain ⟨k, hk, rfl, HO, HP, HB⟩ := hrel
    by_cases hlt : k < n
    · have hlt' : (k : Int) < (n : Int) := by omega
      obtain ⟨b, off, z, rfl, HZ, -, -, hc⟩ := (HS.out.below HB.out).elem (k := k) (by rw [← HNz.out]; exact hlt)
      have hz := HZ0.out z (by rw [HZ.out]; exact getD_mem (by rw [← HNz.out]; exact hlt))
      rw [← HNz.out] at hz
      obtain ⟨p, rfl⟩ : ∃ p : Nat, z = (p : Int) + 1 := ⟨(z - 1).toNat, by omega⟩
      have hpN : p < N := by omega
      have HPk : Hid ((lk zs)[k]? = some p) := by show _ = _; rw [lk_at (by rw [← HNz.out]; exact hlt), ← HZ.out]; congr 1; omega
      clear hz
      obtain ⟨T, HT⟩ : ∃ T, Hid (T = pfin N ((lk zs).take k) none0) := ⟨_, rfl⟩
      rw [← HT.out] at HO
      have hcnt : tkn N T < N := by
        have h1 := pfin_tkn (N := N) ((lk zs).take k) none0 (by rw [tkn_none, List.length_take, lk_length, ← HNz.out]; omega)
        rw [tkn_none, List.length_take, lk_length, ← HNz.out, ← HT.out] at h1
        have := HN.out
        omega
      obtain ⟨x, HX⟩ : ∃ x, Hid (x = nx N T p) := ⟨_, rfl⟩
      have hnx : Nx N T p x := by rw [HX.out]; exact (Nx.more hcnt).1
      have hxN := hnx.lt
      obtain ⟨d0, hd0, hxd, hTx, hTd⟩ := hnx
      have HXd : Hid (x = (p + d0) % N) := hxd
      have HTx : Hid (T x = false) := hTx
      have HTd : Hid (∀ e, e < d0 → T ((p + e) % N) = true) := hTd
      clear hcnt hxd hTx hTd
      go_wp2
      go_loopw [8] (fun q wq => ∃ d : Nat, d ≤ d0 ∧ q = .int .i64 (((p + d) % N : Nat) : Int) ∧ wq = wr) (fun q _ => (x + N - (intOf q).toNat) % N)
      case atStart => exact ⟨0, Nat.zero_le _, by rw [Nat.add_zero, Nat.mod_eq_of_lt hpN], rfl⟩
      case round =>
        obtain ⟨d, hd, rfl, rfl⟩ := hrel
        obtain ⟨q, HQ⟩ : ∃ q, Hid (q = (p + d) % N) := ⟨_, rfl⟩
        have hqN : q < N := by rw [HQ.out]; exact Nat.mod_lt _ (by omega)
        rw [← HQ.out]
        have hqN' : (q : Int) < (N : Int) := by omega
        obtain ⟨hfz, hcz⟩ := HO.out.at hqN
        by_cases hdd : d = d0
        · have HQX : Hid (q = x) := by show _ = _; rw [HQ.out, HXd.out, hdd]
          obtain rfl := HQX.out
          rw [HTx.out] at hcz
          have HOn := HO.out.store q true
          have HPn := HP.out.other (p := ⟨w.heap.size, q, none⟩) (x := .bool true) HGt.out
          obtain ⟨hkf, hkc⟩ := HPn.tabBox (j := k) hlt
          clear hdd hd
          go_wp2
          go_roundw
          case rel =>
            have hlen : (plcs N ((lk zs).take k)).length = k := by rw [plcs_length, List.length_take, lk_length, ← HNz.out]; omega
            refine ⟨k + 1, by omega, by go_num, ?_, ?_, ?_⟩
            · refine OwnsT.other (HOn.congr (fun j _ => ?_)) (fun e => HGt.out e.symm)
              rw [take_some HPk.out, pfin_snoc, ← HT.out, ← HX.out]; rfl
            · rw [take_some HPk.out, plcs_snoc, ← HT.out, ← HX.out]
              have h1 := HPn.tabPut k ((q : Int) + 1)
              refine h1.tabSame (fun j hj => ?_)
              have := fill_snoc n (plcs N ((lk zs).take k)) ((q : Int) + 1) j hj
              rw [hlen] at this
              exact this
            · exact (HB.out.setCell (Nat.le_refl _) _).setCell HGb.out _
          case measure => simp [intOf]; omega
        · have hr : Int.tmod ((q : Int) + 1) (N : Int) = (((p + (d + 1)) % N : Nat) : Int) := by
            rw [← Nat.add_assoc, ← Nat.mod_add_mod, ← HQ.out]
            exact (Int.ofNat_tmod (q + 1) N).symm
          have hN0 : (N : Int) ≠ 0 := by omega
          have hTq := HTd.out d (by omega)
          rw [← HQ.out] at hTq
          rw [hTq] at hcz
          go_wp2
          go_roundw
          case rel => exact ⟨d + 1, by omega, by first | exact rfl | trivial, by first | exact rfl | trivial⟩
          case measure =>
            show (x + N - (((p + (d + 1)) % N : Nat) : Int).toNat) % N < (x + N - ((q : Nat) : Int).toNat) % N
            rw [Int.toNat_natCast, Int.toNat_natCast, HQ.out, HXd.out, hop_dist (by omega) hd0, hop_dist (by omega) hd0]; omega
    · obtain rfl : k = n := by omega
      have HU : Hid (∀ j, j < f → pfin N ((lk zs).take k) none0 j = true) := fun j hj => by
        rw [List.take_of_length_le (by rw [lk_length, ← HNz.out]; exact Nat.le_refl _)]
        cases hT : pfin N (lk zs) none0 j with
        | true => rfl
        | false =>
          have h1 : Free (lk zs) j := ⟨by rw [lk_length, ← HNz.out]; have := HN.out; omega, by rw [lk_length, ← HNz.out, ← HN.out]; exact hT⟩
          have := h1.uniq HF.out
          omega
      have HFf : Hid (pfin N ((lk zs).take k) none0 f = false) := by
        show _ = _
        rw [List.take_of_length_le (by rw [lk_length, ← HNz.out]; exact Nat.le_refl _)]
        have := HF.out.2
        rw [lk_length, ← HNz.out, ← HN.out] at this
        exact this
      have HPe : Hid (Owns wr w.heap.size (.slice (some ⟨G, 0, none⟩) k k) (plcs (zs.length + 1) (lk zs))) := by
        have h1 := HP.out
        rw [List.take_of_length_le (by rw [lk_length, ← HNz.out]; exact Nat.le_refl _), tab_fill (by rw [plcs_length, lk_length, ← HNz.out])] at h1
        rw [← HNz.out, ← HN.out]
        exact h1
      have HC := IndexB_at w.heap.size N N f w.heap.size _ wr HO.out (by omega) hfN HFf.out HU.out
      go_wp2_with fail
      refine HC.mono ?_
      rintro e w9 ⟨rfl, rfl⟩
      go_wp2
      go_ret2
      exact ⟨_, rfl, HPe, HB⟩
end Go.Proofs.YtlghldfolfmoeaaDoor

namespace Go.Proofs.YtlghldfolfmoeaaDoor
open Go.RowKit

theorem plC_bound (zs : List Int) (m : Int) : 0 ≤ plC zs m ∧ plC zs m ≤ 2 := by unfold plC; split <;> (try split) <;> omega

set_option maxHeartbeats 2000000 in
theorem Park_ok (a : Option Addr) (n cap : Nat) (zs : List Int) (w : World) (hs : Shows w a zs) (hn : n = zs.length) (hc : plC zs zs.length = 0) (hf : Free (lk zs) zs.length) :
    Calls Tryd.prog 4 #[.slice a n cap] w fun e w' => ∃ g, e = .returned (.tuple #[.slice (some ⟨g, 0, none⟩) n n, .int .i64 0]) ∧ Hid (Owns w' w.heap.size (.slice (some ⟨g, 0, none⟩) n n) (plcs (zs.length + 1) (lk zs))) ∧ Hid (Below w.heap.size w w') := by
  subst hn
  obtain ⟨h20, hz⟩ := plC_ok.1 hc
  have HC := PkCheck_at a zs.length cap zs 0 w hs rfl hc
  have HR := inRound_at a zs.length cap zs.length zs w hs rfl h20 (fun z h => by have := hz z h; omega) hf
  clear hc hf hz
  go_enter Tryd.func4, Tryd.ntmps4
  go_wp2_with fail
  refine HC.mono ?_
  rintro e w1 ⟨rfl, rfl⟩
  go_wp2_with fail
  refine HR.mono ?_
  rintro e w2 ⟨v, rfl, HO, HB⟩
  go_wp2
  go_ret2
  exact ⟨_, rfl, HO, HB⟩

/-- What Park answers where not all find a place. -/
def pkE (zs : List Int) : Int := if plC zs zs.length = 0 then 5 else plC zs zs.length

set_option maxHeartbeats 2000000 in
theorem Park_no (a : Option Addr) (n cap : Nat) (zs : List Int) (w : World) (E : Int) (hs : Shows w a zs) (hn : n = zs.length) (hE : pkE zs = E) (hno : ¬ (plC zs zs.length = 0 ∧ Free (lk zs) zs.length)) :
    Calls Tryd.prog 4 #[.slice a n cap] w fun e w' => e = .returned (.tuple #[.slice none 0 0, .int .i64 E]) ∧ Hid (Below w.heap.size w w') := by
  subst hn
  by_cases hc : plC zs zs.length = 0
  · obtain ⟨h20, hz⟩ := plC_ok.1 hc
    obtain ⟨f, hf⟩ := free_ex (lk zs)
    have hfn : f ≠ zs.length := fun e => hno ⟨hc, e ▸ hf⟩
    have HC := PkCheck_at a zs.length cap zs 0 w hs rfl hc
    have HR := inRound_at a zs.length cap f zs w hs rfl h20 (fun z h => by have := hz z h; omega) hf
    obtain rfl : E = 5 := by rw [← hE]; unfold pkE; rw [if_pos hc]
    have hne : ((f : Int) + 1 != (zs.length : Int) + 1) = true := by rw [bne_iff_ne]; omega
    have hfl : f < zs.length + 1 := by have := hf.1; rw [lk_length] at this; exact this
    clear hc hf hz hfn hno hE
    go_enter Tryd.func4, Tryd.ntmps4
    go_wp2_with fail
    refine HC.mono ?_
    rintro e w1 ⟨rfl, rfl⟩
    go_wp2_with fail
    refine HR.mono ?_
    rintro e w2 ⟨v, rfl, HO, HB⟩
    go_wp2
    go_ret2
    exact ⟨rfl, HB⟩
  · obtain rfl : E = plC zs zs.length := by rw [← hE]; unfold pkE; rw [if_neg hc]
    obtain ⟨c, hcc⟩ : ∃ c, c = plC zs zs.length := ⟨_, rfl⟩
    have HC := PkCheck_at a zs.length cap zs c w hs rfl hcc.symm
    have hl := hs.len
    rw [← hcc] at hc ⊢
    have hb : (c != 0) = true := by rw [bne_iff_ne]; exact hc
    clear hc hcc hE hno
    go_enter Tryd.func4, Tryd.ntmps4
    go_wp2_with fail
    refine HC.mono ?_
    rintro e w1 ⟨rfl, rfl⟩
    go_wp2
    go_ret2
    exact ⟨rfl, Below.refl _ _⟩

theorem pkE_no {zs : List Int} : pkE zs ≠ 0 := by unfold pkE; split <;> omega

set_option maxHeartbeats 2000000 in
theorem Lucky_ok (a : Option Addr) (n cap f : Nat) (zs : List Int) (w : World) (hs : Shows w a zs) (hn : n = zs.length) (hc : plC zs ((zs.length : Int) + 1) = 0) (hf : Free (lk zs) f) :
    Calls Tryd.prog 11 #[.slice a n cap] w fun e w' => e = .returned (.tuple #[.int .i64 ((n - f : Nat) : Int), .int .i64 0]) ∧ Hid (Below w.heap.size w w') := by
  subst hn
  obtain ⟨h20, hz⟩ := plC_ok.1 hc
  have HC := checkPlaces_at a zs.length cap zs ((zs.length : Int) + 1) 0 w hs rfl hc
  have HR := inRound_at a zs.length cap f zs w hs rfl h20 hz hf
  have hfl : f < zs.length + 1 := by have := hf.1; rw [lk_length] at this; exact this
  have he : (zs.length : Int) + 1 - ((f : Int) + 1) = ((zs.length - f : Nat) : Int) := by omega
  clear hc hf hz
  go_enter Tryd.func11, Tryd.ntmps11
  go_wp2_with fail
  refine HC.mono ?_
  rintro e w1 ⟨rfl, rfl⟩
  go_wp2_with fail
  refine HR.mono ?_
  rintro e w2 ⟨v, rfl, HO, HB⟩
  go_wp2
  go_ret2
  exact ⟨rfl, HB⟩

set_option maxHeartbeats 2000000 in
theorem Lucky_no (a : Option Addr) (n cap : Nat) (zs : List Int) (c : Int) (w : World) (hs : Shows w a zs) (hn : n = zs.length) (hc : plC zs ((zs.length : Int) + 1) = c) (h0 : (c != 0) = true) :
    Calls Tryd.prog 11 #[.slice a n cap] w fun e w' => e = .returned (.tuple #[.int .i64 0, .int .i64 c]) ∧ w' = w := by
  subst hn
  have hl := hs.len
  have HC := checkPlaces_at a zs.length cap zs ((zs.length : Int) + 1) c w hs rfl hc
  clear hc
  go_enter Tryd.func11, Tryd.ntmps11
  go_wp2_with fail
  refine HC.mono ?_
  rintro e w1 ⟨rfl, rfl⟩
  go_wp2
  go_ret2
  exact ⟨rfl, rfl⟩
end Go.Proofs.YtlghldfolfmoeaaDoor

namespace Go.Proofs.YtlghldfolfmoeaaDoor
open Go.RowKit

/-- The list whose places have gone s round. -/
def trnL (zs : List Int) (s : Nat) : List Int := (lk zs).map fun p => (((p + s) % (zs.length + 1) : Nat) : Int) + 1
theorem trnL_length (zs : List Int) (s : Nat) : (trnL zs s).length = zs.length := by simp [trnL, lk]
theorem lk_trnL (zs : List Int) (s : Nat) : lk (trnL zs s) = (lk zs).map fun p => (p + s) % ((lk zs).length + 1) := by
  rw [lk_length]
  unfold trnL
  show List.map _ (List.map _ _) = _
  rw [List.map_map]
  refine List.map_congr_left (fun p _ => ?_)
  show ((((p + s) % (zs.length + 1) : Nat) : Int) + 1 - 1).toNat = _
  omega
theorem trnL_bd (zs : List Int) (s : Nat) : ∀ z ∈ trnL zs s, 1 ≤ z ∧ z ≤ (zs.length : Int) + 1 := by
  intro z hz
  obtain ⟨p, _, rfl⟩ := List.mem_map.1 hz
  have := Nat.mod_lt (p + s) (show 0 < zs.length + 1 by omega)
  omega
theorem mem_lk {zs : List Int} {z : Int} (h1 : 1 ≤ z) (h : z ∈ zs) {p : Nat} (hp : z = (p : Int) + 1) : p ∈ lk zs := List.mem_map.2 ⟨z, h, by omega⟩
theorem trn_yes {zs : List Int} {f s : Nat} (h20 : zs.length ≤ 20) (hf : Free (lk zs) f) (hs : s = zs.length - f) : plC (trnL zs s) (trnL zs s).length = 0 ∧ Free (lk (trnL zs s)) (trnL zs s).length := by
  have hfl := hf.1
  rw [lk_length] at hfl
  have h1 := hf.turn s
  rw [← lk_trnL, lk_length, (turn_last (by omega) (by omega)).2 hs] at h1
  rw [trnL_length]
  refine ⟨plC_ok.2 ⟨by rw [trnL_length]; exact h20, fun z hz => ?_⟩, h1⟩
  have hb := trnL_bd zs s z hz
  refine ⟨hb.1, ?_⟩
  by_cases e : z = (zs.length : Int) + 1
  · exact absurd (mem_lk hb.1 hz e) h1.not_mem
  · omega
theorem trn_no {zs : List Int} {f s : Nat} (hf : Free (lk zs) f) (hs : s ≤ zs.length) (hne : s ≠ zs.length - f) : ¬ (plC (trnL zs s) (trnL zs s).length = 0 ∧ Free (lk (trnL zs s)) (trnL zs s).length) := by
  rintro ⟨_, h⟩
  have hfl := hf.1
  rw [lk_length] at hfl
  have h1 := hf.turn s
  rw [← lk_trnL, lk_length] at h1
  rw [trnL_length] at h
  exact hne ((turn_last (by omega) hs).1 (h1.uniq h))
theorem park_perm {ms ys : List Int} (hp : ms.Perm ys) (h : plC ms ms.length = 0 ∧ Free (lk ms) ms.length) : plC ys ys.length = 0 ∧ Free (lk ys) ys.length := by
  obtain ⟨h1, h2⟩ := h
  have hl := hp.length_eq
  rw [← hl]
  obtain ⟨a, b⟩ := plC_ok.1 h1
  exact ⟨plC_ok.2 ⟨by omega, fun z hz => b z (hp.mem_iff.2 hz)⟩, h2.perm (hp.map _)⟩
theorem plcs_perm {ms : List Int} (h : Free (lk ms) ms.length) : (plcs (ms.length + 1) (lk ms)).Perm ((List.range ms.length).map fun (x : Nat) => (x : Int) + 1) := by
  have h1 : Free (lk ms) (lk ms).length := by rw [lk_length]; exact h
  have := pgo_all h1
  rw [lk_length] at this
  exact this.map _
theorem plcs_wide {ms : List Int} (h20 : ms.length ≤ 20) (h : Free (lk ms) ms.length) : ∀ z ∈ plcs (ms.length + 1) (lk ms), -9223372036854775808 ≤ z ∧ z ≤ 9223372036854775807 := by
  intro z hz
  obtain ⟨x, hx, rfl⟩ := List.mem_map.1 ((plcs_perm h).mem_iff.1 hz)
  have := List.mem_range.1 hx
  omega
def leZ : Int → Int → Bool := fun x y => decide (x ≤ y)
theorem sort_eq {l m : List Int} (h : l.Perm m) : l.mergeSort leZ = m.mergeSort leZ := by
  have t : ∀ a b c : Int, leZ a b = true → leZ b c = true → leZ a c = true := fun a b c h1 h2 => decide_eq_true (Int.le_trans (of_decide_eq_true h1) (of_decide_eq_true h2))
  have o : ∀ a b : Int, (leZ a b || leZ b a) = true := fun a b => by
    rcases Int.le_total a b with h | h <;> simp [leZ, h]
  refine List.Perm.eq_of_pairwise (le := fun a b => leZ a b = true) (fun a b _ _ h1 h2 => Int.le_antisymm (of_decide_eq_true h1) (of_decide_eq_true h2)) (List.pairwise_mergeSort t o l) (List.pairwise_mergeSort t o m) ?_
  exact ((List.mergeSort_perm l leZ).trans h).trans (List.mergeSort_perm m leZ).symm
/-- Both lists of places, in order. -/
theorem places_same {ms ys : List Int} (hp : ms.Perm ys) (h : plC ms ms.length = 0 ∧ Free (lk ms) ms.length) : (plcs (ms.length + 1) (lk ms)).mergeSort leZ = (plcs (ys.length + 1) (lk ys)).mergeSort leZ := by
  refine sort_eq ((plcs_perm h.2).trans ?_)
  rw [hp.length_eq]
  exact (plcs_perm (park_perm hp h).2).symm

/-- Two change places. -/
def swp (l : List Int) (i j : Nat) : List Int := (l.set i (l.getD j 0)).set j (l.getD i 0)
theorem swp_perm {l : List Int} {i j : Nat} (hi : i < l.length) (hj : j < l.length) : l.Perm (swp l i j) := by
  have e : swp l i j = (l.set i l[j]).set j l[i] := by
    unfold swp
    simp [List.getD, List.getElem?_eq_getElem hi, List.getElem?_eq_getElem hj]
  rw [e]
  have h := (Array.swap_perm (xs := l.toArray) (i := i) (j := j) (by simpa using hi) (by simpa using hj)).toList
  simp only [Array.swap, Array.toList_set, List.getElem_toArray] at h
  exact h.symm
theorem swp_length (l : List Int) (i j : Nat) : (swp l i j).length = l.length := by simp [swp]
end Go.Proofs.YtlghldfolfmoeaaDoor
