/-
  Sums of the first n values of a function; permutations as lists of numbers: plain facts.
  slices.Index, slices.Contains of numbers; lists of n numbers that have all from 1 to n (split off QPerm).
-/
import Derived.Test.YtgcpconlmihilaaGreatDoorTTab
namespace Go.Proofs.YtgcpconlmihilaaGreatDoor

/-- f 0 + .. + f (n - 1). -/
def S : Nat → (Nat → Nat) → Nat
  | 0, _ => 0
  | n + 1, f => S n f + f n

theorem S_congr : ∀ {n : Nat} {f g : Nat → Nat}, (∀ i, i < n → f i = g i) → S n f = S n g := by
  intro n
  induction n with
  | zero => intro _ _ _; rfl
  | succ n ih => intro f g h; rw [S, S, ih (fun i hi => h i (by omega)), h n (by omega)]
theorem S_add : ∀ (n : Nat) (f g : Nat → Nat), S n (fun i => f i + g i) = S n f + S n g := by
  intro n
  induction n with
  | zero => intro _ _; rfl
  | succ n ih => intro f g; simp only [S, ih]; omega
theorem S_zero : ∀ (n : Nat), S n (fun _ => 0) = 0 := by
  intro n; induction n with
  | zero => rfl
  | succ n ih => rw [S, ih]
theorem S_one : ∀ (n : Nat), S n (fun _ => 1) = n := by
  intro n; induction n with
  | zero => rfl
  | succ n ih => rw [S, ih]
theorem S_swap : ∀ (n m : Nat) (f : Nat → Nat → Nat), S n (fun i => S m (fun j => f i j)) = S m (fun j => S n (fun i => f i j)) := by
  intro n
  induction n with
  | zero => intro m f; simp only [S]; rw [S_zero]
  | succ n ih => intro m f; simp only [S, S_add, ih]
theorem S_le : ∀ {n : Nat} {f g : Nat → Nat}, (∀ i, i < n → f i ≤ g i) → S n f ≤ S n g := by
  intro n
  induction n with
  | zero => intro _ _ _; exact Nat.le_refl _
  | succ n ih => intro f g h; have := ih (fun i hi => h i (by omega)); have := h n (by omega); simp only [S]; omega

/-- 1 where it is so, else 0. -/
def ind (p : Prop) [Decidable p] : Nat := if p then 1 else 0
theorem ind_pos {p : Prop} [Decidable p] (h : p) : ind p = 1 := if_pos h
theorem ind_neg {p : Prop} [Decidable p] (h : ¬ p) : ind p = 0 := if_neg h
theorem ind_le (p : Prop) [Decidable p] : ind p ≤ 1 := by unfold ind; split <;> omega
theorem ind_iff {p q : Prop} [Decidable p] [Decidable q] (h : p ↔ q) : ind p = ind q := by
  by_cases hp : p
  · rw [ind_pos hp, ind_pos (h.1 hp)]
  · rw [ind_neg hp, ind_neg (fun hq => hp (h.2 hq))]

theorem S_none {n : Nat} {p : Nat → Prop} [DecidablePred p] (h : ∀ i, i < n → ¬ p i) : S n (fun i => ind (p i)) = 0 := by
  rw [S_congr (g := fun _ => 0) (fun i hi => ind_neg (h i hi)), S_zero]
/-- Just one place has it. -/
theorem S_just : ∀ {n k : Nat} {p : Nat → Prop} [DecidablePred p], k < n → p k → (∀ i, i < n → p i → i = k) → S n (fun i => ind (p i)) = 1 := by
  intro n
  induction n with
  | zero => intro k p _ h; omega
  | succ n ih =>
    intro k p _ hk hp hu
    rw [S]
    by_cases e : k = n
    · subst e
      rw [S_none (fun i hi hpi => by have := hu i (by omega) hpi; omega), ind_pos hp]
    · rw [ih (by omega) hp (fun i hi => hu i (by omega)), ind_neg (fun h => e (hu n (by omega) h).symm)]

theorem S_below {n i : Nat} (h : i ≤ n) : S n (fun t => ind (t < i)) = i := by
  induction n with
  | zero => simp [S]; omega
  | succ n ih =>
    rw [S]
    by_cases e : i = n + 1
    · subst e
      rw [S_congr (g := fun _ => 1) (fun t ht => ind_pos (by omega)), S_one, ind_pos (by omega)]
    · rw [ih (by omega), ind_neg (by omega)]; rfl

/-- A sum up to n of what is 0 from k on. -/
theorem S_cut : ∀ {n k : Nat} {f : Nat → Nat}, k ≤ n → (∀ i, k ≤ i → i < n → f i = 0) → S n f = S k f := by
  intro n
  induction n with
  | zero => intro k f h _; have : k = 0 := by omega
            subst this; rfl
  | succ n ih =>
    intro k f h h0
    by_cases e : k = n + 1
    · subst e; rfl
    · rw [S, ih (by omega) (fun i h1 h2 => h0 i h1 (by omega)), h0 n (by omega) (by omega)]; omega

/-- A count over a list, as a sum over its places. -/
theorem count_S : ∀ (l : List Int) (p : Int → Bool) (i : Nat), i ≤ l.length → (l.take i).countP p = S i (fun j => ind (p (l.getD j 0) = true)) := by
  intro l p i
  induction i with
  | zero => intro _; simp [S]
  | succ i ih =>
    intro h
    have e : l.take (i + 1) = l.take i ++ [l.getD i 0] := by
      rw [List.take_add_one, List.getD_eq_getElem?_getD, List.getElem?_eq_getElem (by omega)]; rfl
    rw [e, List.countP_append, ih (by omega), S, List.countP_cons]
    simp [ind]

/-- A permutation: the numbers 1 to n, each once; at most 40. -/
structure IsPerm (zs : List Int) : Prop where
  len : zs.length ≤ 40
  low : ∀ z ∈ zs, 1 ≤ z
  high : ∀ z ∈ zs, z ≤ zs.length
  once : zs.Nodup

theorem pmem {l : List Int} {j : Nat} (h : j < l.length) : l.getD j 0 ∈ l := by
  rw [List.getD_eq_getElem?_getD, List.getElem?_eq_getElem h]; simp

theorem IsPerm.bounds {zs : List Int} (h : IsPerm zs) {j : Nat} (hj : j < zs.length) : 1 ≤ zs.getD j 0 ∧ zs.getD j 0 ≤ zs.length := ⟨h.low _ (pmem hj), h.high _ (pmem hj)⟩

theorem nodup_inj {l : List Int} (h : l.Nodup) {i j : Nat} (hi : i < l.length) (hj : j < l.length) (e : l.getD i 0 = l.getD j 0) : i = j := by
  rw [List.getD_eq_getElem?_getD, List.getD_eq_getElem?_getD, List.getElem?_eq_getElem hi, List.getElem?_eq_getElem hj] at e
  have hp := List.pairwise_iff_getElem.1 h
  simp only [Option.getD_some] at e
  rcases Nat.lt_trichotomy i j with hl | he | hl
  · exact absurd e (hp i j hi hj hl)
  · exact he
  · exact absurd e.symm (hp j i hj hi hl)

theorem IsPerm.inj {zs : List Int} (h : IsPerm zs) {i j : Nat} (hi : i < zs.length) (hj : j < zs.length) (e : zs.getD i 0 = zs.getD j 0) : i = j := nodup_inj h.once hi hj e

/-- How often the numbers 1 to n stand in a list of such: as many as it is long. -/
theorem S_counts (n : Nat) : ∀ (l : List Int), (∀ z ∈ l, 1 ≤ z ∧ z ≤ n) → S n (fun v => l.countP (fun z => decide (z = (v : Int) + 1))) = l.length := by
  intro l
  induction l with
  | nil => intro _; exact S_zero n
  | cons y l ih =>
    intro h
    have hy := h y (by simp)
    have e : ∀ v, v < n → (y :: l).countP (fun z => decide (z = (v : Int) + 1)) = l.countP (fun z => decide (z = (v : Int) + 1)) + ind (y = (v : Int) + 1) := by
      intro v _; rw [List.countP_cons]; simp [ind]
    rw [S_congr e, S_add, ih (fun z hz => h z (by simp [hz])), S_just (k := (y - 1).toNat) (by omega) (by omega) (fun i _ hi => by omega)]
    rfl

theorem nodup_count {l : List Int} (h : l.Nodup) (a : Int) : l.countP (fun z => decide (z = a)) ≤ 1 := by
  induction l with
  | nil => simp
  | cons y l ih =>
    rw [List.nodup_cons] at h
    rw [List.countP_cons]
    by_cases e : y = a
    · subst e
      have : l.countP (fun z => decide (z = y)) = 0 := by
        rw [List.countP_eq_zero]; intro z hz; simp; intro e; subst e; exact h.1 hz
      simp [this]
    · have := ih h.2; simp [e, this]

/-- Pigeons: a list of n different numbers from 1 to n has them all. -/
theorem IsPerm.all {zs : List Int} (h : IsPerm zs) {v : Int} (h1 : 1 ≤ v) (h2 : v ≤ zs.length) : v ∈ zs := by
  have hs := S_counts zs.length zs (fun z hz => ⟨h.low z hz, h.high z hz⟩)
  have hle : ∀ n, n ≤ zs.length → S n (fun v => zs.countP (fun z => decide (z = (v : Int) + 1))) ≤ n := by
    intro n _
    have := S_le (n := n) (f := fun v => zs.countP (fun z => decide (z = (v : Int) + 1))) (g := fun _ => 1) (fun i _ => nodup_count h.once _)
    rw [S_one] at this; exact this
  have key : ∀ n, n ≤ zs.length → ∀ m, m ≤ n → S n (fun v => zs.countP (fun z => decide (z = (v : Int) + 1))) ≤ S m (fun v => zs.countP (fun z => decide (z = (v : Int) + 1))) + (n - m) := by
    intro n hn
    induction n with
    | zero => intro m hm; have : m = 0 := by omega
              subst this; simp
    | succ n ih =>
      intro m hm
      by_cases e : m = n + 1
      · subst e; simp
      · have := ih (by omega) m (by omega)
        have := nodup_count h.once ((n : Int) + 1)
        simp only [S]; omega
  obtain ⟨k, hk⟩ : ∃ k : Nat, v = (k : Int) + 1 := ⟨(v - 1).toNat, by omega⟩
  have hk1 : k + 1 ≤ zs.length := by omega
  have h3 := key zs.length (Nat.le_refl _) (k + 1) hk1
  have h4 := hle k (by omega)
  have h5 : S (k + 1) (fun v => zs.countP (fun z => decide (z = (v : Int) + 1))) = S k (fun v => zs.countP (fun z => decide (z = (v : Int) + 1))) + zs.countP (fun z => decide (z = (k : Int) + 1)) := rfl
  have h6 : 0 < zs.countP (fun z => decide (z = (k : Int) + 1)) := by omega
  obtain ⟨z, hz, hz2⟩ := List.countP_pos_iff.1 h6
  have : z = v := by rw [hk]; simpa using hz2
  rw [← this]; exact hz

theorem IsPerm.place {zs : List Int} (h : IsPerm zs) {v : Nat} (hv : v < zs.length) : ∃ j, j < zs.length ∧ zs.getD j 0 = (v : Int) + 1 := by
  obtain ⟨j, hj, he⟩ := List.mem_iff_getElem.1 (h.all (v := (v : Int) + 1) (by omega) (by omega))
  exact ⟨j, hj, by rw [List.getD_eq_getElem?_getD, List.getElem?_eq_getElem hj, he]; rfl⟩

/-- What Check says. -/
def okPerm (zs : List Int) : Bool := decide ((∀ z ∈ zs, 1 ≤ z ∧ z ≤ zs.length) ∧ zs.Nodup)
def pchk (zs : List Int) : Int := if 40 < zs.length then 2 else if okPerm zs = true then 0 else 1

theorem pchk_ok {zs : List Int} : pchk zs = 0 ↔ IsPerm zs := by
  unfold pchk okPerm
  constructor
  · intro h
    by_cases h1 : 40 < zs.length
    · rw [if_pos h1] at h; omega
    · rw [if_neg h1] at h
      split at h
      · rename_i h2
        simp only [decide_eq_true_eq] at h2
        exact ⟨by omega, fun z hz => (h2.1 z hz).1, fun z hz => (h2.1 z hz).2, h2.2⟩
      · omega
  · intro h
    have := h.len
    rw [if_neg (by omega), if_pos (by simp only [decide_eq_true_eq]; exact ⟨fun z hz => ⟨h.low z hz, h.high z hz⟩, h.once⟩)]

end Go.Proofs.YtgcpconlmihilaaGreatDoor

namespace Go.Proofs.YtgcpconlmihilaaGreatDoor
open Go.RowKit

theorem nodup_of_counts : ∀ {l : List Int}, (∀ a, l.countP (fun z => decide (z = a)) ≤ 1) → l.Nodup := by
  intro l
  induction l with
  | nil => intro _; simp
  | cons y l ih =>
    intro h
    rw [List.nodup_cons]
    refine ⟨?_, ih (fun a => ?_)⟩
    · intro hy
      have h1 := h y
      rw [List.countP_cons] at h1
      have : 0 < l.countP (fun z => decide (z = y)) := List.countP_pos_iff.2 ⟨y, hy, by simp⟩
      rw [if_pos (by simp)] at h1
      omega
    · have := h a
      rw [List.countP_cons] at this
      omega

/-- A list of n numbers from 1 to n that has them all has none twice. -/
theorem perm_of_all {l : List Int} (h40 : l.length ≤ 40) (hb : ∀ z ∈ l, 1 ≤ z ∧ z ≤ l.length) (ha : ∀ v : Nat, v < l.length → (v : Int) + 1 ∈ l) : IsPerm l := by
  refine ⟨h40, fun z hz => (hb z hz).1, fun z hz => (hb z hz).2, nodup_of_counts ?_⟩
  have hs := S_counts l.length l hb
  have hge : ∀ v, v < l.length → 1 ≤ l.countP (fun z => decide (z = (v : Int) + 1)) := fun v hv => List.countP_pos_iff.2 ⟨_, ha v hv, by simp⟩
  have key : ∀ n, n ≤ l.length → ∀ m, m < n → S n (fun v => l.countP (fun z => decide (z = (v : Int) + 1))) + 1 ≥ n + l.countP (fun z => decide (z = (m : Int) + 1)) := by
    intro n
    induction n with
    | zero => intro _ m hm; omega
    | succ n ih =>
      intro hn m hm
      rw [S]
      by_cases e : m = n
      · subst e
        have : m ≤ S m (fun v => l.countP (fun z => decide (z = (v : Int) + 1))) := by
          have := S_le (n := m) (f := fun _ => 1) (g := fun v => l.countP (fun z => decide (z = (v : Int) + 1))) (fun i hi => hge i (by omega))
          rw [S_one] at this; exact this
        omega
      · have := ih (by omega) m (by omega)
        have := hge n (by omega)
        omega
  intro a
  by_cases h : 1 ≤ a ∧ a ≤ l.length
  · have := key l.length (Nat.le_refl _) (a - 1).toNat (by omega)
    rw [hs, show (((a - 1).toNat : Nat) : Int) + 1 = a by omega] at this
    omega
  · have : l.countP (fun z => decide (z = a)) = 0 := by
      rw [List.countP_eq_zero]; intro z hz; simp; intro e; subst e; exact h (hb z hz)
    omega

theorem first_time {q : Nat → Prop} : ∀ m, q m → ∃ k, k ≤ m ∧ q k ∧ ∀ j, j < k → ¬ q j := by
  intro m
  induction m using Nat.strongRecOn with
  | _ m ih =>
    intro hm
    by_cases h : ∃ j, j < m ∧ q j
    · obtain ⟨j, hj, hq⟩ := h
      obtain ⟨k, h1, h2, h3⟩ := ih j hj hq
      exact ⟨k, by omega, h2, h3⟩
    · exact ⟨m, Nat.le_refl m, hm, fun j hj hq => h ⟨j, hj, hq⟩⟩

/-- The first place of a number, -1 if there is none. -/
def IdxR (zs : List Int) (x : Int) (i : Int) : Prop := (i = -1 ∧ x ∉ zs) ∨ ∃ k : Nat, i = (k : Int) ∧ k < zs.length ∧ zs.getD k 0 = x ∧ ∀ j, j < k → zs.getD j 0 ≠ x

theorem IdxR.uniq {zs : List Int} {x i j : Int} (h : IdxR zs x i) (h2 : IdxR zs x j) : i = j := by
  rcases h with ⟨h1, h3⟩ | ⟨k, rfl, hk, hk1, hk2⟩
  · rcases h2 with ⟨h4, _⟩ | ⟨m, rfl, hm, hm1, _⟩
    · omega
    · exact absurd (hm1 ▸ getD_mem hm) h3
  · rcases h2 with ⟨_, h3⟩ | ⟨m, rfl, hm, hm1, hm2⟩
    · exact absurd (hk1 ▸ getD_mem hk) h3
    · rcases Nat.lt_trichotomy k m with h | h | h
      · exact absurd hk1 (hm2 k h)
      · omega
      · exact absurd hm1 (hk2 m h)

set_option maxHeartbeats 2000000 in
theorem Index_any (a : Option Addr) (cap : Nat) (zs : List Int) (x : Int) (i : Int) (w : World) (hs : Shows w a zs) (hi : IdxR zs x i) :
    Calls Tryz.prog 67 #[.slice a zs.length cap, .int .i64 x] w fun e w' => e = .returned (.int .i64 i) ∧ w' = w := by
  have hl := hs.len
  have HI : Hid (IdxR zs x i) := hi
  clear hi
  go_enter Tryz.func67, Tryz.ntmps67
  go_wp2
  go_loop [8] (fun j => ∃ k : Nat, k ≤ zs.length ∧ j = .int .i64 k ∧ Hid (∀ j, j < k → zs.getD j 0 ≠ x)) (fun j => zs.length - (intOf j).toNat)
  case atStart => exact ⟨0, Nat.zero_le _, rfl, fun j hj => by omega⟩
  case round =>
    obtain ⟨k, hk, rfl, HR⟩ := hrel
    by_cases hlt : k < zs.length
    · have hlt' : (k : Int) < (zs.length : Int) := by omega
      obtain ⟨b, off, z, rfl, HZ, -, -, hc⟩ := hs.elem hlt
      by_cases hxz : x = z
      · have hb : (x == z) = true := by simpa using hxz
        have HE : Hid (i = (k : Int)) := HI.out.uniq (Or.inr ⟨k, rfl, hlt, by rw [← HZ.out, hxz], HR.out⟩)
        obtain rfl := HE.out
        clear hxz
        go_wp2
        go_ret
        exact ⟨rfl, rfl⟩
      · have hb : (x == z) = false := beq_eq_false_iff_ne.2 hxz
        have HE : Hid (z ≠ x) := fun e => hxz e.symm
        clear hxz
        go_wp2
        go_round
        case rel => exact ⟨k + 1, by omega, by go_num, fun j hj => by
                      by_cases hj' : j < k
                      · exact HR.out j hj'
                      · obtain rfl : j = k := by omega
                        rw [← HZ.out]; exact HE.out⟩
        case measure => simp [intOf]; omega
    · have HE : Hid (i = -1) := HI.out.uniq (Or.inl ⟨rfl, fun hm => by
        obtain ⟨j, hj, he⟩ := List.mem_iff_getElem.1 hm
        have := HR.out j (by omega)
        rw [List.getD_eq_getElem?_getD, List.getElem?_eq_getElem hj, Option.getD_some] at this
        exact this he⟩)
      obtain rfl := HE.out
      go_wp2
      go_ret
      exact ⟨rfl, rfl⟩

theorem IdxR_ex (zs : List Int) (x : Int) : ∃ i, IdxR zs x i := by
  by_cases h : x ∈ zs
  · obtain ⟨j, hj, he⟩ := List.mem_iff_getElem.1 h
    have hjd : zs.getD j 0 = x := by rw [List.getD_eq_getElem?_getD, List.getElem?_eq_getElem hj, Option.getD_some, he]
    obtain ⟨k, hk, h1, h2⟩ := first_time (q := fun j => j < zs.length ∧ zs.getD j 0 = x) j ⟨hj, hjd⟩
    exact ⟨k, Or.inr ⟨k, rfl, h1.1, h1.2, fun j hj hx => h2 j hj ⟨by omega, hx⟩⟩⟩
  · exact ⟨-1, Or.inl ⟨rfl, h⟩⟩

set_option maxHeartbeats 2000000 in
theorem Contains_any (a : Option Addr) (cap : Nat) (zs : List Int) (x : Int) (w : World) (hs : Shows w a zs) :
    Calls Tryz.prog 48 #[.slice a zs.length cap, .int .i64 x] w fun e w' => e = .returned (.bool (decide (x ∈ zs))) ∧ w' = w := by
  obtain ⟨i, hi⟩ := IdxR_ex zs x
  have HI : Hid (IdxR zs x i) := hi
  have HD : Hid (decide (i ≥ 0) = decide (x ∈ zs)) := by
    show _ = _
    apply decide_eq_decide.2
    rcases hi with ⟨h1, h3⟩ | ⟨k, rfl, hk, hk1, hk2⟩
    · exact ⟨fun h => by omega, fun h => absurd h h3⟩
    · exact ⟨fun _ => hk1 ▸ getD_mem hk, fun _ => by omega⟩
  clear hi
  go_enter Tryz.func48, Tryz.ntmps48
  go_wp2_with fail
  refine (Index_any _ _ zs x i _ hs HI.out).mono ?_
  rintro e w' ⟨rfl, rfl⟩
  go_wp2_with fail
  go_ret
  exact ⟨ret_bool (by first | exact HD.out | simpa using HD.out), rfl⟩

/-- A list of n numbers that has 1 to n has no others. -/
theorem S_counts_le (n : Nat) : ∀ (l : List Int), S n (fun v => l.countP (fun z => decide (z = (v : Int) + 1))) = l.countP (fun z : Int => decide (1 ≤ z ∧ z ≤ n)) := by
  intro l
  induction l with
  | nil => exact S_zero n
  | cons y l ih =>
    have e : ∀ v, v < n → (y :: l).countP (fun z => decide (z = (v : Int) + 1)) = l.countP (fun z => decide (z = (v : Int) + 1)) + ind (y = (v : Int) + 1) := by
      intro v _; rw [List.countP_cons]; simp [ind]
    rw [S_congr e, S_add, ih, List.countP_cons]
    congr 1
    by_cases h : 1 ≤ y ∧ y ≤ n
    · rw [S_just (k := (y - 1).toNat) (by omega) (by omega) (fun i _ hi => by omega)]; simp [h]
    · rw [S_none (fun i hi hy => h (by omega))]; simp only [decide_eq_true_eq]; rw [if_neg h]
theorem okPerm_iff {zs : List Int} (h40 : zs.length ≤ 40) : okPerm zs = true ↔ ∀ v : Nat, v < zs.length → (v : Int) + 1 ∈ zs := by
  constructor
  · intro h v hv
    have hp : IsPerm zs := pchk_ok.1 (by unfold pchk; rw [if_neg (by omega), if_pos h])
    exact hp.all (by omega) (by omega)
  · intro h
    have hs := S_counts_le zs.length zs
    have hge : zs.length ≤ S zs.length (fun v => zs.countP (fun z => decide (z = (v : Int) + 1))) := by
      have := S_le (n := zs.length) (f := fun _ => 1) (g := fun v => zs.countP (fun z => decide (z = (v : Int) + 1))) (fun v hv => List.countP_pos_iff.2 ⟨_, h v hv, by simp⟩)
      rw [S_one] at this; exact this
    have hle : zs.countP (fun z : Int => decide (1 ≤ z ∧ z ≤ (zs.length : Nat))) ≤ zs.length := List.countP_le_length
    have hall : ∀ z ∈ zs, 1 ≤ z ∧ z ≤ zs.length := by
      have : zs.countP (fun z : Int => decide (1 ≤ z ∧ z ≤ (zs.length : Nat))) = zs.length := by omega
      intro z hz
      have := List.countP_eq_length.1 this z hz
      simpa using this
    have hp := perm_of_all h40 hall h
    have := pchk_ok.2 hp
    unfold pchk at this
    rw [if_neg (by omega)] at this
    by_cases hb : okPerm zs = true
    · exact hb
    · rw [if_neg hb] at this; omega


end Go.Proofs.YtgcpconlmihilaaGreatDoor
