/-
  slices.Index, slices.Contains of numbers; lists of n numbers that have all from 1 to n (split off QPerm).
-/
import Derived.Test.YtihafckdaecgkaaBApp
import Derived.Test.YtihafckdaecgkaaPMath
namespace Go.Proofs.Ytihafckdaecgkaa
open Go.RowKit

theorem nodup_of_counts : ∀ {l : List Int}, (∀ a, l.countP (fun z => decide (z = a)) ≤ 1) → l.Nodup := by
  intro l
  induction l with
  | nil => intro _; simp
  | cons y l ih =>
    intro h
    rw [List.nodup_cons]
    refine ⟨?_, ih (fun a => ?_)⟩
    · intro hy
      have h1 := h y
      rw [List.countP_cons] at h1
      have : 0 < l.countP (fun z => decide (z = y)) := List.countP_pos_iff.2 ⟨y, hy, by simp⟩
      rw [if_pos (by simp)] at h1
      omega
    · have := h a
      rw [List.countP_cons] at this
      omega

/-- A list of n numbers from 1 to n that has them all has none twice. -/
theorem perm_of_all {l : List Int} (h40 : l.length ≤ 40) (hb : ∀ z ∈ l, 1 ≤ z ∧ z ≤ l.length) (ha : ∀ v : Nat, v < l.length → (v : Int) + 1 ∈ l) : IsPerm l := by
  refine ⟨h40, fun z hz => (hb z hz).1, fun z hz => (hb z hz).2, nodup_of_counts ?_⟩
  have hs := S_counts l.length l hb
  have hge : ∀ v, v < l.length → 1 ≤ l.countP (fun z => decide (z = (v : Int) + 1)) := fun v hv => List.countP_pos_iff.2 ⟨_, ha v hv, by simp⟩
  have key : ∀ n, n ≤ l.length → ∀ m, m < n → S n (fun v => l.countP (fun z => decide (z = (v : Int) + 1))) + 1 ≥ n + l.countP (fun z => decide (z = (m : Int) + 1)) := by
    intro n
    induction n with
    | zero => intro _ m hm; omega
    | succ n ih =>
      intro hn m hm
      rw [S]
      by_cases e : m = n
      · subst e
        have : m ≤ S m (fun v => l.countP (fun z => decide (z = (v : Int) + 1))) := by
          have := S_le (n := m) (f := fun _ => 1) (g := fun v => l.countP (fun z => decide (z = (v : Int) + 1))) (fun i hi => hge i (by omega))
          rw [S_one] at this; exact this
        omega
      · have := ih (by omega) m (by omega)
        have := hge n (by omega)
        omega
  intro a
  by_cases h : 1 ≤ a ∧ a ≤ l.length
  · have := key l.length (Nat.le_refl _) (a - 1).toNat (by omega)
    rw [hs, show (((a - 1).toNat : Nat) : Int) + 1 = a by omega] at this
    omega
  · have : l.countP (fun z => decide (z = a)) = 0 := by
      rw [List.countP_eq_zero]; intro z hz; simp; intro e; subst e; exact h (hb z hz)
    omega

theorem first_time {q : Nat → Prop} : ∀ m, q m → ∃ k, k ≤ m ∧ q k ∧ ∀ j, j < k → ¬ q j := by
  intro m
  induction m using Nat.strongRecOn with
  | _ m ih =>
    intro hm
    by_cases h : ∃ j, j < m ∧ q j
    · obtain ⟨j, hj, hq⟩ := h
      obtain ⟨k, h1, h2, h3⟩ := ih j hj hq
      exact ⟨k, by omega, h2, h3⟩
    · exact ⟨m, Nat.le_refl m, hm, fun j hj hq => h ⟨j, hj, hq⟩⟩

/-- The first place of a number, -1 if there is none. -/
def IdxR (zs : List Int) (x : Int) (i : Int) : Prop := (i = -1 ∧ x ∉ zs) ∨ ∃ k : Nat, i = (k : Int) ∧ k < zs.length ∧ zs.getD k 0 = x ∧ ∀ j, j < k → zs.getD j 0 ≠ x

theorem IdxR.uniq {zs : List Int} {x i j : Int} (h : IdxR zs x i) (h2 : IdxR zs x j) : i = j := by
  rcases h with ⟨h1, h3⟩ | ⟨k, rfl, hk, hk1, hk2⟩
  · rcases h2 with ⟨h4, _⟩ | ⟨m, rfl, hm, hm1, _⟩
    · omega
    · exact absurd (hm1 ▸ getD_mem hm) h3
  · rcases h2 with ⟨_, h3⟩ | ⟨m, rfl, hm, hm1, hm2⟩
    · exact absurd (hk1 ▸ getD_mem hk) h3
    · rcases Nat.lt_trichotomy k m with h | h | h
      · exact absurd hk1 (hm2 k h)
      · omega
      · exact absurd hm1 (hk2 m h)

set_option maxHeartbeats 2000000 in
theorem Index_any (a : Option Addr) (cap : Nat) (zs : List Int) (x : Int) (i : Int) (w : World) (hs : Shows w a zs) (hi : IdxR zs x i) :
    Calls Try.prog 22 #[.slice a zs.length cap, .int .i64 x] w fun e w' => e = .returned (.int .i64 i) ∧ w' = w := by
  have hl := hs.len
  have HI : Hid (IdxR zs x i) := hi
  clear hi
  go_enter Try.func22, Try.ntmps22
  go_wp2
  go_loop [8] (fun j => ∃ k : Nat, k ≤ zs.length ∧ j = .int .i64 k ∧ Hid (∀ j, j < k → zs.getD j 0 ≠ x)) (fun j => zs.length - (intOf j).toNat)
  case atStart => exact ⟨0, Nat.zero_le _, rfl, fun j hj => by omega⟩
  case round =>
    obtain ⟨k, hk, rfl, HR⟩ := hrel
    by_cases hlt : k < zs.length
    · have hlt' : (k : Int) < (zs.length : Int) := by omega
      obtain ⟨b, off, z, rfl, HZ, -, -, hc⟩ := hs.elem hlt
      by_cases hxz : x = z
      · have hb : (x == z) = true := by simpa using hxz
        have HE : Hid (i = (k : Int)) := HI.out.uniq (Or.inr ⟨k, rfl, hlt, by rw [← HZ.out, hxz], HR.out⟩)
        obtain rfl := HE.out
        clear hxz
        go_wp2
        go_ret
        exact ⟨rfl, rfl⟩
      · have hb : (x == z) = false := beq_eq_false_iff_ne.2 hxz
        have HE : Hid (z ≠ x) := fun e => hxz e.symm
        clear hxz
        go_wp2
        go_round
        case rel => exact ⟨k + 1, by omega, by go_num, fun j hj => by
                      by_cases hj' : j < k
                      · exact HR.out j hj'
                      · obtain rfl : j = k := by omega
                        rw [← HZ.out]; exact HE.out⟩
        case measure => simp [intOf]; omega
    · have HE : Hid (i = -1) := HI.out.uniq (Or.inl ⟨rfl, fun hm => by
        obtain ⟨j, hj, he⟩ := List.mem_iff_getElem.1 hm
        have := HR.out j (by omega)
        rw [List.getD_eq_getElem?_getD, List.getElem?_eq_getElem hj, Option.getD_some] at this
        exact this he⟩)
      obtain rfl := HE.out
      go_wp2
      go_ret
      exact ⟨rfl, rfl⟩

theorem IdxR_ex (zs : List Int) (x : Int) : ∃ i, IdxR zs x i := by
  by_cases h : x ∈ zs
  · obtain ⟨j, hj, he⟩ := List.mem_iff_getElem.1 h
    have hjd : zs.getD j 0 = x := by rw [List.getD_eq_getElem?_getD, List.getElem?_eq_getElem hj, Option.getD_some, he]
    obtain ⟨k, hk, h1, h2⟩ := first_time (q := fun j => j < zs.length ∧ zs.getD j 0 = x) j ⟨hj, hjd⟩
    exact ⟨k, Or.inr ⟨k, rfl, h1.1, h1.2, fun j hj hx => h2 j hj ⟨by omega, hx⟩⟩⟩
  · exact ⟨-1, Or.inl ⟨rfl, h⟩⟩

set_option maxHeartbeats 2000000 in
theorem Contains_any (a : Option Addr) (cap : Nat) (zs : List Int) (x : Int) (w : World) (hs : Shows w a zs) :
    Calls Try.prog 26 #[.slice a zs.length cap, .int .i64 x] w fun e w' => e = .returned (.bool (decide (x ∈ zs))) ∧ w' = w := by
  obtain ⟨i, hi⟩ := IdxR_ex zs x
  have HI : Hid (IdxR zs x i) := hi
  have HD : Hid (decide (i ≥ 0) = decide (x ∈ zs)) := by
    show _ = _
    apply decide_eq_decide.2
    rcases hi with ⟨h1, h3⟩ | ⟨k, rfl, hk, hk1, hk2⟩
    · exact ⟨fun h => by omega, fun h => absurd h h3⟩
    · exact ⟨fun _ => hk1 ▸ getD_mem hk, fun _ => by omega⟩
  clear hi
  go_enter Try.func26, Try.ntmps26
  go_wp2_with fail
  refine (Index_any _ _ zs x i _ hs HI.out).mono ?_
  rintro e w' ⟨rfl, rfl⟩
  go_wp2_with fail
  go_ret
  exact ⟨ret_bool (by first | exact HD.out | simpa using HD.out), rfl⟩

/-- A list of n numbers that has 1 to n has no others. -/
theorem S_counts_le (n : Nat) : ∀ (l : List Int), S n (fun v => l.countP (fun z => decide (z = (v : Int) + 1))) = l.countP (fun z : Int => decide (1 ≤ z ∧ z ≤ n)) := by
  intro l
  induction l with
  | nil => exact S_zero n
  | cons y l ih =>
    have e : ∀ v, v < n → (y :: l).countP (fun z => decide (z = (v : Int) + 1)) = l.countP (fun z => decide (z = (v : Int) + 1)) + ind (y = (v : Int) + 1) := by
      intro v _; rw [List.countP_cons]; simp [ind]
    rw [S_congr e, S_add, ih, List.countP_cons]
    congr 1
    by_cases h : 1 ≤ y ∧ y ≤ n
    · rw [S_just (k := (y - 1).toNat) (by omega) (by omega) (fun i _ hi => by omega)]; simp [h]
    · rw [S_none (fun i hi hy => h (by omega))]; simp only [decide_eq_true_eq]; rw [if_neg h]
theorem okPerm_iff {zs : List Int} (h40 : zs.length ≤ 40) : okPerm zs = true ↔ ∀ v : Nat, v < zs.length → (v : Int) + 1 ∈ zs := by
  constructor
  · intro h v hv
    have hp : IsPerm zs := pchk_ok.1 (by unfold pchk; rw [if_neg (by omega), if_pos h])
    exact hp.all (by omega) (by omega)
  · intro h
    have hs := S_counts_le zs.length zs
    have hge : zs.length ≤ S zs.length (fun v => zs.countP (fun z => decide (z = (v : Int) + 1))) := by
      have := S_le (n := zs.length) (f := fun _ => 1) (g := fun v => zs.countP (fun z => decide (z = (v : Int) + 1))) (fun v hv => List.countP_pos_iff.2 ⟨_, h v hv, by simp⟩)
      rw [S_one] at this; exact this
    have hle : zs.countP (fun z : Int => decide (1 ≤ z ∧ z ≤ (zs.length : Nat))) ≤ zs.length := List.countP_le_length
    have hall : ∀ z ∈ zs, 1 ≤ z ∧ z ≤ zs.length := by
      have : zs.countP (fun z : Int => decide (1 ≤ z ∧ z ≤ (zs.length : Nat))) = zs.length := by omega
      intro z hz
      have := List.countP_eq_length.1 this z hz
      simpa using this
    have hp := perm_of_all h40 hall h
    have := pchk_ok.2 hp
    unfold pchk at this
    rw [if_neg (by omega)] at this
    by_cases hb : okPerm zs = true
    · exact hb
    · rw [if_neg hb] at this; omega


end Go.Proofs.Ytihafckdaecgkaa
