/-
  KNUTH'S steps: they keep the tableau of a word; a word is as its tableau's: plain facts.
-/
import Derived.Test.YtpbkidgdpejenaeIBack
namespace Go.Proofs.Ytpbkidgdpejenae

def insW (t : List (List Int)) (w : List Int) : List (List Int) := w.foldl (fun t x => ins false x t) t
theorem insW_nil (t : List (List Int)) : insW t [] = t := rfl
theorem insW_cons (t : List (List Int)) (x : Int) (w : List Int) : insW t (x :: w) = insW (ins false x t) w := rfl
theorem insW_app (t : List (List Int)) (u v : List Int) : insW t (u ++ v) = insW (insW t u) v := by simp [insW]
theorem insW_T : ∀ (w : List Int) (t : List (List Int)), T t → T (insW t w) := by
  intro w
  induction w with
  | nil => intro t h; exact h
  | cons x w ih => intro t h; exact ih _ (ins_T h).1

/-- What goes on to the next row. -/
def bump (k : Nat) (r : List Int) : List Int := if k = r.length then [] else [r.getD k 0]
def rwW (r : List Int) : List Int → List Int × List Int
  | [] => (r, [])
  | x :: w => ((rwW (put (spot false x r) x r) w).1, bump (spot false x r) r ++ (rwW (put (spot false x r) x r) w).2)

theorem ins_put (x : Int) (r : List Int) (t : List (List Int)) : ins false x (r :: t) = put (spot false x r) x r :: insW t (bump (spot false x r) r) := by
  simp only [ins]
  unfold put bump
  by_cases e : spot false x r = r.length
  · rw [if_pos e, if_pos e, if_pos e]; rfl
  · rw [if_neg e, if_neg e, if_neg e]; rfl
theorem insW_row : ∀ (w : List Int) (r : List Int) (t : List (List Int)), insW (r :: t) w = (rwW r w).1 :: insW t (rwW r w).2 := by
  intro w
  induction w with
  | nil => intro r t; rfl
  | cons x w ih => intro r t; rw [insW_cons, ins_put, ih]; simp only [rwW]; rw [insW_app]
theorem insW_empty {w : List Int} (h : w ≠ []) : insW [] w = insW [[]] w := by
  cases w with
  | nil => exact absurd rfl h
  | cons x w => rw [insW_cons, insW_cons]; rfl

theorem rw3 {r : List Int} {a b c : Int} {k1 k2 k3 : Nat} (h1 : spot false a r = k1) (h2 : spot false b (put k1 a r) = k2) (h3 : spot false c (put k2 b (put k1 a r)) = k3) :
    rwW r [a, b, c] = (put k3 c (put k2 b (put k1 a r)), bump k1 r ++ (bump k2 (put k1 a r) ++ bump k3 (put k2 b (put k1 a r)))) := by
  simp only [rwW, h1, h2, h3, List.append_nil]

theorem bump_no {k : Nat} {r : List Int} (h : k = r.length) : bump k r = [] := if_pos h
theorem bump_yes {k : Nat} {r : List Int} (h : k < r.length) : bump k r = [r.getD k 0] := if_neg (by omega)
theorem put_comm {j k : Nat} {x z : Int} {r : List Int} (hj : j < k) (hk : k ≤ r.length) : put k z (put j x r) = put j x (put k z r) := by
  have hjl : j < r.length := by omega
  have l1 : (put j x r).length = r.length := by rw [put_len, if_neg (by omega)]
  refine ext_getD ?_ (fun m _ => ?_)
  · rw [put_len, l1, put_len, put_len]
    by_cases e : k = r.length
    · rw [if_pos e, if_neg (by omega)]
    · rw [if_neg e, if_neg (by omega)]
  · have l2 : k ≤ (put j x r).length := by omega
    have l3 : j ≤ (put k z r).length := by rw [put_len]; split <;> omega
    rw [put_getD l2, put_getD l3, put_getD (by omega), put_getD hk, l1, put_len]
    by_cases e1 : m = k
    · rw [if_pos e1, if_neg (by omega), if_pos (by split <;> omega), if_pos e1]
    · rw [if_neg e1]
      by_cases e2 : m = j
      · rw [if_pos e2, if_pos (by omega), if_pos e2]
      · rw [if_neg e2, if_neg e2, if_neg e1]
        by_cases e3 : m < r.length
        · rw [if_pos e3, if_pos e3, if_pos (by split <;> omega)]
        · rw [if_neg e3, if_neg e3]; simp
theorem put_srt {r : List Int} {x : Int} {k : Nat} (h : Srt r) (hk : spot false x r = k) : Srt (put k x r) := by
  have hp := spot_pass false x r
  have hs := spot_stop false x r
  rw [hk] at hp hs
  unfold put
  by_cases e : k = r.length
  · rw [if_pos e]; rw [e] at hp; exact srt_app h (fun j hj => passes_le.1 (hp j hj))
  · rw [if_neg e]
    have hl := spot_le false x r
    rw [hk] at hl
    have := passes_no.1 (hs (by omega))
    exact srt_set h (fun j hj _ => passes_le.1 (hp j hj)) (fun j hj hl2 => by have := h.le (i := k) (j := j) (by omega) hl2; omega)

/-- Two words of three letters, one step apart. -/
def K3 (a b : List Int) : Prop := (∃ x y z : Int, x < y ∧ y ≤ z ∧ a = [y, x, z] ∧ b = [y, z, x]) ∨ (∃ x y z : Int, x ≤ y ∧ y < z ∧ a = [x, z, y] ∧ b = [z, x, y])

structure Spot (x : Int) (r : List Int) (k : Nat) : Prop where
  le : k ≤ r.length
  pass : ∀ j, j < k → r.getD j 0 ≤ x
  stop : k < r.length → x < r.getD k 0
theorem spot_has (x : Int) (r : List Int) : Spot x r (spot false x r) := ⟨spot_le _ _ _, fun j hj => passes_le.1 (spot_pass false x r j hj), fun h => passes_no.1 (spot_stop false x r h)⟩
theorem Spot.is {x : Int} {r : List Int} {k : Nat} (h : Spot x r k) : spot false x r = k :=
  spot_is h.le (fun j hj => passes_le.2 (h.pass j hj)) (by
    rcases Nat.lt_or_ge k r.length with c | c
    · exact Or.inr (passes_no.2 (h.stop c))
    · left; have := h.le; omega)

theorem row_k3 {r : List Int} (h : Srt r) {a b : List Int} (hk : K3 a b) :
    (rwW r a).1 = (rwW r b).1 ∧ ((rwW r a).2 = (rwW r b).2 ∨ K3 (rwW r a).2 (rwW r b).2 ∨ K3 (rwW r b).2 (rwW r a).2) ∧ (r = [] → (rwW r a).2 = (rwW r b).2) := by
  rcases hk with ⟨x, y, z, hxy, hyz, rfl, rfl⟩ | ⟨x, y, z, hxy, hyz, rfl, rfl⟩
  · -- y, x, z and y, z, x
    have hi := spot_has y r
    obtain ⟨i, ei⟩ : ∃ i, spot false y r = i := ⟨_, rfl⟩
    rw [ei] at hi
    have hS1 := put_srt h ei
    obtain ⟨r1, er1⟩ : ∃ r1, r1 = put i y r := ⟨_, rfl⟩
    rw [← er1] at hS1
    have l1 : r1.length = if i = r.length then r.length + 1 else r.length := by rw [er1, put_len]
    have il1 : i < r1.length := by rw [l1]; have := hi.le; split <;> omega
    have g1 : ∀ m, r1.getD m 0 = if m = i then y else if m < r.length then r.getD m 0 else 0 := fun m => by rw [er1, put_getD hi.le]
    have gi : r1.getD i 0 = y := by rw [g1, if_pos rfl]
    have hj := spot_has x r1
    obtain ⟨j, ej⟩ : ∃ j, spot false x r1 = j := ⟨_, rfl⟩
    rw [ej] at hj
    have hji : j ≤ i := Nat.le_of_not_lt (fun c => by have := hj.pass i c; omega)
    have hk := spot_has z r1
    obtain ⟨k, ek⟩ : ∃ k, spot false z r1 = k := ⟨_, rfl⟩
    rw [ek] at hk
    have hik : i < k := Nat.lt_of_not_le (fun c => by
      have s1 := hk.stop (by omega)
      have := hS1.le c il1
      omega)
    have hjl : j < r1.length := by omega
    have ek2 : spot false z (put j x r1) = k := by
      have l2 : (put j x r1).length = r1.length := by rw [put_len, if_neg (by omega)]
      refine Spot.is ⟨by rw [l2]; exact hk.le, fun m hm => ?_, fun hm => ?_⟩
      · rw [put_getD (by omega)]
        by_cases e : m = j
        · rw [if_pos e]; omega
        · rw [if_neg e, if_pos (by have := hk.le; omega)]; exact hk.pass m hm
      · rw [l2] at hm
        rw [put_getD (by omega), if_neg (by omega), if_pos hm]; exact hk.stop hm
    have ej2 : spot false x (put k z r1) = j := by
      refine Spot.is ⟨by rw [put_len]; split <;> omega, fun m hm => ?_, fun hm => ?_⟩
      · rw [put_getD hk.le, if_neg (by omega), if_pos (by omega)]; exact hj.pass m hm
      · rw [put_getD hk.le, if_neg (by omega), if_pos hjl]; exact hj.stop hjl
    have eA := rw3 (r := r) (a := y) (b := x) (c := z) (k1 := i) (k2 := j) (k3 := k) ei (by rw [← er1]; exact ej) (by rw [← er1]; exact ek2)
    have eB := rw3 (r := r) (a := y) (b := z) (c := x) (k1 := i) (k2 := k) (k3 := j) ei (by rw [← er1]; exact ek) (by rw [← er1]; exact ej2)
    rw [← er1] at eA eB
    rw [eA, eB]
    have b1 : bump j r1 = [r1.getD j 0] := bump_yes hjl
    have b2 : bump j (put k z r1) = [r1.getD j 0] := by
      rw [bump_yes (by rw [put_len]; split <;> omega), put_getD hk.le, if_neg (by omega), if_pos hjl]
    have l2 : (put j x r1).length = r1.length := by rw [put_len, if_neg (by omega)]
    simp only
    refine ⟨put_comm (by omega) hk.le, ?_⟩
    by_cases c : k = r1.length
    · rw [bump_no (k := k) (r := put j x r1) (by rw [l2]; exact c), bump_no (k := k) (r := r1) c, b1, b2]
      exact ⟨Or.inl (by simp), fun _ => by simp⟩
    · have hkl : k < r1.length := by have := hk.le; omega
      have hil : i < r.length := by rw [l1] at hkl; have := hi.le; split at hkl <;> omega
      have hlr : r1.length = r.length := by rw [l1, if_neg (by omega)]
      have b3 : bump k r1 = [r.getD k 0] := by rw [bump_yes hkl, g1, if_neg (by omega), if_pos (by omega)]
      have b4 : bump k (put j x r1) = [r.getD k 0] := by rw [bump_yes (by omega), put_getD (by omega), if_neg (by omega), if_pos hkl, g1, if_neg (by omega), if_pos (by omega)]
      rw [b1, b2, b3, b4, bump_yes hil]
      refine ⟨Or.inr (Or.inl (Or.inl ⟨r1.getD j 0, r.getD i 0, r.getD k 0, ?_, h.le (by omega) (by omega), rfl, rfl⟩)), fun e => by rw [e] at hil; simp at hil⟩
      have s1 := hi.stop hil
      rw [g1]
      by_cases e : j = i
      · rw [if_pos e]; exact s1
      · rw [if_neg e, if_pos (by omega)]; have := hi.pass j (by omega); omega
  · -- x, z, y and z, x, y
    have hj := spot_has x r
    obtain ⟨j, ej⟩ : ∃ j, spot false x r = j := ⟨_, rfl⟩
    rw [ej] at hj
    have lj : (put j x r).length = if j = r.length then r.length + 1 else r.length := put_len _ _ _
    have gj : ∀ m, (put j x r).getD m 0 = if m = j then x else if m < r.length then r.getD m 0 else 0 := fun m => put_getD hj.le m
    by_cases c0 : j = r.length
    · -- all of r is at most x
      have e1 : put j x r = r ++ [x] := if_pos c0
      have hall : ∀ m, m < r.length → r.getD m 0 ≤ x := fun m hm => hj.pass m (by omega)
      have e2 : spot false z (r ++ [x]) = r.length + 1 := Spot.is ⟨by simp, fun m hm => by
        rw [getD_app]
        by_cases e : m < r.length
        · rw [if_pos e]; have := hall m e; omega
        · rw [if_neg e, if_pos (by omega)]; omega, fun hm => by simp at hm⟩
      have e3 : put (r.length + 1) z (r ++ [x]) = r ++ [x] ++ [z] := if_pos (by simp)
      have g3 : ∀ m, (r ++ [x] ++ [z]).getD m 0 = if m < r.length then r.getD m 0 else if m = r.length then x else if m = r.length + 1 then z else 0 := fun m => by
        rw [getD_app, getD_app]
        simp only [List.length_append, List.length_singleton]
        by_cases q1 : m < r.length
        · rw [if_pos (by omega), if_pos q1, if_pos q1]
        · by_cases q2 : m = r.length
          · rw [if_pos (by omega), if_neg q1, if_pos q2, if_neg q1, if_pos q2]
          · rw [if_neg (by omega), if_neg q1, if_neg q2]
      have e4 : spot false y (r ++ [x] ++ [z]) = r.length + 1 := Spot.is ⟨by simp, fun m hm => by
        rw [g3]
        by_cases e : m < r.length
        · rw [if_pos e]; have := hall m e; omega
        · rw [if_neg e, if_pos (by omega)]; exact hxy, fun _ => by rw [g3, if_neg (by omega), if_neg (by omega), if_pos rfl]; exact hyz⟩
      have f1 : spot false z r = r.length := Spot.is ⟨Nat.le_refl _, fun m hm => by have := hall m hm; omega, fun hm => by omega⟩
      have f2 : put r.length z r = r ++ [z] := if_pos rfl
      have f3 : spot false x (r ++ [z]) = r.length := Spot.is ⟨by simp, fun m hm => by rw [getD_app, if_pos hm]; exact hall m hm, fun _ => by rw [getD_app, if_neg (by omega), if_pos rfl]; omega⟩
      have f4 : put r.length x (r ++ [z]) = r ++ [x] := by unfold put; rw [if_neg (by simp)]; simp
      have f5 : spot false y (r ++ [x]) = r.length + 1 := Spot.is ⟨by simp, fun m hm => by
        rw [getD_app]
        by_cases e : m < r.length
        · rw [if_pos e]; have := hall m e; omega
        · rw [if_neg e, if_pos (by omega)]; exact hxy, fun hm => by simp at hm⟩
      have eA := rw3 (r := r) (a := x) (b := z) (c := y) (k1 := j) (k2 := r.length + 1) (k3 := r.length + 1) ej (by rw [e1]; exact e2) (by rw [e1, e3]; exact e4)
      have eB := rw3 (r := r) (a := z) (b := x) (c := y) (k1 := r.length) (k2 := r.length) (k3 := r.length + 1) f1 (by rw [f2]; exact f3) (by rw [f2, f4]; exact f5)
      rw [e1, e3] at eA
      rw [f2, f4] at eB
      rw [eA, eB]
      have h1 : put (r.length + 1) y (r ++ [x] ++ [z]) = put (r.length + 1) y (r ++ [x]) := by
        unfold put
        rw [if_neg (by simp), if_pos (by simp)]
        rw [show r.length + 1 = (r ++ [x]).length by simp]
        simp
      have bA : bump j r ++ (bump (r.length + 1) (r ++ [x]) ++ bump (r.length + 1) (r ++ [x] ++ [z])) = [z] := by
        rw [bump_no c0, bump_no (by simp), bump_yes (by simp), g3, if_neg (by omega), if_neg (by omega), if_pos rfl]; rfl
      have bB : bump r.length r ++ (bump r.length (r ++ [z]) ++ bump (r.length + 1) (r ++ [x])) = [z] := by
        rw [bump_no rfl, bump_yes (by simp), bump_no (k := r.length + 1) (by simp), getD_app, if_neg (by omega), if_pos rfl]; rfl
      simp only
      rw [bA, bB]
      exact ⟨h1, Or.inl rfl, fun _ => rfl⟩
    · have hjl : j < r.length := by have := hj.le; omega
      have l1 : (put j x r).length = r.length := by rw [lj, if_neg c0]
      have s1 := hj.stop hjl
      have hre : r ≠ [] := fun e => by rw [e] at hjl; simp at hjl
      by_cases c1 : r.getD j 0 ≤ z
      · -- z goes farther on
        have hk := spot_has z r
        obtain ⟨k, ek⟩ : ∃ k, spot false z r = k := ⟨_, rfl⟩
        rw [ek] at hk
        have hjk : j < k := Nat.lt_of_not_le (fun c => by
          have q := hk.stop (by omega)
          have := h.le c hjl; omega)
        have ek2 : spot false z (put j x r) = k := Spot.is ⟨by rw [l1]; exact hk.le, fun m hm => by
          rw [gj]
          by_cases e : m = j
          · rw [if_pos e]; omega
          · rw [if_neg e, if_pos (by have := hk.le; omega)]; exact hk.pass m hm, fun hm => by
          rw [l1] at hm
          rw [gj, if_neg (by omega), if_pos hm]; exact hk.stop hm⟩
        have ej2 : spot false x (put k z r) = j := Spot.is ⟨by rw [put_len]; split <;> omega, fun m hm => by
          rw [put_getD hk.le, if_neg (by omega), if_pos (by omega)]; exact hj.pass m hm, fun hm => by
          rw [put_getD hk.le, if_neg (by omega), if_pos hjl]; exact s1⟩
        have ecomm : put k z (put j x r) = put j x (put k z r) := put_comm hjk hk.le
        obtain ⟨r2, er2⟩ : ∃ r2, r2 = put k z (put j x r) := ⟨_, rfl⟩
        have hm := spot_has y r2
        obtain ⟨m, em⟩ : ∃ m, spot false y r2 = m := ⟨_, rfl⟩
        rw [em] at hm
        have l2 : r2.length = if k = r.length then r.length + 1 else r.length := by rw [er2, put_len, l1]
        have g2' : ∀ n, r2.getD n 0 = if n = k then z else if n = j then x else if n < r.length then r.getD n 0 else 0 := fun n => by
          rw [er2, put_getD (by rw [l1]; exact hk.le), l1, gj]
          by_cases q : n = k
          · rw [if_pos q, if_pos q]
          · rw [if_neg q, if_neg q]
            by_cases q2 : n < r.length
            · rw [if_pos q2, if_pos q2]
            · rw [if_neg q2, if_neg (by omega), if_neg q2]
        have hmk : m ≤ k := Nat.le_of_not_lt (fun c => by have := hm.pass k c; rw [g2', if_pos rfl] at this; omega)
        have hkl2 : k < r2.length := by rw [l2]; have := hk.le; split <;> omega
        have hjm : j < m := Nat.lt_of_not_le (fun c => by
          have q := hm.stop (by omega)
          rw [g2', if_neg (by omega)] at q
          by_cases q1 : m = j
          · rw [if_pos q1] at q; omega
          · rw [if_neg q1, if_pos (by omega)] at q
            have := hj.pass m (by omega); omega)
        have eA := rw3 (r := r) (a := x) (b := z) (c := y) (k1 := j) (k2 := k) (k3 := m) ej ek2 (by rw [← er2]; exact em)
        have eB := rw3 (r := r) (a := z) (b := x) (c := y) (k1 := k) (k2 := j) (k3 := m) ek ej2 (by rw [← ecomm, ← er2]; exact em)
        rw [← er2] at eA
        rw [← ecomm, ← er2] at eB
        rw [eA, eB]
        simp only
        refine ⟨trivial, ?_, fun e => absurd e hre⟩
        have b1 : bump j r = [r.getD j 0] := bump_yes hjl
        have b2 : bump j (put k z r) = [r.getD j 0] := by rw [bump_yes (by rw [put_len]; split <;> omega), put_getD hk.le, if_neg (by omega), if_pos hjl]
        have b3 : bump m r2 = [r2.getD m 0] := bump_yes (by omega)
        rw [b1, b2, b3]
        by_cases c2 : k = r.length
        · rw [bump_no (by rw [l1]; exact c2), bump_no c2]; exact Or.inl (by simp)
        · have hkl : k < r.length := by have := hk.le; omega
          have b4 : bump k r = [r.getD k 0] := bump_yes hkl
          have b5 : bump k (put j x r) = [r.getD k 0] := by rw [bump_yes (by omega), gj, if_neg (by omega), if_pos hkl]
          have s2 := hk.stop hkl
          rw [b4, b5]
          refine Or.inr (Or.inl (Or.inr ⟨r.getD j 0, r2.getD m 0, r.getD k 0, ?_, ?_, rfl, rfl⟩))
          · rw [g2']
            by_cases q : m = k
            · rw [if_pos q]; exact c1
            · rw [if_neg q, if_neg (by omega), if_pos (by omega)]; exact h.le (by omega) (by omega)
          · rw [g2']
            by_cases q : m = k
            · rw [if_pos q]; exact s2
            · rw [if_neg q, if_neg (by omega), if_pos (by omega)]; have := hk.pass m (by omega); omega
      · -- z would go where x goes
        have hz : z < r.getD j 0 := by omega
        have ek : spot false z r = j := Spot.is ⟨hj.le, fun m hm => by have := hj.pass m hm; omega, fun _ => hz⟩
        have lz : (put j z r).length = r.length := by rw [put_len, if_neg c0]
        have gz : ∀ m, (put j z r).getD m 0 = if m = j then z else if m < r.length then r.getD m 0 else 0 := fun m => put_getD hj.le m
        have ej2 : spot false x (put j z r) = j := Spot.is ⟨by rw [lz]; exact hj.le, fun m hm => by
          rw [gz, if_neg (by omega), if_pos (by omega)]; exact hj.pass m hm, fun _ => by rw [gz, if_pos rfl]; omega⟩
        have eback : put j x (put j z r) = put j x r := by
          unfold put
          rw [if_neg c0, if_neg c0, if_neg (by simpa using c0), List.set_set]
        -- the place behind j
        have hnext : ∀ v, v < r.getD j 0 → x ≤ v → spot false v (put j x r) = j + 1 := fun v hv hxv => Spot.is ⟨by rw [l1]; omega, fun m hm => by
          rw [gj]
          by_cases q : m = j
          · rw [if_pos q]; exact hxv
          · rw [if_neg q, if_pos (by omega)]; have := hj.pass m (by omega); omega, fun hm => by
          rw [l1] at hm
          rw [gj, if_neg (by omega), if_pos hm]
          have := h.le (i := j) (j := j + 1) (by omega) hm; omega⟩
        have e2 : spot false z (put j x r) = j + 1 := hnext z hz (by omega)
        have e4 : spot false y (put (j + 1) z (put j x r)) = j + 1 := Spot.is ⟨by rw [put_len, l1]; split <;> omega, fun m hm => by
          rw [put_getD (by rw [l1]; omega), if_neg (by omega), if_pos (by rw [l1]; omega), gj]
          by_cases q : m = j
          · rw [if_pos q]; exact hxy
          · rw [if_neg q, if_pos (by omega)]; have := hj.pass m (by omega); omega, fun _ => by rw [put_getD (by rw [l1]; omega), if_pos rfl]; exact hyz⟩
        have e5 : spot false y (put j x r) = j + 1 := hnext y (by omega) hxy
        have eA := rw3 (r := r) (a := x) (b := z) (c := y) (k1 := j) (k2 := j + 1) (k3 := j + 1) ej e2 e4
        have eB := rw3 (r := r) (a := z) (b := x) (c := y) (k1 := j) (k2 := j) (k3 := j + 1) ek ej2 (by rw [eback]; exact e5)
        rw [eback] at eB
        rw [eA, eB]
        simp only
        have h1 : put (j + 1) y (put (j + 1) z (put j x r)) = put (j + 1) y (put j x r) := by
          obtain ⟨r1, er1⟩ : ∃ r1, r1 = put j x r := ⟨_, rfl⟩
          rw [← er1] at l1 ⊢
          have hle : j + 1 ≤ r1.length := by omega
          unfold put
          by_cases q : j + 1 = r1.length
          · rw [if_pos q, if_pos q, if_neg (by simp; omega), q]; simp
          · rw [if_neg q, if_neg q, if_neg (by simpa using q), List.set_set]
        have b1 : bump j r = [r.getD j 0] := bump_yes hjl
        have b2 : bump j (put j z r) = [z] := by rw [bump_yes (by omega), gz, if_pos rfl]
        have b3 : bump (j + 1) (put (j + 1) z (put j x r)) = [z] := by rw [bump_yes (by rw [put_len, l1]; split <;> omega), put_getD (by rw [l1]; omega), if_pos rfl]
        refine ⟨h1, ?_, fun e => absurd e hre⟩
        rw [b1, b2, b3]
        by_cases c2 : j + 1 = r.length
        · rw [bump_no (by rw [l1]; exact c2)]; exact Or.inl (by simp)
        · have b4 : bump (j + 1) (put j x r) = [r.getD (j + 1) 0] := by rw [bump_yes (by omega), gj, if_neg (by omega), if_pos (by omega)]
          rw [b4]
          exact Or.inr (Or.inr (Or.inl ⟨z, r.getD j 0, r.getD (j + 1) 0, hz, h.le (by omega) (by omega), rfl, rfl⟩))

theorem k3_len {a b : List Int} (h : K3 a b) : a ≠ [] ∧ b ≠ [] := by
  rcases h with ⟨x, y, z, _, _, rfl, rfl⟩ | ⟨x, y, z, _, _, rfl, rfl⟩ <;> simp
theorem k3_same : ∀ (t : List (List Int)), T t → ∀ {a b : List Int}, K3 a b → insW t a = insW t b := by
  intro t
  induction t with
  | nil =>
    intro _ a b h
    rw [insW_empty (k3_len h).1, insW_empty (k3_len h).2, insW_row, insW_row]
    obtain ⟨h1, _, h3⟩ := row_k3 (r := []) (fun j hj => absurd hj (by simp)) h
    rw [h1, h3 rfl]
  | cons r t ih =>
    intro hT a b h
    obtain ⟨h1, h2, h3⟩ := row_k3 hT.2.1 h
    rw [insW_row, insW_row, h1]
    rcases h2 with h2 | h2 | h2
    · rw [h2]
    · rw [ih hT.2.2.2 h2]
    · rw [ih hT.2.2.2 h2]

/-- A sameness of words that KNUTH'S steps keep, whatever stands around them. -/
structure Plac (R : List Int → List Int → Prop) : Prop where
  refl : ∀ u, R u u
  symm : ∀ {u v}, R u v → R v u
  trans : ∀ {u v w}, R u v → R v w → R u w
  app : ∀ (a b : List Int) {u v}, R u v → R (a ++ u ++ b) (a ++ v ++ b)
  k3 : ∀ {u v}, K3 u v → R u v
theorem Plac.left {R : List Int → List Int → Prop} (h : Plac R) (a : List Int) {u v : List Int} (k : R u v) : R (a ++ u) (a ++ v) := by simpa using h.app a [] k
theorem Plac.right {R : List Int → List Int → Prop} (h : Plac R) (b : List Int) {u v : List Int} (k : R u v) : R (u ++ b) (v ++ b) := by simpa using h.app [] b k

/-- The same tableau, whatever stands around. -/
def SameP (u v : List Int) : Prop := ∀ a b, insW [] (a ++ u ++ b) = insW [] (a ++ v ++ b)
theorem plac_P : Plac SameP := by
  refine ⟨fun u a b => rfl, fun h a b => (h a b).symm, fun h k a b => (h a b).trans (k a b), fun c d u v h a b => ?_, fun {u v} h a b => ?_⟩
  · have := h (a ++ c) (d ++ b)
    simpa using this
  · rw [insW_app, insW_app, insW_app, insW_app, k3_same _ (insW_T a [] trivial) h]

theorem getD_cons_succ (x : Int) (l : List Int) (j : Nat) : (x :: l).getD (j + 1) 0 = l.getD j 0 := rfl
theorem Srt.tail {x : Int} {l : List Int} (h : Srt (x :: l)) : Srt l := fun j hj => by have := h (j + 1) (by simpa using hj); simpa using this

/-- x goes to the left through letters above it, none below the one ahead, b the first of them. -/
theorem pass_left {R : List Int → List Int → Prop} (h : Plac R) (x : Int) : ∀ (l : List Int) (b : Int), Srt (b :: l) → x < b → R (b :: l ++ [x]) (b :: x :: l) := by
  intro l
  induction l with
  | nil => intro b _ _; exact h.refl _
  | cons c l ih =>
    intro b hs hx
    have hbc : b ≤ c := by have := hs 0 (by simp); simpa using this
    have h1 := h.left [b] (ih c hs.tail (by omega))
    have h2 : R ([b, c, x] ++ l) ([b, x, c] ++ l) := h.right l (h.symm (h.k3 (Or.inl ⟨x, b, c, hx, hbc, rfl, rfl⟩)))
    exact h.trans (by simpa using h1) (by simpa using h2)
/-- b goes to the left through letters at most x, which stands behind them. -/
theorem pass_right {R : List Int → List Int → Prop} (h : Plac R) (b : Int) : ∀ (l : List Int) (x : Int), Srt (l ++ [x]) → x < b → R (l ++ [b, x]) (b :: l ++ [x]) := by
  intro l
  induction l with
  | nil => intro x _ _; exact h.refl _
  | cons a l ih =>
    intro x hs hx
    have h1 := h.left [a] (ih x (by simpa using Srt.tail hs) hx)
    -- a b (first of l ++ [x]) ..
    obtain ⟨c, m, hcm⟩ : ∃ c m, l ++ [x] = c :: m := by cases l with
      | nil => exact ⟨x, [], rfl⟩
      | cons c l => exact ⟨c, l ++ [x], rfl⟩
    have hs' : Srt (a :: c :: m) := by rw [← hcm]; simpa using hs
    have hac : a ≤ c := by have := hs' 0 (by simp); simpa using this
    have hcb : c < b := by
      have hc0 : c = (l ++ [x]).getD 0 0 := by rw [hcm]; rfl
      have hx0 : x = (l ++ [x]).getD l.length 0 := by rw [getD_app]; simp
      have := (show Srt (l ++ [x]) by rw [hcm]; exact hs'.tail).le (i := 0) (j := l.length) (by omega) (by simp)
      omega
    have h2 : R ([a, b, c] ++ m) ([b, a, c] ++ m) := h.right m (h.k3 (Or.inr ⟨a, c, b, hac, hcb, rfl, rfl⟩))
    refine h.trans (by simpa using h1) ?_
    have e1 : a :: b :: (l ++ [x]) = [a, b, c] ++ m := by rw [hcm]; rfl
    have e2 : b :: a :: l ++ [x] = [b, a, c] ++ m := by simp only [List.cons_append, hcm, List.nil_append]
    rw [e2]
    simpa [e1] using h2

theorem row_word {R : List Int → List Int → Prop} (h : Plac R) {r : List Int} (hs : Srt r) (x : Int) : R (r ++ [x]) (bump (spot false x r) r ++ put (spot false x r) x r) := by
  have hk := spot_has x r
  obtain ⟨k, ek⟩ : ∃ k, spot false x r = k := ⟨_, rfl⟩
  rw [ek] at hk ⊢
  by_cases c : k = r.length
  · rw [bump_no c]
    unfold put
    rw [if_pos c]; exact h.refl _
  · have hkl : k < r.length := by have := hk.le; omega
    have s1 := hk.stop hkl
    obtain ⟨b, hb⟩ : ∃ b, b = r.getD k 0 := ⟨_, rfl⟩
    have e : r = r.take k ++ b :: r.drop (k + 1) := by
      conv => lhs; rw [← List.take_append_drop k r]
      rw [drop_cons r k hkl, hb]
    rw [bump_yes hkl, ← hb]
    unfold put
    rw [if_neg c, List.set_eq_take_append_cons_drop, if_pos hkl]
    have hsd : Srt (b :: r.drop (k + 1)) := fun j hj => by
      have q : (b :: r.drop (k + 1)) = r.drop k := by rw [drop_cons r k hkl, hb]
      rw [q] at hj ⊢
      rw [List.length_drop] at hj
      simp only [List.getD, List.getElem?_drop]
      exact hs (k + j) (by omega)
    have h1 := h.left (r.take k) (pass_left h x _ b hsd (by omega))
    have hst : Srt (r.take k ++ [x]) := srt_app (fun j hj => by
      rw [List.length_take] at hj
      have q : ∀ m, m < k → (r.take k).getD m 0 = r.getD m 0 := fun m hm => by simp [List.getD, hm]
      rw [q j (by omega), q (j + 1) (by omega)]; exact hs j (by omega)) (fun j hj => by
      rw [List.length_take] at hj
      have q : (r.take k).getD j 0 = r.getD j 0 := by simp [List.getD, show j < k by omega]
      rw [q]; exact hk.pass j (by omega))
    have h2 := h.right (r.drop (k + 1)) (pass_right h b (r.take k) x hst (by omega))
    have e1 : r ++ [x] = r.take k ++ (b :: r.drop (k + 1) ++ [x]) := by
      conv => lhs; rw [e]
      rw [List.append_assoc]
    rw [e1]
    refine h.trans h1 ?_
    simpa using h2

def wrd (t : List (List Int)) : List Int := t.reverse.flatten
theorem wrd_cons (r : List Int) (t : List (List Int)) : wrd (r :: t) = wrd t ++ r := by simp [wrd]
theorem word_ins {R : List Int → List Int → Prop} (h : Plac R) : ∀ (t : List (List Int)) (x : Int), T t → R (wrd t ++ [x]) (wrd (ins false x t)) := by
  intro t
  induction t with
  | nil => intro x _; exact h.refl _
  | cons r t ih =>
    intro x hT
    rw [wrd_cons, ins_put, wrd_cons, List.append_assoc]
    refine h.trans (h.left (wrd t) (row_word h hT.2.1 x)) ?_
    rw [← List.append_assoc]
    refine h.right _ ?_
    unfold bump
    by_cases c : spot false x r = r.length
    · rw [if_pos c, insW_nil, List.append_nil]; exact h.refl _
    · rw [if_neg c]; exact ih _ hT.2.2.2
theorem word_P {R : List Int → List Int → Prop} (h : Plac R) : ∀ (w : List Int) (t : List (List Int)), T t → R (wrd t ++ w) (wrd (insW t w)) := by
  intro w
  induction w with
  | nil => intro t _; rw [List.append_nil]; exact h.refl _
  | cons x w ih =>
    intro t hT
    have h1 := h.right w (word_ins h t x hT)
    have h2 := ih _ (ins_T (x := x) hT).1
    exact h.trans (by simpa using h1) h2
theorem word_of {R : List Int → List Int → Prop} (h : Plac R) (w : List Int) : R w (wrd (insW [] w)) := by
  have := word_P h w [] trivial
  simpa [wrd] using this

end Go.Proofs.Ytpbkidgdpejenae
