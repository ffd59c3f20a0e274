/-
  The contracts of cmp.Compare[int] and slices.Compare over numbers (from ISrt and IKwl: for seats without insert), and the order of parts.All's list.
  Lists of tables, in order: what is in order and made of the same is the same.
-/
import Derived.Test.YtgcpconlmihilaaGreatDoorTTab
import Derived.Deep.RegionHeld3
import Derived.Deep.DeepCutAuto
namespace Go.Proofs.YtgcpconlmihilaaGreatDoor
open Go.RowKit

def cmpI (x y : Int) : Int := if x < y then -1 else if x > y then 1 else 0
set_option maxHeartbeats 1000000 in
theorem isNaNI_at (x : Int) (w : World) : Calls Tryz.prog 96 #[.int .i64 x] w fun e w' => e = .returned (.bool false) ∧ w' = w := by
  have hb : (x != x) = false := by simp
  go_enter Tryz.func96, Tryz.ntmps96
  go_wp2
  go_ret
  exact ⟨rfl, rfl⟩
set_option maxHeartbeats 1000000 in
theorem CompareI_at (x y : Int) (w : World) : Calls Tryz.prog 78 #[.int .i64 x, .int .i64 y] w fun e w' => e = .returned (.int .i64 (cmpI x y)) ∧ w' = w := by
  by_cases h1 : x < y
  · have HC : Hid (cmpI x y = -1) := if_pos h1
    go_enter Tryz.func78, Tryz.ntmps78
    go_wp2_with fail
    refine (isNaNI_at x w).mono ?_
    rintro e w1 ⟨rfl, hw1⟩
    obtain rfl := hw1
    go_wp2_with fail
    refine (isNaNI_at y w1).mono ?_
    rintro e w2 ⟨rfl, hw2⟩
    obtain rfl := hw2
    go_wp2
    go_ret
    exact ⟨ret_int HC.out.symm, rfl⟩
  · by_cases h2 : x > y
    · have HC : Hid (cmpI x y = 1) := by show _ = _; unfold cmpI; rw [if_neg h1, if_pos h2]
      go_enter Tryz.func78, Tryz.ntmps78
      go_wp2_with fail
      refine (isNaNI_at x w).mono ?_
      rintro e w1 ⟨rfl, hw1⟩
      obtain rfl := hw1
      go_wp2_with fail
      refine (isNaNI_at y w1).mono ?_
      rintro e w2 ⟨rfl, hw2⟩
      obtain rfl := hw2
      go_wp2
      go_ret
      exact ⟨ret_int HC.out.symm, rfl⟩
    · have HC : Hid (cmpI x y = 0) := by show _ = _; unfold cmpI; rw [if_neg h1, if_neg h2]
      go_enter Tryz.func78, Tryz.ntmps78
      go_wp2_with fail
      refine (isNaNI_at x w).mono ?_
      rintro e w1 ⟨rfl, hw1⟩
      obtain rfl := hw1
      go_wp2_with fail
      refine (isNaNI_at y w1).mono ?_
      rintro e w2 ⟨rfl, hw2⟩
      obtain rfl := hw2
      go_wp2
      go_ret
      exact ⟨ret_int HC.out.symm, rfl⟩
/-- As Go compares lists. -/
def cmpL : List Int → List Int → Int
  | [], [] => 0
  | [], _ :: _ => -1
  | _ :: _, [] => 1
  | x :: xs, y :: ys => if x < y then -1 else if y < x then 1 else cmpL xs ys
theorem cmpL_refl : ∀ l, cmpL l l = 0 := by
  intro l; induction l with
  | nil => rfl
  | cons x l ih => simp [cmpL, ih]
theorem cmpL_trans : ∀ a b c, cmpL a b < 0 → cmpL b c < 0 → cmpL a c < 0 := by
  intro a
  induction a with
  | nil => intro b c h1 h2; cases b <;> cases c <;> simp [cmpL] at *
  | cons x a ih =>
    intro b c h1 h2
    cases b with
    | nil => simp [cmpL] at h1
    | cons y b =>
      cases c with
      | nil => simp [cmpL] at h2
      | cons z c =>
        simp only [cmpL] at h1 h2 ⊢
        by_cases q1 : x < y
        · by_cases q2 : y < z
          · rw [if_pos (by omega)]; omega
          · rw [if_neg q2] at h2
            by_cases q3 : z < y
            · rw [if_pos q3] at h2; omega
            · rw [if_pos (by omega)]; omega
        · rw [if_neg q1] at h1
          by_cases q3 : y < x
          · rw [if_pos q3] at h1; omega
          · rw [if_neg q3] at h1
            obtain rfl : x = y := by omega
            by_cases q2 : x < z
            · rw [if_pos q2]; omega
            · rw [if_neg q2] at h2 ⊢
              by_cases q4 : z < x
              · rw [if_pos q4] at h2; omega
              · rw [if_neg q4] at h2 ⊢
                exact ih b c h1 h2
theorem cmpL_ntrans : ∀ a b c, ¬ cmpL a b < 0 → ¬ cmpL b c < 0 → ¬ cmpL a c < 0 := by
  intro a
  induction a with
  | nil =>
    intro b c h1 h2
    cases b with
    | nil => cases c <;> simp [cmpL] at *
    | cons y b => simp [cmpL] at h1
  | cons x a ih =>
    intro b c h1 h2
    cases c with
    | nil => simp [cmpL]
    | cons z c =>
      cases b with
      | nil => simp [cmpL] at h2
      | cons y b =>
        simp only [cmpL] at h1 h2 ⊢
        by_cases q1 : x < y
        · rw [if_pos q1] at h1; omega
        · rw [if_neg q1] at h1
          by_cases q2 : y < z
          · rw [if_pos q2] at h2; omega
          · rw [if_neg q2] at h2
            rw [if_neg (by omega)]
            by_cases q3 : z < x
            · rw [if_pos q3]; omega
            · rw [if_neg q3]
              rw [if_neg (by omega)] at h1 h2
              exact ih b c h1 h2
theorem cmpL_bd : ∀ a b, -1 ≤ cmpL a b ∧ cmpL a b ≤ 1 := by
  intro a
  induction a with
  | nil => intro b; cases b <;> simp [cmpL]
  | cons x a ih =>
    intro b
    cases b with
    | nil => simp [cmpL]
    | cons y b => simp only [cmpL]; have := ih b; split <;> (try split) <;> omega
set_option maxHeartbeats 4000000 in
theorem CompareL_at (a b : Option Addr) (n m ca cb : Nat) (zs ys : List Int) (w : World) (hs : Shows w a zs) (ht : Shows w b ys) (hn : n = zs.length) (hm : m = ys.length) :
    Calls Tryz.prog 51 #[.slice a n ca, .slice b m cb] w fun e w' => e = .returned (.int .i64 (cmpL zs ys)) ∧ w' = w := by
  subst hn; subst hm
  have HS : Hid (Shows w a zs) := hs
  have HT : Hid (Shows w b ys) := ht
  have hl1 := hs.len
  have hl2 := ht.len
  clear hs ht
  go_enter Tryz.func51, Tryz.ntmps51
  go_wp2
  go_loop [11] (fun iv => ∃ k : Nat, k ≤ zs.length ∧ k ≤ ys.length ∧ iv = .int .i64 k ∧ Hid (cmpL zs ys = cmpL (zs.drop k) (ys.drop k))) (fun iv => zs.length - (intOf iv).toNat)
  case atStart => exact ⟨0, Nat.zero_le _, Nat.zero_le _, rfl, rfl⟩
  case round =>
    obtain ⟨k, hk, hk2, rfl, HC⟩ := hrel
    by_cases hlt : k < zs.length
    · have hlt' : (k : Int) < (zs.length : Int) := by omega
      obtain ⟨b1, off1, x, rfl, HX, -, -, hcx⟩ := HS.out.elem hlt
      by_cases hlt2 : k < ys.length
      · have hlt2' : ¬ (k : Int) ≥ (ys.length : Int) := by omega
        have hlt3 : (k : Int) < (ys.length : Int) := by omega
        obtain ⟨b2, off2, y, rfl, HY, -, -, hcy⟩ := HT.out.elem hlt2
        have HN : Hid (cmpL zs ys = if x < y then -1 else if y < x then 1 else cmpL (zs.drop (k + 1)) (ys.drop (k + 1))) := by
          show _ = _
          rw [HC.out, drop_cons zs k hlt, drop_cons ys k hlt2, ← HX.out, ← HY.out]; rfl
        obtain ⟨c, HCi⟩ : ∃ c, Hid (cmpI x y = c) := ⟨_, rfl⟩
        go_wp2_with fail
        refine (CompareI_at x y w).mono ?_
        rintro e w1 ⟨rfl, hw1⟩
        obtain rfl : w = w1 := hw1.symm
        clear hw1
        rw [HCi.out]
        by_cases q1 : x < y
        · have hc : c = -1 := by rw [← HCi.out]; unfold cmpI; rw [if_pos q1]
          subst hc
          have HF : Hid (cmpL zs ys = -1) := by rw [HN.out]; show _ = _; rw [if_pos q1]
          go_wp2
          go_ret
          exact ⟨ret_int HF.out.symm, rfl⟩
        · by_cases q2 : y < x
          · have hc : c = 1 := by rw [← HCi.out]; unfold cmpI; rw [if_neg q1, if_pos (by omega)]
            subst hc
            have HF : Hid (cmpL zs ys = 1) := by rw [HN.out]; show _ = _; rw [if_neg q1, if_pos q2]
            go_wp2
            go_ret
            exact ⟨ret_int HF.out.symm, rfl⟩
          · have hc : c = 0 := by rw [← HCi.out]; unfold cmpI; rw [if_neg q1, if_neg (by omega)]
            subst hc
            have HF : Hid (cmpL zs ys = cmpL (zs.drop (k + 1)) (ys.drop (k + 1))) := by rw [HN.out]; show _ = _; rw [if_neg q1, if_neg q2]
            go_wp2
            go_round
            case rel => exact ⟨k + 1, by omega, by omega, by go_num, HF⟩
            case measure => simp [intOf]; omega
      · have hlt2' : (k : Int) ≥ (ys.length : Int) := by omega
        have HF : Hid (cmpL zs ys = 1) := by
          show _ = _
          have e : ys.drop k = [] := List.drop_eq_nil_of_le (by omega)
          rw [HC.out, drop_cons zs k hlt, e]; rfl
        go_wp2
        go_ret
        exact ⟨ret_int HF.out.symm, rfl⟩
    · obtain rfl : k = zs.length := by omega
      have hlt' : ¬ (zs.length : Int) < (zs.length : Int) := by omega
      by_cases q : zs.length < ys.length
      · have q' : (zs.length : Int) < (ys.length : Int) := by omega
        have HF : Hid (cmpL zs ys = -1) := by
          show _ = _
          rw [HC.out, List.drop_length, drop_cons ys zs.length q]; rfl
        go_wp2
        go_ret
        exact ⟨ret_int HF.out.symm, rfl⟩
      · have q' : ¬ (zs.length : Int) < (ys.length : Int) := by omega
        have HF : Hid (cmpL zs ys = 0) := by
          show _ = _
          have e : ys.drop zs.length = [] := List.drop_eq_nil_of_le (by omega)
          rw [HC.out, List.drop_length, e]; rfl
        go_wp2
        go_ret
        exact ⟨ret_int HF.out.symm, rfl⟩


theorem cmpL_asym {a b : List Int} (h : cmpL b a < 0) : ¬ cmpL a b < 0 := fun h2 => by
  have := cmpL_trans _ _ _ h h2
  rw [cmpL_refl] at this
  omega
theorem cmpL_eq : ∀ {a b : List Int}, ¬ cmpL a b < 0 → ¬ cmpL b a < 0 → a = b := by
  intro a
  induction a with
  | nil => intro b h1 h2; cases b with
    | nil => rfl
    | cons y b => simp [cmpL] at h1
  | cons x a ih =>
    intro b h1 h2
    cases b with
    | nil => simp [cmpL] at h2
    | cons y b =>
      simp only [cmpL] at h1 h2
      by_cases c1 : x < y
      · rw [if_pos c1] at h1; exact absurd (by omega) h1
      · by_cases c2 : y < x
        · rw [if_pos c2] at h2; exact absurd (by omega) h2
        · rw [if_neg c1, if_neg c2] at h1
          rw [if_neg c2, if_neg c1] at h2
          rw [ih h1 h2, show x = y by omega]

/-- Two of one length, and what comes behind them. -/
theorem cmpL_append : ∀ (a b x y : List Int), a.length = b.length → cmpL (a ++ x) (b ++ y) = if cmpL a b ≠ 0 then cmpL a b else cmpL x y := by
  intro a
  induction a with
  | nil => intro b x y h; obtain rfl : b = [] := List.eq_nil_of_length_eq_zero h.symm; simp [cmpL]
  | cons p a ih =>
    intro b x y h
    cases b with
    | nil => simp at h
    | cons q b =>
      have := ih b x y (by simpa using h)
      simp only [List.cons_append, cmpL]
      by_cases e : p < q
      · simp [e]
      · by_cases e2 : q < p
        · simp [e, e2]
        · simp only [e, e2, if_false]; exact this
/-- Row by row. -/
def cmpT : List (List Int) → List (List Int) → Int
  | [], [] => 0
  | [], _ :: _ => -1
  | _ :: _, [] => 1
  | a :: s, b :: t => if cmpL a b ≠ 0 then cmpL a b else cmpT s t
theorem cmpT_flat : ∀ (s t : List (List Int)), s.map List.length = t.map List.length → cmpT s t = cmpL s.flatten t.flatten := by
  intro s
  induction s with
  | nil => intro t h; cases t with
    | nil => simp [cmpT, cmpL]
    | cons _ _ => simp at h
  | cons a s ih =>
    intro t h
    cases t with
    | nil => simp at h
    | cons b t =>
      simp only [List.map_cons, List.cons.injEq] at h
      rw [cmpT, List.flatten_cons, List.flatten_cons, cmpL_append _ _ _ _ h.1, ih t h.2]

end Go.Proofs.YtgcpconlmihilaaGreatDoor

namespace Go.Proofs.YtgcpconlmihilaaGreatDoor

/-- A list of tables, in order. -/
def Sorted (ts : List (List (List Int))) : Prop := ts.Pairwise (fun a b => ¬ cmpL b.flatten a.flatten < 0)
theorem flat_inj : ∀ {s t : List (List Int)}, s.map List.length = t.map List.length → s.flatten = t.flatten → s = t := by
  intro s
  induction s with
  | nil => intro t h _; cases t with
    | nil => rfl
    | cons a t => simp at h
  | cons a s ih =>
    intro t h e
    cases t with
    | nil => simp at h
    | cons b t =>
      simp only [List.map_cons, List.cons.injEq] at h
      simp only [List.flatten_cons] at e
      obtain ⟨e1, e2⟩ := List.append_inj e h.1
      rw [e1, ih h.2 e2]
/-- What is in order, of one shape, and made of the same tables is the same. -/
theorem sorted_same {ts ts' : List (List (List Int))} (hp : ts.Perm ts') (h1 : Sorted ts) (h2 : Sorted ts') (hs : ∀ s ∈ ts, ∀ t ∈ ts, s.map List.length = t.map List.length) : ts = ts' :=
  List.Perm.eq_of_pairwise (le := fun (a b : List (List Int)) => ¬ cmpL b.flatten a.flatten < 0) (fun a b ha hb (q1 : ¬ cmpL b.flatten a.flatten < 0) (q2 : ¬ cmpL a.flatten b.flatten < 0) => flat_inj (hs a ha b (hp.mem_iff.2 hb)) (cmpL_eq q2 q1)) h1 h2 hp
end Go.Proofs.YtgcpconlmihilaaGreatDoor
