/-
  Contracts of parts.checkDistinct, parts.firstRun, ferlaw.Same[int], ferref.Size.
-/
import Derived.Test.YtnjbkiegeielhaaChk
import Derived.Deep.QuietTactic
import Derived.BigQuiet
namespace Go.Proofs.Ytnjbkiegeielhaa
open Go.RowKit

theorem chk_cases (zs : List Int) : chk zs = 0 ∨ chk zs = 1 ∨ chk zs = 2 := by
  unfold chk
  repeat' split
  all_goals simp

/-- What checkDistinct answers. -/
def chkD (zs : List Int) : Int := if chk zs = 0 then (if goesB 0 1 zs = true then 0 else 3) else chk zs

theorem chkD_cases (zs : List Int) : (chkD zs = 0 ∧ chk zs = 0 ∧ goesB 0 1 zs = true) ∨ (chkD zs = 3 ∧ chk zs = 0 ∧ goesB 0 1 zs = false) ∨ (chkD zs = 1 ∧ chk zs = 1) ∨ (chkD zs = 2 ∧ chk zs = 2) := by
  unfold chkD
  rcases chk_cases zs with h | h | h <;> rw [h] <;> simp

theorem Check_is {c : Int} (a : Option Addr) (cap : Nat) (zs : List Int) (w : World) (hs : Shows w a zs) (E : Hid (chk zs = c)) :
    Calls Try.prog 13 #[.slice a zs.length cap] w fun e w' => e = .returned (.int .i64 c) ∧ w' = w := by
  have := Check_any a cap zs w hs; rw [E.out] at this; exact this
theorem falls_is {c : Bool} (a : Option Addr) (cap : Nat) (zs : List Int) (w : World) (hs : Shows w a zs) (E : Hid (goesB 0 1 zs = c)) :
    Calls Try.prog 32 #[.slice a zs.length cap] w fun e w' => e = .returned (.bool c) ∧ w' = w := by
  have := falls_any a cap zs w hs; rw [E.out] at this; exact this

set_option maxHeartbeats 1000000 in
theorem checkDistinct_any (a : Option Addr) (cap : Nat) (zs : List Int) (w : World) (hs : Shows w a zs) :
    Calls Try.prog 36 #[.slice a zs.length cap] w fun e w' => e = .returned (.int .i64 (chkD zs)) ∧ w' = w := by
  rcases chkD_cases zs with ⟨e, e1, e2⟩ | ⟨e, e1, e2⟩ | ⟨e, e1⟩ | ⟨e, e1⟩
  · rw [e]
    have H1 : Hid (chk zs = _) := e1
    have H2 : Hid (goesB 0 1 zs = _) := e2
    clear e e1 e2
    go_enter Try.func36, Try.ntmps36
    go_wp2_with (first | (go_at_call 13; refine (Check_is _ _ _ _ hs H1).mono ?_; rintro e w' ⟨rfl, rfl⟩) | (go_at_call 32; refine (falls_is _ _ _ _ hs H2).mono ?_; rintro e w' ⟨rfl, rfl⟩))
    go_ret
    exact ⟨rfl, rfl⟩
  · rw [e]
    have H1 : Hid (chk zs = _) := e1
    have H2 : Hid (goesB 0 1 zs = _) := e2
    clear e e1 e2
    go_enter Try.func36, Try.ntmps36
    go_wp2_with (first | (go_at_call 13; refine (Check_is _ _ _ _ hs H1).mono ?_; rintro e w' ⟨rfl, rfl⟩) | (go_at_call 32; refine (falls_is _ _ _ _ hs H2).mono ?_; rintro e w' ⟨rfl, rfl⟩))
    go_ret
    exact ⟨rfl, rfl⟩
  · rw [e]
    have H1 : Hid (chk zs = _) := e1
    clear e e1
    go_enter Try.func36, Try.ntmps36
    go_wp2_with (go_at_call 13; refine (Check_is _ _ _ _ hs H1).mono ?_; rintro e w' ⟨rfl, rfl⟩)
    go_ret
    exact ⟨rfl, rfl⟩
  · rw [e]
    have H1 : Hid (chk zs = _) := e1
    clear e e1
    go_enter Try.func36, Try.ntmps36
    go_wp2_with (go_at_call 13; refine (Check_is _ _ _ _ hs H1).mono ?_; rintro e w' ⟨rfl, rfl⟩)
    go_ret
    exact ⟨rfl, rfl⟩

theorem checkDistinct_is {c : Int} (a : Option Addr) (cap : Nat) (zs : List Int) (w : World) (hs : Shows w a zs) (E : Hid (chkD zs = c)) :
    Calls Try.prog 36 #[.slice a zs.length cap] w fun e w' => e = .returned (.int .i64 c) ∧ w' = w := by
  have := checkDistinct_any a cap zs w hs; rw [E.out] at this; exact this

/-- How many of the first numbers go down by one each, from z on. -/
def runL : Int → List Int → Nat
  | _, [] => 0
  | z, x :: l => if x = z then runL (z - 1) l + 1 else 0
def runN (zs : List Int) : Nat := runL (zs.getD 0 0) zs

theorem runL_drop (z : Int) (zs : List Int) : ∀ k, k ≤ zs.length → (∀ i, i < k → zs.getD i 0 = z - i) → runL z zs = k + runL (z - k) (zs.drop k) := by
  intro k
  induction k with
  | zero => intro _ _; simp
  | succ k ih =>
    intro hk h
    rw [ih (by omega) (fun i hi => h i (by omega))]
    have e : zs.drop k = zs.getD k 0 :: zs.drop (k + 1) := by
      rw [List.drop_eq_getElem_cons (show k < zs.length by omega)]; simp [List.getD, List.getElem?_eq_getElem (show k < zs.length by omega)]
    rw [e, runL, if_pos (h k (by omega))]
    have : z - (k : Int) - 1 = z - ((k + 1 : Nat) : Int) := by omega
    rw [this]; omega

theorem runN_of (zs : List Int) (k : Nat) (hk : k ≤ zs.length) (h : ∀ i, i < k → zs.getD i 0 = zs.getD 0 0 - i) (hend : k < zs.length → zs.getD k 0 ≠ zs.getD 0 0 - k) : runN zs = k := by
  unfold runN
  rw [runL_drop _ zs k hk h]
  by_cases hlt : k < zs.length
  · have e : zs.drop k = zs.getD k 0 :: zs.drop (k + 1) := by
      rw [List.drop_eq_getElem_cons hlt]; simp [List.getD, List.getElem?_eq_getElem hlt]
    rw [e, runL, if_neg (hend hlt)]; simp
  · rw [List.drop_of_length_le (by omega)]; rfl

theorem drewN_two (w : World) (n m : Nat) : (w.drewN n).drewN m = w.drewN (n + m) := by simp [World.drewN]; try omega

set_option maxHeartbeats 1000000 in
theorem firstRun_any (a : Option Addr) (cap : Nat) (zs : List Int) (w : World) (hs : Shows w a zs) (h40 : ∀ z ∈ zs, 0 ≤ z ∧ z ≤ 1000) :
    Calls Try.prog 37 #[.slice a zs.length cap] w fun e w' => e = .returned (.int .i64 (runN zs)) ∧ ∃ n, w' = w.drewN n := by
  have hl := hs.len
  go_enter Try.func37, Try.ntmps37
  go_wp2
  go_loopw [3] (fun i wr => ∃ k : Nat, k ≤ zs.length ∧ i = .int .i64 k ∧ Hid (∀ i, i < k → zs.getD i 0 = zs.getD 0 0 - i) ∧ ∃ n, wr = w.drewN n) (fun i _ => zs.length - (intOf i).toNat)
  case atStart => exact ⟨0, Nat.zero_le _, rfl, fun j hj => by omega, 0, rfl⟩
  case round =>
    obtain ⟨k, hk, rfl, HR, n, rfl⟩ := hrel
    by_cases hlt : k < zs.length
    · have hlt' : (k : Int) < (zs.length : Int) := by omega
      obtain ⟨b, off, z, y, rfl, HZ, HY, hz1, hz2, hy1, hy2, hc, hcy⟩ := hs.elem2 hlt (show 0 < zs.length by omega)
      rw [Nat.add_zero] at hcy
      have hy0 : 0 ≤ y ∧ y ≤ 1000 := h40 y (by rw [HY.out]; simp [List.getD, List.getElem?_eq_getElem (show 0 < zs.length by omega)])
      obtain ⟨hy3, hy4⟩ := hy0
      have hpos : (0 : Int) < (zs.length : Int) := by omega
      by_cases he : z = y - k
      · have HE : Hid (z = y - k) := he
        have hb : (z == y - (k : Int)) = true := by simpa using he
        clear he
        go_wp2_with fail
        go_quiet (fail)
        go_wp2
        go_roundw
        case rel => exact ⟨k + 1, by omega, by go_num, fun j hj => by
                      by_cases hj' : j < k
                      · exact HR.out j hj'
                      · obtain rfl : j = k := by omega
                        rw [← HZ.out, ← HY.out]; exact HE.out, _, by first | exact rfl | exact drewN_two _ _ _⟩
        case measure => simp [intOf]; omega
      · have HE : Hid (¬ z = y - k) := he
        have hb : (z == y - (k : Int)) = false := by simpa using he
        clear he
        go_wp2_with fail
        go_quiet (fail)
        go_wp2
        go_ret
        exact ⟨ret_int (by rw [runN_of zs k hk HR.out (fun _ => by rw [← HZ.out, ← HY.out]; exact HE.out)]), _, by first | exact rfl | exact drewN_two _ _ _⟩
    · have hd : decide ((k : Int) < (zs.length : Int)) = false := by simp; omega
      go_wp2_with fail
      go_quiet (fail)
      go_wp2
      go_ret
      exact ⟨ret_int (by rw [runN_of zs k hk HR.out (fun h => by omega)]), _, by first | exact rfl | exact drewN_two _ _ _⟩

set_option maxHeartbeats 1000000 in
theorem Same_any (a b : Option Addr) (ca cb : Nat) (zs ys : List Int) (w : World) (hs : Shows w a zs) (ht : Shows w b ys) :
    Calls Try.prog 27 #[.slice a zs.length ca, .slice b ys.length cb] w fun e w' => e = .returned (.bool (decide (zs = ys))) ∧ ∃ n, w' = w.drewN n := by
  have hl := hs.len
  have hl2 := ht.len
  by_cases hlen : zs.length = ys.length
  · have HL : Hid (zs.length = ys.length) := hlen
    have hb : ((zs.length : Int) != (ys.length : Int)) = false := by rw [hlen]; simp
    clear hlen
    go_enter Try.func27, Try.ntmps27
    go_wp2
    go_loopw [13] (fun i wr => ∃ k : Nat, k ≤ zs.length ∧ i = .int .i64 k ∧ Hid (∀ i, i < k → zs.getD i 0 = ys.getD i 0) ∧ ∃ n, wr = w.drewN n) (fun i _ => zs.length - (intOf i).toNat)
    case atStart => exact ⟨0, Nat.zero_le _, rfl, fun j hj => by omega, 0, rfl⟩
    case round =>
      obtain ⟨k, hk, rfl, HR, n, rfl⟩ := hrel
      by_cases hlt : k < zs.length
      · have hlt' : (k : Int) < (zs.length : Int) := by omega
        have hltn : k < ys.length := by have := HL.out; omega
        have hlt2 : (k : Int) < (ys.length : Int) := by omega
        obtain ⟨b1, off, z, rfl, HZ, hz1, hz2, hc⟩ := hs.elem hlt
        obtain ⟨b2, off2, y, rfl, HY, hy1, hy2, hcy⟩ := ht.elem hltn
        by_cases he : z = y
        · subst he
          go_wp2_with fail
          go_quiet (fail)
          go_wp2
          go_roundw
          case rel => exact ⟨k + 1, by omega, by go_num, fun j hj => by
                        by_cases hj' : j < k
                        · exact HR.out j hj'
                        · obtain rfl : j = k := by omega
                          rw [← HZ.out, ← HY.out], _, by first | exact rfl | exact drewN_two _ _ _⟩
          case measure => simp [intOf]; omega
        · have HE : Hid (¬ z = y) := he
          have hbn : (z != y) = true := by simpa using he
          clear he
          go_wp2_with fail
          go_quiet (fail)
          go_wp2
          go_ret
          exact ⟨ret_bool (by rw [decide_eq_false (fun h => HE.out (by rw [HZ.out, HY.out, h]))]), _, by first | exact rfl | exact drewN_two _ _ _⟩
      · go_wp2
        go_ret
        refine ⟨ret_bool ?_, n, rfl⟩
        have : zs = ys := by
          refine List.ext_getElem HL.out (fun j h1 h2 => ?_)
          have := HR.out j (by omega)
          simpa [List.getD, List.getElem?_eq_getElem h1, List.getElem?_eq_getElem h2] using this
        rw [decide_eq_true this]
  · have hb : ((zs.length : Int) != (ys.length : Int)) = true := by rw [bne_iff_ne]; omega
    have HL : Hid (¬ zs.length = ys.length) := hlen
    clear hlen
    go_enter Try.func27, Try.ntmps27
    go_wp2
    go_ret
    exact ⟨ret_bool (by rw [decide_eq_false (fun h => HL.out (by rw [h]))]), 0, rfl⟩

/-- What the numbers are together. -/
def sum : List Int → Int
  | [] => 0
  | n :: l => n + sum l

theorem sum_append (l m : List Int) : sum (l ++ m) = sum l + sum m := by
  induction l with
  | nil => simp [sum]
  | cons n l ih => simp [sum, ih]; omega

theorem take_snoc (zs : List Int) (k : Nat) (hk : k < zs.length) : zs.take (k + 1) = zs.take k ++ [zs.getD k 0] := by
  rw [List.take_succ_eq_append_getElem hk]; simp [List.getD, List.getElem?_eq_getElem hk]

theorem sum_bound (zs : List Int) (h : ∀ z ∈ zs, 0 ≤ z ∧ z ≤ 1000) : 0 ≤ sum zs ∧ sum zs ≤ 1000 * zs.length := by
  induction zs with
  | nil => simp [sum]
  | cons n l ih =>
    have := ih (fun z hz => h z (by simp [hz]))
    have := h n (by simp)
    simp [sum]; omega

set_option maxHeartbeats 1000000 in
theorem Size_any (a : Option Addr) (cap : Nat) (zs : List Int) (w : World) (hs : Shows w a zs) (h40 : ∀ z ∈ zs, 0 ≤ z ∧ z ≤ 1000) :
    Calls Try.prog 19 #[.slice a zs.length cap] w fun e w' => e = .returned (.int .i64 (sum zs)) ∧ w' = w := by
  have hl := hs.len
  go_enter Try.func19, Try.ntmps19
  go_wp2
  go_loop [3, 4] (fun s i => ∃ (k : Nat) (x : Int), k ≤ zs.length ∧ i = .int .i64 k ∧ s = .int .i64 x ∧ 0 ≤ x ∧ x ≤ 1000 * k ∧ Hid (x = sum (zs.take k))) (fun _ i => zs.length - (intOf i).toNat)
  case atStart => exact ⟨0, 0, Nat.zero_le _, rfl, rfl, by omega, by omega, by simp [Hid, sum]⟩
  case round =>
    obtain ⟨k, x, hk, rfl, rfl, hx0, hx1, HX⟩ := hrel
    by_cases hlt : k < zs.length
    · obtain ⟨b, off, z, rfl, HZ, hz1, hz2, hc⟩ := hs.elem hlt
      have hz0 : 0 ≤ z ∧ z ≤ 1000 := h40 z (by rw [HZ.out]; simp [List.getD, List.getElem?_eq_getElem hlt])
      obtain ⟨hz3, hz4⟩ := hz0
      go_wp2
      go_round
      case rel => exact ⟨k + 1, x + z, by omega, by go_num, by go_num, by omega, by omega, by show _ = _; rw [take_snoc zs k hlt, sum_append, ← HX.out, ← HZ.out]; simp [sum]⟩
      case measure => simp [intOf]; omega
    · go_wp2
      go_ret
      exact ⟨ret_int (by rw [HX.out, List.take_of_length_le (by omega)]), rfl⟩

#print axioms firstRun_any
#print axioms Same_any
#print axioms Size_any
end Go.Proofs.Ytnjbkiegeielhaa
