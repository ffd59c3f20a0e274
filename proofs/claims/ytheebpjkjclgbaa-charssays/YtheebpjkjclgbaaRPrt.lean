/-
  The contracts of ferref.Part, Parts.
-/
import Derived.Test.YtheebpjkjclgbaaFBad
namespace Go.Proofs.Ytheebpjkjclgbaa
open Go.RowKit

theorem drewN_add (w : World) (a b : Nat) : (w.drewN a).drewN b = w.drewN (a + b) := by
  induction b with
  | zero => rfl
  | succ b ih => exact congrArg World.drew ih

set_option maxHeartbeats 4000000 in
theorem RPart_at (a : Option Addr) (cap : Nat) (zs : List Int) (w : World) (hs : Shows w a zs) :
    Calls Try.prog 5 #[.slice a zs.length cap] w fun e w' => e = .returned (.int .i64 (ptC zs)) ∧ ∃ n, w' = w.drewN n := by
  have hl := hs.len
  go_enter Try.func5, Try.ntmps5
  go_wp2
  go_loopw [3] (fun i wr => ∃ k : Nat, k ≤ zs.length ∧ i = .int .i64 k ∧ Hid (∀ j, j < k → ptStep 1 0 zs j) ∧ ∃ n, wr = w.drewN n) (fun i _ => zs.length - (intOf i).toNat)
  case atStart => exact ⟨0, Nat.zero_le _, rfl, fun j hj => by omega, 0, rfl⟩
  case round =>
    obtain ⟨k, hk, rfl, HR, n, rfl⟩ := hrel
    by_cases hlt : k < zs.length
    · have hlt' : (k : Int) < (zs.length : Int) := by omega
      rcases Nat.eq_zero_or_pos k with hk0 | hpos
      · obtain rfl := hk0
        obtain ⟨b, off, z, rfl, HZ, hz1, hz2, hc⟩ := hs.elem hlt
        rw [Nat.add_zero] at hc
        by_cases h1 : z < 1
        · have d1 : decide (z < 1) = true := decide_eq_true h1
          go_wp2_with fail
          go_quiet (fail)
          go_wp2
          go_ret
          exact ⟨ret_int (by rw [ptC, ptGoB_neg (fun h => by have := (h 0 hlt).1; rw [← HZ.out] at this; omega)]; rfl), _, by first | exact rfl | exact drewN_add _ _ _⟩
        · have d1 : decide (z < 1) = false := decide_eq_false h1
          go_wp2_with fail
          go_quiet (fail)
          go_wp2
          go_roundw
          case rel => exact ⟨1, by omega, by go_num, (fun j hj => by obtain rfl : j = 0 := (by omega); exact ⟨by rw [← HZ.out]; omega, fun h => by omega⟩), _, by first | exact rfl | exact drewN_add _ _ _⟩
          case measure => simp [intOf]; omega
      · obtain ⟨m, rfl⟩ : ∃ m, k = m + 1 := ⟨k - 1, by omega⟩
        obtain ⟨b, off, z, y, rfl, HZ, HY, hz1, hz2, hy1, hy2, hc, hcy⟩ := hs.elem2 hlt (show m < zs.length by omega)
        have hm' : (m : Int) < (zs.length : Int) := by omega
        by_cases h1 : z < 1
        · have d1 : decide (z < 1) = true := decide_eq_true h1
          go_wp2_with fail
          go_quiet (fail)
          go_wp2
          go_ret
          exact ⟨ret_int (by rw [ptC, ptGoB_neg (fun h => by have := (h (m + 1) hlt).1; rw [← HZ.out] at this; omega)]; rfl), _, by first | exact rfl | exact drewN_add _ _ _⟩
        · have d1 : decide (z < 1) = false := decide_eq_false h1
          by_cases h2 : y < z
          · have d2 : decide (y < z) = true := decide_eq_true h2
            go_wp2_with fail
            go_quiet (fail)
            go_wp2
            go_ret
            exact ⟨ret_int (by rw [ptC, ptGoB_neg (fun h => by have := (h (m + 1) hlt).2 (by omega); rw [← HZ.out, Nat.add_sub_cancel, ← HY.out] at this; omega)]; rfl), _, by first | exact rfl | exact drewN_add _ _ _⟩
          · have d2 : decide (y < z) = false := decide_eq_false h2
            go_wp2_with fail
            go_quiet (fail)
            go_wp2
            go_roundw
            case rel => exact ⟨m + 2, by omega, by go_num, (fun j hj => by
                          by_cases hj' : j < m + 1
                          · exact HR.out j hj'
                          · obtain rfl : j = m + 1 := by omega
                            exact ⟨by rw [← HZ.out]; omega, fun h => by rw [← HZ.out, Nat.add_sub_cancel, ← HY.out]; omega⟩), _, by first | exact rfl | exact drewN_add _ _ _⟩
            case measure => simp [intOf]; omega
    · obtain rfl : k = zs.length := by omega
      have hd : decide ((zs.length : Int) < (zs.length : Int)) = false := by simp
      have HG : Hid (ptGoB 1 0 zs = true) := ptGoB_pos (fun j hj => HR.out j hj)
      go_wp2
      go_loopw [4, 5] (fun sv iv wr => ∃ (k : Nat) (s : Int), k ≤ zs.length ∧ iv = .int .i64 k ∧ sv = .int .i64 s ∧ 0 ≤ s ∧ s ≤ 40 ∧ Hid (ptRoom 40 zs = ptRoom (40 - s) (zs.drop k)) ∧ wr = w.drewN n) (fun _ iv _ => zs.length - (intOf iv).toNat)
      case atStart => exact ⟨0, 0, Nat.zero_le _, rfl, rfl, by omega, by omega, by show _ = _; simp, rfl⟩
      case round =>
        obtain ⟨k, s, hk, rfl, rfl, hs0, hs40, HP, hwr⟩ := hrel
        subst hwr
        by_cases hlt : k < zs.length
        · have hlt' : (k : Int) < (zs.length : Int) := by omega
          obtain ⟨b, off, z, rfl, HZ, hz1, hz2, hc⟩ := hs.elem hlt
          have hzp : 1 ≤ z := by have := (HR.out k hlt).1; rw [← HZ.out] at this; exact this
          have hdr := ptRoom_drop (40 - s) zs k hlt z HZ.out
          by_cases h1 : z > 40
          · have HC : Hid (ptC zs = 2) := by
              show _ = _
              rw [ptC, HG.out, if_pos rfl, HP.out, hdr, if_pos (show 40 - s < z by omega)]; rfl
            clear hdr
            go_wp2
            go_ret
            exact ⟨by rw [HC.out]; rfl, _, rfl⟩
          · by_cases h2 : s + z > 40
            · have HC : Hid (ptC zs = 2) := by
                show _ = _
                rw [ptC, HG.out, if_pos rfl, HP.out, hdr, if_pos (show 40 - s < z by omega)]; rfl
              clear hdr
              go_wp2
              go_ret
              exact ⟨by rw [HC.out]; rfl, _, rfl⟩
            · have HP2 : Hid (ptRoom 40 zs = ptRoom (40 - (s + z)) (zs.drop (k + 1))) := by
                show _ = _
                rw [HP.out, hdr, if_neg (by omega)]
                congr 1; omega
              clear hdr
              go_wp2
              go_roundw
              case rel => exact ⟨k + 1, s + z, by omega, by go_num, by first | rfl | go_num, by omega, by omega, HP2, by first | rfl | trivial⟩
              case measure => simp [intOf]; omega
        · obtain rfl : k = zs.length := by omega
          have hd2 : decide ((zs.length : Int) < (zs.length : Int)) = false := by simp
          have HC : Hid (ptC zs = 0) := by
            show _ = _
            rw [ptC, HG.out, if_pos rfl, HP.out, List.drop_length, ptRoom, if_neg (by omega)]
          go_wp2
          go_ret
          exact ⟨by rw [HC.out]; rfl, _, rfl⟩

theorem Shows.drewX {w : World} {a : Option Addr} {zs : List Int} (h : Shows w a zs) (n : Nat) : Shows (w.drewN n) a zs := h.below (below_drewN (Below.refl _ _) n)
theorem Table.drewX {w : World} {a : Option Addr} {ls : List (List Int)} (h : Table w a ls) (n : Nat) : Table (w.drewN n) a ls := h.below (below_drewN (Below.refl _ _) n)

set_option maxHeartbeats 2000000 in
theorem RParts_at (a : Option Addr) (n ca : Nat) (ls : List (List Int)) (w : World) (hs : Table w a ls) (hn : n = ls.length) (hl : ls.length ≤ 1000) :
    Calls Try.prog 9 #[.slice a n ca] w fun e w' => e = .returned (.int .i64 (firstBad ls)) ∧ ∃ q, w' = w.drewN q := by
  subst hn
  have HS : Hid (Table w a ls) := hs
  clear hs
  go_enter Try.func9, Try.ntmps9
  go_wp2
  go_loopw [3] (fun i wr => ∃ k : Nat, k ≤ ls.length ∧ i = .int .i64 k ∧ Hid (∀ j, j < k → ptC (ls.getD j []) = 0) ∧ ∃ q, wr = w.drewN q) (fun i _ => ls.length - (intOf i).toNat)
  case atStart => exact ⟨0, Nat.zero_le _, rfl, fun j hj => by omega, 0, rfl⟩
  case round =>
    obtain ⟨k, hk, rfl, HR, q, rfl⟩ := hrel
    by_cases hlt : k < ls.length
    · have hlt' : (k : Int) < (ls.length : Int) := by omega
      obtain ⟨b, off, ai, ni, ci, rfl, hc, HNi, hsh, _, _⟩ := (HS.out.drewX q).elemR hlt
      obtain ⟨p, HPp⟩ : ∃ p, Hid (p = ptC (ls.getD k [])) := ⟨_, rfl⟩
      have HPC : Hid (Calls Try.prog 5 #[.slice ai ni ci] (w.drewN q) fun e w' => e = .returned (.int .i64 p) ∧ ∃ n, w' = (w.drewN q).drewN n) := by
        rw [HPp.out, HNi.out]; exact RPart_at ai ci _ _ hsh.out
      clear hsh
      by_cases h0 : p = 0
      · subst h0
        have HR2 : Hid (∀ j, j < k + 1 → ptC (ls.getD j []) = 0) := fun j hj => by
          by_cases e : j = k
          · rw [e, ← HPp.out]
          · exact HR.out j (by omega)
        go_wp2_with fail
        refine HPC.out.mono ?_
        rintro e w1 ⟨rfl, n1, hw1⟩
        rw [drewN_add] at hw1
        subst hw1
        go_wp2
        go_roundw
        case rel => exact ⟨k + 1, by omega, by go_num, HR2, _, rfl⟩
        case measure => simp [intOf]; omega
      · have HCH : Hid (firstBad ls = p) := by
          have := firstBad_at hlt HR.out (by rw [← HPp.out]; exact h0)
          rw [← HPp.out] at this
          exact this
        have hb0 : (p != 0) = true := by simpa using h0
        go_wp2_with fail
        refine HPC.out.mono ?_
        rintro e w1 ⟨rfl, n1, hw1⟩
        rw [drewN_add] at hw1
        subst hw1
        go_wp2
        go_ret
        exact ⟨by rw [HCH.out]; rfl, _, rfl⟩
    · obtain rfl : k = ls.length := by omega
      have hlt' : ¬ ((ls.length : Int) < (ls.length : Int)) := by omega
      have HCH : Hid (firstBad ls = 0) := firstBad_take HR.out
      go_wp2
      go_ret
      exact ⟨by rw [HCH.out]; rfl, _, rfl⟩

end Go.Proofs.Ytheebpjkjclgbaa
