/-
  The contracts of ferref.Part, Parts, Size, Inside and of ferlaw.ruled.
-/
import Derived.Test.YtncokoimbpkapaaRvK
namespace Go.Proofs.Ytncokoimbpkapaa
open Go.RowKit

theorem drewN_add (w : World) (a b : Nat) : (w.drewN a).drewN b = w.drewN (a + b) := by
  induction b with
  | zero => rfl
  | succ b ih => exact congrArg World.drew ih

set_option maxHeartbeats 4000000 in
theorem RPart_at (a : Option Addr) (cap : Nat) (zs : List Int) (w : World) (hs : Shows w a zs) :
    Calls Try.prog 35 #[.slice a zs.length cap] w fun e w' => e = .returned (.int .i64 (ptC zs)) ∧ ∃ n, w' = w.drewN n := by
  have hl := hs.len
  go_enter Try.func35, Try.ntmps35
  go_wp2
  go_loopw [3] (fun i wr => ∃ k : Nat, k ≤ zs.length ∧ i = .int .i64 k ∧ Hid (∀ j, j < k → ptStep 1 0 zs j) ∧ ∃ n, wr = w.drewN n) (fun i _ => zs.length - (intOf i).toNat)
  case atStart => exact ⟨0, Nat.zero_le _, rfl, fun j hj => by omega, 0, rfl⟩
  case round =>
    obtain ⟨k, hk, rfl, HR, n, rfl⟩ := hrel
    by_cases hlt : k < zs.length
    · have hlt' : (k : Int) < (zs.length : Int) := by omega
      rcases Nat.eq_zero_or_pos k with hk0 | hpos
      · obtain rfl := hk0
        obtain ⟨b, off, z, rfl, HZ, hz1, hz2, hc⟩ := hs.elem hlt
        rw [Nat.add_zero] at hc
        by_cases h1 : z < 1
        · have d1 : decide (z < 1) = true := decide_eq_true h1
          go_wp2_with fail
          go_quiet (fail)
          go_wp2
          go_ret
          exact ⟨ret_int (by rw [ptC, ptGoB_neg (fun h => by have := (h 0 hlt).1; rw [← HZ.out] at this; omega)]; rfl), _, by first | exact rfl | exact drewN_add _ _ _⟩
        · have d1 : decide (z < 1) = false := decide_eq_false h1
          go_wp2_with fail
          go_quiet (fail)
          go_wp2
          go_roundw
          case rel => exact ⟨1, by omega, by go_num, (fun j hj => by obtain rfl : j = 0 := (by omega); exact ⟨by rw [← HZ.out]; omega, fun h => by omega⟩), _, by first | exact rfl | exact drewN_add _ _ _⟩
          case measure => simp [intOf]; omega
      · obtain ⟨m, rfl⟩ : ∃ m, k = m + 1 := ⟨k - 1, by omega⟩
        obtain ⟨b, off, z, y, rfl, HZ, HY, hz1, hz2, hy1, hy2, hc, hcy⟩ := hs.elem2 hlt (show m < zs.length by omega)
        have hm' : (m : Int) < (zs.length : Int) := by omega
        by_cases h1 : z < 1
        · have d1 : decide (z < 1) = true := decide_eq_true h1
          go_wp2_with fail
          go_quiet (fail)
          go_wp2
          go_ret
          exact ⟨ret_int (by rw [ptC, ptGoB_neg (fun h => by have := (h (m + 1) hlt).1; rw [← HZ.out] at this; omega)]; rfl), _, by first | exact rfl | exact drewN_add _ _ _⟩
        · have d1 : decide (z < 1) = false := decide_eq_false h1
          by_cases h2 : y < z
          · have d2 : decide (y < z) = true := decide_eq_true h2
            go_wp2_with fail
            go_quiet (fail)
            go_wp2
            go_ret
            exact ⟨ret_int (by rw [ptC, ptGoB_neg (fun h => by have := (h (m + 1) hlt).2 (by omega); rw [← HZ.out, Nat.add_sub_cancel, ← HY.out] at this; omega)]; rfl), _, by first | exact rfl | exact drewN_add _ _ _⟩
          · have d2 : decide (y < z) = false := decide_eq_false h2
            go_wp2_with fail
            go_quiet (fail)
            go_wp2
            go_roundw
            case rel => exact ⟨m + 2, by omega, by go_num, (fun j hj => by
                          by_cases hj' : j < m + 1
                          · exact HR.out j hj'
                          · obtain rfl : j = m + 1 := by omega
                            exact ⟨by rw [← HZ.out]; omega, fun h => by rw [← HZ.out, Nat.add_sub_cancel, ← HY.out]; omega⟩), _, by first | exact rfl | exact drewN_add _ _ _⟩
            case measure => simp [intOf]; omega
    · obtain rfl : k = zs.length := by omega
      have hd : decide ((zs.length : Int) < (zs.length : Int)) = false := by simp
      have HG : Hid (ptGoB 1 0 zs = true) := ptGoB_pos (fun j hj => HR.out j hj)
      go_wp2
      go_loopw [4, 5] (fun sv iv wr => ∃ (k : Nat) (s : Int), k ≤ zs.length ∧ iv = .int .i64 k ∧ sv = .int .i64 s ∧ 0 ≤ s ∧ s ≤ 40 ∧ Hid (ptRoom 40 zs = ptRoom (40 - s) (zs.drop k)) ∧ wr = w.drewN n) (fun _ iv _ => zs.length - (intOf iv).toNat)
      case atStart => exact ⟨0, 0, Nat.zero_le _, rfl, rfl, by omega, by omega, by show _ = _; simp, rfl⟩
      case round =>
        obtain ⟨k, s, hk, rfl, rfl, hs0, hs40, HP, hwr⟩ := hrel
        subst hwr
        by_cases hlt : k < zs.length
        · have hlt' : (k : Int) < (zs.length : Int) := by omega
          obtain ⟨b, off, z, rfl, HZ, hz1, hz2, hc⟩ := hs.elem hlt
          have hzp : 1 ≤ z := by have := (HR.out k hlt).1; rw [← HZ.out] at this; exact this
          have hdr := ptRoom_drop (40 - s) zs k hlt z HZ.out
          by_cases h1 : z > 40
          · have HC : Hid (ptC zs = 2) := by
              show _ = _
              rw [ptC, HG.out, if_pos rfl, HP.out, hdr, if_pos (show 40 - s < z by omega)]; rfl
            clear hdr
            go_wp2
            go_ret
            exact ⟨by rw [HC.out]; rfl, _, rfl⟩
          · by_cases h2 : s + z > 40
            · have HC : Hid (ptC zs = 2) := by
                show _ = _
                rw [ptC, HG.out, if_pos rfl, HP.out, hdr, if_pos (show 40 - s < z by omega)]; rfl
              clear hdr
              go_wp2
              go_ret
              exact ⟨by rw [HC.out]; rfl, _, rfl⟩
            · have HP2 : Hid (ptRoom 40 zs = ptRoom (40 - (s + z)) (zs.drop (k + 1))) := by
                show _ = _
                rw [HP.out, hdr, if_neg (by omega)]
                congr 1; omega
              clear hdr
              go_wp2
              go_roundw
              case rel => exact ⟨k + 1, s + z, by omega, by go_num, by first | rfl | go_num, by omega, by omega, HP2, by first | rfl | trivial⟩
              case measure => simp [intOf]; omega
        · obtain rfl : k = zs.length := by omega
          have hd2 : decide ((zs.length : Int) < (zs.length : Int)) = false := by simp
          have HC : Hid (ptC zs = 0) := by
            show _ = _
            rw [ptC, HG.out, if_pos rfl, HP.out, List.drop_length, ptRoom, if_neg (by omega)]
          go_wp2
          go_ret
          exact ⟨by rw [HC.out]; rfl, _, rfl⟩

theorem Shows.drewX {w : World} {a : Option Addr} {zs : List Int} (h : Shows w a zs) (n : Nat) : Shows (w.drewN n) a zs := h.below (below_drewN (Below.refl _ _) n)
theorem Table.drewX {w : World} {a : Option Addr} {ls : List (List Int)} (h : Table w a ls) (n : Nat) : Table (w.drewN n) a ls := h.below (below_drewN (Below.refl _ _) n)

set_option maxHeartbeats 2000000 in
theorem RParts_at (a : Option Addr) (n ca : Nat) (ls : List (List Int)) (w : World) (hs : Table w a ls) (hn : n = ls.length) (hl : ls.length ≤ 1000) :
    Calls Try.prog 16 #[.slice a n ca] w fun e w' => e = .returned (.int .i64 (firstBad ls)) ∧ ∃ q, w' = w.drewN q := by
  subst hn
  have HS : Hid (Table w a ls) := hs
  clear hs
  go_enter Try.func16, Try.ntmps16
  go_wp2
  go_loopw [3] (fun i wr => ∃ k : Nat, k ≤ ls.length ∧ i = .int .i64 k ∧ Hid (∀ j, j < k → ptC (ls.getD j []) = 0) ∧ ∃ q, wr = w.drewN q) (fun i _ => ls.length - (intOf i).toNat)
  case atStart => exact ⟨0, Nat.zero_le _, rfl, fun j hj => by omega, 0, rfl⟩
  case round =>
    obtain ⟨k, hk, rfl, HR, q, rfl⟩ := hrel
    by_cases hlt : k < ls.length
    · have hlt' : (k : Int) < (ls.length : Int) := by omega
      obtain ⟨b, off, ai, ni, ci, rfl, hc, HNi, hsh, _, _⟩ := (HS.out.drewX q).elemR hlt
      obtain ⟨p, HPp⟩ : ∃ p, Hid (p = ptC (ls.getD k [])) := ⟨_, rfl⟩
      have HPC : Hid (Calls Try.prog 35 #[.slice ai ni ci] (w.drewN q) fun e w' => e = .returned (.int .i64 p) ∧ ∃ n, w' = (w.drewN q).drewN n) := by
        rw [HPp.out, HNi.out]; exact RPart_at ai ci _ _ hsh.out
      clear hsh
      by_cases h0 : p = 0
      · subst h0
        have HR2 : Hid (∀ j, j < k + 1 → ptC (ls.getD j []) = 0) := fun j hj => by
          by_cases e : j = k
          · rw [e, ← HPp.out]
          · exact HR.out j (by omega)
        go_wp2_with fail
        refine HPC.out.mono ?_
        rintro e w1 ⟨rfl, n1, hw1⟩
        rw [drewN_add] at hw1
        subst hw1
        go_wp2
        go_roundw
        case rel => exact ⟨k + 1, by omega, by go_num, HR2, _, rfl⟩
        case measure => simp [intOf]; omega
      · have HCH : Hid (firstBad ls = p) := by
          have := firstBad_at hlt HR.out (by rw [← HPp.out]; exact h0)
          rw [← HPp.out] at this
          exact this
        have hb0 : (p != 0) = true := by simpa using h0
        go_wp2_with fail
        refine HPC.out.mono ?_
        rintro e w1 ⟨rfl, n1, hw1⟩
        rw [drewN_add] at hw1
        subst hw1
        go_wp2
        go_ret
        exact ⟨by rw [HCH.out]; rfl, _, rfl⟩
    · obtain rfl : k = ls.length := by omega
      have hlt' : ¬ ((ls.length : Int) < (ls.length : Int)) := by omega
      have HCH : Hid (firstBad ls = 0) := firstBad_take HR.out
      go_wp2
      go_ret
      exact ⟨by rw [HCH.out]; rfl, _, rfl⟩

set_option maxHeartbeats 1000000 in
theorem RSize_at (a : Option Addr) (n cap : Nat) (l : List Nat) (w : World) (hs : Shows w a (castL l)) (hn : n = l.length) (hl : l.sum ≤ 1000000) :
    Calls Try.prog 17 #[.slice a n cap] w fun e w' => e = .returned (.int .i64 (l.sum : Int)) ∧ w' = w := by
  subst hn
  have hlen : l.length ≤ 17592186044416 := by have := hs.len; rw [castL_len] at this; exact this
  go_enter Try.func17, Try.ntmps17
  go_wp2
  go_loop [3, 4] (fun t i => ∃ k : Nat, k ≤ l.length ∧ i = .int .i64 k ∧ t = .int .i64 (((l.take k).sum : Nat) : Int)) (fun _ i => l.length - (intOf i).toNat)
  case atStart => exact ⟨0, Nat.zero_le _, rfl, by simp⟩
  case round =>
    obtain ⟨k, hk, rfl, rfl⟩ := hrel
    by_cases hlt : k < l.length
    · obtain ⟨b, off, z, rfl, HZ, hz1, hz2, hc⟩ := hs.elem (k := k) (by rw [castL_len]; exact hlt)
      have HZ2 : Hid (z = (l.getD k 0 : Int)) := by show _ = _; rw [HZ.out, castL_at]
      have h1 := sum_take hlt
      have h2 := sum_take_le l (k + 1)
      have hlt' : (k : Int) < (l.length : Int) := by omega
      obtain ⟨S, HS⟩ : ∃ S, Hid (S = (l.take k).sum) := ⟨_, rfl⟩
      rw [← HS.out] at h1 ⊢
      have HS2 : Hid (((l.take (k + 1)).sum : Int) = (S : Int) + z) := by show _ = _; rw [h1, HZ2.out]; omega
      have b1 : (S : Int) + z ≤ 1000000 := by rw [HZ2.out]; omega
      have b2 : 0 ≤ z := by rw [HZ2.out]; omega
      clear h1 h2
      go_wp2
      go_round
      case rel => exact ⟨k + 1, by omega, by go_num, by rw [HS2.out]⟩
      case measure => simp [intOf]; omega
    · obtain rfl : k = l.length := by omega
      have hlt' : ¬ ((l.length : Int) < (l.length : Int)) := by omega
      go_wp2
      go_ret
      exact ⟨by first | rfl | (rw [List.take_length]; rfl), rfl⟩

set_option maxHeartbeats 2000000 in
theorem RInside_at (a c : Option Addr) (n m ca cc : Nat) (al cl : List Nat) (w : World) (ha : Shows w a (castL al)) (hc : Shows w c (castL cl)) (hn : n = al.length) (hm : m = cl.length) (hp : ∀ r, r < al.length → 0 < al.getD r 0) :
    Calls Try.prog 18 #[.slice a n ca, .slice c m cc] w fun e w' => e = .returned (.bool (inB al cl)) ∧ ∃ q, w' = w.drewN q := by
  subst hn
  subst hm
  have hlb : al.length ≤ 17592186044416 := by have := ha.len; rw [castL_len] at this; exact this
  have hlc : cl.length ≤ 17592186044416 := by have := hc.len; rw [castL_len] at this; exact this
  by_cases hgt : cl.length < al.length
  · have hgt' : (al.length : Int) > (cl.length : Int) := by omega
    have HI : Hid (inB al cl = false) := by
      show _ = _
      cases e : inB al cl with
      | false => rfl
      | true =>
        have h1 := (inB_iff al cl).1 e cl.length
        have h2 := hp cl.length hgt
        rw [getD_out (q := cl) (Nat.le_refl _)] at h1; omega
    go_enter Try.func18, Try.ntmps18
    go_wp2
    go_ret
    exact ⟨by rw [HI.out]; rfl, 0, rfl⟩
  · have hgt' : ¬ ((al.length : Int) > (cl.length : Int)) := by omega
    have HP : Hid (∀ r, r < al.length → 0 < al.getD r 0) := hp
    clear hp
    go_enter Try.func18, Try.ntmps18
    go_wp2
    go_loopw [5] (fun i wr => ∃ k : Nat, k ≤ al.length ∧ i = .int .i64 k ∧ Hid (∀ j, j < k → al.getD j 0 ≤ cl.getD j 0) ∧ ∃ q, wr = w.drewN q) (fun i _ => al.length - (intOf i).toNat)
    case atStart => exact ⟨0, Nat.zero_le _, rfl, fun j hj => by omega, 0, rfl⟩
    case round =>
      obtain ⟨k, hk, rfl, HR, q, rfl⟩ := hrel
      by_cases hlt : k < al.length
      · have hlt' : (k : Int) < (al.length : Int) := by omega
        have hlt2 : (k : Int) < (cl.length : Int) := by omega
        obtain ⟨b, off, z, hab, HZ, hz1, hz2, hca⟩ := ha.elem (k := k) (by rw [castL_len]; exact hlt)
        obtain ⟨b', off', y, hcb, HY, hy1, hy2, hcc⟩ := hc.elem (k := k) (by rw [castL_len]; omega)
        subst hab
        subst hcb
        have HZ2 : Hid (z = (al.getD k 0 : Int)) := by show _ = _; rw [HZ.out, castL_at]
        have HY2 : Hid (y = (cl.getD k 0 : Int)) := by show _ = _; rw [HY.out, castL_at]
        by_cases hle : al.getD k 0 ≤ cl.getD k 0
        · have hle' : ¬ (z > y) := by rw [HZ2.out, HY2.out]; omega
          have d1 : decide (z > y) = false := decide_eq_false hle'
          have HR2 : Hid (∀ j, j < k + 1 → al.getD j 0 ≤ cl.getD j 0) := fun j hj => by
            by_cases e : j = k
            · rw [e]; exact hle
            · exact HR.out j (by omega)
          go_wp2_with fail
          go_quiet (fail)
          go_wp2
          go_roundw
          case rel => exact ⟨k + 1, by omega, by go_num, HR2, _, by first | exact rfl | exact drewN_add _ _ _⟩
          case measure => simp [intOf]; omega
        · have hle' : z > y := by rw [HZ2.out, HY2.out]; omega
          have HI : Hid (inB al cl = false) := by
            show _ = _
            cases e : inB al cl with
            | false => rfl
            | true => exact absurd ((inB_iff al cl).1 e k) hle
          go_wp2_with fail
          go_quiet (fail)
          go_wp2
          go_ret
          exact ⟨by rw [HI.out]; rfl, _, by first | exact rfl | exact drewN_add _ _ _⟩
      · obtain rfl : k = al.length := by omega
        have hlt' : ¬ ((al.length : Int) < (al.length : Int)) := by omega
        have HI : Hid (inB al cl = true) := (inB_iff al cl).2 (fun i => by
          by_cases hi : i < al.length
          · exact HR.out i hi
          · rw [getD_out (q := al) (by omega)]; omega)
        go_wp2
        go_ret
        exact ⟨by rw [HI.out]; rfl, _, rfl⟩

end Go.Proofs.Ytncokoimbpkapaa
