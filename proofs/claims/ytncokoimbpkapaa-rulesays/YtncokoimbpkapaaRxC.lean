/-
  The contracts of ferref.enough and ferref.Rows.
-/
import Derived.Test.YtncokoimbpkapaaRvS
import Derived.Test.YtncokoimbpkapaaCRow
import Derived.Test.YtncokoimbpkapaaBApp
namespace Go.Proofs.Ytncokoimbpkapaa
open Go.RowKit

theorem rwd_drop {t : List (List Nat)} {i : Nat} (h : i < t.length) : rwd (t.drop i) = (t.getD i []).reverse ++ rwd (t.drop (i + 1)) := by
  unfold rwd
  rw [List.drop_eq_getElem_cons h, List.flatMap_cons]
  simp [List.getD, h]
theorem take_rev {r : List Nat} {m : Nat} (h : m < r.length) : (r.take (m + 1)).reverse = r.getD m 0 :: (r.take m).reverse := by
  rw [List.take_succ_eq_append_getElem h, List.reverse_append]
  simp [List.getD, h]

set_option maxHeartbeats 4000000 in
theorem enough_at (a : Option Addr) (n ca x : Nat) (t : List (List Nat)) (w : World) (hs : Table w a (castT t)) (hn : n = t.length) (hl : t.length ≤ 1000) (hr : ∀ r ∈ t, r.length ≤ 1000) (hx : 1 ≤ x) (hx2 : x ≤ 1000) :
    Calls Try.prog 22 #[.slice a n ca, .int .i64 (x : Int)] w fun e w' => e = .returned (.bool (lat x 0 (rwd t))) ∧ w' = w := by
  subst hn
  have HS : Hid (Table w a (castT t)) := hs
  obtain ⟨R, HRR⟩ : ∃ R, Hid (lat x 0 (rwd t) = R) := ⟨_, rfl⟩
  have HLr : Hid (∀ r ∈ t, r.length ≤ 1000) := hr
  rw [HRR.out]
  clear hs hr
  go_enter Try.func22, Try.ntmps22
  go_wp2
  go_loopw [5, 6] (fun ov iv wr => ∃ (i k : Nat), i ≤ t.length ∧ k ≤ i * 1000 ∧ iv = .int .i64 i ∧ ov = .int .i64 k ∧ Hid (R = lat x k (rwd (t.drop i))) ∧ wr = w) (fun _ iv _ => t.length - (intOf iv).toNat)
  case atStart => exact ⟨0, 0, Nat.zero_le _, Nat.zero_le _, rfl, rfl, by show _ = _; rw [← HRR.out]; simp, rfl⟩
  case round =>
    obtain ⟨i, k, hi, hk, rfl, rfl, HI, hwr⟩ := hrel
    obtain rfl := hwr
    by_cases hlt : i < t.length
    · have hlt' : (i : Int) < (t.length : Int) := by omega
      obtain ⟨b1, off1, ai, ni, ci, rfl, hc1, HN1, HS1, _, _⟩ := HS.out.elemR (k := i) (by rw [castT_len]; exact hlt)
      obtain ⟨r, HR⟩ : ∃ r, Hid (r = t.getD i []) := ⟨_, rfl⟩
      have hcr : (castT t).getD i [] = castL r := by rw [castT_at, HR.out]
      rw [hcr] at HS1 HN1
      rw [castL_len] at HN1
      have hr1000 : r.length ≤ 1000 := by rw [HR.out]; exact HLr.out _ (by simp [List.getD, hlt])
      have hni : ni = r.length := HN1.out
      subst hni
      have HI2 : Hid (R = lat x k ((r.take r.length).reverse ++ rwd (t.drop (i + 1)))) := by
        have := HI.out
        rw [rwd_drop hlt, ← HR.out] at this
        rw [List.take_length]; exact this
      go_wp2
      go_loopw [5, 7] (fun ov jv wr' => ∃ (m k' : Nat) (j : Int), m ≤ r.length ∧ k' + m ≤ k + r.length ∧ jv = .int .i64 j ∧ ov = .int .i64 k' ∧ Hid (j = (m : Int) - 1) ∧ Hid (R = lat x k' ((r.take m).reverse ++ rwd (t.drop (i + 1)))) ∧ wr' = wr) (fun _ jv _ => ((intOf jv) + 1).toNat)
      case atStart => exact ⟨r.length, k, (r.length : Int) - 1, Nat.le_refl _, Nat.le_refl _, by first | rfl | go_num, rfl, rfl, HI2, rfl⟩
      case round =>
        obtain ⟨m, k', j, hm, hk', rfl, rfl, HJ, HI3, hwr⟩ := hrel
        obtain rfl := hwr
        have hj := HJ.out
        rcases Nat.eq_zero_or_pos m with h0 | h0
        · subst h0
          have hjn : ¬ (j ≥ 0) := by omega
          have HI4 : Hid (R = lat x k' (rwd (t.drop (i + 1)))) := by have := HI3.out; simpa [Hid] using this
          clear hj HJ
          go_wp2
          go_roundw
          case rel => exact ⟨i + 1, k', by omega, by omega, by go_num, rfl, HI4, by first | rfl | trivial⟩
          case measure => simp [intOf]; omega
        · obtain ⟨m, rfl⟩ : ∃ m', m = m' + 1 := ⟨m - 1, by omega⟩
          have hjm : j = (m : Int) := by omega
          subst hjm
          have hj0 : (m : Int) ≥ 0 := by omega
          have hjr : (m : Int) < (r.length : Int) := by omega
          obtain ⟨b2, off2, z, hai, HZ, hz1, hz2, hcz⟩ := HS1.out.elem (k := m) (by rw [castL_len]; omega)
          subst hai
          obtain ⟨y, HY⟩ : ∃ y, Hid (y = r.getD m 0) := ⟨_, rfl⟩
          have hzy : z = (y : Int) := by rw [HZ.out, castL_at, HY.out]
          subst hzy
          have hI3 := HI3.out
          rw [take_rev (by omega), ← HY.out, List.cons_append] at hI3
          clear hj HJ
          by_cases h1 : y + 1 = x
          · have e1 : (y : Int) = (x : Int) - 1 := by omega
            have e2 : ¬ ((y : Int) = (x : Int)) := by omega
            have e2b : ((y : Int) == (x : Int)) = false := by simp; omega
            have e3 : ¬ ((k' : Int) + 1 < 0) := by omega
            have HI4 : Hid (R = lat x (k' + 1) ((r.take m).reverse ++ rwd (t.drop (i + 1)))) := by
              simp only [lat, if_pos h1] at hI3; exact hI3
            clear hI3
            go_wp2
            go_roundw
            case rel => exact ⟨m, k' + 1, (m : Int) - 1, by omega, by omega, by first | rfl | go_num, by go_num, rfl, HI4, by first | rfl | trivial⟩
            case measure => simp [intOf]; try omega
          · have e1 : ¬ ((y : Int) = (x : Int) - 1) := by omega
            have e1b : ((y : Int) == (x : Int) - 1) = false := by simp; omega
            by_cases h2 : y = x
            · have e2 : (y : Int) = (x : Int) := by omega
              rcases Nat.eq_zero_or_pos k' with hk0 | hk0
              · subst hk0
                have HF : Hid (R = false) := by
                  simp only [lat, if_neg h1, if_pos h2] at hI3; simpa [Hid] using hI3
                clear hI3
                go_wp2
                go_ret
                exact ⟨by rw [HF.out]; rfl, rfl⟩
              · have e3 : ¬ ((k' : Int) - 1 < 0) := by omega
                have HI4 : Hid (R = lat x (k' - 1) ((r.take m).reverse ++ rwd (t.drop (i + 1)))) := by
                  simp only [lat, if_neg h1, if_pos h2] at hI3
                  have : decide (k' ≠ 0) = true := decide_eq_true (by omega)
                  rw [this, Bool.true_and] at hI3
                  exact hI3
                clear hI3
                go_wp2
                go_roundw
                case rel => exact ⟨m, k' - 1, (m : Int) - 1, by omega, by omega, by first | rfl | go_num, by show Value.int _ _ = _; congr 1; omega, rfl, HI4, by first | rfl | trivial⟩
                case measure => simp [intOf]; try omega
            · have e2 : ¬ ((y : Int) = (x : Int)) := by omega
              have e2b : ((y : Int) == (x : Int)) = false := by simp; omega
              have e3 : ¬ ((k' : Int) < 0) := by omega
              have HI4 : Hid (R = lat x k' ((r.take m).reverse ++ rwd (t.drop (i + 1)))) := by
                simp only [lat, if_neg h1, if_neg h2] at hI3; exact hI3
              clear hI3
              go_wp2
              go_roundw
              case rel => exact ⟨m, k', (m : Int) - 1, by omega, by omega, by first | rfl | go_num, rfl, rfl, HI4, by first | rfl | trivial⟩
              case measure => simp [intOf]; try omega
    · obtain rfl : i = t.length := by omega
      have hlt' : ¬ ((t.length : Int) < (t.length : Int)) := by omega
      have HT : Hid (R = true) := by
        have := HI.out
        rw [List.drop_length] at this
        exact this
      go_wp2
      go_ret
      exact ⟨by rw [HT.out]; rfl, rfl⟩

set_option maxHeartbeats 2000000 in
theorem RRows_at (a : Option Addr) (n ca : Nat) (ls : List (List Int)) (w : World) (hs : Table w a ls) (hn : n = ls.length) (hl : ls.length ≤ 1000) :
    Calls Try.prog 20 #[.slice a n ca] w fun e w' => ∃ v, e = .returned v ∧ Owns w' w.heap.size v (ls.map fun l => (l.length : Int)) ∧ Below w.heap.size w w' := by
  subst hn
  have HS : Hid (Table w a ls) := hs
  clear hs
  go_enter Try.func20, Try.ntmps20
  go_wp2
  go_loopw [3, 4] (fun ov iv wr => ∃ (i : Nat), i ≤ ls.length ∧ iv = .int .i64 i ∧ Hid (Owns wr w.heap.size ov ((ls.take i).map fun l => (l.length : Int))) ∧ Hid (Below w.heap.size w wr)) (fun _ iv _ => ls.length - (intOf iv).toNat)
  case atStart => exact ⟨0, Nat.zero_le _, rfl, by show Owns _ _ _ _; exact World.ownsRow_nil _ _ _ _, Below.refl _ _⟩
  case round =>
    obtain ⟨i, hi, rfl, HO, HB⟩ := hrel
    by_cases hlt : i < ls.length
    · have hlt' : (i : Int) < (ls.length : Int) := by omega
      obtain ⟨b1, off1, ai, ni, ci, rfl, hc1, HN1, HS1, _, hnb⟩ := (HS.out.below HB.out).elemR hlt
      obtain ⟨av, nv, cv, hov⟩ : ∃ av nv cv, u3 = .slice av nv cv := by
        obtain ⟨a1, c1, e1⟩ := HO.out.shape; exact ⟨_, _, _, e1⟩
      subst hov
      have HOw : Hid (wr.ownsRow w.heap.size 3 1 (.slice av nv cv) (((ls.take i).map fun l => (l.length : Int)).map (Value.int .i64)).length (((ls.take i).map fun l => (l.length : Int)).map (Value.int .i64))) := vals_of_owns HO.out
      have HLl : Hid ((((ls.take i).map fun l => (l.length : Int)).map (Value.int .i64)).length ≤ 1000) := by show _ ≤ _; simp; omega
      obtain ⟨L, HLL⟩ : ∃ L, Hid (L = ((ls.take i).map fun l => (l.length : Int)).map (Value.int .i64)) := ⟨_, rfl⟩
      rw [← HLL.out] at HOw HLl
      have HBs : Hid (w.heap.size ≤ wr.heap.size) := HB.out.size
      go_wp2_with (at_builtin; refine append_one elem_int (x := .int .i64 (ni : Int)) rfl _ _ rfl rfl rfl rfl HOw.out rfl ?c3 ?c4 ?c5 ?_)
      case c3 => have := HLl.out; unfold maxLen; omega
      case c4 => have := HLl.out; omega
      case c5 => exact HBs.out
      intro u2 w2 hO2 hb2 hk2
      have HO2 : Hid (Owns w2 w.heap.size u2 ((ls.take (i + 1)).map fun l => (l.length : Int))) := by
        have e : ((ls.take (i + 1)).map fun l => (l.length : Int)) = ((ls.take i).map fun l => (l.length : Int)) ++ [(ni : Int)] := by
          rw [List.take_succ_eq_append_getElem hlt, List.map_append, HN1.out]
          simp [List.getD, hlt]
        show Owns _ _ _ _
        rw [e]
        rw [HLL.out] at hO2
        exact owns_of_vals (by simpa using hO2)
      have HB2 : Hid (Below w.heap.size w w2) := HB.out.trans hb2
      clear hO2 hb2 hk2
      go_wp2
      go_roundw
      case rel => exact ⟨i + 1, by omega, by go_num, HO2, HB2⟩
      case measure => simp [intOf]; omega
    · obtain rfl : i = ls.length := by omega
      have hlt' : ¬ ((ls.length : Int) < (ls.length : Int)) := by omega
      have HE : Hid (Owns wr w.heap.size u3 (ls.map fun l => (l.length : Int))) := by have := HO.out; rw [List.take_length] at this; exact this
      go_wp2
      go_ret
      exact ⟨_, rfl, HE.out, HB.out⟩

end Go.Proofs.Ytncokoimbpkapaa
