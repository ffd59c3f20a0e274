/-
  The contract of perms.Product.
-/
import Derived.Test.YtnjbkiegeielhabGPrd
namespace Go.Proofs.Ytnjbkiegeielhab
open Go.RowKit

def okWord (n : Int) (ws : List Int) : Bool := ws.all fun i => decide (1 ≤ i) && decide (i < n)
theorem okWord_iff {n : Int} {ws : List Int} : okWord n ws = true ↔ ∀ i ∈ ws, 1 ≤ i ∧ i < n := by simp [okWord]
theorem okWord_bad {n : Int} {ws : List Int} {k : Nat} (hk : k < ws.length) (h : ws.getD k 0 < 1 ∨ n ≤ ws.getD k 0) : okWord n ws = false := by
  cases e : okWord n ws with
  | false => rfl
  | true => have := okWord_iff.1 e _ (getD_mem hk); omega
def prodC (n : Int) (ws : List Int) : Int := if n < 0 ∨ 40 < n then 1 else if okWord n ws = true then 0 else 1
def prodL (n : Int) (ws : List Int) : List Int := if prodC n ws = 0 then play ws (orderL n.toNat) else []

set_option maxHeartbeats 4000000 in
theorem Product_any (n : Int) (hn1 : -9223372036854775808 ≤ n) (hn2 : n ≤ 9223372036854775807) (a : Option Addr) (cap : Nat) (ws : List Int) (w : World) (hs : Shows w a ws) :
    Calls Try.prog 24 #[.int .i64 n, .slice a ws.length cap] w fun e w' => ∃ v, e = .returned (.tuple #[v, .int .i64 (prodC n ws)]) ∧ Owns w' w.heap.size v (prodL n ws) ∧ Below w.heap.size w w' := by
  have hl := hs.len
  by_cases hn0 : n < 0
  · have hb : decide (n < 0) = true := by simpa using hn0
    have HC : Hid (prodC n ws = 1) := by show _ = _; unfold prodC; rw [if_pos (Or.inl hn0)]
    have HL : Hid (prodL n ws = []) := by show _ = _; unfold prodL; rw [HC.out]; rfl
    go_enter Try.func24, Try.ntmps24
    go_wp2
    go_ret2
    exact ⟨.slice none 0 0, by rw [HC.out]; rfl, by rw [HL.out]; exact World.ownsRow_nil _ _ _ _, Below.refl _ _⟩
  · have hb : decide (n < 0) = false := by simpa using hn0
    by_cases hn4 : 40 < n
    · have hb2 : decide (n > 40) = true := by simpa using hn4
      have HC : Hid (prodC n ws = 1) := by show _ = _; unfold prodC; rw [if_pos (Or.inr hn4)]
      have HL : Hid (prodL n ws = []) := by show _ = _; unfold prodL; rw [HC.out]; rfl
      go_enter Try.func24, Try.ntmps24
      go_wp2
      go_ret2
      exact ⟨.slice none 0 0, by rw [HC.out]; rfl, by rw [HL.out]; exact World.ownsRow_nil _ _ _ _, Below.refl _ _⟩
    · have hb2 : decide (n > 40) = false := by simpa using hn4
      obtain ⟨N, rfl⟩ : ∃ N : Nat, n = (N : Int) := ⟨n.toNat, by omega⟩
      have hN : N ≤ 40 := by omega
      have HC : Hid (prodC (N : Int) ws = if okWord (N : Int) ws = true then 0 else 1) := by show _ = _; unfold prodC; rw [if_neg (by omega)]
      clear hn0 hn4
      go_enter Try.func24, Try.ntmps24
      go_wp2
      go_loopw [18] (fun i wr => ∃ k : Nat, k ≤ ws.length ∧ i = .int .i64 k ∧ Hid (∀ i, i < k → 1 ≤ ws.getD i 0 ∧ ws.getD i 0 < N) ∧ wr = w) (fun i _ => ws.length - (intOf i).toNat)
      case atStart => exact ⟨0, Nat.zero_le _, rfl, fun j hj => by omega, by trivial⟩
      case round =>
        obtain ⟨k, hk, rfl, HR, hwr⟩ := hrel
        obtain rfl : w = wr := hwr.symm
        by_cases hlt : k < ws.length
        · have hlt' : (k : Int) < (ws.length : Int) := by omega
          obtain ⟨b, off, z, rfl, HZ, -, -, hc⟩ := hs.elem hlt
          by_cases h1 : z < 1
          · have hb1 : decide (z < 1) = true := by simpa using h1
            have HE : Hid (okWord (N : Int) ws = false) := okWord_bad hlt (Or.inl (by rw [← HZ.out]; exact h1))
            have HC1 : Hid (prodC (N : Int) ws = 1) := by show _ = _; rw [HC.out, HE.out]; rfl
            have HL : Hid (prodL (N : Int) ws = []) := by show _ = _; unfold prodL; rw [HC1.out]; rfl
            go_wp2
            go_ret2
            exact ⟨.slice none 0 0, by rw [HC1.out]; rfl, by rw [HL.out]; exact World.ownsRow_nil _ _ _ _, Below.refl _ _⟩
          · have hb1 : decide (z < 1) = false := by simpa using h1
            by_cases h2 : (N : Int) ≤ z
            · have hb3 : decide (z ≥ (N : Int)) = true := by simpa using h2
              have HE : Hid (okWord (N : Int) ws = false) := okWord_bad hlt (Or.inr (by rw [← HZ.out]; exact h2))
              have HC1 : Hid (prodC (N : Int) ws = 1) := by show _ = _; rw [HC.out, HE.out]; rfl
              have HL : Hid (prodL (N : Int) ws = []) := by show _ = _; unfold prodL; rw [HC1.out]; rfl
              go_wp2
              go_ret2
              exact ⟨.slice none 0 0, by rw [HC1.out]; rfl, by rw [HL.out]; exact World.ownsRow_nil _ _ _ _, Below.refl _ _⟩
            · have hb3 : decide (z ≥ (N : Int)) = false := by simpa using h2
              have HE : Hid (1 ≤ z ∧ z < (N : Int)) := ⟨by omega, by omega⟩
              go_wp2
              go_roundw
              case rel => exact ⟨k + 1, by omega, by go_num, fun j hj => by
                            by_cases hj' : j < k
                            · exact HR.out j hj'
                            · obtain rfl : j = k := by omega
                              rw [← HZ.out]; exact HE.out, by trivial⟩
              case measure => simp [intOf]; omega
        · obtain rfl : k = ws.length := by omega
          have hlt0 : decide ((ws.length : Int) < (ws.length : Int)) = false := by simp
          have HOK : Hid (okWord (N : Int) ws = true) := okWord_iff.2 (fun z hz => by
            obtain ⟨j, hj, rfl⟩ := List.mem_iff_getElem.1 hz
            have := HR.out j hj
            simpa [List.getD, List.getElem?_eq_getElem hj] using this)
          have HC0 : Hid (prodC (N : Int) ws = 0) := by show _ = _; rw [HC.out, HOK.out]; rfl
          have HL : Hid (prodL (N : Int) ws = play ws (orderL N)) := by show _ = _; unfold prodL; rw [HC0.out, if_pos rfl, Int.toNat_natCast]
          go_wp2_with fail
          refine (inOrder_ok N _ hN).mono ?_
          rintro e w1 ⟨v, rfl, hown, hb1⟩
          obtain ⟨ag, cg, rfl⟩ := hown.shape
          have hlen : (orderL N).length = N := tab_length _ _
          rw [hlen] at hown ⊢
          have HO1 : Hid (Owns w1 w.heap.size (.slice ag N cg) (play (ws.drop ws.length) (orderL N))) := by rw [List.drop_length]; exact hown
          have HB1 : Hid (Below w.heap.size w w1) := hb1
          clear hown hb1 hlen
          go_wp2_with fail
          go_loopw [9] (fun i wr => ∃ (k : Nat) (iv : Int), k ≤ ws.length ∧ i = .int .i64 iv ∧ Hid (iv = (k : Int) - 1) ∧ Hid (Owns wr w.heap.size (.slice ag N cg) (play (ws.drop k) (orderL N))) ∧ Hid (Below w.heap.size w wr)) (fun i _ => (intOf i + 1).toNat)
          case atStart => exact ⟨ws.length, (ws.length : Int) - 1, Nat.le_refl _, by go_num, rfl, HO1, HB1⟩
          case round =>
            obtain ⟨k, iv, hk, rfl, HI, HO, HB⟩ := hrel
            by_cases hk0 : 0 < k
            · obtain ⟨j, rfl⟩ : ∃ j, k = j + 1 := ⟨k - 1, by omega⟩
              obtain rfl : iv = (j : Int) := by have := HI.out; omega
              have hge : (0 : Int) ≤ (j : Int) := by omega
              have hjl : j < ws.length := by omega
              have hjl' : (j : Int) < (ws.length : Int) := by omega
              obtain ⟨b, off, z, rfl, HZ, -, -, hc⟩ := (hs.below HB.out).elem hjl
              have hzb := HR.out j hjl
              rw [← HZ.out] at hzb
              obtain ⟨m, rfl⟩ : ∃ m : Nat, z = (m : Int) + 1 := ⟨(z - 1).toNat, by omega⟩
              have HPL : Hid (N = (play (ws.drop (j + 1)) (orderL N)).length) := by show _ = _; rw [play_length]; exact (tab_length _ _).symm
              obtain ⟨g, cg', hv, hgB, -, -, -⟩ := HO.out.head (by rw [← HPL.out]; omega)
              simp only [Value.slice.injEq] at hv
              obtain ⟨rfl, hxx, rfl⟩ := hv
              clear hxx
              have hmN : m + 1 < N := by omega
              go_wp2_with fail
              refine (swap_own g N cg w.heap.size m _ _ HO.out HPL hmN hN).mono ?_
              rintro e w3 ⟨rfl, hO3, hb3, -⟩
              have HO3 : Hid (Owns w3 w.heap.size (.slice (some ⟨g, 0, none⟩) N cg) (play (ws.drop j) (orderL N))) := by
                show Owns _ _ _ _
                rw [play_drop ws _ j hjl, ← HZ.out, show ((m : Int) + 1).toNat - 1 = m by omega]; exact hO3
              have HB3 : Hid (Below w.heap.size w w3) := HB.out.trans hb3
              clear hO3 hb3
              go_wp2
              go_roundw
              case rel => exact ⟨j, (j : Int) - 1, by omega, by go_num, rfl, HO3, HB3⟩
              case measure => simp [intOf] <;> omega
            · obtain rfl : k = 0 := by omega
              obtain rfl : iv = -1 := by have := HI.out; omega
              go_wp2
              go_ret2
              refine ⟨.slice ag N cg, by rw [HC0.out]; rfl, ?_, HB.out⟩
              rw [HL.out]
              have := HO.out
              rw [List.drop_zero] at this
              exact this

theorem Product_at (n : Int) (hn1 : -9223372036854775808 ≤ n) (hn2 : n ≤ 9223372036854775807) (a : Option Addr) (m cap : Nat) (ws q : List Int) (c : Int) (w : World) (hs : Shows w a ws) (hm : m = ws.length) (hc : prodC n ws = c) (hq : prodL n ws = q) :
    Calls Try.prog 24 #[.int .i64 n, .slice a m cap] w fun e w' => ∃ v, e = .returned (.tuple #[v, .int .i64 c]) ∧ Owns w' w.heap.size v q ∧ Below w.heap.size w w' := by
  subst hm; subst hc; subst hq; exact Product_any n hn1 hn2 a cap ws w hs

end Go.Proofs.Ytnjbkiegeielhab
