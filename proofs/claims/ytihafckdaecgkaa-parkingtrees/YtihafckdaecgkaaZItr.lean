/-
  ferref.IsTree.
-/
import Derived.Test.YtihafckdaecgkaaZItm
import Derived.Test.YtihafckdaecgkaaZTap
import Derived.Test.YtihafckdaecgkaaZTre
import Derived.BigQuiet
namespace Go.Proofs.Ytihafckdaecgkaa
open Go.RowKit

theorem four_two (w : World) (E : Nat) (x y : Int) (h : w.heap[E]? = some (.cells #[.int .i64 x, .int .i64 y, .int .i64 y, .int .i64 x] 34 (0, 0))) (j : Nat) (hj : j < 2) :
    w.cell? ⟨E, j * 2, none⟩ = some (.int .i64 (if j = 0 then x else y)) ∧ w.cell? ⟨E, j * 2 + 1, none⟩ = some (.int .i64 (if j = 0 then y else x)) := by
  rw [cell_of_row w E _ _ _ _ h, cell_of_row w E _ _ _ _ h]
  rcases j with _ | _ | j
  · exact ⟨rfl, rfl⟩
  · exact ⟨rfl, rfl⟩
  · omega
theorem getD_memR {L : List (Int × Int)} {k : Nat} (h : k < L.length) : L.getD k (0, 0) ∈ L := by
  simp [List.getD, h]

theorem Hlf.side {seen : List Int} {x y sx px py : Int} {jj : Nat} (h : Hlf seen sx (x, y) jj) (hj : jj < 2) (hp : px = if jj = 0 then x else y) (hq : py = if jj = 0 then y else x) (hs : px = sx → py ∈ seen) : Hlf seen sx (x, y) (jj + 1) := by
  rcases jj with _ | _ | jj
  · simp only [if_true] at hp hq
    subst hp; subst hq
    exact ⟨fun _ e => hs e, fun h => by omega⟩
  · simp only [Nat.zero_add, Nat.one_ne_zero, if_false] at hp hq
    subst hp; subst hq
    exact ⟨fun _ e => h.1 (by omega) e, fun _ e => hs e⟩
  · omega
theorem jn_side {x y px py : Int} {jj : Nat} (hj : jj < 2) (hp : px = if jj = 0 then x else y) (hq : py = if jj = 0 then y else x) : Jn (x, y) px py := by
  rcases jj with _ | _ | jj
  · simp only [if_true] at hp hq
    subst hp; subst hq; exact Or.inl ⟨rfl, rfl⟩
  · simp only [Nat.zero_add, Nat.one_ne_zero, if_false] at hp hq
    subst hp; subst hq; exact Or.inr ⟨rfl, rfl⟩
  · omega

set_option maxHeartbeats 16000000 in
set_option maxRecDepth 100000 in
theorem IsTree_at (a : Option Addr) (n cap f H : Nat) (L : List (Int × Int)) (t : Bool) (w : World) (hs : ShowsP w a L) (hn : n = L.length) (h20 : n ≤ 20) (hf : f ≤ 1) (hH : H = f + n) (ht : t = true ↔ Tr (rgV f (n + 1)) L) :
    Calls Try.prog 6 #[.slice a n cap, .int .i64 (f : Int), .int .i64 (H : Int)] w fun e w' => e = .returned (.bool t) ∧ Hid (Below w.heap.size w w') := by
  have HS : Hid (ShowsP w a L) := hs
  have HN : Hid (n = L.length) := hn
  have HT : Hid (t = true ↔ Tr (rgV f (n + 1)) L) := ht
  have hHf : (H : Int) - (f : Int) = (n : Int) := by omega
  have HH : Hid (H = f + n) := hH
  have hnn : ((n : Int) != (n : Int)) = false := by simp
  have h21 : H ≤ 21 := by omega
  clear hs hn ht hH
  go_enter Try.func6, Try.ntmps6
  go_wp2
  go_loopw [7] (fun v7 wr => ∃ j : Nat, j ≤ n ∧ v7 = .int .i64 (j : Int) ∧ Hid (∀ s, s < j → (L.getD s (0, 0)).1 ∈ rgV f (n + 1) ∧ (L.getD s (0, 0)).2 ∈ rgV f (n + 1)) ∧ wr = w) (fun v7 _ => n - (intOf v7).toNat)
  case atStart => exact ⟨0, Nat.zero_le _, rfl, fun s hs => absurd hs (Nat.not_lt_zero _), rfl⟩
  case round =>
    obtain ⟨j, hj, rfl, HV, hw⟩ := hrel
    obtain rfl : w = wr := hw.symm
    clear hw
    by_cases hjl : j < n
    · have hjl' : (j : Int) < (n : Int) := by omega
      have hjL : j < L.length := by rw [← HN.out]; exact hjl
      obtain ⟨b, off, x, y, rfl, -, HZ, hc1, hc2⟩ := HS.out.elem (k := j) hjL
      have HF : Hid (¬ (x ∈ rgV f (n + 1) ∧ y ∈ rgV f (n + 1)) → t = false) := fun h => by
        cases ht : t with
        | false => rfl
        | true =>
          have h1 := HT.out.1 ht
          have := h1.2.2.1 (x, y) (by rw [HZ.out]; exact getD_memR hjL)
          exact absurd this h
      have HB0 : Hid (Below w.heap.size w w) := Below.refl _ _
      by_cases c1 : x < (f : Int)
      · obtain rfl : t = false := HF.out (fun h => by have := mem_rgV.1 h.1; omega)
        go_wp2
        go_ret
        exact ⟨rfl, HB0⟩
      · by_cases c2 : (H : Int) < x
        · obtain rfl : t = false := HF.out (fun h => by have := mem_rgV.1 h.1; have := HH.out; omega)
          go_wp2
          go_ret
          exact ⟨rfl, HB0⟩
        · by_cases c3 : y < (f : Int)
          · obtain rfl : t = false := HF.out (fun h => by have := mem_rgV.1 h.2; omega)
            go_wp2
            go_ret
            exact ⟨rfl, HB0⟩
          · by_cases c4 : (H : Int) < y
            · obtain rfl : t = false := HF.out (fun h => by have := mem_rgV.1 h.2; have := HH.out; omega)
              go_wp2
              go_ret
              exact ⟨rfl, HB0⟩
            · have HV1 : Hid (∀ s, s < j + 1 → (L.getD s (0, 0)).1 ∈ rgV f (n + 1) ∧ (L.getD s (0, 0)).2 ∈ rgV f (n + 1)) := fun s hs => by
                rcases Nat.lt_or_ge s j with h | h
                · exact HV.out s h
                · obtain rfl : s = j := by omega
                  rw [← HZ.out]
                  have := HH.out
                  exact ⟨mem_rgV.2 (by dsimp only; omega), mem_rgV.2 (by dsimp only; omega)⟩
              go_wp2
              go_roundw
              case rel => exact ⟨j + 1, by omega, by go_num, HV1, by first | rfl | trivial⟩
              case measure => simp [intOf]; omega
    · obtain rfl : j = n := by omega
      have HLv : Hid (∀ e ∈ L, e.1 ∈ rgV f (j + 1) ∧ e.2 ∈ rgV f (j + 1)) := fun e he => by
        obtain ⟨s, hs, rfl⟩ := List.getElem_of_mem he
        have := HV.out s (by rw [HN.out]; exact hs)
        rw [show L.getD s (0, 0) = L[s] by simp [List.getD, hs]] at this
        exact this
      obtain ⟨lo, Hlo⟩ : ∃ lo, Hid (lo = w.heap.size) := ⟨_, rfl⟩
      obtain ⟨W1, HW1⟩ : ∃ W1, Hid (W1 = w.alloc (.cells #[.int .i64 (f : Int)] 3)) := ⟨_, rfl⟩
      have HB1 : Hid (Below w.heap.size w W1) := by rw [HW1.out]; exact (Below.refl _ _).alloc (Nat.le_refl _) _
      have HO1 : Hid (Owns W1 lo (.slice (some ⟨lo, 0, none⟩) 1 1) [(f : Int)]) := by rw [Hlo.out]; exact owns_of_row (Nat.le_refl _) (by rw [HW1.out]; exact heap_alloc_new _ _) rfl (by simp)
      have HI1 : Hid (SeI f j L [(f : Int)]) := SeI.start
      have HD1 : Hid (SeD L [(f : Int)] 0 0) := ⟨fun p hp => absurd hp (Nat.not_lt_zero _), fun p hp => absurd hp (Nat.not_lt_zero _)⟩
      have hjl' : ¬ (j : Int) < (j : Int) := by omega
      clear HV hjl hj
      go_upto_region 9 with fail
      rw [← HW1.out, ← Hlo.out]
      clear HW1
      go_wp2
      go_loopw [8, 9, 10, 12] (fun v8 v9 _ _ wq => ∃ i : Nat, ∃ seen, i ≤ seen.length ∧ v9 = .int .i64 (i : Int) ∧ Hid (SeI f j L seen) ∧ Hid (SeD L seen i 0) ∧ Hid (Owns wq lo v8 seen) ∧ Hid (Below w.heap.size w wq)) (fun _ v9 _ _ _ => 100 - (intOf v9).toNat)
      case atStart => exact ⟨0, _, Nat.zero_le _, rfl, HI1, HD1, HO1, HB1⟩
      case round =>
        clear HI1 HD1 HO1 HB1
        obtain ⟨i, seen, hi, rfl, HI, HD, HO, HB⟩ := hrel
        have hlen := HI.out.len
        have hbd := HI.out.bd
        obtain ⟨a8, c8, rfl, hs8⟩ := HO.out.shows (by omega) (fun z hz => by have := hbd z hz; omega)
        obtain ⟨ll, Hll⟩ : ∃ ll, Hid (ll = seen.length) := ⟨_, rfl⟩
        rw [← Hll.out] at HO hi ⊢
        have hll : ll ≤ j + 1 := by rw [Hll.out]; exact hlen
        clear hs8 hbd hlen
        by_cases hil : i < ll
        · have hil' : (i : Int) < (ll : Int) := by omega
          have hi21 : i ≤ 21 := by omega
          have Hil : Hid (i < seen.length) := by rw [← Hll.out]; exact hil
          obtain ⟨sx, Hsx⟩ : ∃ sx : Int, Hid (sx = seen.getD i 0) := ⟨_, rfl⟩
          clear Hll hil hi hll
          go_wp2
          go_loopw [8, 10, 12] (fun v8 v10 _ wq => ∃ k : Nat, ∃ seen, k ≤ j ∧ v10 = .int .i64 (k : Int) ∧ Hid (i < seen.length) ∧ Hid (sx = seen.getD i 0) ∧ Hid (SeI f j L seen) ∧ Hid (SeD L seen i k) ∧ Hid (Owns wq lo v8 seen) ∧ Hid (Below w.heap.size w wq)) (fun _ v10 _ _ => j - (intOf v10).toNat)
          case atStart => exact ⟨0, seen, Nat.zero_le _, rfl, Hil, Hsx, HI, HD, HO, HB⟩
          case round =>
            clear Hil Hsx HI HD HO HB
            obtain ⟨k, seen, hk, rfl, Hil, Hsx, HI, HD, HO, HB⟩ := hrel
            by_cases hkl : k < j
            · have hkl' : (k : Int) < (j : Int) := by omega
              have hkL : k < L.length := by rw [← HN.out]; exact hkl
              obtain ⟨b, off, x, y, rfl, hbl, HZ, hc1, hc2⟩ := (HS.out.below HB.out).elem (k := k) hkL
              go_wp2
              go_region
              obtain ⟨E, HE⟩ : ∃ E, Hid (E = wr.heap.size) := ⟨_, rfl⟩
              obtain ⟨W, HW⟩ : ∃ W, Hid (W = (wr.alloc (.cells #[.int .i64 x, .int .i64 y, .int .i64 y, .int .i64 x] 34)).drew) := ⟨_, rfl⟩
              rw [← HW.out, ← HE.out]
              have hBW : Below wr.heap.size wr W := by rw [HW.out]; exact below_drewN ((Below.refl _ _).alloc (Nat.le_refl _) _) 1
              have HEb : Hid (W.heap[E]? = some (.cells #[.int .i64 x, .int .i64 y, .int .i64 y, .int .i64 x] 34 (0, 0))) := by rw [HW.out, HE.out]; exact heap_alloc_new _ _
              have HOW : Hid (Owns W lo u8 seen) := HO.out.below hBW
              have HBW : Hid (Below w.heap.size w W) := HB.out.trans (hBW.mono HB.out.size)
              have Hh0 : Hid (Hlf seen sx (x, y) 0) := ⟨fun h => by omega, fun h => by omega⟩
              have HeL : Hid ((x, y) ∈ L) := by rw [HZ.out]; exact getD_memR hkL
              clear HW HE hBW HO HB hc1 hc2 hbl
              go_wp2
              go_loopw [8, 12, 90] (fun v8 _ v90 wq => ∃ jj : Nat, ∃ seen, jj ≤ 2 ∧ v90 = .int .i64 (jj : Int) ∧ Hid (i < seen.length) ∧ Hid (sx = seen.getD i 0) ∧ Hid (SeI f j L seen) ∧ Hid (SeD L seen i k) ∧ Hid (Hlf seen sx (x, y) jj) ∧ Hid (Owns wq lo v8 seen) ∧ Hid (wq.heap[E]? = some (.cells #[.int .i64 x, .int .i64 y, .int .i64 y, .int .i64 x] 34 (0, 0))) ∧ Hid (Below w.heap.size w wq)) (fun _ _ v90 _ => 2 - (intOf v90).toNat)
              case atStart => exact ⟨0, seen, by omega, rfl, Hil, Hsx, HI, HD, Hh0, HOW, HEb, HBW⟩
              case round =>
                clear Hil Hsx HI HD Hh0 HOW HEb HBW
                obtain ⟨jj, seen, hjj, rfl, Hil, Hsx, HI, HD, Hh, HO, HEb, HB⟩ := hrel
                by_cases hj2 : jj < 2
                · have hj2' : (jj : Int) < 2 := by omega
                  obtain ⟨px, Hpx⟩ : ∃ px : Int, Hid (px = if jj = 0 then x else y) := ⟨_, rfl⟩
                  obtain ⟨py, Hpy⟩ : ∃ py : Int, Hid (py = if jj = 0 then y else x) := ⟨_, rfl⟩
                  obtain ⟨hp1, hp2⟩ := four_two wr E x y HEb.out jj hj2
                  rw [← Hpx.out] at hp1
                  rw [← Hpy.out] at hp2
                  have hlen := HI.out.len
                  have hbd := HI.out.bd
                  obtain ⟨a8, c8, rfl, hs8⟩ := HO.out.shows (by omega) (fun z hz => by have := hbd z hz; omega)
                  obtain ⟨b8, o8, v0, rfl, Hv0, -, -, hc8⟩ := hs8.elem (k := i) Hil.out
                  obtain rfl : sx = v0 := by rw [Hsx.out, Hv0.out]
                  obtain ⟨ll, Hll⟩ : ∃ ll, Hid (ll = seen.length) := ⟨_, rfl⟩
                  rw [← Hll.out] at HO ⊢
                  have hil' : (i : Int) < (ll : Int) := by rw [Hll.out]; have := Hil.out; omega
                  obtain ⟨P, HP⟩ : ∃ P, Hid (P = wr.heap.size) := ⟨_, rfl⟩
                  obtain ⟨W2, HW2⟩ : ∃ W2, Hid (W2 = wr.alloc (.cells #[.int .i64 px, .int .i64 py] 34)) := ⟨_, rfl⟩
                  have hB2 : Below wr.heap.size wr W2 := by rw [HW2.out]; exact (Below.refl _ _).alloc (Nat.le_refl _) _
                  have HPb : Hid (W2.heap[P]? = some (.cells #[.int .i64 px, .int .i64 py] 34 (0, 0))) := by rw [HW2.out, HP.out]; exact heap_alloc_new _ _
                  have HO2 : Hid (Owns W2 lo (.slice (some ⟨b8, o8, none⟩) ll c8) seen) := HO.out.below hB2
                  have HE2 : Hid (W2.heap[E]? = some (.cells #[.int .i64 x, .int .i64 y, .int .i64 y, .int .i64 x] 34 (0, 0))) := (hB2.block E (Array.getElem?_eq_some_iff.1 HEb.out).1).trans HEb.out
                  have HB2 : Hid (Below w.heap.size w W2) := HB.out.trans (hB2.mono HB.out.size)
                  have hq1 : W2.cell? ⟨P, 0, none⟩ = some (.int .i64 px) := by rw [cell_of_row W2 P _ _ _ _ HPb.out]; rfl
                  have hq2 : W2.cell? ⟨P, 1, none⟩ = some (.int .i64 py) := by rw [cell_of_row W2 P _ _ _ _ HPb.out]; rfl
                  have HS2 : Hid (Shows W2 (some ⟨b8, o8, none⟩) seen) := hs8.below hB2
                  have hq8 : W2.cell? ⟨b8, o8 + i, none⟩ = some (.int .i64 sx) := by
                    obtain ⟨b', o', ha, -, hcc⟩ := HS2.out.cells (fun e => by have := Hil.out; rw [e] at this; simp at this)
                    simp only [Option.some.injEq, Addr.mk.injEq, and_true] at ha
                    obtain ⟨rfl, rfl⟩ := ha
                    rw [hcc i Hil.out, ← Hsx.out]
                  have Hln : Hid (seen.length ≤ 30) := by show _ ≤ _; omega
                  go_upto_region 18 with fail
                  rw [← HW2.out, ← HP.out]
                  clear HW2 HP hB2 HO HEb HB hp1 hp2 hs8 hc8 hbd hlen Hv0
                  by_cases hx : px = sx
                  · have hxb : (px == sx) = true := beq_iff_eq.2 hx
                    obtain ⟨cb, Hcb⟩ : ∃ cb : Bool, Hid (cb = decide (py ∈ seen)) := ⟨_, rfl⟩
                    have HCo : Hid (∀ r, Calls Try.prog 26 #[.slice (some ⟨b8, o8, none⟩) ll c8, .int .i64 py] (W2.drewN r) fun e w' => e = .returned (.bool cb) ∧ w' = W2.drewN r) := fun r => by
                      have h := Contains_any (some ⟨b8, o8, none⟩) c8 seen py (W2.drewN r) (HS2.out.below (below_drewN (Below.refl _ _) r))
                      rw [← Hll.out, ← Hcb.out] at h
                      exact h
                    rcases cb with _ | _
                    · have Hno : Hid (py ∉ seen) := of_decide_eq_false Hcb.out.symm
                      have HI1 : Hid (SeI f j L (seen ++ [py])) := HI.out.add HeL.out (HLv.out _ HeL.out) (jn_side hj2 Hpx.out Hpy.out) (by rw [hx, Hsx.out]; exact getD_memZ Hil.out) Hno.out
                      have HD1 : Hid (SeD L (seen ++ [py]) i k) := HD.out.mono Hil.out py
                      have Hh1 : Hid (Hlf (seen ++ [py]) sx (x, y) (jj + 1)) := (Hh.out.mono).side hj2 Hpx.out Hpy.out (fun _ => by simp)
                      have Hil1 : Hid (i < (seen ++ [py]).length) := by have := Hil.out; show _ < _; rw [List.length_append]; omega
                      have Hsx1 : Hid (sx = (seen ++ [py]).getD i 0) := by show _ = _; rw [getD_snocZ Hil.out]; exact Hsx.out
                      go_quiet ((go_at_call 26; exact Calls.quiet_of_same (HCo.out _)))
                      have HV : Hid ((W2.drewN nq).ownsRow lo 3 1 (.slice (some ⟨b8, o8, none⟩) ll c8) (seen.map (Value.int .i64)).length (seen.map (Value.int .i64))) := vals_of_owns (ownsRow_blocks HO2.out (fun _ _ => rfl))
                      have HOw : Hid (Owns (W2.drewN nq) lo (.slice (some ⟨b8, o8, none⟩) ll c8) seen) := ownsRow_blocks HO2.out (fun _ _ => rfl)
                      have Hlo2 : Hid (lo ≤ (W2.drewN nq).heap.size) := by rw [Hlo.out]; exact HB2.out.size
                      go_wp2_with (at_builtin; refine append_one elem_int (x := .int .i64 py) rfl _ _ rfl rfl rfl rfl HV.out rfl ?c1 ?c2 ?c3 ?_)
                      case c1 => rw [List.length_map]; unfold maxLen; have := Hln.out; omega
                      case c2 => rw [List.length_map]; have := Hln.out; omega
                      case c3 => exact Hlo2.out
                      intro v' w10 hC hBc hKc
                      have HO3 : Hid (Owns w10 lo v' (seen ++ [py])) := by
                        refine owns_of_vals ?_
                        simpa using hC
                      have HE3 : Hid (w10.heap[E]? = some (.cells #[.int .i64 x, .int .i64 y, .int .i64 y, .int .i64 x] 34 (0, 0))) := by
                        refine (hKc.block E (Array.getElem?_eq_some_iff.1 HE2.out).1 (fun e => ?_)).trans HE2.out
                        obtain ⟨d, e2⟩ := HOw.out.tag e
                        have e3 : W2.heap[E]? = some (.cells d 3 (0, 0)) := e2
                        rw [HE2.out] at e3
                        simp at e3
                      have HB3 : Hid (Below w.heap.size w w10) := by
                        have h := hBc
                        rw [Hlo.out] at h
                        exact (below_drewN HB2.out nq).trans h
                      clear hC hBc hKc HV HOw HO2 HE2 HB2 HPb hq1 hq2 hq8 HCo HS2
                      go_wp2
                      go_roundw
                      case rel => exact ⟨jj + 1, _, by omega, by go_num, Hil1, Hsx1, HI1, HD1, Hh1, HO3, HE3, HB3⟩
                      case measure => simp [intOf]; omega
                    · have Hin : Hid (py ∈ seen) := by show py ∈ seen; exact of_decide_eq_true Hcb.out.symm
                      have Hh1 : Hid (Hlf seen sx (x, y) (jj + 1)) := Hh.out.side hj2 Hpx.out Hpy.out (fun _ => Hin.out)
                      go_quiet ((go_at_call 26; exact Calls.quiet_of_same (HCo.out _)))
                      go_wp2
                      go_roundw
                      case rel => exact ⟨jj + 1, seen, by omega, by go_num, Hil, Hsx, HI, HD, Hh1, ownsRow_blocks HO2.out (fun _ _ => rfl), HE2, below_drewN HB2.out _⟩
                      case measure => simp [intOf]; omega
                  · have hxb : (px == sx) = false := beq_eq_false_iff_ne.2 hx
                    have Hh1 : Hid (Hlf seen sx (x, y) (jj + 1)) := Hh.out.side hj2 Hpx.out Hpy.out (fun h => absurd h hx)
                    go_quiet (fail)
                    go_wp2
                    go_roundw
                    case rel => exact ⟨jj + 1, seen, by omega, by go_num, Hil, Hsx, HI, HD, Hh1, ownsRow_blocks HO2.out (fun _ _ => rfl), HE2, below_drewN HB2.out _⟩
                    case measure => simp [intOf]; omega
                · obtain rfl : jj = 2 := by omega
                  have HD1 : Hid (SeD L seen i (k + 1)) := HD.out.step (by rw [← HZ.out, ← Hsx.out]; exact Hh.out)
                  go_wp2
                  go_roundw
                  case rel => exact ⟨k + 1, seen, by omega, by go_num, Hil, Hsx, HI, HD1, HO, HB⟩
                  case measure => simp [intOf]; omega
            · obtain rfl : k = j := by omega
              have hkl' : ¬ (k : Int) < (k : Int) := by omega
              have HD1 : Hid (SeD L seen (i + 1) 0) := by
                have h := HD.out
                rw [HN.out] at h
                exact h.next
              go_wp2
              go_roundw
              case rel => exact ⟨i + 1, seen, Hil.out, by go_num, HI, HD1, HO, HB⟩
              case measure => simp [intOf]; omega
        · obtain rfl : i = ll := by omega
          have hil' : ¬ (i : Int) < (i : Int) := by omega
          have HD1 : Hid (SeD L seen seen.length 0) := by rw [← Hll.out]; exact HD.out
          have Hres : Hid (t = ((i : Int) == (j : Int) + 1)) := by
            have h := seen_tree HN.out HLv.out HI.out HD1.out
            rw [← Hll.out] at h
            show _ = _
            rw [Bool.eq_iff_iff, beq_iff_eq, HT.out, ← h]
            omega
          have hj1 : j ≤ 20 := h20
          go_wp2
          go_ret
          refine ⟨?_, HB⟩
          rw [Hres.out]; rfl
end Go.Proofs.Ytihafckdaecgkaa
