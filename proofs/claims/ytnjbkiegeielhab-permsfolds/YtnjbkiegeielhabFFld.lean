/-
  The contracts of ferref.Letters and ferref.Folded.
-/
import Derived.Test.YtnjbkiegeielhabMFold
namespace Go.Proofs.Ytnjbkiegeielhab
open Go.RowKit

set_option maxHeartbeats 1000000 in
theorem RLetters_any (a : Option Addr) (n cap : Nat) (zs : List Int) (w : World) (hs : Shows w a zs) (hn : n = zs.length) :
    Calls Try.prog 28 #[.slice a n cap] w fun e w' => e = .returned (.int .i64 (lchk zs)) ∧ w' = w := by
  subst hn
  have hl := hs.len
  by_cases h40 : 40 < zs.length
  · have hb : decide ((zs.length : Int) > 40) = true := by simp; omega
    have H : Hid (lchk zs = 2) := by show _ = _; unfold lchk; rw [if_pos h40]
    clear h40
    go_enter Try.func28, Try.ntmps28
    go_wp2
    go_ret
    exact ⟨ret_int H.out.symm, rfl⟩
  · have hb : decide ((zs.length : Int) > 40) = false := by simp; omega
    have H : Hid (lchk zs = if okW zs = true then 0 else 1) := by show _ = _; unfold lchk; rw [if_neg h40]
    have h40' : zs.length ≤ 40 := by omega
    clear h40
    go_enter Try.func28, Try.ntmps28
    go_wp2
    go_loop [3] (fun i => ∃ k : Nat, k ≤ zs.length ∧ i = .int .i64 k ∧ Hid (∀ i, i < k → 1 ≤ zs.getD i 0 ∧ zs.getD i 0 ≤ 99)) (fun i => zs.length - (intOf i).toNat)
    case atStart => exact ⟨0, Nat.zero_le _, rfl, fun j hj => by omega⟩
    case round =>
      obtain ⟨k, hk, rfl, HR⟩ := hrel
      by_cases hlt : k < zs.length
      · have hlt' : (k : Int) < (zs.length : Int) := by omega
        obtain ⟨b, off, z, rfl, HZ, hz1, hz2, hc⟩ := hs.elem hlt
        by_cases h1 : z < 1
        · have hb1 : decide (z < 1) = true := by simpa using h1
          have HE : Hid (okW zs = false) := okW_bad hlt (Or.inl (by rw [← HZ.out]; exact h1))
          go_wp2
          go_ret
          exact ⟨ret_int (by rw [H.out, HE.out]; rfl), rfl⟩
        · have hb1 : decide (z < 1) = false := by simpa using h1
          by_cases h2 : 99 < z
          · have hb2 : decide (z > 99) = true := by simpa using h2
            have HE : Hid (okW zs = false) := okW_bad hlt (Or.inr (by rw [← HZ.out]; exact h2))
            go_wp2
            go_ret
            exact ⟨ret_int (by rw [H.out, HE.out]; rfl), rfl⟩
          · have hb2 : decide (z > 99) = false := by simpa using h2
            have HE : Hid (1 ≤ z ∧ z ≤ 99) := ⟨by omega, by omega⟩
            go_wp2
            go_round
            case rel => exact ⟨k + 1, by omega, by go_num, fun j hj => by
                          by_cases hj' : j < k
                          · exact HR.out j hj'
                          · obtain rfl : j = k := by omega
                            rw [← HZ.out]; exact HE.out⟩
            case measure => simp [intOf]; omega
      · go_wp2
        go_ret
        refine ⟨ret_int ?_, rfl⟩
        have : okW zs = true := okW_iff.2 (fun z hz => by
          obtain ⟨j, hj, rfl⟩ := List.mem_iff_getElem.1 hz
          have := HR.out j (by omega)
          simpa [List.getD, List.getElem?_eq_getElem hj] using this)
        rw [H.out, if_pos this]

theorem cut_gt (x r y : Int) : (decide (y > x) == decide (r > x)) = cut x r y := by
  unfold cut
  by_cases h1 : y ≤ x <;> by_cases h2 : r ≤ x
  · have a1 : ¬ y > x := by omega
    have a2 : ¬ r > x := by omega
    simp [h1, h2, a1, a2]
  · have a1 : ¬ y > x := by omega
    have a2 : r > x := by omega
    simp [h1, h2, a1, a2]
  · have a1 : y > x := by omega
    have a2 : ¬ r > x := by omega
    simp [h1, h2, a1, a2]
  · have a1 : y > x := by omega
    have a2 : r > x := by omega
    simp [h1, h2, a1, a2]

theorem fold_take_succ {zs : List Int} {n : Nat} (h : n < zs.length) : (fold (n + 1) zs).take (n + 1) = fwd (zs.getD n 0) ((fold n zs).take n) ++ [zs.getD n 0] := by
  have hlen := fold_length n zs
  have hx : (fold n zs).getD n 0 = zs.getD n 0 := fold_getD n zs (by omega) n (by omega)
  rw [fold, ftake_snoc (by rw [stepF_length]; omega), stepF_take (by omega), stepF_getD (by omega) (Nat.le_refl n), hx]

set_option maxHeartbeats 4000000 in
theorem Folded_ok (a : Option Addr) (n cap : Nat) (zs : List Int) (w : World) (hs : Shows w a zs) (hn : n = zs.length) (hok : lchk zs = 0) :
    Calls Try.prog 29 #[.slice a n cap] w fun e w' => ∃ v, e = .returned v ∧ Owns w' w.heap.size v (fold zs.length zs) ∧ Below w.heap.size w w' := by
  subst hn
  obtain ⟨h40, hlet⟩ := lchk_ok.1 hok
  have HLe : Hid (∀ z ∈ zs, 1 ≤ z ∧ z ≤ 99) := hlet
  clear hok hlet
  go_enter Try.func29, Try.ntmps29
  go_wp2
  go_loopw [3, 4] (fun v i wr => ∃ k : Nat, k ≤ zs.length ∧ i = .int .i64 k ∧ Hid (Owns wr w.heap.size v ((fold k zs).take k)) ∧ Hid (Below w.heap.size w wr)) (fun _ i _ => zs.length - (intOf i).toNat)
  case atStart => exact ⟨0, Nat.zero_le _, rfl, World.ownsRow_nil _ _ _ _, Below.refl _ _⟩
  case round =>
    obtain ⟨k, hk, rfl, HO, HB⟩ := hrel
    by_cases hlt : k < zs.length
    · have hlt' : (k : Int) < (zs.length : Int) := by omega
      have HLT : Hid (k < zs.length) := hlt
      obtain ⟨bz, oz, x, rfl, HX, -, -, hcx⟩ := (hs.below HB.out).elem hlt
      obtain ⟨u, HU⟩ : ∃ u, Hid (u = (fold k zs).take k) := ⟨_, rfl⟩
      rw [← HU.out] at HO
      have HUl : Hid (u.length = k) := by show _ = _; rw [HU.out, List.length_take, fold_length]; omega
      have HUw : Hid (∀ z ∈ u, 1 ≤ z ∧ z ≤ 99) := fun z hz => by rw [HU.out] at hz; exact HLe.out z (fold_wf _ _ (by omega) z (List.mem_of_mem_take hz))
      obtain ⟨av, nv, cv, rfl, Sv, hnv, -⟩ := HO.out.opened (by rw [HUl.out]; omega) (fun z hz => by have := HUw.out z hz; omega)
      rw [HUl.out] at hnv
      replace hnv := hnv.symm
      subst hnv
      obtain ⟨r, HRr⟩ : ∃ r, Hid (r = u.getLastD 0) := ⟨_, rfl⟩
      have HRl : Hid (0 < k → r = u.getD (k - 1) 0) := fun h0 => by
        have := take_last (n := k) (v := u) h0 (by rw [HUl.out]; exact Nat.le_refl _)
        rw [List.take_of_length_le (by rw [HUl.out]; exact Nat.le_refl _)] at this
        rw [HRr.out, this]
      obtain ⟨W0, hW0⟩ : ∃ W0, W0 = wr := ⟨_, rfl⟩
      rw [← hW0] at Sv HB HO ⊢
      rw [← hW0] at hcx
      clear hW0
      go_wp2
      go_loopw [6, 7, 8] (fun nv bv i wq => ∃ (m : Nat) (nx bk : List Int), m ≤ k ∧ i = .int .i64 m ∧ Hid (nx ++ turn (cut x r) bk (u.drop m) = turn (cut x r) [] u) ∧ Hid (m = k → bk = []) ∧ Hid (nx.length + bk.length = m) ∧ Hid (∀ z ∈ nx ++ bk, 1 ≤ z ∧ z ≤ 99) ∧ Hid (Owns wq W0.heap.size nv nx) ∧ Hid (Owns wq W0.heap.size bv bk) ∧ Hid (Apart bv nv) ∧ Hid (Below W0.heap.size W0 wq)) (fun _ _ i _ => k - (intOf i).toNat)
      case atStart => exact ⟨0, [], [], Nat.zero_le _, rfl, by show _ = _; simp, fun _ => rfl, rfl, fun z h => by simp at h, World.ownsRow_nil _ _ _ _, World.ownsRow_nil _ _ _ _, apart_nil _, Below.refl _ _⟩
      case round =>
        obtain ⟨m, nx, bk, hm, rfl, HTu, HE0, HLn, HW, HOn, HOb, HAp, HB2⟩ := hrel
        by_cases hml : m < k
        · have hml' : (m : Int) < (k : Int) := by omega
          obtain ⟨k1, hk1⟩ : ∃ k1, k1 = k - 1 := ⟨_, rfl⟩
          have hw1 : IntKind.i64.wrap ((k : Int) - 1) = (k1 : Int) := by rw [IntWalk.i64_left, IntWalk.wrap64_in _ (by omega)]; omega
          have hk1l : (k1 : Int) < (k : Int) := by omega
          have hrk := HRl.out (by omega)
          rw [← hk1] at hrk
          have HRK : Hid (r = u.getD k1 0) := hrk
          have HK1 : Hid (k1 = k - 1) := hk1
          clear hrk hk1
          obtain ⟨bu, ou, y, rfl, HY, -, -, hcy⟩ := (Sv.below HB2.out).elem (k := m) (by rw [HUl.out]; exact hml)
          have hyw := HUw.out y (by rw [HY.out]; exact getD_mem (by rw [HUl.out]; exact hml))
          have HYW : Hid (1 ≤ y ∧ y ≤ 99) := hyw
          have HD : Hid (u.drop m = y :: u.drop (m + 1)) := by show _ = _; rw [HY.out]; exact drop_cons u m (by rw [HUl.out]; exact hml)
          have hbl : bk.length ≤ 40 := by have := HLn.out; omega
          go_wp2_with (at_builtin; refine append_int_own (x := y) rfl _ _ rfl rfl HOb.out rfl ?c1 ?c2 ?_)
          case c1 => omega
          case c2 => exact HB2.out.size
          intro v1 w1 hO1 hb1 hk1
          obtain ⟨hOn1, hap1⟩ := hk1 _ _ HOn.out HAp.out
          have HOb1 : Hid (Owns w1 W0.heap.size v1 (bk ++ [y])) := hO1
          have HOn1 : Hid (Owns w1 W0.heap.size u6 nx) := hOn1
          have HAp1 : Hid (Apart v1 u6) := hap1
          have HB3 : Hid (Below W0.heap.size W0 w1) := HB2.out.trans hb1
          obtain ⟨bu2, ou2, y2, hbb, HY2, -, -, hcy2⟩ := (Sv.below HB3.out).elem (k := m) (by rw [HUl.out]; exact hml)
          simp only [Option.some.injEq, Addr.mk.injEq, and_true] at hbb
          obtain ⟨rfl, rfl⟩ := hbb
          obtain rfl : y = y2 := by rw [HY2.out, HY.out]
          obtain ⟨bu3, ou3, r3, hbb, HY3, -, -, hcr⟩ := (Sv.below HB3.out).elem (k := k1) (by rw [HUl.out]; omega)
          simp only [Option.some.injEq, Addr.mk.injEq, and_true] at hbb
          obtain ⟨rfl, rfl⟩ := hbb
          obtain rfl : r = r3 := by rw [HY3.out, HRK.out]
          clear hO1 hb1 hk1 hOn1 hap1 hcy
          have HML : Hid (m < k) := hml
          cases hP : cut x r y with
          | false =>
            have hbP : (decide (y > x) == decide (r > x)) = false := by rw [cut_gt]; exact hP
            have HP : Hid (cut x r y = false) := hP
            clear hP
            go_wp2_with fail
            go_quiet (fail)
            go_wp2
            go_roundw
            case rel => exact ⟨m + 1, nx, bk ++ [y], HML.out, by go_num, by
                          have := HTu.out
                          rw [HD.out, turn, if_neg (by rw [HP.out]; simp)] at this
                          exact this, fun e => by
                          exfalso
                          have e1 : y = r := by rw [HY.out, HRK.out, HK1.out, show k - 1 = m by omega]
                          have := HP.out
                          rw [e1, cut_self] at this; exact absurd this (by simp), by have := HLn.out; show _ = _; simp; omega, fun z hz => by
                          rw [← List.append_assoc] at hz
                          rcases List.mem_append.1 hz with h | h
                          · exact HW.out z h
                          · simp at h; rw [h]; exact HYW.out, HOn1.out.below (below_drewN (Below.refl _ _) _), HOb1.out.below (below_drewN (Below.refl _ _) _), HAp1, HB3.out.trans (below_drewN (Below.refl _ _) _)⟩
            case measure => have := HML.out; simp [intOf]; omega
          | true =>
            have hbP : (decide (y > x) == decide (r > x)) = true := by rw [cut_gt]; exact hP
            have HP : Hid (cut x r y = true) := hP
            clear hP
            obtain ⟨g, cb, hvg, hgB, hglt, -, hclb⟩ := HOb1.out.head (by simp)
            subst hvg
            have hcap : (bk ++ [y]).length ≤ cb := (HOb1.out.block rfl).2.choose_spec.2.2.1
            obtain ⟨L, hL⟩ : ∃ L, L = bk.length := ⟨_, rfl⟩
            have hL1 : (bk ++ [y]).length = L + 1 := by rw [hL]; simp
            rw [hL1] at hcap HOb1 HAp1 ⊢
            have hw2 : IntKind.i64.wrap (((L + 1 : Nat) : Int) - 1) = (L : Int) := by rw [IntWalk.i64_left, IntWalk.wrap64_in _ (by omega)]; omega
            have bL : L ≤ cb := by omega
            have hcL := hclb L (by rw [hL1]; omega)
            rw [show (bk ++ [y]).getD L 0 = y by rw [hL]; simp [List.getD]] at hcL
            have HLL : Hid (L = bk.length) := hL
            have hLs : L ≤ 40 := by omega
            clear hclb hL hL1
            go_wp2_with fail
            go_quiet (fail)
            have HOn2 : Hid (Owns (w1.drewN nq) W0.heap.size u6 nx) := HOn1.out.below (below_drewN (Below.refl _ _) nq)
            have HOb2 : Hid (Owns (w1.drewN nq) W0.heap.size (.slice (some ⟨g, 0, none⟩) (L + 1) cb) (bk ++ [y])) := HOb1.out.below (below_drewN (Below.refl _ _) nq)
            have HB4 : Hid (Below W0.heap.size W0 (w1.drewN nq)) := HB3.out.trans (below_drewN (Below.refl _ _) nq)
            have hnl : nx.length ≤ 40 := by have := HLn.out; omega
            go_wp2_with (at_builtin; refine append_int_own (x := y) rfl _ _ rfl rfl HOn2.out rfl ?c1 ?c2 ?_)
            case c1 => omega
            case c2 => exact HB4.out.size
            intro v5 w5 hO5 hb5 hk5
            obtain ⟨hOb5, hap5⟩ := hk5 _ _ HOb2.out HAp1.out.symm
            have HO5 : Hid (Owns w5 W0.heap.size v5 (nx ++ [y])) := hO5
            have HB5 : Hid (Below W0.heap.size W0 w5) := HB4.out.trans hb5
            have Sb : Shows w5 (some ⟨g, 0, none⟩) bk := by
              obtain ⟨a7, c7, hv7, S7⟩ := hOb5.shows (by simp; omega) (fun z hz => by
                rcases List.mem_append.1 hz with h | h
                · have := HW.out z (List.mem_append_right _ h); omega
                · simp at h; have := HYW.out; omega)
              simp only [Value.slice.injEq] at hv7
              obtain ⟨rfl, _, _⟩ := hv7
              have := S7.take bk.length
              rw [List.take_left'] at this
              · exact this
              · rfl
            clear hO5 hb5 hk5 hOb5 hap5
            go_wp2_with (at_builtin; refine append_src rfl _ _ rfl rfl rfl HO5.out Sb HLL.out (fun h => by cases h) ?c1 ?c2 ?_)
            case c1 => simp; omega
            case c2 => exact HB5.out.size
            intro v6 w6 hO6 hb6 _
            have HO6 : Hid (Owns w6 W0.heap.size v6 (nx ++ [y] ++ bk)) := by show Owns _ _ _ _; simpa using hO6
            have HB6 : Hid (Below W0.heap.size W0 w6) := HB5.out.trans hb6
            clear hO6 hb6 Sb
            go_wp2
            go_roundw
            case rel => exact ⟨m + 1, nx ++ [y] ++ bk, [], HML.out, by go_num, by
                          have := HTu.out
                          rw [HD.out, turn, if_pos (by rw [HP.out])] at this
                          show _ = _
                          rw [← this]; simp, fun _ => rfl, by have := HLn.out; show _ = _; simp; omega, fun z hz => by
                          simp only [List.append_nil, List.mem_append, List.mem_singleton] at hz
                          rcases hz with (h | h) | h
                          · exact HW.out z (List.mem_append_left _ h)
                          · rw [h]; exact HYW.out
                          · exact HW.out z (List.mem_append_right _ h), HO6, World.ownsRow_nil _ _ _ _, apart_nil _, HB6⟩
            case measure => have := HML.out; simp [intOf]; omega
        · obtain rfl : m = k := by omega
          have HNX : Hid (nx = fwd x u) := by
            have h1 := HTu.out
            rw [HE0.out rfl, List.drop_of_length_le (by rw [HUl.out]; exact Nat.le_refl _), turn, List.append_nil] at h1
            show _ = _
            rw [h1]; unfold fwd; rw [← HRr.out]
          have hnl : nx.length ≤ 40 := by have := HLn.out; omega
          have HOn9 : Hid (Owns wr w.heap.size u6 nx) := HOn.out.mono HB.out.size
          have HB9 : Hid (Below w.heap.size w wr) := HB.out.trans (HB2.out.mono HB.out.size)
          go_wp2_with (at_builtin; refine append_int (x := x) rfl _ _ rfl rfl HOn9.out rfl ?c1 ?c2 ?_)
          case c1 => omega
          case c2 => exact HB9.out.size
          intro v7 w7 hO7 hb7
          have HO7 : Hid (Owns w7 w.heap.size v7 ((fold (m + 1) zs).take (m + 1))) := by
            show Owns _ _ _ _
            rw [fold_take_succ HLT.out, ← HU.out, ← HX.out, ← HNX.out]; exact hO7
          have HB7 : Hid (Below w.heap.size w w7) := HB9.out.trans hb7
          clear hO7 hb7
          go_wp2
          go_roundw
          case rel => exact ⟨m + 1, HLT.out, by go_num, HO7, HB7⟩
          case measure => have := HLT.out; simp [intOf]; omega
    · obtain rfl : k = zs.length := by omega
      go_wp2
      go_ret
      refine ⟨_, rfl, ?_, HB.out⟩
      have := HO.out
      rw [List.take_of_length_le (by rw [fold_length]; exact Nat.le_refl _)] at this
      exact this

end Go.Proofs.Ytnjbkiegeielhab
