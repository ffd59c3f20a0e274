/-
  ferref.Grew: the tree of a list of cars.
-/
import Derived.Test.YtihafckdaecgkaaZTap
import Derived.Test.YtihafckdaecgkaaZEdg
import Derived.Test.YtihafckdaecgkaaZRoo
namespace Go.Proofs.Ytihafckdaecgkaa
open Go.RowKit

set_option maxHeartbeats 16000000 in
set_option maxRecDepth 100000 in
theorem Grew_at (a : Option Addr) (n cap : Nat) (zs : List Int) (w : World) (hs : Shows w a zs) (hn : n = zs.length) (h20 : n ≤ 20) (hL : Long (dOf zs) n) :
    Calls Try.prog 15 #[.slice a n cap] w fun e w' => ∃ v X, e = .returned v ∧ Hid (X.Perm (trl (dOf zs) n n) ∧ SrtP X) ∧ Hid (OwnsP w' w.heap.size v X) ∧ Hid (Below w.heap.size w w') := by
  have HLo : Hid (Long (dOf zs) n) := hL
  have HS : Hid (Shows w a zs) := hs
  have HNz : Hid (n = zs.length) := hn
  obtain ⟨D, HD⟩ : ∃ D, Hid (D = dOf zs) := ⟨_, rfl⟩
  rw [← HD.out] at HLo ⊢
  clear hs hn hL
  obtain ⟨lo, Hlo⟩ : ∃ lo, Hid (lo = w.heap.size) := ⟨_, rfl⟩
  obtain ⟨W1, HW1⟩ : ∃ W1, Hid (W1 = w.alloc (.cells #[.int .i64 0] 3)) := ⟨_, rfl⟩
  have HB1 : Hid (Below w.heap.size w W1) := by rw [HW1.out]; exact (Below.refl _ _).alloc (Nat.le_refl _) _
  have HL1 : Hid (Owns W1 lo (.slice (some ⟨lo, 0, none⟩) 1 1) (lin D n 0)) := by rw [Hlo.out]; exact owns_of_row (Nat.le_refl _) (by rw [HW1.out]; exact heap_alloc_new _ _) rfl (by simp [lin])
  have HO1 : Hid (OwnsP W1 lo (.slice none 0 0) []) := World.ownsRow_nil _ _ _ _
  have HX1 : Hid (([] : List (Int × Int)).map nrm = trl D n 0) := rfl
  go_enter Try.func15, Try.ntmps15
  go_upto_region 2 with fail
  rw [← HW1.out, ← Hlo.out]
  clear HW1
  go_wp2
  go_loopw [3, 4, 5, 6] (fun v3 v4 v5 _ wr => ∃ k : Nat, ∃ O, k ≤ n ∧ v5 = .int .i64 (k : Int) ∧ Hid (O.map nrm = trl D n k) ∧ Hid (OwnsP wr lo v4 O) ∧ Hid (Owns wr lo v3 (lin D n k)) ∧ Hid (Below w.heap.size w wr)) (fun _ _ v5 _ _ => n - (intOf v5).toNat)
  case atStart => exact ⟨0, [], Nat.zero_le _, rfl, HX1, HO1, HL1, HB1⟩
  case round =>
    clear HX1 HO1 HL1 HB1
    obtain ⟨k, O, hk, rfl, HX, HP, HL, HB⟩ := hrel
    by_cases hlt : k < n
    · have hkn : (k : Int) < (n : Int) := by omega
      obtain ⟨p, Hp⟩ : ∃ p : Nat, Hid (p = k + 1) := ⟨_, rfl⟩
      have hpk : (k : Int) + 1 = (p : Int) := by have := Hp.out; omega
      have hp20 : p ≤ 20 := by have := Hp.out; omega
      obtain ⟨vx, Hvx⟩ : ∃ vx : Int, Hid (vx = (lin D n k).getD k 0) := ⟨_, rfl⟩
      have HX0 : Hid (O.map nrm = trl D n k ++ (addc D (p : Int) 0).map fun v => nrm (vx, v)) := by
        show _ = _
        rw [addc_zero, List.map_nil, List.append_nil]; exact HX.out
      have HL0 : Hid (Owns wr lo u3 (lin D n k ++ addc D (p : Int) 0)) := by
        rw [addc_zero, List.append_nil]; exact HL.out
      have Hpp : Hid ((p : Int) = (k : Int) + 1) := by have := Hp.out; show _ = _; omega
      clear HX HL
      go_wp2
      go_loopw [3, 4, 6] (fun v3 v4 v6 wq => ∃ i q : Nat, ∃ O, i ≤ n ∧ Hid (q = i + 1) ∧ v6 = .int .i64 (q : Int) ∧ Hid (O.map nrm = trl D n k ++ (addc D (p : Int) i).map fun v => nrm (vx, v)) ∧ Hid (OwnsP wq lo v4 O) ∧ Hid (Owns wq lo v3 (lin D n k ++ addc D (p : Int) i)) ∧ Hid (Below w.heap.size w wq)) (fun _ _ v6 _ => n + 1 - (intOf v6).toNat)
      case atStart => exact ⟨0, 1, O, Nat.zero_le _, rfl, rfl, HX0, HP, HL0, HB⟩
      case round =>
        clear HX0 HL0 HB HP
        obtain ⟨i, q, O, hi, Hq, rfl, HX, HP, HL, HB⟩ := hrel
        by_cases hil : i < n
        · have hqn : (q : Int) ≤ (n : Int) := by have := Hq.out; omega
          have hqi : (q : Int) - 1 = (i : Int) := by have := Hq.out; omega
          have hq21 : q ≤ 21 := by have := Hq.out; omega
          have hin : (i : Int) < (n : Int) := by omega
          obtain ⟨b, off, z, rfl, HZ, -, -, hcz⟩ := (HS.out.below HB.out).elem (k := i) (by rw [← HNz.out]; exact hil)
          have HZd : Hid (D i = z) := by rw [HD.out]; exact HZ.out.symm
          by_cases hzp : z = (p : Int)
          · have hb : (z == (p : Int)) = true := beq_iff_eq.2 hzp
            have HA : Hid (addc D (p : Int) (i + 1) = addc D (p : Int) i ++ [(q : Int)]) := by
              show _ = _
              rw [addc_succ, if_pos (by rw [HZd.out]; exact hzp), show (i : Int) + 1 = (q : Int) by have := Hq.out; omega]
            have hle := line_len (D := D) (n := n) (k := k) (i := i + 1) (by omega)
            rw [← Hpp.out, HA.out] at hle
            have hlen2 : (lin D n k ++ addc D (p : Int) i).length ≤ n := by
              simp only [List.length_append, List.length_cons, List.length_nil] at hle ⊢; omega
            have htl : O.length ≤ n := by
              have h1 := congrArg List.length HX.out
              have := trl_line D n k
              rw [List.length_map, List.length_append, List.length_map] at h1
              rw [List.length_append] at hlen2
              omega
            have hbd := line_bd (D := D) (n := n) (k := k) (i := i) (by omega)
            rw [← Hpp.out] at hbd
            have hlk : k < (lin D n k).length := HLo.out k hk
            obtain ⟨a3, c3, rfl, hs3⟩ := HL.out.shows (by omega) (fun z hz => by have := hbd z hz; omega)
            obtain ⟨b3, o3, v0, rfl, Hv0, -, -, hc3⟩ := hs3.elem (k := k) (by rw [List.length_append]; omega)
            obtain rfl : vx = v0 := by
              rw [Hvx.out, Hv0.out]
              simp [List.getD, List.getElem?_append_left hlk]
            obtain ⟨ll, Hll⟩ : ∃ ll, Hid (ll = (lin D n k ++ addc D (p : Int) i).length) := ⟨_, rfl⟩
            rw [← Hll.out] at HL ⊢
            have hkl : (k : Int) < (ll : Int) := by rw [Hll.out, List.length_append]; omega
            have Htl : Hid (O.length + 1 ≤ 1000) := by show _ ≤ _; omega
            have Hlo2 : Hid (lo ≤ wr.heap.size) := by rw [Hlo.out]; exact HB.out.size
            have Hln2 : Hid ((lin D n k ++ addc D (p : Int) i).length ≤ n) := hlen2
            clear hs3 hbd hle hlen2 htl hlk Hv0
            go_wp2_with (at_builtin; refine append_pairK (x := vx) (y := (q : Int)) rfl _ _ rfl rfl rfl rfl HP.out Htl.out Hlo2.out ?_)
            intro v' w8 hP8 hB8 hK8 _
            have HP8 : Hid (OwnsP w8 lo v' (O ++ [(vx, (q : Int))])) := hP8
            have HL8 : Hid (Owns w8 lo (.slice (some ⟨b3, o3, none⟩) ll c3) (lin D n k ++ addc D (p : Int) i)) := hK8 _ _ _ HL.out
            have HV8 : Hid (w8.ownsRow lo 3 1 (.slice (some ⟨b3, o3, none⟩) ll c3) ((lin D n k ++ addc D (p : Int) i).map (Value.int .i64)).length ((lin D n k ++ addc D (p : Int) i).map (Value.int .i64))) := vals_of_owns HL8.out
            have HB8 : Hid (Below w.heap.size w w8) := by have h := hB8; rw [Hlo.out] at h; exact HB.out.trans h
            have Hlo8 : Hid (lo ≤ w8.heap.size) := by rw [Hlo.out]; exact HB8.out.size
            clear hP8 hB8 hK8 HP HL HB hc3 hcz
            go_wp2_with (at_builtin; refine append_one elem_int (x := .int .i64 (q : Int)) rfl _ _ rfl rfl rfl rfl HV8.out rfl ?c1 ?c2 ?c3 ?_)
            case c1 => rw [List.length_map]; unfold maxLen; have := Hln2.out; omega
            case c2 => rw [List.length_map]; have := Hln2.out; omega
            case c3 => exact Hlo8.out
            intro v3' w10 hC hBc hKc
            have HLn : Hid (Owns w10 lo v3' (lin D n k ++ addc D (p : Int) (i + 1))) := by
              rw [HA.out, ← List.append_assoc]
              refine owns_of_vals ?_
              simpa using hC
            have HPn : Hid (OwnsP w10 lo v' (O ++ [(vx, (q : Int))])) := hKc.pairs HL8.out _ _ _ HP8.out
            have HBn : Hid (Below w.heap.size w w10) := by have h := hBc; rw [Hlo.out] at h; exact HB8.out.trans h
            have HXn : Hid ((O ++ [(vx, (q : Int))]).map nrm = trl D n k ++ (addc D (p : Int) (i + 1)).map fun v => nrm (vx, v)) := by
              show _ = _
              rw [HA.out, List.map_append, List.map_append, ← List.append_assoc, HX.out]; rfl
            clear hC hBc hKc HV8 HP8 HB8 HL8
            go_wp2
            go_roundw
            case rel => exact ⟨i + 1, q + 1, _, by omega, by show _ = _; rw [Hq.out], by go_num, HXn, HPn, HLn, HBn⟩
            case measure => simp [intOf]; omega
          · have hb : (z == (p : Int)) = false := beq_eq_false_iff_ne.2 hzp
            have HA : Hid (addc D (p : Int) (i + 1) = addc D (p : Int) i) := by
              show _ = _
              rw [addc_succ, if_neg (by rw [HZd.out]; exact hzp), List.append_nil]
            go_wp2
            go_roundw
            case rel => exact ⟨i + 1, q + 1, O, by omega, by show _ = _; rw [Hq.out], by go_num, by rw [HA.out]; exact HX, HP, by rw [HA.out]; exact HL, HB⟩
            case measure => simp [intOf]; omega
        · obtain rfl : i = n := by omega
          have hqn : ¬ (q : Int) ≤ (i : Int) := by have := Hq.out; omega
          have HTk : Hid (O.map nrm = trl D i (k + 1)) := by
            show _ = _
            rw [trl, ← Hpp.out, ← Hvx.out]; exact HX.out
          have HLk : Hid (Owns wr lo u3 (lin D i (k + 1))) := by
            rw [lin, ← Hpp.out]; exact HL.out
          go_wp2
          go_roundw
          case rel => exact ⟨k + 1, O, by omega, by go_num, HTk, HP, HLk, HB⟩
          case measure => simp [intOf]; omega
    · obtain rfl : k = n := by omega
      have hkn : ¬ (k : Int) < (k : Int) := by omega
      have hOl : O.length = k := by
        have h1 := congrArg List.length HX.out
        rw [List.length_map, trl_len HLo.out] at h1
        exact h1
      obtain ⟨a4, c4, rfl, hs4⟩ := HP.out.shows (by omega)
      have HE := Edged_at a4 O.length c4 O wr hs4 rfl (by omega)
      clear hs4 hOl
      go_wp2_with fail
      refine HE.mono ?_
      rintro e w8 ⟨v8, X, rfl, HX8, HO8, HB8⟩
      rw [HX.out] at HX8
      go_wp2
      go_ret
      exact ⟨v8, X, rfl, HX8, HO8.out.mono HB.out.size, HB.out.trans (HB8.out.mono HB.out.size)⟩
end Go.Proofs.Ytihafckdaecgkaa
