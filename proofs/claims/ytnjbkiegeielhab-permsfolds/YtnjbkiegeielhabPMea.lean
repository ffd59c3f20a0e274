/-
  The contract of perms.Measure.
-/
import Derived.Test.YtnjbkiegeielhabPInv
namespace Go.Proofs.Ytnjbkiegeielhab
open Go.RowKit

theorem Code_err (a : Option Addr) (cap : Nat) (zs : List Int) (w : World) (hs : Shows w a zs) (c : Int) (h : pchk zs = c) (hc : (c != 0) = true) :
    Calls Try.prog 11 #[.slice a zs.length cap] w fun e w' => e = .returned (.tuple #[.slice none 0 0, .int .i64 c]) ∧ Below w.heap.size w w' := by
  have E : Hid (pchk zs = c) := h
  clear h
  go_enter Try.func11, Try.ntmps11
  go_wp2_with fail
  refine (Check_is _ _ _ _ _ hs rfl E).mono ?_
  rintro e w' ⟨rfl, hb⟩
  go_wp2_with fail
  go_ret2
  exact ⟨rfl, hb⟩

theorem Code_at {zs q : List Int} {c : Int} (a : Option Addr) (n cap : Nat) (w : World) (hs : Shows w a zs) (hn : n = zs.length) (hcap : n ≤ cap) (hr : PermR codeL zs c q) :
    Calls Try.prog 11 #[.slice a n cap] w fun e w' => ∃ v, e = .returned (.tuple #[v, .int .i64 c]) ∧ Owns w' w.heap.size v q ∧ Below w.heap.size w w' := by
  subst hn
  obtain ⟨h, rfl⟩ := hr
  by_cases hc : c = 0
  · subst hc; exact Code_ok a cap zs w hs hcap (pchk_ok.1 h)
  · rw [if_neg hc]
    exact (Code_err a cap zs w hs c h (bne_iff_ne.2 hc)).mono fun e w' ⟨he, hw⟩ => ⟨_, he, World.ownsRow_nil _ _ _ _, hw⟩

theorem codeL_length (zs : List Int) : (codeL zs).length = zs.length := tab_length _ _
theorem codeL_small {zs : List Int} (h : zs.length ≤ 40) : ∀ z ∈ codeL zs, 0 ≤ z ∧ z ≤ 1000 := by
  intro z hz
  obtain ⟨j, _, rfl⟩ := tab_mem hz
  have := less_le zs j
  omega
theorem wrongs_drop {zs : List Int} {k : Nat} (hk : k < zs.length) : wrongs (zs.drop k) = less zs k + wrongs (zs.drop (k + 1)) := by
  rw [drop_cons zs k hk, wrongs]; rfl
theorem major_le : ∀ (n : Nat) (v : List Int), major n v ≤ n * n := by
  intro n
  induction n with
  | zero => intro v; exact Nat.le_refl _
  | succ n ih =>
    intro v
    have := ih v
    have : (n + 1) * (n + 1) = n * n + n + n + 1 := by rw [Nat.add_mul, Nat.mul_add]; omega
    rw [major]
    split <;> omega
theorem major_small {n : Nat} (h : n ≤ 40) (v : List Int) : major n v ≤ 1600 := by
  have := major_le n v
  have := Nat.mul_le_mul h h
  omega

theorem results_tmp4 {fn : Func} {t u v x : Tmp} (h : fn.results = #[.tmp t, .tmp u, .tmp v, .tmp x]) (tmps : Array Value) (P : Program) (w : World) :
    (results fn tmps).run P w = .ok (.tuple #[tmps.getD t undef, tmps.getD u undef, tmps.getD v undef, tmps.getD x undef]) w := by
  simp [results, h]

set_option maxHeartbeats 4000000 in
theorem Measure_ok (a : Option Addr) (cap : Nat) (zs : List Int) (w : World) (hs : Shows w a zs) (hcap : zs.length ≤ cap) (hp : IsPerm zs) :
    Calls Try.prog 12 #[.slice a zs.length cap] w fun e w' => ∃ v, e = .returned (.tuple #[.int .i64 (wrongs zs : Nat), .int .i64 (major zs.length zs : Nat), v, .int .i64 0]) ∧ Owns w' w.heap.size v (desc zs.length zs) ∧ Below w.heap.size w w' := by
  have h40 := hp.len
  have HP : Hid (IsPerm zs) := hp
  have hwt := wrongs_small h40
  obtain ⟨WT, HWT⟩ : ∃ WT, Hid (WT = wrongs zs) := ⟨_, rfl⟩
  obtain ⟨MT, HMT⟩ : ∃ MT, Hid (MT = major zs.length zs) := ⟨_, rfl⟩
  rw [← HWT.out] at hwt ⊢
  rw [← HMT.out]
  clear hp
  go_enter Try.func12, Try.ntmps12
  go_wp2_with fail
  refine (Code_at _ _ _ _ hs rfl hcap (PermR.ok HP.out)).mono ?_
  rintro e w1 ⟨v, rfl, hown, hb⟩
  have HB1 : Hid (Below w.heap.size w w1) := hb
  obtain ⟨ac, nc, cc, rfl, Sc, hnc, _⟩ := hown.opened (by rw [codeL_length]; omega) (small_wf (codeL_small h40))
  rw [codeL_length] at hnc
  subst hnc
  clear hown hb
  go_wp2_with fail
  go_loopw [2, 3, 4, 19] (fun x m d i wr => ∃ (k X M : Nat), k ≤ zs.length ∧ i = .int .i64 k ∧ x = .int .i64 X ∧ m = .int .i64 M ∧ Hid (X + wrongs (zs.drop k) = WT) ∧ Hid (M = major k zs) ∧ X ≤ 1600 ∧ M ≤ 1600 ∧ Hid (Owns wr w1.heap.size d (desc k zs)) ∧ Hid (Below w1.heap.size w1 wr)) (fun _ _ _ i _ => zs.length - (intOf i).toNat)
  case atStart => exact ⟨0, 0, 0, Nat.zero_le _, rfl, rfl, rfl, by show _ = _; rw [HWT.out]; simp, rfl, by omega, by omega, World.ownsRow_nil _ _ _ _, Below.refl _ _⟩
  case round =>
    obtain ⟨k, X, M, hk, rfl, rfl, rfl, HX, HM, hX, hM, HO, HC⟩ := hrel
    have HB : Hid (Below w.heap.size w wr) := HB1.out.trans (HC.out.mono HB1.out.size)
    have HW : Hid (∀ k, wrongs (zs.drop k) ≤ 1600) := fun k => wrongs_small (by simp; omega)
    by_cases hlt : k < zs.length
    · have hlt' : (k : Int) < (zs.length : Int) := by omega
      obtain ⟨b, off, z, rfl, HZ, hz1, hz2, hc⟩ := (hs.below HB.out).elem hlt
      obtain ⟨bc, offc, l, hac, HL, -, -, hcc⟩ := (Sc.below HC.out).elem (k := k) (by rw [codeL_length]; exact hlt)
      subst hac
      have hlL : Hid (l = (less zs k : Nat)) := by show _ = _; rw [HL.out]; unfold codeL; rw [tab_getD _ _ _ hlt]
      obtain ⟨L, rfl⟩ : ∃ L : Nat, l = (L : Int) := ⟨_, hlL.out⟩
      have HXL : Hid (X + L + wrongs (zs.drop (k + 1)) = WT) := by
        have h1 := HX.out
        have h2 := hlL.out
        rw [wrongs_drop hlt] at h1
        show _ = _; omega
      have hXL : X + L ≤ 1600 := by have := HXL.out; omega
      have hdl := desc_len k zs
      have hM1 := major_small (n := k + 1) (by omega) zs
      rcases Nat.eq_zero_or_pos k with h0 | h0
      · subst h0
        rw [Nat.add_zero] at hc hcc
        have HD : Hid (desc (0 + 1) zs = desc 0 zs) := by show _ = _; simp [desc]
        have HM1 : Hid (major (0 + 1) zs = major 0 zs) := by show _ = _; simp [major]
        go_wp2_with fail
        go_quiet (fail)
        go_wp2
        go_roundw
        case rel => exact ⟨1, X + L, M, by omega, by first | rfl | go_num, by go_num, rfl, HXL, by show _ = _; rw [HM1.out]; exact HM.out, hXL, hM, by
                      show Owns _ _ _ (desc (0 + 1) zs); rw [HD.out]; exact HO.out.below (below_drewN (Below.refl _ _) _), HC.out.trans (below_drewN (Below.refl _ _) _)⟩
        case measure => simp [intOf]; omega
      · obtain ⟨k1, hk1'⟩ : ∃ k1, k1 = k - 1 := ⟨_, rfl⟩
        have hw1 : IntKind.i64.wrap ((k : Int) - 1) = (k1 : Int) := by rw [IntWalk.i64_left, IntWalk.wrap64_in _ (by omega)]; omega
        have hgt : decide ((k : Int) > 0) = true := by simp; omega
        obtain ⟨b2, off2, y, hbb, HY, hy1, hy2, hcy⟩ := (hs.below HB.out).elem (show k1 < zs.length by omega)
        simp only [Option.some.injEq, Addr.mk.injEq, and_true] at hbb
        obtain ⟨rfl, rfl⟩ := hbb
        have hk1l : (k1 : Int) < (zs.length : Int) := by omega
        have HD : Hid (desc (k + 1) zs = desc k zs ++ if z < y then [(k : Int)] else []) := by
          show _ = _
          rw [desc, HZ.out, HY.out, hk1']
          by_cases h : zs.getD k 0 < zs.getD (k - 1) 0
          · rw [if_pos ⟨by omega, h⟩, if_pos h]
          · rw [if_neg (fun hh => h hh.2), if_neg h]
        have HM1 : Hid (major (k + 1) zs = major k zs + if z < y then k else 0) := by
          show _ = _
          rw [major, HZ.out, HY.out, hk1']
          by_cases h : zs.getD k 0 < zs.getD (k - 1) 0
          · rw [if_pos ⟨by omega, h⟩, if_pos h]
          · rw [if_neg (fun hh => h hh.2), if_neg h]
        clear hk1'
        by_cases hzy : z < y
        · have hb : decide (y > z) = true := by simpa using hzy
          have HE : Hid (z < y) := hzy
          have hM2 : M + k ≤ 1600 := by have h1 := HM1.out; rw [if_pos hzy, ← HM.out] at h1; omega
          clear hzy
          go_wp2_with fail
          go_quiet (fail)
          have HO2 : Hid (Owns (wr.drewN nq) w1.heap.size u4 (desc k zs)) := HO.out.below (below_drewN (Below.refl _ _) nq)
          have HBx : Hid (Below w1.heap.size w1 (wr.drewN nq)) := HC.out.trans (below_drewN (Below.refl _ _) nq)
          go_wp2_with (at_builtin; refine append_int (x := (k : Int)) rfl _ _ rfl rfl HO2.out rfl ?c1 ?c2 ?_)
          case c1 => omega
          case c2 => exact HBx.out.size
          intro v' w2 hO' hb'
          have HO3 : Hid (Owns w2 w1.heap.size v' (desc (k + 1) zs)) := by show Owns _ _ _ _; rw [HD.out, if_pos HE.out]; exact hO'
          have HC3 : Hid (Below w1.heap.size w1 w2) := HBx.out.trans hb'
          clear hO' hb'
          go_wp2
          go_roundw
          case rel => exact ⟨k + 1, X + L, M + k, by omega, by go_num, by go_num, by go_num, HXL, by
                        show _ = _; rw [HM1.out, if_pos HE.out, HM.out], hXL, hM2, HO3, HC3⟩
          case measure => simp [intOf]; omega
        · have hb : decide (y > z) = false := by simpa using hzy
          have HE : Hid (y ≤ z) := by show _ ≤ _; omega
          clear hzy
          go_wp2_with fail
          go_quiet (fail)
          go_wp2
          go_roundw
          case rel => exact ⟨k + 1, X + L, M, by omega, by go_num, by go_num, rfl, HXL, by
                        show _ = _; rw [HM1.out, if_neg (show ¬ z < y by have := HE.out; omega)]; exact HM.out, hXL, hM, by
                        show Owns _ _ _ _; rw [HD.out, if_neg (show ¬ z < y by have := HE.out; omega), List.append_nil]; exact HO.out.below (below_drewN (Below.refl _ _) _), HC.out.trans (below_drewN (Below.refl _ _) _)⟩
          case measure => simp [intOf]; omega
    · obtain rfl : k = zs.length := by omega
      have HXW : Hid (X = WT) := by have := HX.out; rw [List.drop_length] at this; show _ = _; simpa [wrongs] using this
      have HMW : Hid (M = MT) := by show _ = _; rw [HM.out, HMT.out]
      obtain rfl := HXW.out
      obtain rfl := HMW.out
      go_wp2
      (try simp only [Exit.inBlock, Exit.then])
      refine bodyPost_ret (results_tmp4 rfl _ _ _) rfl ?_
      exact ⟨_, rfl, HO.out.mono HB1.out.size, HB.out⟩

theorem Measure_err (a : Option Addr) (cap : Nat) (zs : List Int) (w : World) (hs : Shows w a zs) (hcap : zs.length ≤ cap) (c : Int) (h : pchk zs = c) (hc : (c != 0) = true) :
    Calls Try.prog 12 #[.slice a zs.length cap] w fun e w' => e = .returned (.tuple #[.int .i64 0, .int .i64 0, .slice none 0 0, .int .i64 c]) ∧ Below w.heap.size w w' := by
  have E : Hid (pchk zs = c) := h
  have hne : Hid (c ≠ 0) := bne_iff_ne.1 hc
  clear h
  go_enter Try.func12, Try.ntmps12
  go_wp2_with fail
  refine (Code_at _ _ _ _ hs rfl hcap (PermR.err E.out hne.out)).mono ?_
  rintro e w1 ⟨v, rfl, hown, hb⟩
  go_wp2_with fail
  (try simp only [Exit.inBlock, Exit.then])
  refine bodyPost_ret (results_tmp4 rfl _ _ _) rfl ?_
  exact ⟨rfl, hb⟩

/-- What Measure answers. -/
def MeasR (zs : List Int) (c : Int) (x m : Nat) (q : List Int) : Prop := pchk zs = c ∧ (c = 0 → x = wrongs zs ∧ m = major zs.length zs ∧ q = desc zs.length zs) ∧ (c ≠ 0 → x = 0 ∧ m = 0 ∧ q = [])

theorem Measure_at {zs q : List Int} {c : Int} {x m : Nat} (a : Option Addr) (n cap : Nat) (w : World) (hs : Shows w a zs) (hn : n = zs.length) (hcap : n ≤ cap) (hr : MeasR zs c x m q) :
    Calls Try.prog 12 #[.slice a n cap] w fun e w' => ∃ v, e = .returned (.tuple #[.int .i64 (x : Nat), .int .i64 (m : Nat), v, .int .i64 c]) ∧ Owns w' w.heap.size v q ∧ Below w.heap.size w w' := by
  subst hn
  obtain ⟨h, h1, h2⟩ := hr
  by_cases hc : c = 0
  · obtain ⟨rfl, rfl, rfl⟩ := h1 hc
    subst hc; exact Measure_ok a cap zs w hs hcap (pchk_ok.1 h)
  · obtain ⟨rfl, rfl, rfl⟩ := h2 hc
    exact (Measure_err a cap zs w hs hcap c h (bne_iff_ne.2 hc)).mono fun e w' ⟨he, hw⟩ => ⟨_, he, World.ownsRow_nil _ _ _ _, hw⟩

#print axioms Measure_at
end Go.Proofs.Ytnjbkiegeielhab
