/-
  The contract of ferref.Came.
-/
import Derived.Test.YtnjbkiegeielhabGPro
namespace Go.Proofs.Ytnjbkiegeielhab
open Go.RowKit

theorem orderL_succ (k : Nat) : orderL (k + 1) = orderL k ++ [(k : Int) + 1] := by unfold orderL; rw [tab_succ]

set_option maxHeartbeats 4000000 in
theorem Came_ok (N : Nat) (hN : N ≤ 40) (a : Option Addr) (m cap : Nat) (ws : List Int) (w : World) (hs : Shows w a ws) (hm : m = ws.length) (hok : okWord (N : Int) ws = true) :
    Calls Try.prog 25 #[.int .i64 (N : Int), .slice a m cap] w fun e w' => ∃ v, e = .returned v ∧ Owns w' w.heap.size v (play ws (orderL N)) ∧ Below w.heap.size w w' := by
  subst hm
  have hl := hs.len
  have HR : Hid (∀ i ∈ ws, 1 ≤ i ∧ i < (N : Int)) := okWord_iff.1 hok
  clear hok
  go_enter Try.func25, Try.ntmps25
  go_wp2
  go_loopw [5, 6] (fun v i wr => ∃ k : Nat, k ≤ N ∧ i = .int .i64 ((k : Int) + 1) ∧ Hid (Owns wr w.heap.size v (orderL k)) ∧ Hid (Below w.heap.size w wr)) (fun _ i _ => (N + 1 - (intOf i).toNat : Nat))
  case atStart => exact ⟨0, Nat.zero_le _, rfl, World.ownsRow_nil _ _ _ _, Below.refl _ _⟩
  case round =>
    obtain ⟨k, hk, rfl, HO, HB⟩ := hrel
    by_cases hlt : k < N
    · have hle : decide ((k : Int) + 1 ≤ (N : Int)) = true := by simp; omega
      have hle' : (k : Int) + 1 ≤ (N : Int) := by omega
      go_wp2_with (at_builtin; refine append_int (x := (k : Int) + 1) rfl _ _ rfl rfl HO.out rfl ?c1 ?c2 ?_)
      case c1 => unfold orderL; rw [tab_length]; omega
      case c2 => exact HB.out.size
      intro v' w2 hO' hb'
      have HO3 : Hid (Owns w2 w.heap.size v' (orderL (k + 1))) := by show Owns _ _ _ _; rw [orderL_succ]; exact hO'
      have HB3 : Hid (Below w.heap.size w w2) := HB.out.trans hb'
      clear hO' hb'
      go_wp2
      go_roundw
      case rel => exact ⟨k + 1, by omega, by go_num, HO3, HB3⟩
      case measure => simp [intOf]; omega
    · obtain rfl : k = N := by omega
      have hle : decide ((k : Int) + 1 ≤ (k : Int)) = false := by simp; omega
      obtain ⟨ag, cg, hvg⟩ := HO.out.shape
      have hol : (orderL k).length = k := tab_length _ _
      rw [hol] at hvg
      subst hvg
      have HO1 : Hid (Owns wr w.heap.size (.slice ag k cg) (play (ws.drop ws.length) (orderL k))) := by rw [List.drop_length]; exact HO
      clear hol
      go_wp2
      go_loopw [7] (fun i wq => ∃ j : Nat, j ≤ ws.length ∧ i = .int .i64 j ∧ Hid (Owns wq w.heap.size (.slice ag k cg) (play (ws.drop (ws.length - j)) (orderL k))) ∧ Hid (Below w.heap.size w wq)) (fun i _ => ws.length - (intOf i).toNat)
      case atStart => exact ⟨0, Nat.zero_le _, rfl, HO1, HB⟩
      case round =>
        obtain ⟨j, hj, rfl, HO2, HB2⟩ := hrel
        by_cases hlj : j < ws.length
        · have hlj' : (j : Int) < (ws.length : Int) := by omega
          obtain ⟨p, hp⟩ : ∃ p, p = ws.length - (j + 1) := ⟨_, rfl⟩
          have hpl : p < ws.length := by omega
          obtain ⟨L1, hL1⟩ : ∃ L1, L1 = ws.length - 1 := ⟨_, rfl⟩
          have hw0 : IntKind.i64.wrap ((ws.length : Int) - 1) = (L1 : Int) := by rw [IntWalk.i64_left, IntWalk.wrap64_in _ (by omega)]; omega
          have hw1 : IntKind.i64.wrap ((L1 : Int) - (j : Int)) = (p : Int) := by rw [IntWalk.i64_left, IntWalk.wrap64_in _ (by omega)]; omega
          have hpl' : (p : Int) < (ws.length : Int) := by omega
          obtain ⟨b, off, z, rfl, HZ, -, -, hc⟩ := (hs.below HB2.out).elem hpl
          have hzb := HR.out _ (getD_mem hpl)
          rw [← HZ.out] at hzb
          obtain ⟨q, hq⟩ : ∃ q : Nat, z = (q : Int) + 1 := ⟨(z - 1).toNat, by omega⟩
          obtain ⟨q1, rfl⟩ : ∃ q1 : Nat, z = (q1 : Int) := ⟨z.toNat, by omega⟩
          have HQ : Hid (q1 = q + 1) := by show _ = _; omega
          have HPL : Hid (k = (play (ws.drop (p + 1)) (orderL k)).length) := by show _ = _; rw [play_length]; exact (tab_length _ _).symm
          have HPJ : Hid (ws.length - j = p + 1 ∧ ws.length - (j + 1) = p) := ⟨by omega, by omega⟩
          have HO2' : Hid (Owns wr w.heap.size (.slice ag k cg) (play (ws.drop (p + 1)) (orderL k))) := by have := HO2.out; rw [HPJ.out.1] at this; exact this
          obtain ⟨g, cg', hv, hgB, -, hfz, hcl⟩ := HO2'.out.head (by rw [← HPL.out]; omega)
          simp only [Value.slice.injEq] at hv
          obtain ⟨rfl, hxx, rfl⟩ := hv
          have h1 := hcl q (by rw [← HPL.out]; omega)
          have h2 := hcl (q + 1) (by rw [← HPL.out]; omega)
          have f1 := hfz q
          have f2 := hfz (q + 1)
          rw [← HQ.out] at h2 f2
          have hw2 : IntKind.i64.wrap ((q1 : Int) - 1) = (q : Int) := by rw [IntWalk.i64_left, IntWalk.wrap64_in _ (by omega)]; omega
          have b1 : (q : Int) < (k : Int) := by omega
          have b2 : (q1 : Int) < (k : Int) := by omega
          have hne : ¬ q = q1 := by omega
          have hne' : ¬ q1 = q := by omega
          obtain ⟨rl, HRl⟩ : ∃ rl, Hid (rl = play (ws.drop (p + 1)) (orderL k)) := ⟨_, rfl⟩
          rw [← HRl.out] at h1 h2 HPL HO2'
          obtain ⟨x, HX⟩ : ∃ x, Hid (x = rl.getD q 0) := ⟨_, rfl⟩
          obtain ⟨y, HY⟩ : ∃ y, Hid (y = rl.getD (q + 1) 0) := ⟨_, rfl⟩
          rw [← HX.out] at h1
          rw [HQ.out, ← HY.out, ← HQ.out] at h2
          have hq0 := (HO2'.out.store HPL.out q y).store (by rw [List.length_set]; exact HPL.out) q1 x
          have HO3 : Hid (Owns ((wr.setCell ⟨g, q, none⟩ (.int .i64 y)).setCell ⟨g, q1, none⟩ (.int .i64 x)).drew w.heap.size (.slice (some ⟨g, 0, none⟩) k cg) (play (ws.drop (ws.length - (j + 1))) (orderL k))) := by
            show Owns _ _ _ _
            rw [HPJ.out.2, play_drop ws _ p hpl, ← HZ.out, Int.toNat_natCast, HQ.out, show q + 1 - 1 = q by omega, ← HRl.out]
            unfold swapAt
            rw [← HX.out, ← HY.out, ← HQ.out]; exact hq0.below (below_drewN (Below.refl _ _) 1)
          have HB3 : Hid (Below w.heap.size w ((wr.setCell ⟨g, q, none⟩ (.int .i64 y)).setCell ⟨g, q1, none⟩ (.int .i64 x)).drew) := ((HB2.out.setCell hgB _).setCell hgB _).trans (below_drewN (Below.refl _ _) 1)
          clear hcl hfz hxx hq0 hp hL1 hq
          go_wp2_with fail
          go_region
          go_wp2
          go_roundw
          case rel => exact ⟨j + 1, by omega, by go_num, HO3, HB3⟩
          case measure => simp [intOf]; omega
        · obtain rfl : j = ws.length := by omega
          go_wp2
          go_ret
          refine ⟨_, rfl, ?_, HB2.out⟩
          have := HO2.out
          rw [Nat.sub_self, List.drop_zero] at this
          exact this

end Go.Proofs.Ytnjbkiegeielhab
