/-
  The contract of ferref.Size at numbers that are not below 0.
  The contract of ferlaw.Same[string].
  The contract of ferlaw.Tables.
-/
import Derived.Test.YtbiakncblkjmhaaGreatDoorDQu
import Derived.Test.YtbiakncblkjmhaaGreatDoorTTab
import Derived.Test.YtbiakncblkjmhaaGreatDoorRxD
import Derived.Test.YtbiakncblkjmhaaGreatDoorRwD
namespace Go.Proofs.YtbiakncblkjmhaaGreatDoor
open Go.RowKit

theorem sum_takeR {l : List Nat} {k : Nat} (h : k < l.length) : (l.take (k + 1)).sum = (l.take k).sum + l.getD k 0 := by
  rw [List.take_succ_eq_append_getElem h, List.sum_append]
  simp [List.getD, h]
theorem sum_takeR_le (l : List Nat) (k : Nat) : (l.take k).sum ≤ l.sum := by
  have := congrArg List.sum (List.take_append_drop k l)
  rw [List.sum_append] at this; omega
set_option maxHeartbeats 1000000 in
theorem RSize_nat (a : Option Addr) (n cap : Nat) (l : List Nat) (w : World) (hs : Shows w a (castL l)) (hn : n = l.length) (hl : l.sum ≤ 1000000) :
    Calls Tryz.prog 8 #[.slice a n cap] w fun e w' => e = .returned (.int .i64 (l.sum : Int)) ∧ w' = w := by
  subst hn
  have hlen : l.length ≤ 17592186044416 := by have := hs.len; rw [castL_len] at this; exact this
  go_enter Tryz.func8, Tryz.ntmps8
  go_wp2
  go_loop [3, 4] (fun t i => ∃ k : Nat, k ≤ l.length ∧ i = .int .i64 k ∧ t = .int .i64 (((l.take k).sum : Nat) : Int)) (fun _ i => l.length - (intOf i).toNat)
  case atStart => exact ⟨0, Nat.zero_le _, rfl, by simp⟩
  case round =>
    obtain ⟨k, hk, rfl, rfl⟩ := hrel
    by_cases hlt : k < l.length
    · obtain ⟨b, off, z, rfl, HZ, hz1, hz2, hc⟩ := hs.elem (k := k) (by rw [castL_len]; exact hlt)
      have HZ2 : Hid (z = (l.getD k 0 : Int)) := by show _ = _; rw [HZ.out, castL_at]
      have h1 := sum_takeR hlt
      have h2 := sum_takeR_le l (k + 1)
      have hlt' : (k : Int) < (l.length : Int) := by omega
      obtain ⟨S, HS⟩ : ∃ S, Hid (S = (l.take k).sum) := ⟨_, rfl⟩
      rw [← HS.out] at h1 ⊢
      have HS2 : Hid (((l.take (k + 1)).sum : Int) = (S : Int) + z) := by show _ = _; rw [h1, HZ2.out]; omega
      have b1 : (S : Int) + z ≤ 1000000 := by rw [HZ2.out]; omega
      have b2 : 0 ≤ z := by rw [HZ2.out]; omega
      clear h1 h2
      go_wp2
      go_round
      case rel => exact ⟨k + 1, by omega, by go_num, by rw [HS2.out]⟩
      case measure => simp [intOf]; omega
    · obtain rfl : k = l.length := by omega
      have hlt' : ¬ ((l.length : Int) < (l.length : Int)) := by omega
      go_wp2
      go_ret
      exact ⟨by first | rfl | (rw [List.take_length]; rfl), rfl⟩

end Go.Proofs.YtbiakncblkjmhaaGreatDoor

namespace Go.Proofs.YtbiakncblkjmhaaGreatDoor
open Go.RowKit

set_option maxHeartbeats 1000000 in
theorem SameS_at (X g n ca cb : Nat) (f : Nat → ByteArray) (w : World) (h1 : ∀ i, i < n → w.cell? ⟨X, i, none⟩ = some (.string (f i))) (h2 : ∀ i, i < n → w.cell? ⟨g, i, none⟩ = some (.string (f i))) (hn : n ≤ 1000) :
    Calls Tryz.prog 13 #[.slice (some ⟨X, 0, none⟩) n ca, .slice (some ⟨g, 0, none⟩) n cb] w fun e w' => e = .returned (.bool true) ∧ ∃ m, w' = w.drewN m := by
  have H1 : Hid (∀ i, i < n → w.cell? ⟨X, i, none⟩ = some (.string (f i))) := h1
  have H2 : Hid (∀ i, i < n → w.cell? ⟨g, i, none⟩ = some (.string (f i))) := h2
  clear h1 h2
  go_enter Tryz.func13, Tryz.ntmps13
  go_wp2
  go_loopw [13] (fun q wr => ∃ i : Nat, i ≤ n ∧ q = .int .i64 i ∧ Hid (∃ m, wr = w.drewN m)) (fun q _ => n - (intOf q).toNat)
  case atStart => exact ⟨0, Nat.zero_le _, rfl, 0, rfl⟩
  case round =>
    obtain ⟨i, hi, rfl, HD⟩ := hrel
    by_cases hil : i < n
    · have hil' : (i : Int) < (n : Int) := by omega
      obtain ⟨s, HSs⟩ : ∃ s, Hid (s = f i) := ⟨_, rfl⟩
      have c1 : wr.cell? ⟨X, i, none⟩ = some (.string s) := by obtain ⟨m, rfl⟩ := HD.out; rw [HSs.out]; exact H1.out i hil
      have c2 : wr.cell? ⟨g, i, none⟩ = some (.string s) := by obtain ⟨m, rfl⟩ := HD.out; rw [HSs.out]; exact H2.out i hil
      go_wp2_with fail
      go_quiet (fail)
      go_wp2
      go_roundw
      case rel => exact ⟨i + 1, by omega, by go_num, by obtain ⟨m, hm⟩ := HD.out; exact ⟨_, by rw [hm]; exact drewN_two _ _ _⟩⟩
      case measure => simp [intOf]; omega
    · obtain rfl : i = n := by omega
      go_wp2
      go_ret
      exact ⟨rfl, HD.out⟩

end Go.Proofs.YtbiakncblkjmhaaGreatDoor

namespace Go.Proofs.YtbiakncblkjmhaaGreatDoor
open Go.RowKit

/-- An address shows tables. -/
def CubT (w : World) (a : Option Addr) (ts : List (List (List Int))) : Prop :=
  ∀ k, k < ts.length → ∃ b off ai ci, a = some ⟨b, off, none⟩ ∧ w.cell? ⟨b, off + k, none⟩ = some (.slice ai (ts.getD k []).length ci) ∧ Table w ai (ts.getD k [])
theorem Table.drewR {w : World} {a : Option Addr} {ls : List (List Int)} (h : Table w a ls) (n : Nat) : Table (w.drewN n) a ls := h.below (below_drewN (Below.refl _ _) n)
theorem CubT.drewR {w : World} {a : Option Addr} {ts : List (List (List Int))} (h : CubT w a ts) (n : Nat) : CubT (w.drewN n) a ts := fun k hk => by
  obtain ⟨b, off, ai, ci, e1, e2, e3⟩ := h k hk
  exact ⟨b, off, ai, ci, e1, e2, e3.drewR n⟩
theorem Cub.shows {X : Nat → Prop} {w : World} {lo : Nat} {v : Value} {us : List Value} {ts : List (List (List Int))} (h : Cub X w lo v us ts) : ∃ a c, v = .slice a ts.length c ∧ CubT w a ts := by
  have ho := h.own
  have hl := h.len
  rcases ho.2 with ⟨hv, h0⟩ | ⟨g, cap, cur, hv, hg, hh, hnc, hcm, hcs, htk⟩
  · exact ⟨none, 0, by rw [hv]; congr 1; omega, fun k hk => by omega⟩
  · rw [hl] at hv
    refine ⟨some ⟨g, 0, none⟩, cap, hv, fun k hk => ?_⟩
    obtain ⟨a, c, e1, e2⟩ := h.el k hk
    rw [hv, hl] at ho
    refine ⟨g, 0, a, c, rfl, ?_, e2 w (fun _ _ _ _ => rfl) (Nat.le_refl _)⟩
    rw [Nat.zero_add, World.ownsRow.cellAt ho k (by omega), rowv_get (by omega), e1]

set_option maxHeartbeats 2000000 in
theorem Tables_at (a b : Option Addr) (ca cb n m : Nat) (ts : List (List (List Int))) (w : World) (hs : CubT w a ts) (ht : CubT w b ts) (hn : n = ts.length) (hm : m = ts.length) (hl : ts.length ≤ 17592186044416) (hr : ∀ t ∈ ts, t.length ≤ 1000) :
    Calls Tryz.prog 17 #[.slice a n ca, .slice b m cb] w fun e w' => e = .returned (.bool true) ∧ ∃ n, w' = w.drewN n := by
  subst hn; subst hm
  have HS : Hid (CubT w a ts) := hs
  have HT : Hid (CubT w b ts) := ht
  have HR : Hid (∀ t ∈ ts, t.length ≤ 1000) := hr
  clear hs ht hr
  go_enter Tryz.func17, Tryz.ntmps17
  go_wp2
  go_loopw [13] (fun i wr => ∃ k : Nat, k ≤ ts.length ∧ i = .int .i64 k ∧ Hid (∃ n, wr = w.drewN n)) (fun i _ => ts.length - (intOf i).toNat)
  case atStart => exact ⟨0, Nat.zero_le _, rfl, 0, rfl⟩
  case round =>
    obtain ⟨k, hk, rfl, HD⟩ := hrel
    have HSw : Hid (CubT wr a ts) := by obtain ⟨n, hn⟩ := HD.out; rw [hn]; exact HS.out.drewR n
    have HTw : Hid (CubT wr b ts) := by obtain ⟨n, hn⟩ := HD.out; rw [hn]; exact HT.out.drewR n
    by_cases hlt : k < ts.length
    · have hlt' : (k : Int) < (ts.length : Int) := by omega
      obtain ⟨b1, off1, a1, c1, rfl, hc1, hs1⟩ := HSw.out k hlt
      obtain ⟨b2, off2, a2, c2, rfl, hc2, hs2⟩ := HTw.out k hlt
      have HL : Hid ((ts.getD k []).length ≤ 1000) := HR.out _ (by simp [List.getD, hlt])
      obtain ⟨tk, HTk⟩ : ∃ tk, Hid (tk = ts.getD k []) := ⟨_, rfl⟩
      rw [← HTk.out] at hc1 hc2 hs1 hs2 HL
      obtain ⟨mk, HMk⟩ : ∃ mk, Hid (mk = tk.length) := ⟨_, rfl⟩
      rw [← HMk.out] at hc1 hc2
      have HS1 : Hid (Table wr a1 tk) := hs1
      have HS2 : Hid (Table wr a2 tk) := hs2
      clear hs1 hs2
      go_wp2_with fail
      go_quiet ((go_at_call 44; exact Calls.quiet_of (RowsL_r _ _ _ _ _ _ tk _ (HS1.out.drewR _) (HS2.out.drewR _) HMk.out HMk.out (by have := HL.out; omega))))
      go_wp2
      go_roundw
      case rel => exact ⟨k + 1, by omega, by go_num, by obtain ⟨n, hn⟩ := HD.out; exact ⟨_, by rw [hn]; exact drewN_two _ _ _⟩⟩
      case measure => simp [intOf]; omega
    · obtain rfl : k = ts.length := by omega
      go_wp2
      go_ret
      exact ⟨rfl, HD.out⟩

end Go.Proofs.YtbiakncblkjmhaaGreatDoor
