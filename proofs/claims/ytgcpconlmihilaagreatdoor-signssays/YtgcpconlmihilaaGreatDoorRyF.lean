/-
  The text of a number, group by group, is its decimal digits (split off HDec).
  The contract of ferlaw.Tables.
-/
import Derived.Test.YtgcpconlmihilaaGreatDoorHTxt
import Derived.Test.YtgcpconlmihilaaGreatDoorRyE
import Derived.Test.YtgcpconlmihilaaGreatDoorJMth
namespace Go.Proofs.YtgcpconlmihilaaGreatDoor
open Go.RowKit

theorem dec_step {y : Nat} (h : ¬ y < 10) : Lib.decDigits y = Lib.decDigits (y / 10) ++ [UInt8.ofNat (48 + y % 10)] := by
  rw [Lib.decDigits, dif_neg h]
/-- k digits of r. -/
def padK : Nat → Nat → List UInt8
  | 0, _ => []
  | k + 1, r => padK k (r / 10) ++ [UInt8.ofNat (48 + r % 10)]
theorem dec_join : ∀ (k q r : Nat), 0 < q → r < 10 ^ k → Lib.decDigits (q * 10 ^ k + r) = Lib.decDigits q ++ padK k r
  | 0, q, r, _, hr => by
    have : r = 0 := by simpa using hr
    subst this; simp [padK]
  | k + 1, q, r, hq, hr => by
    have h1 : (q * 10 ^ (k + 1) + r) / 10 = q * 10 ^ k + r / 10 := by
      rw [Nat.pow_succ, ← Nat.mul_assoc]; omega
    have h2 : (q * 10 ^ (k + 1) + r) % 10 = r % 10 := by
      rw [Nat.pow_succ, ← Nat.mul_assoc]; omega
    have h3 : 1 ≤ 10 ^ k := Nat.one_le_pow _ _ (by omega)
    have h4 : 1 * 10 ^ k ≤ q * 10 ^ k := Nat.mul_le_mul_right _ hq
    rw [dec_step (by rw [Nat.pow_succ, ← Nat.mul_assoc]; omega), h1, h2, dec_join k q (r / 10) hq (by rw [Nat.pow_succ] at hr; omega), padK, List.append_assoc]
theorem rep_succ (n : Nat) : Lib.repeatL [(48 : UInt8)] n ++ [48] = Lib.repeatL [48] (n + 1) := by
  induction n with
  | zero => rfl
  | succ n ih => simp [Lib.repeatL] at ih ⊢; exact ih
theorem padK_zero : ∀ k, padK k 0 = Lib.repeatL [(48 : UInt8)] k
  | 0 => rfl
  | k + 1 => by rw [padK, padK_zero k, ← rep_succ]; rfl
theorem padK_dec : ∀ (k r : Nat), r < 10 ^ (k + 1) → padK (k + 1) r = Lib.repeatL [(48 : UInt8)] (k + 1 - (Lib.decDigits r).length) ++ Lib.decDigits r
  | 0, r, h => by
    rw [Lib.decDigits_one (by simpa using h)]
    simp [padK, Lib.repeatL]
    congr 1; omega
  | k + 1, r, h => by
    by_cases h10 : r < 10
    · rw [padK, Nat.div_eq_of_lt h10, padK_zero, Lib.decDigits_one h10, Nat.mod_eq_of_lt h10]; rfl
    · rw [padK, padK_dec k (r / 10) (by rw [Nat.pow_succ] at h; omega), dec_step h10, List.append_assoc]
      congr 2
      simp
theorem txtG_shift (f : Nat → Nat) (n : Nat) : ∀ k, k ≤ n → txtG f (n + 1) k = txtG (fun i => f (i + 1)) n k
  | 0, _ => rfl
  | k + 1, h => by
    rw [txtG, txtG, txtG_shift f n k (by omega)]
    congr 1
    unfold grpT
    rw [show n + 1 - 1 - k = n - 1 - k + 1 by omega]
    by_cases c : n - 1 - k + 1 < n
    · rw [if_pos (by omega), if_pos c]
    · rw [if_neg (by omega), if_neg c]
theorem numT_dec (x : Nat) : numT x = Lib.decDigits x := by
  induction x using Nat.strongRecOn with
  | _ x IH =>
    by_cases hx : x < 1000000000
    · exact numT_small hx
    · obtain ⟨k, rfl⟩ : ∃ k, x = k + 1 := ⟨x - 1, by omega⟩
      have hle : (k + 1) / 1000000000 ≤ k := by omega
      have hc := can_ngr k ((k + 1) / 1000000000) hle
      obtain ⟨n, hn⟩ : ∃ n, ngr k ((k + 1) / 1000000000) = n + 1 := by
        rcases Nat.eq_zero_or_pos (ngr k ((k + 1) / 1000000000)) with e | e
        · rw [e] at hc
          have := hc.val
          simp [valF] at this
          omega
        · exact ⟨_, (Nat.succ_pred_eq_of_pos e).symm⟩
      have ht := hc.text
      rw [IH _ (by omega), hn, textG, if_neg (by omega)] at ht
      unfold numT
      rw [ngr, if_neg (by omega), hn, textG, if_neg (by omega), txtG, txtG_shift _ _ _ (Nat.le_refl _), show (fun i => dgt (k + 1) (i + 1)) = dgt ((k + 1) / 1000000000) from funext fun i => dgt_succ _ i, ht]
      have hj := dec_join 9 ((k + 1) / 1000000000) ((k + 1) % 1000000000) (by omega) (by omega)
      rw [show (k + 1) / 1000000000 * 10 ^ 9 + (k + 1) % 1000000000 = k + 1 by omega] at hj
      rw [hj]
      congr 1
      rw [padK_dec 8 _ (by omega)]
      unfold grpT
      rw [if_pos (by omega), show n + 1 + 1 - 1 - (n + 1) = 0 by omega]
      have : dgt (k + 1) 0 = (k + 1) % 1000000000 := by unfold dgt; simp
      rw [this]
end Go.Proofs.YtgcpconlmihilaaGreatDoor

namespace Go.Proofs.YtgcpconlmihilaaGreatDoor
open Go.RowKit

/-- An address shows tables. -/
def CubT (w : World) (a : Option Addr) (ts : List (List (List Int))) : Prop :=
  ∀ k, k < ts.length → ∃ b off ai ci, a = some ⟨b, off, none⟩ ∧ w.cell? ⟨b, off + k, none⟩ = some (.slice ai (ts.getD k []).length ci) ∧ Table w ai (ts.getD k [])
theorem Table.drewR {w : World} {a : Option Addr} {ls : List (List Int)} (h : Table w a ls) (n : Nat) : Table (w.drewN n) a ls := h.below (below_drewN (Below.refl _ _) n)
theorem CubT.drewR {w : World} {a : Option Addr} {ts : List (List (List Int))} (h : CubT w a ts) (n : Nat) : CubT (w.drewN n) a ts := fun k hk => by
  obtain ⟨b, off, ai, ci, e1, e2, e3⟩ := h k hk
  exact ⟨b, off, ai, ci, e1, e2, e3.drewR n⟩
theorem Cub.shows {X : Nat → Prop} {w : World} {lo : Nat} {v : Value} {us : List Value} {ts : List (List (List Int))} (h : Cub X w lo v us ts) : ∃ a c, v = .slice a ts.length c ∧ CubT w a ts := by
  have ho := h.own
  have hl := h.len
  rcases ho.2 with ⟨hv, h0⟩ | ⟨g, cap, cur, hv, hg, hh, hnc, hcm, hcs, htk⟩
  · exact ⟨none, 0, by rw [hv]; congr 1; omega, fun k hk => by omega⟩
  · rw [hl] at hv
    refine ⟨some ⟨g, 0, none⟩, cap, hv, fun k hk => ?_⟩
    obtain ⟨a, c, e1, e2⟩ := h.el k hk
    rw [hv, hl] at ho
    refine ⟨g, 0, a, c, rfl, ?_, e2 w (fun _ _ _ _ => rfl) (Nat.le_refl _)⟩
    rw [Nat.zero_add, World.ownsRow.cellAt ho k (by omega), rowv_get (by omega), e1]

set_option maxHeartbeats 2000000 in
theorem Tables_at (a b : Option Addr) (ca cb n m : Nat) (ts : List (List (List Int))) (w : World) (hs : CubT w a ts) (ht : CubT w b ts) (hn : n = ts.length) (hm : m = ts.length) (hl : ts.length ≤ 17592186044416) (hr : ∀ t ∈ ts, t.length ≤ 1000) :
    Calls Tryz.prog 9 #[.slice a n ca, .slice b m cb] w fun e w' => e = .returned (.bool true) ∧ ∃ n, w' = w.drewN n := by
  subst hn; subst hm
  have HS : Hid (CubT w a ts) := hs
  have HT : Hid (CubT w b ts) := ht
  have HR : Hid (∀ t ∈ ts, t.length ≤ 1000) := hr
  clear hs ht hr
  go_enter Tryz.func9, Tryz.ntmps9
  go_wp2
  go_loopw [13] (fun i wr => ∃ k : Nat, k ≤ ts.length ∧ i = .int .i64 k ∧ Hid (∃ n, wr = w.drewN n)) (fun i _ => ts.length - (intOf i).toNat)
  case atStart => exact ⟨0, Nat.zero_le _, rfl, 0, rfl⟩
  case round =>
    obtain ⟨k, hk, rfl, HD⟩ := hrel
    have HSw : Hid (CubT wr a ts) := by obtain ⟨n, hn⟩ := HD.out; rw [hn]; exact HS.out.drewR n
    have HTw : Hid (CubT wr b ts) := by obtain ⟨n, hn⟩ := HD.out; rw [hn]; exact HT.out.drewR n
    by_cases hlt : k < ts.length
    · have hlt' : (k : Int) < (ts.length : Int) := by omega
      obtain ⟨b1, off1, a1, c1, rfl, hc1, hs1⟩ := HSw.out k hlt
      obtain ⟨b2, off2, a2, c2, rfl, hc2, hs2⟩ := HTw.out k hlt
      have HL : Hid ((ts.getD k []).length ≤ 1000) := HR.out _ (by simp [List.getD, hlt])
      obtain ⟨tk, HTk⟩ : ∃ tk, Hid (tk = ts.getD k []) := ⟨_, rfl⟩
      rw [← HTk.out] at hc1 hc2 hs1 hs2 HL
      obtain ⟨mk, HMk⟩ : ∃ mk, Hid (mk = tk.length) := ⟨_, rfl⟩
      rw [← HMk.out] at hc1 hc2
      have HS1 : Hid (Table wr a1 tk) := hs1
      have HS2 : Hid (Table wr a2 tk) := hs2
      clear hs1 hs2
      go_wp2_with fail
      go_quiet ((go_at_call 27; exact Calls.quiet_of (RowsL_r _ _ _ _ _ _ tk _ (HS1.out.drewR _) (HS2.out.drewR _) HMk.out HMk.out (by have := HL.out; omega))))
      go_wp2
      go_roundw
      case rel => exact ⟨k + 1, by omega, by go_num, by obtain ⟨n, hn⟩ := HD.out; exact ⟨_, by rw [hn]; exact drewN_two _ _ _⟩⟩
      case measure => simp [intOf]; omega
    · obtain rfl : k = ts.length := by omega
      go_wp2
      go_ret
      exact ⟨rfl, HD.out⟩

end Go.Proofs.YtgcpconlmihilaaGreatDoor
