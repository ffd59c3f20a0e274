/-
  The contract of perms.Inverse, over fewer texts.
-/
import Derived.Test.YtampjdebnaapaaePChk
namespace Go.Proofs.Ytampjdebnaapaae
open Go.RowKit

def InvI (a x : List Int) : Prop := x.length = a.length ∧ ∀ j, j < a.length → x.getD ((a.getD j 0).toNat - 1) 0 = (j : Int) + 1

/-- The inverse, of the first k numbers. -/
def invTo (zs : List Int) : Nat → Nat → Int
  | 0 => fun _ => 0
  | k + 1 => upd (invTo zs k) ((zs.getD k 0).toNat - 1) ((k : Int) + 1)
def invL (zs : List Int) : List Int := tab zs.length (invTo zs zs.length)

theorem upd_same (f : Nat → Int) (j : Nat) (x : Int) : upd f j x j = x := by simp [upd]
theorem upd_ne (f : Nat → Int) {i j : Nat} (x : Int) (h : i ≠ j) : upd f j x i = f i := by simp [upd, h]

theorem invTo_at {zs : List Int} (hp : IsPerm zs) : ∀ k, k ≤ zs.length → ∀ j, j < k → invTo zs k ((zs.getD j 0).toNat - 1) = (j : Int) + 1 := by
  intro k
  induction k with
  | zero => intro _ j hj; omega
  | succ k ih =>
    intro hk j hj
    rw [invTo]
    by_cases e : j = k
    · subst e; rw [upd_same]
    · rw [upd_ne]
      · exact ih (by omega) j (by omega)
      · intro e2
        have b1 := hp.bounds (j := j) (by omega)
        have b2 := hp.bounds (j := k) (by omega)
        exact e (hp.inj (by omega) (by omega) (by omega))
theorem invL_inv {zs : List Int} (hp : IsPerm zs) : InvI zs (invL zs) := by
  refine ⟨by unfold invL; rw [tab_length], fun j hj => ?_⟩
  have b1 := hp.bounds hj
  unfold invL
  rw [tab_getD _ _ _ (by omega), invTo_at hp _ (Nat.le_refl _) j hj]

theorem invL_length (zs : List Int) : (invL zs).length = zs.length := tab_length _ _

set_option maxHeartbeats 2000000 in
theorem Inverse_ok (a : Option Addr) (cap : Nat) (zs : List Int) (w : World) (hs : Shows w a zs) (hp : IsPerm zs) :
    Calls Try.prog 5 #[.slice a zs.length cap] w fun e w' => ∃ v, e = .returned (.tuple #[v, .int .i64 0]) ∧ Owns w' w.heap.size v (invL zs) ∧ Below w.heap.size w w' := by
  have E : Hid (pchk zs = 0) := pchk_ok.2 hp
  have HP : Hid (IsPerm zs) := hp
  have h40 := hp.len
  clear hp
  obtain ⟨i0, hi, hz0, hz1, hz2⟩ := info_parts Try.info3
  go_enter Try.func5, Try.ntmps5
  go_wp2_with fail
  refine (Check_is _ _ _ _ _ hs rfl E).mono ?_
  rintro e w0 ⟨rfl, hb0⟩
  have HB0 : Hid (Below w.heap.size w w0) := hb0
  clear hb0
  go_wp2_with (at_make; refine wpList_make_full _ rfl _ _ 22 rfl w.heap.size 3 i0 (.int .i64 0) 1 Try.underlying22 hi hz0 hz1 _ _ _ _ zs.length rfl rfl rfl rfl ?b1 ?b2 ?b3 ?_)
  case b1 => rw [hz2]; omega
  case b2 => unfold maxLen; omega
  case b3 => exact HB0.out.size
  intro w1 hown hgrow
  have HB1 : Hid (Below w.heap.size w w1) := HB0.out.grown hgrow HB0.out.size (fun k h => by cases h)
  obtain ⟨g, hg⟩ : ∃ g, g = w0.heap.size := ⟨_, rfl⟩
  have HG : Hid (w.heap.size ≤ g) := by show _ ≤ _; rw [hg]; exact HB0.out.size
  have HO1 : Hid (Owns w1 w.heap.size (.slice (some ⟨g, 0, none⟩) zs.length zs.length) (tab zs.length (invTo zs 0))) := by rw [hg]; exact owns_made hown
  rw [← hg]
  clear hown hgrow hg
  go_wp2
  go_loopw [18] (fun i wr => ∃ k : Nat, k ≤ zs.length ∧ i = .int .i64 k ∧ Hid (Owns wr w.heap.size (.slice (some ⟨g, 0, none⟩) zs.length zs.length) (tab zs.length (invTo zs k))) ∧ Hid (Below w.heap.size w wr)) (fun i _ => zs.length - (intOf i).toNat)
  case atStart => exact ⟨0, Nat.zero_le _, rfl, HO1, HB1⟩
  case round =>
    obtain ⟨k, hk, rfl, HO, HB⟩ := hrel
    by_cases hlt : k < zs.length
    · have hlt' : (k : Int) < (zs.length : Int) := by omega
      obtain ⟨b, off, z, rfl, HZ, -, -, hc⟩ := (hs.below HB.out).elem hlt
      have hzb := HP.out.bounds hlt
      rw [← HZ.out] at hzb
      obtain ⟨j, rfl⟩ : ∃ j : Nat, z = (j : Int) + 1 := ⟨(z - 1).toNat, by omega⟩
      have hj : j < zs.length := by omega
      have hj' : (j : Int) < (zs.length : Int) := by omega
      obtain ⟨hfz, hcz⟩ := HO.out.tabAt hj
      obtain ⟨u, HU⟩ : ∃ u, Hid (u = invTo zs k j) := ⟨_, rfl⟩
      rw [← HU.out] at hcz
      go_wp2
      go_roundw
      case rel => exact ⟨k + 1, by omega, by go_num, by
                    have := HO.out.tabStore j ((k : Int) + 1)
                    show Owns _ _ _ _
                    rw [invTo, ← HZ.out, show ((j : Int) + 1).toNat - 1 = j by omega]; first | exact this | simpa using this, HB.out.setCell HG.out _⟩
      case measure => simp [intOf]; omega
    · obtain rfl : k = zs.length := by omega
      go_wp2
      go_ret2
      exact ⟨_, rfl, HO.out, HB.out⟩

theorem Inverse_err (a : Option Addr) (cap : Nat) (zs : List Int) (w : World) (hs : Shows w a zs) (c : Int) (h : pchk zs = c) (hc : (c != 0) = true) :
    Calls Try.prog 5 #[.slice a zs.length cap] w fun e w' => e = .returned (.tuple #[.slice none 0 0, .int .i64 c]) ∧ Below w.heap.size w w' := by
  have E : Hid (pchk zs = c) := h
  clear h
  go_enter Try.func5, Try.ntmps5
  go_wp2_with fail
  refine (Check_is _ _ _ _ _ hs rfl E).mono ?_
  rintro e w' ⟨rfl, hb⟩
  go_wp2_with fail
  go_ret2
  exact ⟨rfl, hb⟩

/-- What a function of one permutation answers. -/
def PermR (F : List Int → List Int) (zs : List Int) (c : Int) (q : List Int) : Prop := pchk zs = c ∧ q = if c = 0 then F zs else []
theorem PermR.ok {F : List Int → List Int} {zs : List Int} (h : IsPerm zs) : PermR F zs 0 (F zs) := ⟨pchk_ok.2 h, rfl⟩
theorem PermR.err {F : List Int → List Int} {zs : List Int} {c : Int} (h : pchk zs = c) (h0 : c ≠ 0) : PermR F zs c [] := ⟨h, by rw [if_neg h0]⟩

theorem Inverse_at {zs q : List Int} {c : Int} (a : Option Addr) (n cap : Nat) (w : World) (hs : Shows w a zs) (hn : n = zs.length) (hr : PermR invL zs c q) :
    Calls Try.prog 5 #[.slice a n cap] w fun e w' => ∃ v, e = .returned (.tuple #[v, .int .i64 c]) ∧ Owns w' w.heap.size v q ∧ Below w.heap.size w w' := by
  subst hn
  obtain ⟨h, rfl⟩ := hr
  by_cases hc : c = 0
  · subst hc; exact Inverse_ok a cap zs w hs (pchk_ok.1 h)
  · rw [if_neg hc]
    exact (Inverse_err a cap zs w hs c h (bne_iff_ne.2 hc)).mono fun e w' ⟨he, hw⟩ => ⟨_, he, World.ownsRow_nil _ _ _ _, hw⟩

end Go.Proofs.Ytampjdebnaapaae
