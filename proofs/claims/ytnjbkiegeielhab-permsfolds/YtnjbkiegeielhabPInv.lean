/-
  The contracts of perms.Inverse, perms.Code, perms.Measure.
-/
import Derived.Test.YtnjbkiegeielhabPChk
import Derived.Test.YtnjbkiegeielhabBMath
import Derived.Test.YtnjbkiegeielhabMWrong
namespace Go.Proofs.Ytnjbkiegeielhab
open Go.RowKit

/-- The inverse, of the first k numbers. -/
def invTo (zs : List Int) : Nat → Nat → Int
  | 0 => fun _ => 0
  | k + 1 => upd (invTo zs k) ((zs.getD k 0).toNat - 1) ((k : Int) + 1)
def invL (zs : List Int) : List Int := tab zs.length (invTo zs zs.length)

theorem upd_same (f : Nat → Int) (j : Nat) (x : Int) : upd f j x j = x := by simp [upd]
theorem upd_ne (f : Nat → Int) {i j : Nat} (x : Int) (h : i ≠ j) : upd f j x i = f i := by simp [upd, h]

theorem invTo_at {zs : List Int} (hp : IsPerm zs) : ∀ k, k ≤ zs.length → ∀ j, j < k → invTo zs k ((zs.getD j 0).toNat - 1) = (j : Int) + 1 := by
  intro k
  induction k with
  | zero => intro _ j hj; omega
  | succ k ih =>
    intro hk j hj
    rw [invTo]
    by_cases e : j = k
    · subst e; rw [upd_same]
    · rw [upd_ne]
      · exact ih (by omega) j (by omega)
      · intro e2
        have b1 := hp.bounds (j := j) (by omega)
        have b2 := hp.bounds (j := k) (by omega)
        exact e (hp.inj (by omega) (by omega) (by omega))
theorem invL_inv {zs : List Int} (hp : IsPerm zs) : Inv zs (invL zs) := by
  refine ⟨by unfold invL; rw [tab_length], fun j hj => ?_⟩
  have b1 := hp.bounds hj
  unfold invL
  rw [tab_getD _ _ _ (by omega), invTo_at hp _ (Nat.le_refl _) j hj]

theorem invL_length (zs : List Int) : (invL zs).length = zs.length := tab_length _ _

set_option maxHeartbeats 2000000 in
theorem Inverse_ok (a : Option Addr) (cap : Nat) (zs : List Int) (w : World) (hs : Shows w a zs) (hp : IsPerm zs) :
    Calls Try.prog 10 #[.slice a zs.length cap] w fun e w' => ∃ v, e = .returned (.tuple #[v, .int .i64 0]) ∧ Owns w' w.heap.size v (invL zs) ∧ Below w.heap.size w w' := by
  have E : Hid (pchk zs = 0) := pchk_ok.2 hp
  have HP : Hid (IsPerm zs) := hp
  have h40 := hp.len
  clear hp
  obtain ⟨i0, hi, hz0, hz1, hz2⟩ := info_parts Try.info3
  go_enter Try.func10, Try.ntmps10
  go_wp2_with fail
  refine (Check_is _ _ _ _ _ hs rfl E).mono ?_
  rintro e w0 ⟨rfl, hb0⟩
  have HB0 : Hid (Below w.heap.size w w0) := hb0
  clear hb0
  go_wp2_with (at_make; refine wpList_make_full _ rfl _ _ 22 rfl w.heap.size 3 i0 (.int .i64 0) 1 Try.underlying22 hi hz0 hz1 _ _ _ _ zs.length rfl rfl rfl rfl ?b1 ?b2 ?b3 ?_)
  case b1 => rw [hz2]; omega
  case b2 => unfold maxLen; omega
  case b3 => exact HB0.out.size
  intro w1 hown hgrow
  have HB1 : Hid (Below w.heap.size w w1) := HB0.out.grown hgrow HB0.out.size (fun k h => by cases h)
  obtain ⟨g, hg⟩ : ∃ g, g = w0.heap.size := ⟨_, rfl⟩
  have HG : Hid (w.heap.size ≤ g) := by show _ ≤ _; rw [hg]; exact HB0.out.size
  have HO1 : Hid (Owns w1 w.heap.size (.slice (some ⟨g, 0, none⟩) zs.length zs.length) (tab zs.length (invTo zs 0))) := by rw [hg]; exact owns_made hown
  rw [← hg]
  clear hown hgrow hg
  go_wp2
  go_loopw [18] (fun i wr => ∃ k : Nat, k ≤ zs.length ∧ i = .int .i64 k ∧ Hid (Owns wr w.heap.size (.slice (some ⟨g, 0, none⟩) zs.length zs.length) (tab zs.length (invTo zs k))) ∧ Hid (Below w.heap.size w wr)) (fun i _ => zs.length - (intOf i).toNat)
  case atStart => exact ⟨0, Nat.zero_le _, rfl, HO1, HB1⟩
  case round =>
    obtain ⟨k, hk, rfl, HO, HB⟩ := hrel
    by_cases hlt : k < zs.length
    · have hlt' : (k : Int) < (zs.length : Int) := by omega
      obtain ⟨b, off, z, rfl, HZ, -, -, hc⟩ := (hs.below HB.out).elem hlt
      have hzb := HP.out.bounds hlt
      rw [← HZ.out] at hzb
      obtain ⟨j, rfl⟩ : ∃ j : Nat, z = (j : Int) + 1 := ⟨(z - 1).toNat, by omega⟩
      have hj : j < zs.length := by omega
      have hj' : (j : Int) < (zs.length : Int) := by omega
      obtain ⟨hfz, hcz⟩ := HO.out.tabAt hj
      obtain ⟨u, HU⟩ : ∃ u, Hid (u = invTo zs k j) := ⟨_, rfl⟩
      rw [← HU.out] at hcz
      go_wp2
      go_roundw
      case rel => exact ⟨k + 1, by omega, by go_num, by
                    have := HO.out.tabStore j ((k : Int) + 1)
                    show Owns _ _ _ _
                    rw [invTo, ← HZ.out, show ((j : Int) + 1).toNat - 1 = j by omega]; first | exact this | simpa using this, HB.out.setCell HG.out _⟩
      case measure => simp [intOf]; omega
    · obtain rfl : k = zs.length := by omega
      go_wp2
      go_ret2
      exact ⟨_, rfl, HO.out, HB.out⟩

theorem Inverse_err (a : Option Addr) (cap : Nat) (zs : List Int) (w : World) (hs : Shows w a zs) (c : Int) (h : pchk zs = c) (hc : (c != 0) = true) :
    Calls Try.prog 10 #[.slice a zs.length cap] w fun e w' => e = .returned (.tuple #[.slice none 0 0, .int .i64 c]) ∧ Below w.heap.size w w' := by
  have E : Hid (pchk zs = c) := h
  clear h
  go_enter Try.func10, Try.ntmps10
  go_wp2_with fail
  refine (Check_is _ _ _ _ _ hs rfl E).mono ?_
  rintro e w' ⟨rfl, hb⟩
  go_wp2_with fail
  go_ret2
  exact ⟨rfl, hb⟩

/-- What a function of one permutation answers. -/
def PermR (F : List Int → List Int) (zs : List Int) (c : Int) (q : List Int) : Prop := pchk zs = c ∧ q = if c = 0 then F zs else []
theorem PermR.ok {F : List Int → List Int} {zs : List Int} (h : IsPerm zs) : PermR F zs 0 (F zs) := ⟨pchk_ok.2 h, rfl⟩
theorem PermR.err {F : List Int → List Int} {zs : List Int} {c : Int} (h : pchk zs = c) (h0 : c ≠ 0) : PermR F zs c [] := ⟨h, by rw [if_neg h0]⟩

theorem Inverse_at {zs q : List Int} {c : Int} (a : Option Addr) (n cap : Nat) (w : World) (hs : Shows w a zs) (hn : n = zs.length) (hr : PermR invL zs c q) :
    Calls Try.prog 10 #[.slice a n cap] w fun e w' => ∃ v, e = .returned (.tuple #[v, .int .i64 c]) ∧ Owns w' w.heap.size v q ∧ Below w.heap.size w w' := by
  subst hn
  obtain ⟨h, rfl⟩ := hr
  by_cases hc : c = 0
  · subst hc; exact Inverse_ok a cap zs w hs (pchk_ok.1 h)
  · rw [if_neg hc]
    exact (Inverse_err a cap zs w hs c h (bne_iff_ne.2 hc)).mono fun e w' ⟨he, hw⟩ => ⟨_, he, World.ownsRow_nil _ _ _ _, hw⟩

/-- The code: how many behind are less. -/
def less (zs : List Int) (j : Nat) : Nat := (zs.drop (j + 1)).countP (fun y => decide (y < zs.getD j 0))
def codeTo (zs : List Int) (k : Nat) : Nat → Int := fun j => if j < k then (less zs j : Nat) else 0
def codeL (zs : List Int) : List Int := tab zs.length (fun j => (less zs j : Nat))
/-- The code, the number at k counted over the first m behind. -/
def codeMid (zs : List Int) (k m : Nat) : Nat → Int := fun j => if j = k then ((((zs.drop (k + 1)).take m).countP (fun y => decide (y < zs.getD k 0)) : Nat) : Int) else codeTo zs k j

theorem codeMid_start (zs : List Int) (k : Nat) (j : Nat) : codeTo zs k j = codeMid zs k 0 j := by
  unfold codeMid codeTo
  by_cases e : j = k
  · subst e; simp
  · simp [e]
theorem codeMid_end (zs : List Int) (k : Nat) (j : Nat) : codeMid zs k (zs.length - (k + 1)) j = codeTo zs (k + 1) j := by
  unfold codeMid codeTo
  by_cases e : j = k
  · subst e
    rw [if_pos rfl, if_pos (by omega), List.take_of_length_le (by simp)]; rfl
  · rw [if_neg e]
    by_cases h : j < k
    · rw [if_pos h, if_pos (by omega)]
    · rw [if_neg h, if_neg (by omega)]
theorem less_le (zs : List Int) (j : Nat) : less zs j ≤ zs.length := by
  unfold less
  have : (zs.drop (j + 1)).countP (fun y => decide (y < zs.getD j 0)) ≤ (zs.drop (j + 1)).length := List.countP_le_length
  rw [List.length_drop] at this; omega
theorem codeMid_step (zs : List Int) (k m : Nat) (hm : k + 1 + m < zs.length) (j : Nat) :
    codeMid zs k (m + 1) j = if j = k then codeMid zs k m k + (if zs.getD (k + 1 + m) 0 < zs.getD k 0 then 1 else 0) else codeMid zs k m j := by
  unfold codeMid
  by_cases e : j = k
  · subst e
    rw [if_pos rfl, if_pos rfl, if_pos rfl, take_snoc _ m (by simp; omega), List.countP_append, List.countP_cons]
    have : (zs.drop (j + 1)).getD m 0 = zs.getD (j + 1 + m) 0 := by simp [List.getD]
    rw [this]; simp
    split <;> simp
  · rw [if_neg e, if_neg e, if_neg e]
theorem codeMid_bound (zs : List Int) (k m : Nat) : 0 ≤ codeMid zs k m k ∧ codeMid zs k m k ≤ m := by
  unfold codeMid
  rw [if_pos rfl]
  have : ((zs.drop (k + 1)).take m).countP (fun y => decide (y < zs.getD k 0)) ≤ ((zs.drop (k + 1)).take m).length := List.countP_le_length
  rw [List.length_take] at this; omega

set_option maxHeartbeats 2000000 in
theorem Code_ok (a : Option Addr) (cap : Nat) (zs : List Int) (w : World) (hs : Shows w a zs) (hcap : zs.length ≤ cap) (hp : IsPerm zs) :
    Calls Try.prog 11 #[.slice a zs.length cap] w fun e w' => ∃ v, e = .returned (.tuple #[v, .int .i64 0]) ∧ Owns w' w.heap.size v (codeL zs) ∧ Below w.heap.size w w' := by
  have E : Hid (pchk zs = 0) := pchk_ok.2 hp
  have h40 := hp.len
  clear hp
  obtain ⟨i0, hi, hz0, hz1, hz2⟩ := info_parts Try.info3
  go_enter Try.func11, Try.ntmps11
  go_wp2_with fail
  refine (Check_is _ _ _ _ _ hs rfl E).mono ?_
  rintro e w0 ⟨rfl, hb0⟩
  have HB0 : Hid (Below w.heap.size w w0) := hb0
  clear hb0
  go_wp2_with (at_make; refine wpList_make_full _ rfl _ _ 22 rfl w.heap.size 3 i0 (.int .i64 0) 1 Try.underlying22 hi hz0 hz1 _ _ _ _ zs.length rfl rfl rfl rfl ?b1 ?b2 ?b3 ?_)
  case b1 => rw [hz2]; omega
  case b2 => unfold maxLen; omega
  case b3 => exact HB0.out.size
  intro w1 hown hgrow
  have HB1 : Hid (Below w.heap.size w w1) := HB0.out.grown hgrow HB0.out.size (fun k h => by cases h)
  obtain ⟨g, hg⟩ : ∃ g, g = w0.heap.size := ⟨_, rfl⟩
  have HG : Hid (w.heap.size ≤ g) := by show _ ≤ _; rw [hg]; exact HB0.out.size
  have HO1 : Hid (Owns w1 w.heap.size (.slice (some ⟨g, 0, none⟩) zs.length zs.length) (tab zs.length (codeTo zs 0))) := by rw [hg]; exact (owns_made hown).tabCongr (fun j _ => by simp [codeTo])
  rw [← hg]
  clear hown hgrow hg
  go_wp2
  go_loopw [20] (fun i wr => ∃ k : Nat, k ≤ zs.length ∧ i = .int .i64 k ∧ Hid (Owns wr w.heap.size (.slice (some ⟨g, 0, none⟩) zs.length zs.length) (tab zs.length (codeTo zs k))) ∧ Hid (Below w.heap.size w wr)) (fun i _ => zs.length - (intOf i).toNat)
  case atStart => exact ⟨0, Nat.zero_le _, rfl, HO1, HB1⟩
  case round =>
    obtain ⟨k, hk, rfl, HO, HB⟩ := hrel
    by_cases hlt : k < zs.length
    · have hlt' : (k : Int) < (zs.length : Int) := by omega
      obtain ⟨b, off, z, rfl, HZ, -, -, hc⟩ := (hs.below HB.out).elem hlt
      obtain ⟨k1, hk1⟩ : ∃ k1, k1 = k + 1 := ⟨_, rfl⟩
      have hw1 : IntKind.i64.wrap ((k : Int) + 1) = (k1 : Int) := by rw [IntWalk.i64_left, IntWalk.wrap64_in _ (by omega)]; omega
      have HK1 : Hid (k1 = k + 1) := hk1
      have HLT : Hid (k < zs.length) := hlt
      have b1 : k1 ≤ zs.length := by omega
      have b2 : k1 ≤ cap := by omega
      clear hk1
      by_cases hcs : cap = k1
      · -- nothing is behind
        have HE : Hid (zs.length - (k + 1) = 0) := by have := HK1.out; show _ = _; omega
        have hz : zs.length - k1 = 0 := by omega
        subst hcs
        go_wp2_with fail
        go_loopw [30] (fun i wq => i = .int .i64 (0 : Nat) ∧ Hid (Owns wq w.heap.size (.slice (some ⟨g, 0, none⟩) zs.length zs.length) (tab zs.length (codeTo zs k))) ∧ Hid (Below w.heap.size w wq)) (fun _ _ => 0)
        case atStart => exact ⟨rfl, HO, HB⟩
        case round =>
          obtain ⟨rfl, HO2, HB2⟩ := hrel
          go_wp2
          go_roundw
          case rel => exact ⟨cap, b1, rfl, HO2.out.tabCongr (fun j _ => by rw [HK1.out, codeMid_start, ← codeMid_end, HE.out]), HB2⟩
          case measure => have := HLT.out; have := HK1.out; simp [intOf]; omega
      · have hcs' : (cap == k1) = false := by simpa using hcs
        have HL : Hid (zs.length - k1 = zs.length - (k + 1)) := by rw [HK1.out]; rfl
        go_wp2_with fail
        go_loopw [30] (fun i wq => ∃ m : Nat, m ≤ zs.length - k1 ∧ i = .int .i64 m ∧ Hid (Owns wq w.heap.size (.slice (some ⟨g, 0, none⟩) zs.length zs.length) (tab zs.length (codeMid zs k m))) ∧ Hid (Below w.heap.size w wq)) (fun i _ => zs.length - k1 - (intOf i).toNat)
        case atStart => exact ⟨0, Nat.zero_le _, rfl, HO.out.tabCongr (fun j _ => codeMid_start zs k j), HB⟩
        case round =>
          obtain ⟨m, hm, rfl, HO2, HB2⟩ := hrel
          by_cases hml : m < zs.length - k1
          · have hml' : (m : Int) < ((zs.length - k1 : Nat) : Int) := by omega
            have hkm : Hid (k + 1 + m < zs.length) := by have := HK1.out; show _ < _; omega
            obtain ⟨b2, off2, y, hbb, HY, -, -, hcy⟩ := (hs.below HB2.out).elem hkm.out
            simp only [Option.some.injEq, Addr.mk.injEq, and_true] at hbb
            obtain ⟨rfl, rfl⟩ := hbb
            rw [← HK1.out, ← Nat.add_assoc] at hcy
            obtain ⟨hfz, hcz⟩ := HO2.out.tabAt hlt
            have hub := codeMid_bound zs k m
            have HST : Hid _ := codeMid_step zs k m hkm.out
            obtain ⟨u, HU⟩ : ∃ u, Hid (u = codeMid zs k m k) := ⟨_, rfl⟩
            rw [← HU.out] at hcz hub
            by_cases hyz : y < z
            · have hb : decide (y < z) = true := by simpa using hyz
              have HE : Hid (y < z) := hyz
              go_wp2
              go_roundw
              case rel => exact ⟨m + 1, by omega, by go_num, (HO2.out.tabStore k (u + 1)).tabCongr (fun j _ => by
                            rw [HST.out j, ← HY.out, ← HZ.out, if_pos HE.out, ← HU.out]; rfl), HB2.out.setCell HG.out _⟩
              case measure => simp [intOf]; omega
            · have hb : decide (y < z) = false := by simpa using hyz
              have HE : Hid (z ≤ y) := by show _ ≤ _; omega
              go_wp2
              go_roundw
              case rel => exact ⟨m + 1, by omega, by go_num, HO2.out.tabCongr (fun j _ => by
                            rw [HST.out j, ← HY.out, ← HZ.out, if_neg (show ¬ y < z by have := HE.out; omega), ← HU.out]
                            by_cases e : j = k
                            · rw [if_pos e, e, HU.out]; omega
                            · rw [if_neg e]), HB2⟩
              case measure => simp [intOf]; omega
          · obtain rfl : m = zs.length - k1 := by omega
            go_wp2
            go_roundw
            case rel => exact ⟨k1, b1, rfl, HO2.out.tabCongr (fun j _ => by rw [HL.out, codeMid_end, HK1.out]), HB2⟩
            case measure => have := HLT.out; have := HK1.out; simp [intOf]; omega
    · obtain rfl : k = zs.length := by omega
      go_wp2
      go_ret2
      refine ⟨_, rfl, ?_, HB.out⟩
      have := HO.out.tabCongr (g := fun j => (less zs j : Nat)) (fun j hj => by unfold codeTo; rw [if_pos hj])
      exact this

end Go.Proofs.Ytnjbkiegeielhab
