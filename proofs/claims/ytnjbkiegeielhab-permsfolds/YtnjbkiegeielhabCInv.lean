/-
  The contracts of ferref.Inverted, ferref.Behind, ferlaw.list.
-/
import Derived.Test.YtnjbkiegeielhabCRef
namespace Go.Proofs.Ytnjbkiegeielhab
open Go.RowKit

set_option maxHeartbeats 1000000 in
/-- 'list' where an error is wanted, and nothing. -/
theorem list_err (a b : Option Addr) (ca cb n : Nat) (w : World) (c : Int) (hc : (c != 0) = true) :
    Calls Try.prog 18 #[.slice a 0 ca, .int .i64 c, .slice b n cb, .int .i64 c] w fun e w' => e = .returned (.bool true) ∧ ∃ n, w' = w.drewN n := by
  go_enter Try.func18, Try.ntmps18
  go_wp2
  go_ret
  exact ⟨rfl, 0, rfl⟩
set_option maxHeartbeats 1000000 in
/-- 'list' of two that are the same. -/
theorem list_ok (a b : Option Addr) (ca cb n m : Nat) (w : World) (zs : List Int) (hs : Shows w a zs) (ht : Shows w b zs) (hn : Hid (n = zs.length)) (hm : Hid (m = zs.length)) :
    Calls Try.prog 18 #[.slice a n ca, .int .i64 0, .slice b m cb, .int .i64 0] w fun e w' => e = .returned (.bool true) ∧ ∃ n, w' = w.drewN n := by
  go_enter Try.func18, Try.ntmps18
  go_wp2_with (go_at_call 39; refine (Same_at _ _ _ _ _ _ zs zs _ hs ht hn.out hm.out true (by simp)).mono ?_; rintro e w1 ⟨rfl, hd⟩)
  go_ret
  exact ⟨rfl, hd⟩
/-- 'list' of the same error, the same list (none where there is an error). -/
theorem list_at (a b : Option Addr) (ca cb n m : Nat) (w : World) (zs : List Int) (c : Int) (h0 : c ≠ 0 → zs = []) (hs : Shows w a zs) (ht : Shows w b zs) (hn : n = zs.length) (hm : m = zs.length) :
    Calls Try.prog 18 #[.slice a n ca, .int .i64 c, .slice b m cb, .int .i64 c] w fun e w' => e = .returned (.bool true) ∧ ∃ n, w' = w.drewN n := by
  by_cases hc : c = 0
  · subst hc; exact list_ok a b ca cb n m w zs hs ht hn hm
  · obtain rfl := h0 hc
    simp only [List.length_nil] at hn
    subst hn
    exact list_err a b ca cb m w c (bne_iff_ne.2 hc)

theorem invL_at {zs : List Int} (hp : IsPerm zs) {v : Nat} (hv : v < zs.length) : ∃ k : Nat, IdxR zs ((v : Int) + 1) (k : Int) ∧ k < zs.length ∧ (invL zs).getD v 0 = (k : Int) + 1 := by
  obtain ⟨j, hj, hje⟩ := hp.place hv
  refine ⟨j, Or.inr ⟨j, rfl, hj, hje, fun i hi he => ?_⟩, hj, ?_⟩
  · have := hp.inj (i := i) (j := j) (by omega) hj (by rw [he, hje]); omega
  · have := (invL_inv hp).2 j hj
    rw [hje, show ((v : Int) + 1).toNat - 1 = v by omega] at this
    exact this

set_option maxHeartbeats 2000000 in
theorem Inverted_ok (a : Option Addr) (n cap : Nat) (zs : List Int) (w : World) (hs : Shows w a zs) (hn : n = zs.length) (hp : IsPerm zs) :
    Calls Try.prog 13 #[.slice a n cap] w fun e w' => ∃ v, e = .returned v ∧ Owns w' w.heap.size v (invL zs) ∧ Below w.heap.size w w' := by
  subst hn
  have h40 := hp.len
  have HP : Hid (IsPerm zs) := hp
  clear hp
  go_enter Try.func13, Try.ntmps13
  go_wp2
  go_loopw [3, 4] (fun v i wr => ∃ k : Nat, k ≤ zs.length ∧ i = .int .i64 ((k : Int) + 1) ∧ Hid (Owns wr w.heap.size v ((invL zs).take k)) ∧ Hid (Below w.heap.size w wr)) (fun _ i _ => (zs.length + 1 - (intOf i).toNat : Nat))
  case atStart => exact ⟨0, Nat.zero_le _, rfl, World.ownsRow_nil _ _ _ _, Below.refl _ _⟩
  case round =>
    obtain ⟨k, hk, rfl, HO, HB⟩ := hrel
    by_cases hlt : k < zs.length
    · have hle : decide ((k : Int) + 1 ≤ (zs.length : Int)) = true := by simp; omega
      have hle' : (k : Int) + 1 ≤ (zs.length : Int) := by omega
      obtain ⟨j, hj, hjl, hje⟩ := invL_at HP.out hlt
      have HJ : Hid (IdxR zs ((k : Int) + 1) (j : Int)) := hj
      have HE : Hid ((invL zs).take (k + 1) = (invL zs).take k ++ [(j : Int) + 1]) := by
        show _ = _; rw [take_snoc _ k (by rw [invL_length]; exact hlt), hje]
      clear hj hje
      go_wp2_with fail
      refine (Place_any _ _ _ zs ((k : Int) + 1) (j : Int) _ (hs.below HB.out) rfl HJ.out).mono ?_
      rintro e w1 ⟨rfl, rfl⟩
      go_wp2_with (at_builtin; refine append_int (x := (j : Int) + 1) rfl _ _ rfl rfl HO.out rfl ?c1 ?c2 ?_)
      case c1 => rw [List.length_take]; omega
      case c2 => exact HB.out.size
      intro v' w2 hO' hb'
      have HO3 : Hid (Owns w2 w.heap.size v' ((invL zs).take (k + 1))) := by show Owns _ _ _ _; rw [HE.out]; exact hO'
      have HB3 : Hid (Below w.heap.size w w2) := HB.out.trans hb'
      clear hO' hb'
      go_wp2
      go_roundw
      case rel => exact ⟨k + 1, by omega, by go_num, HO3, HB3⟩
      case measure => simp [intOf]; omega
    · obtain rfl : k = zs.length := by omega
      have hle : decide ((zs.length : Int) + 1 ≤ (zs.length : Int)) = false := by simp; omega
      go_wp2
      go_ret
      refine ⟨_, rfl, ?_, HB.out⟩
      have := HO.out
      rw [List.take_of_length_le (by rw [invL_length]; exact Nat.le_refl _)] at this
      exact this

/-- How many of the places from k up to m have a lesser number than place k. -/
def lessTo (zs : List Int) (k m : Nat) : Nat := ((zs.drop k).take (m - k)).countP (fun y => decide (y < zs.getD k 0))
theorem lessTo_end {zs : List Int} {k : Nat} (hk : k < zs.length) : lessTo zs k zs.length = less zs k := by
  unfold lessTo less
  rw [List.take_of_length_le (by simp), drop_cons zs k hk, List.countP_cons]
  simp
theorem lessTo_step {zs : List Int} {k m : Nat} (hk : k ≤ m) (hm : m < zs.length) : lessTo zs k (m + 1) = lessTo zs k m + if zs.getD m 0 < zs.getD k 0 then 1 else 0 := by
  unfold lessTo
  rw [show m + 1 - k = (m - k) + 1 by omega, take_snoc _ (m - k) (by simp; omega), List.countP_append, List.countP_cons]
  have : (zs.drop k).getD (m - k) 0 = zs.getD m 0 := by
    rw [List.getD_eq_getElem?_getD, List.getD_eq_getElem?_getD, List.getElem?_drop, show k + (m - k) = m by omega]
  rw [this]; simp
theorem lessTo_le (zs : List Int) (k m : Nat) : lessTo zs k m ≤ m - k := by
  unfold lessTo
  have : ((zs.drop k).take (m - k)).countP (fun y => decide (y < zs.getD k 0)) ≤ ((zs.drop k).take (m - k)).length := List.countP_le_length
  rw [List.length_take] at this; omega

set_option maxHeartbeats 2000000 in
theorem Behind_ok (a : Option Addr) (n cap : Nat) (zs : List Int) (w : World) (hs : Shows w a zs) (hn : n = zs.length) (h40 : zs.length ≤ 40) :
    Calls Try.prog 14 #[.slice a n cap] w fun e w' => ∃ v, e = .returned v ∧ Owns w' w.heap.size v (codeL zs) ∧ Below w.heap.size w w' := by
  subst hn
  go_enter Try.func14, Try.ntmps14
  go_wp2
  go_loopw [3, 4] (fun v i wr => ∃ k : Nat, k ≤ zs.length ∧ i = .int .i64 k ∧ Hid (Owns wr w.heap.size v ((codeL zs).take k)) ∧ Hid (Below w.heap.size w wr)) (fun _ i _ => zs.length - (intOf i).toNat)
  case atStart => exact ⟨0, Nat.zero_le _, rfl, World.ownsRow_nil _ _ _ _, Below.refl _ _⟩
  case round =>
    obtain ⟨k, hk, rfl, HO, HB⟩ := hrel
    by_cases hlt : k < zs.length
    · have hlt' : (k : Int) < (zs.length : Int) := by omega
      have HLT : Hid (k < zs.length) := hlt
      have HO0 : Hid (Owns wr w.heap.size u3 ((codeL zs).take k)) := HO
      have HE : Hid ((codeL zs).take (k + 1) = (codeL zs).take k ++ [((lessTo zs k zs.length : Nat) : Int)]) := by
        show _ = _
        rw [take_snoc _ k (by rw [codeL_length]; exact hlt), lessTo_end hlt]
        unfold codeL; rw [tab_getD _ _ _ hlt]
      go_wp2
      go_loopw [5, 6] (fun x i wq => ∃ (m c : Nat), k ≤ m ∧ m ≤ zs.length ∧ i = .int .i64 m ∧ x = .int .i64 c ∧ c ≤ m ∧ Hid (c = lessTo zs k m) ∧ Hid (Owns wq w.heap.size u3 ((codeL zs).take k)) ∧ Hid (Below w.heap.size w wq)) (fun _ i _ => zs.length - (intOf i).toNat)
      case atStart => exact ⟨k, 0, Nat.le_refl _, by omega, rfl, rfl, by omega, by show _ = _; simp [lessTo], HO, HB⟩
      case round =>
        obtain ⟨m, c, hkm, hm, rfl, rfl, hcm, HC, HO2, HB2⟩ := hrel
        by_cases hml : m < zs.length
        · have hml' : (m : Int) < (zs.length : Int) := by omega
          obtain ⟨b, off, y, z, rfl, HY, HZ, hy1, hy2, hz1, hz2, hcy, hcz⟩ := (hs.below HB2.out).elem2 hml HLT.out
          have hkl2 : (k : Int) < (zs.length : Int) := by omega
          have HS : Hid (lessTo zs k (m + 1) = lessTo zs k m + if y < z then 1 else 0) := by
            show _ = _; rw [lessTo_step hkm hml, HY.out, HZ.out]
          by_cases hyz : y < z
          · have hb : decide (y < z) = true := by simpa using hyz
            have HN : Hid (c + 1 = lessTo zs k (m + 1)) := by show _ = _; rw [HS.out, if_pos hyz, HC.out]
            clear hyz
            go_wp2_with fail
            go_quiet (fail)
            go_wp2
            go_roundw
            case rel => exact ⟨m + 1, c + 1, by omega, by omega, by go_num, by go_num, by omega, HN, HO2.out.below (below_drewN (Below.refl _ _) _), HB2.out.trans (below_drewN (Below.refl _ _) _)⟩
            case measure => simp [intOf]; omega
          · have hb : decide (y < z) = false := by simpa using hyz
            have HN : Hid (c = lessTo zs k (m + 1)) := by show _ = _; rw [HS.out, if_neg hyz, HC.out]; rfl
            clear hyz
            go_wp2_with fail
            go_quiet (fail)
            go_wp2
            go_roundw
            case rel => exact ⟨m + 1, c, by omega, by omega, by go_num, rfl, by omega, HN, HO2.out.below (below_drewN (Below.refl _ _) _), HB2.out.trans (below_drewN (Below.refl _ _) _)⟩
            case measure => simp [intOf]; omega
        · obtain rfl : m = zs.length := by omega
          go_wp2_with (at_builtin; refine append_int (x := (c : Int)) rfl _ _ rfl rfl HO2.out rfl ?c1 ?c2 ?_)
          case c1 => rw [List.length_take]; omega
          case c2 => exact HB2.out.size
          intro v' w2 hO' hb'
          have HO3 : Hid (Owns w2 w.heap.size v' ((codeL zs).take (k + 1))) := by show Owns _ _ _ _; rw [HE.out, ← HC.out]; exact hO'
          have HB3 : Hid (Below w.heap.size w w2) := HB2.out.trans hb'
          clear hO' hb'
          go_wp2
          go_roundw
          case rel => exact ⟨k + 1, by have := HLT.out; omega, by go_num, HO3, HB3⟩
          case measure => have := HLT.out; simp [intOf]; omega
    · obtain rfl : k = zs.length := by omega
      go_wp2
      go_ret
      refine ⟨_, rfl, ?_, HB.out⟩
      have := HO.out
      rw [List.take_of_length_le (by rw [codeL_length]; exact Nat.le_refl _)] at this
      exact this

end Go.Proofs.Ytnjbkiegeielhab
