/-
  The contract of parts.Frobenius.
-/
import Derived.Test.YtnjbkiegeielhaaDom
import Derived.Test.YtnjbkiegeielhaaAppB
namespace Go.Proofs.Ytnjbkiegeielhaa
open Go.RowKit

/-- How many of the first numbers are above their places, from place i on. -/
def durL : Nat → List Int → Nat
  | _, [] => 0
  | i, z :: l => if (i : Int) < z then durL (i + 1) l + 1 else 0
def durf (zs : List Int) : Nat := durL 0 zs
theorem durL_drop (zs : List Int) : ∀ k, k ≤ zs.length → (∀ i, i < k → (i : Int) < zs.getD i 0) → durL 0 zs = k + durL k (zs.drop k) := by
  intro k
  induction k with
  | zero => intro _ _; simp
  | succ k ih =>
    intro hk h
    rw [ih (by omega) (fun i hi => h i (by omega))]
    have e : zs.drop k = zs.getD k 0 :: zs.drop (k + 1) := by
      rw [List.drop_eq_getElem_cons (show k < zs.length by omega)]; simp [List.getD, List.getElem?_eq_getElem (show k < zs.length by omega)]
    rw [e, durL, if_pos (h k (by omega))]; omega
theorem durf_of (zs : List Int) (k : Nat) (hk : k ≤ zs.length) (h : ∀ i, i < k → (i : Int) < zs.getD i 0) (hend : k < zs.length → ¬ (k : Int) < zs.getD k 0) : durf zs = k := by
  unfold durf
  rw [durL_drop zs k hk h]
  by_cases hlt : k < zs.length
  · have e : zs.drop k = zs.getD k 0 :: zs.drop (k + 1) := by
      rw [List.drop_eq_getElem_cons hlt]; simp [List.getD, List.getElem?_eq_getElem hlt]
    rw [e, durL, if_neg (hend hlt)]; simp
  · rw [List.drop_of_length_le (by omega)]; rfl
theorem durL_le : ∀ (l : List Int) (i : Nat), durL i l ≤ l.length := by
  intro l
  induction l with
  | nil => intro i; simp [durL]
  | cons z l ih => intro i; rw [durL]; have := ih (i + 1); split <;> simp; omega
theorem durf_le (zs : List Int) : durf zs ≤ zs.length := durL_le _ _
theorem durL_at : ∀ (l : List Int) (i j : Nat), j < durL i l → ((i + j : Nat) : Int) < l.getD j 0 := by
  intro l
  induction l with
  | nil => intro i j h; simp [durL] at h
  | cons z l ih =>
    intro i j h
    rw [durL] at h
    split at h
    · cases j with
      | zero => simpa using by assumption
      | succ j => have := ih (i + 1) j (by omega); simp only [List.getD_cons_succ]; rw [show i + (j + 1) = i + 1 + j by omega]; exact this
    · omega
theorem durf_at (zs : List Int) {j : Nat} (h : j < durf zs) : (j : Int) < zs.getD j 0 := by have := durL_at zs 0 j h; simpa using this

def arms (zs : List Int) : List Int := tab (durf zs) fun i => zs.getD i 0 - i - 1
def legs (zs : List Int) : List Int := tab (durf zs) fun i => colv zs i - i - 1
/-- What Frobenius answers. -/
def FrobR (zs : List Int) (c : Int) (x y : List Int) : Prop := (chk zs = c ∧ c ≠ 0 ∧ x = [] ∧ y = []) ∨ (IsPart zs ∧ c = 0 ∧ x = arms zs ∧ y = legs zs)

set_option maxHeartbeats 1000000 in
theorem Frobenius_err (a : Option Addr) (cap : Nat) (zs : List Int) (w : World) (hs : Shows w a zs) (c : Int) (E : Hid (chk zs = c)) (hc : (c != 0) = true) :
    Calls Try.prog 10 #[.slice a zs.length cap] w fun e w' => e = .returned (.tuple #[.slice none 0 0, .slice none 0 0, .int .i64 c]) ∧ w' = w := by
  go_enter Try.func10, Try.ntmps10
  go_wp2_with (go_at_call 13; refine (Check_is _ _ _ _ hs E).mono ?_; rintro e w' ⟨rfl, rfl⟩)
  go_ret3
  exact ⟨rfl, rfl⟩

theorem conj_getD {zs : List Int} {i : Nat} (hi : (i : Int) < zs.getD 0 0) : (conj zs).getD i 0 = colv zs i := by
  unfold conj; exact tab_getD _ _ _ (by omega)

set_option maxHeartbeats 4000000 in
theorem Frobenius_ok (a : Option Addr) (cap : Nat) (zs : List Int) (w : World) (hs : Shows w a zs) (E : Hid (chk zs = 0)) (hp : IsPart zs) :
    Calls Try.prog 10 #[.slice a zs.length cap] w fun e w' => ∃ v u, e = .returned (.tuple #[v, u, .int .i64 0]) ∧ Owns w' w.heap.size v (arms zs) ∧ Owns w' w.heap.size u (legs zs) ∧ Below w.heap.size w w' := by
  have hl := hp.len
  go_enter Try.func10, Try.ntmps10
  go_wp2_with fail
  refine (Check_is _ _ _ _ hs E).mono ?_
  rintro e w' ⟨rfl, rfl⟩
  go_wp2_with fail
  refine (columns_any _ _ _ _ hs hp).mono ?_
  rintro e w1 ⟨vh, rfl, hown, hb⟩
  obtain ⟨ah, nh, ch, hvh⟩ : ∃ ah nh ch, vh = .slice ah nh ch := by obtain ⟨x, y, h⟩ := hown.shape; exact ⟨x, _, y, h⟩
  subst hvh
  have HB1 : Hid (Below w'.heap.size w' w1) := hb
  have HH : Hid (Owns w1 w'.heap.size (.slice ah nh ch) (conj zs)) := hown
  clear hown hb
  go_wp2_with fail
  go_loopw [2, 3, 6] (fun v u i wr => ∃ k : Nat, k ≤ zs.length ∧ i = .int .i64 k ∧ Hid (∀ j, j < k → (j : Int) < zs.getD j 0) ∧ Hid (Owns wr w1.heap.size v (tab k fun i => zs.getD i 0 - i - 1)) ∧ Hid (Owns wr w1.heap.size u (tab k fun i => colv zs i - i - 1)) ∧ Hid (Apart v u) ∧ Hid (Below w1.heap.size w1 wr)) (fun _ _ i _ => zs.length - (intOf i).toNat)
  case atStart => exact ⟨0, Nat.zero_le _, rfl, fun j hj => by omega, World.ownsRow_nil _ _ _ _, World.ownsRow_nil _ _ _ _, apart_nil _, Below.refl _ _⟩
  case round =>
    obtain ⟨k, hk, rfl, HR, HV, HU, HAp, HB⟩ := hrel
    by_cases hlt : k < zs.length
    · obtain ⟨b, off, z, rfl, HZ, -, -, hc⟩ := ((hs.below HB1.out).below HB.out).elem hlt
      have hz : 1 ≤ z ∧ z ≤ 40 := by rw [HZ.out]; exact hp.range _ (getD_mem hlt)
      obtain ⟨hz1, hz2⟩ := hz
      have hk' : (k : Int) < (zs.length : Int) := by omega
      by_cases hkz : (k : Int) < z
      · have hk0 : (k : Int) < zs.getD 0 0 := by have := hp.first hlt; rw [← HZ.out] at this; omega
        have hcl : k < (conj zs).length := by unfold conj; rw [tab_length]; omega
        obtain ⟨gh, ch', hvh, -, hglt, -, hcell⟩ := HH.out.head (by omega)
        simp only [Value.slice.injEq] at hvh
        obtain ⟨rfl, rfl, rfl⟩ := hvh
        have hch := hcell k hcl
        rw [conj_getD hk0] at hch
        obtain ⟨y, HY⟩ : ∃ y, Hid (y = colv zs k) := ⟨_, rfl⟩
        rw [← HY.out] at hch
        have hch2 : wr.cell? ⟨gh, k, none⟩ = some (.int .i64 y) := (HB.out.cell (p := ⟨gh, k, none⟩) hglt).trans hch
        have hy : 0 ≤ y ∧ y ≤ 40 := by rw [HY.out]; have := colv_le zs k; have := colv_nonneg zs k; omega
        obtain ⟨hy1, hy2⟩ := hy
        have hcl' : (k : Int) < ((conj zs).length : Int) := by omega
        clear hcell hch
        have hsz := HB.out.size
        go_wp2_with (at_builtin; refine append_int_own (x := z - k - 1) rfl _ _ rfl rfl HV.out rfl ?c1 ?c2 ?_)
        case c1 => rw [tab_length]; omega
        case c2 => exact hsz
        intro v' w2 hown2 hb2 hkp2
        obtain ⟨hu2, hap2⟩ := hkp2 _ _ HU.out HAp.out
        have HV2 : Hid (Owns w2 w1.heap.size v' (tab (k + 1) fun i => zs.getD i 0 - i - 1)) := by
          show Owns _ _ _ _
          rw [tab_succ, ← HZ.out]; exact hown2
        have HU2 : Hid _ := hu2
        have HAp2 : Hid _ := hap2
        have HB2 : Hid (Below w1.heap.size w1 w2) := HB.out.trans hb2
        have hch3 : w2.cell? ⟨gh, k, none⟩ = some (.int .i64 y) := (hb2.cell (p := ⟨gh, k, none⟩) hglt).trans hch2
        have hsz2 := HB2.out.size
        clear hown2 hb2 hkp2 hu2 hap2 hch2
        go_wp2_with (at_builtin; refine append_int_own (x := y - k - 1) rfl _ _ rfl rfl HU2.out rfl ?d1 ?d2 ?_)
        case d1 => rw [tab_length]; omega
        case d2 => exact hsz2
        intro u' w3 hown3 hb3 hkp3
        obtain ⟨hv3, hap3⟩ := hkp3 _ _ HV2.out (Apart.symm HAp2.out)
        have HU3 : Hid (Owns w3 w1.heap.size u' (tab (k + 1) fun i => colv zs i - i - 1)) := by
          show Owns _ _ _ _
          rw [tab_succ, ← HY.out]; exact hown3
        have HV3 : Hid _ := hv3
        have HAp3 : Hid _ := hap3
        have HB3 : Hid (Below w1.heap.size w1 w3) := HB2.out.trans hb3
        clear hown3 hb3 hkp3 hv3 hap3 hch3
        go_wp2
        go_roundw
        case rel => exact ⟨k + 1, by omega, by go_num, fun j hj => by
                      by_cases hj' : j < k
                      · exact HR.out j hj'
                      · obtain rfl : j = k := by omega
                        rw [← HZ.out]; exact hkz, HV3, HU3, Apart.symm HAp3.out, HB3⟩
        case measure => simp [intOf]; omega
      · have hd : decide ((k : Int) < z) = false := by simp; omega
        go_wp2
        go_ret3
        have hdf := durf_of zs k hk HR.out (fun _ => by rw [← HZ.out]; omega)
        refine ⟨_, _, rfl, ?_, ?_, HB1.out.trans (HB.out.mono HB1.out.size)⟩
        · unfold arms; rw [hdf]; exact HV.out.mono HB1.out.size
        · unfold legs; rw [hdf]; exact HU.out.mono HB1.out.size
    · have hd : decide ((k : Int) < (zs.length : Int)) = false := by simp; omega
      go_wp2
      go_ret3
      have hdf := durf_of zs k hk HR.out (fun h => by omega)
      refine ⟨_, _, rfl, ?_, ?_, HB1.out.trans (HB.out.mono HB1.out.size)⟩
      · unfold arms; rw [hdf]; exact HV.out.mono HB1.out.size
      · unfold legs; rw [hdf]; exact HU.out.mono HB1.out.size

theorem Frobenius_at {zs x y : List Int} {c : Int} (a : Option Addr) (n cap : Nat) (w : World) (hs : Shows w a zs) (hn : n = zs.length) (hr : FrobR zs c x y) :
    Calls Try.prog 10 #[.slice a n cap] w fun e w' => ∃ v u, e = .returned (.tuple #[v, u, .int .i64 c]) ∧ Owns w' w.heap.size v x ∧ Owns w' w.heap.size u y ∧ Below w.heap.size w w' := by
  subst hn
  rcases hr with ⟨h, hc, hx, hy⟩ | ⟨h, hc, hx, hy⟩
  · rw [hx, hy]; exact (Frobenius_err a cap zs w hs c h (bne_iff_ne.2 hc)).mono fun e w' ⟨he, hw⟩ => ⟨_, _, he, World.ownsRow_nil _ _ _ _, World.ownsRow_nil _ _ _ _, hw ▸ Below.refl _ _⟩
  · rw [hc, hx, hy]; exact Frobenius_ok a cap zs w hs (chk_ok.2 h) h

#print axioms Frobenius_at
end Go.Proofs.Ytnjbkiegeielhaa
