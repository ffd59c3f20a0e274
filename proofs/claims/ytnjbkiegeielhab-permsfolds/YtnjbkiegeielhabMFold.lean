/-
  The contracts of perms.Fold and perms.Unfold.
-/
import Derived.Test.YtnjbkiegeielhabMBack
namespace Go.Proofs.Ytnjbkiegeielhab
open Go.RowKit

theorem stepF_zero (v : List Int) : stepF 0 v = v := by simp [stepF, fwd, turn]
theorem fold_end {n : Nat} {zs : List Int} (h1 : 1 ≤ n) (h2 : zs.length ≤ n) (h3 : n ≤ 1 ∨ n ≤ zs.length) : fold n zs = fold zs.length zs := by
  rcases h3 with h3 | h3
  · obtain rfl : n = 1 := by omega
    show stepF 0 zs = _
    rw [stepF_zero]
    rcases Nat.lt_or_ge 0 zs.length with h | h
    · rw [show zs.length = 1 by omega]; exact (stepF_zero zs).symm
    · rw [show zs.length = 0 by omega]; rfl
  · rw [show n = zs.length by omega]

theorem fold_wf : ∀ (n : Nat) (zs : List Int), n ≤ zs.length → ∀ z ∈ fold n zs, z ∈ zs := by
  intro n zs hn z hz
  have key : ∀ (x : Int) (u : List Int) (z : Int), z ∈ fwd x u → z ∈ u := by
    intro x u z hz
    obtain ⟨bs, _, h1, h2⟩ := fwd_blocks x u
    have : ∀ bs : List (List Int × Int), z ∈ flatF bs → z ∈ flatB bs := by
      intro bs
      induction bs with
      | nil => intro h; exact h
      | cons b bs ih =>
        intro h
        simp only [flatF, flatB, List.mem_cons, List.mem_append] at h ⊢
        rcases h with h | h | h
        · exact Or.inr (Or.inl h)
        · exact Or.inl h
        · exact Or.inr (Or.inr (ih h))
    rw [h1]; rw [h2] at hz; exact this bs hz
  induction n with
  | zero => exact hz
  | succ n ih =>
    rw [fold, stepF] at hz
    apply ih (by omega)
    rcases List.mem_append.1 hz with h | h
    · exact List.mem_of_mem_take (key _ _ _ h)
    · exact List.mem_of_mem_drop h

set_option maxHeartbeats 2000000 in
theorem Fold_ok (a : Option Addr) (cap : Nat) (zs : List Int) (w : World) (hs : Shows w a zs) (h : lchk zs = 0) :
    Calls Try.prog 34 #[.slice a zs.length cap] w fun e w' => ∃ v, e = .returned (.tuple #[v, .int .i64 0]) ∧ Owns w' w.heap.size v (fold zs.length zs) ∧ Below w.heap.size w w' := by
  have E : Hid (lchk zs = 0) := h
  have h40 := (lchk_ok.1 h).1
  clear h
  go_enter Try.func34, Try.ntmps34
  go_wp2_with fail
  refine (Letters_is _ _ _ _ _ hs rfl E).mono ?_
  rintro e w' ⟨rfl, rfl⟩
  go_wp2_with fail
  refine (copied_any _ _ _ _ hs).mono ?_
  rintro e w1 ⟨v, rfl, hown, hb1⟩
  obtain ⟨a2, c2, rfl⟩ := hown.shape
  have HO1 : Hid (Owns w1 w'.heap.size (.slice a2 zs.length c2) zs) := hown
  have HB1 : Hid (Below w'.heap.size w' w1) := hb1
  clear hown hb1
  go_wp2_with fail
  go_loopw [6] (fun i wr => ∃ n : Nat, i = .int .i64 n ∧ 1 ≤ n ∧ (n ≤ 1 ∨ n ≤ zs.length) ∧ Hid (Owns wr w'.heap.size (.slice a2 zs.length c2) (fold n zs)) ∧ Hid (Below w'.heap.size w' wr)) (fun i _ => zs.length - (intOf i).toNat)
  case atStart => exact ⟨1, rfl, by omega, by omega, by show Owns _ _ _ (stepF 0 zs); rw [stepF_zero]; exact HO1.out, HB1⟩
  case round =>
    obtain ⟨n, rfl, hn1, hn2, HO, HB⟩ := hrel
    have HN2 : Hid (n ≤ 1 ∨ n ≤ zs.length) := hn2
    clear hn2
    by_cases hlt : n < zs.length
    · have hlt' : (n : Int) < (zs.length : Int) := by omega
      have HL : Hid (zs.length = (fold n zs).length) := by show _ = _; rw [fold_length]
      obtain ⟨g, cp, hv, hgB, hglt, hfz, hcl⟩ := HO.out.head (by rw [← HL.out]; omega)
      simp only [Value.slice.injEq] at hv
      obtain ⟨rfl, hxx, rfl⟩ := hv
      clear hxx
      have hcp : zs.length ≤ c2 := by
        obtain ⟨_, _, _, _, h, _⟩ := HO.out.block HL.out
        exact h
      have hcn := hcl n (by rw [← HL.out]; exact hlt)
      obtain ⟨x, HX⟩ : ∃ x, Hid (x = (fold n zs).getD n 0) := ⟨_, rfl⟩
      rw [← HX.out] at hcn
      have b1 : n ≤ c2 := by omega
      have HO2 : Hid (Owns wr.drew w'.heap.size (.slice (some ⟨g, 0, none⟩) zs.length c2) (fold n zs)) := HO.out.below (below_drewN (Below.refl _ _) 1)
      clear hfz hcl
      go_wp2_with fail
      go_region_with (go_at_call 50; refine (lastToFront_own g n c2 zs.length w'.heap.size (fold n zs) x _ HO2.out HL hn1 (by rw [← HL.out]; omega) (by rw [← HL.out]; omega)).mono ?_; rintro e w4 ⟨rfl, HO4, HB4⟩)
      have HO5 : Hid (Owns w4 w'.heap.size (.slice (some ⟨g, 0, none⟩) zs.length c2) (fold (n + 1) zs)) := by
        show Owns _ _ _ (stepF n (fold n zs))
        unfold stepF; rw [← HX.out]; exact HO4
      have HB5 : Hid (Below w'.heap.size w' w4) := HB.out.trans ((below_drewN (Below.refl _ _) 1).trans HB4)
      clear HO4 HB4
      go_wp2_with fail
      go_roundw
      case rel => exact ⟨n + 1, by go_num, by omega, by omega, HO5, HB5⟩
      case measure => simp [intOf] <;> omega
    · go_wp2_with fail
      go_ret2
      exact ⟨_, rfl, by rw [← fold_end hn1 (by omega) HN2.out]; exact HO.out, HB.out⟩

theorem stepB_zero (v : List Int) : stepB 0 v = v := by simp [stepB, bwd, back]
theorem unfold_le {k : Nat} (h : k ≤ 1) (v : List Int) : unfold k v = v := by
  rcases Nat.lt_or_ge 0 k with h1 | h1
  · rw [show k = 1 by omega]; exact stepB_zero v
  · rw [show k = 0 by omega]; rfl

set_option maxHeartbeats 2000000 in
theorem Unfold_ok (a : Option Addr) (cap : Nat) (zs : List Int) (w : World) (hs : Shows w a zs) (h : lchk zs = 0) :
    Calls Try.prog 35 #[.slice a zs.length cap] w fun e w' => ∃ v, e = .returned (.tuple #[v, .int .i64 0]) ∧ Owns w' w.heap.size v (unfold zs.length zs) ∧ Below w.heap.size w w' := by
  have E : Hid (lchk zs = 0) := h
  have h40 := (lchk_ok.1 h).1
  clear h
  go_enter Try.func35, Try.ntmps35
  go_wp2_with fail
  refine (Letters_is _ _ _ _ _ hs rfl E).mono ?_
  rintro e w' ⟨rfl, rfl⟩
  go_wp2_with fail
  refine (copied_any _ _ _ _ hs).mono ?_
  rintro e w1 ⟨v, rfl, hown, hb1⟩
  obtain ⟨a2, c2, rfl⟩ := hown.shape
  have HO1 : Hid (Owns w1 w'.heap.size (.slice a2 zs.length c2) zs) := hown
  have HB1 : Hid (Below w'.heap.size w' w1) := hb1
  clear hown hb1
  go_wp2_with fail
  go_loopw [6] (fun i wr => ∃ (k : Nat) (iv : Int) (ys : List Int), i = .int .i64 iv ∧ Hid (iv = (k : Int) - 1) ∧ k ≤ zs.length ∧ Hid (ys.length = zs.length) ∧ Hid (unfold k ys = unfold zs.length zs) ∧ Hid (Owns wr w'.heap.size (.slice a2 zs.length c2) ys) ∧ Hid (Below w'.heap.size w' wr)) (fun i _ => (intOf i).toNat)
  case atStart => exact ⟨zs.length, (zs.length : Int) - 1, zs, by go_num, rfl, Nat.le_refl _, rfl, rfl, HO1, HB1⟩
  case round =>
    obtain ⟨k, iv, ys, rfl, HI, hk, HY, HU, HO, HB⟩ := hrel
    by_cases hlt : 1 < k
    · obtain ⟨n, rfl⟩ : ∃ n, k = n + 1 := ⟨k - 1, by omega⟩
      obtain rfl : iv = (n : Int) := by have := HI.out; omega
      have hn1 : 0 < n := by omega
      have hn1' : (0 : Int) < (n : Int) := by omega
      have hlt' : (n : Int) < (zs.length : Int) := by omega
      have HL : Hid (zs.length = ys.length) := HY.out.symm
      obtain ⟨g, cp, hv, hgB, hglt, hfz, hcl⟩ := HO.out.head (by rw [← HL.out]; omega)
      simp only [Value.slice.injEq] at hv
      obtain ⟨rfl, hxx, rfl⟩ := hv
      clear hxx
      have hcp : zs.length ≤ c2 := by
        obtain ⟨_, _, _, _, h, _⟩ := HO.out.block HL.out
        exact h
      have hcn := hcl n (by rw [← HL.out]; omega)
      obtain ⟨x, HX⟩ : ∃ x, Hid (x = ys.getD n 0) := ⟨_, rfl⟩
      rw [← HX.out] at hcn
      have b1 : n ≤ c2 := by omega
      have HO2 : Hid (Owns wr.drew w'.heap.size (.slice (some ⟨g, 0, none⟩) zs.length c2) ys) := HO.out.below (below_drewN (Below.refl _ _) 1)
      clear hfz hcl
      go_wp2_with fail
      go_region_with (go_at_call 51; refine (firstToBack_own g n c2 zs.length w'.heap.size ys x _ HO2.out HL hn1 (by rw [← HL.out]; omega) (by rw [← HL.out]; omega)).mono ?_; rintro e w4 ⟨rfl, HO4, HB4⟩)
      have HO5 : Hid (Owns w4 w'.heap.size (.slice (some ⟨g, 0, none⟩) zs.length c2) (stepB n ys)) := by
        show Owns _ _ _ _
        unfold stepB; rw [← HX.out]; exact HO4
      have HB5 : Hid (Below w'.heap.size w' w4) := HB.out.trans ((below_drewN (Below.refl _ _) 1).trans HB4)
      clear HO4 HB4
      go_wp2_with fail
      go_roundw
      case rel => exact ⟨n, (n : Int) - 1, stepB n ys, by go_num, rfl, by omega, by show _ = _; rw [stepB_length]; exact HY.out, HU, HO5, HB5⟩
      case measure => simp [intOf] <;> omega
    · have hle : ¬ (0 : Int) < iv := by have := HI.out; omega
      have hgt : decide (iv > 0) = false := by simpa using hle
      go_wp2_with fail
      go_ret2
      exact ⟨_, rfl, by rw [← HU.out, unfold_le (by omega)]; exact HO.out, HB.out⟩

theorem Fold_err (a : Option Addr) (cap : Nat) (zs : List Int) (w : World) (hs : Shows w a zs) (c : Int) (h : lchk zs = c) (hc : (c != 0) = true) :
    Calls Try.prog 34 #[.slice a zs.length cap] w fun e w' => e = .returned (.tuple #[.slice none 0 0, .int .i64 c]) ∧ w' = w := by
  have E : Hid (lchk zs = c) := h
  clear h
  go_enter Try.func34, Try.ntmps34
  go_wp2_with fail
  refine (Letters_is _ _ _ _ _ hs rfl E).mono ?_
  rintro e w' ⟨rfl, rfl⟩
  go_wp2_with fail
  go_ret2
  exact ⟨rfl, rfl⟩
theorem Unfold_err (a : Option Addr) (cap : Nat) (zs : List Int) (w : World) (hs : Shows w a zs) (c : Int) (h : lchk zs = c) (hc : (c != 0) = true) :
    Calls Try.prog 35 #[.slice a zs.length cap] w fun e w' => e = .returned (.tuple #[.slice none 0 0, .int .i64 c]) ∧ w' = w := by
  have E : Hid (lchk zs = c) := h
  clear h
  go_enter Try.func35, Try.ntmps35
  go_wp2_with fail
  refine (Letters_is _ _ _ _ _ hs rfl E).mono ?_
  rintro e w' ⟨rfl, rfl⟩
  go_wp2_with fail
  go_ret2
  exact ⟨rfl, rfl⟩

/-- What Fold and Unfold answer. -/
def FoldR (zs : List Int) (c : Int) (q : List Int) : Prop := lchk zs = c ∧ q = if c = 0 then fold zs.length zs else []
def UnfoldR (zs : List Int) (c : Int) (q : List Int) : Prop := lchk zs = c ∧ q = if c = 0 then unfold zs.length zs else []

theorem Fold_at {zs q : List Int} {c : Int} (a : Option Addr) (n cap : Nat) (w : World) (hs : Shows w a zs) (hn : n = zs.length) (hr : FoldR zs c q) :
    Calls Try.prog 34 #[.slice a n cap] w fun e w' => ∃ v, e = .returned (.tuple #[v, .int .i64 c]) ∧ Owns w' w.heap.size v q ∧ Below w.heap.size w w' := by
  subst hn
  obtain ⟨h, rfl⟩ := hr
  by_cases hc : c = 0
  · subst hc; exact Fold_ok a cap zs w hs h
  · rw [if_neg hc]
    exact (Fold_err a cap zs w hs c h (bne_iff_ne.2 hc)).mono fun e w' ⟨he, hw⟩ => ⟨_, he, World.ownsRow_nil _ _ _ _, hw ▸ Below.refl _ _⟩
theorem Unfold_at {zs q : List Int} {c : Int} (a : Option Addr) (n cap : Nat) (w : World) (hs : Shows w a zs) (hn : n = zs.length) (hr : UnfoldR zs c q) :
    Calls Try.prog 35 #[.slice a n cap] w fun e w' => ∃ v, e = .returned (.tuple #[v, .int .i64 c]) ∧ Owns w' w.heap.size v q ∧ Below w.heap.size w w' := by
  subst hn
  obtain ⟨h, rfl⟩ := hr
  by_cases hc : c = 0
  · subst hc; exact Unfold_ok a cap zs w hs h
  · rw [if_neg hc]
    exact (Unfold_err a cap zs w hs c h (bne_iff_ne.2 hc)).mono fun e w' ⟨he, hw⟩ => ⟨_, he, World.ownsRow_nil _ _ _ _, hw ▸ Below.refl _ _⟩

end Go.Proofs.Ytnjbkiegeielhab
