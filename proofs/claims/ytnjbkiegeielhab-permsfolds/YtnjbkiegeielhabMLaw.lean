/-
  The walk of the law PermsMacmahon: for every slice that can be read it returns true; nothing old has turned.
-/
import Derived.Test.YtnjbkiegeielhabMFold
import Derived.Test.YtnjbkiegeielhabMWrong
namespace Go.Proofs.Ytnjbkiegeielhab
open Go.RowKit

theorem fold21 : FoldR [2, 1] 0 [2, 1] := by constructor <;> decide

theorem fold_ok {zs : List Int} (h : lchk zs = 0) : lchk (fold zs.length zs) = 0 := by
  have h1 := lchk_ok.1 h
  refine lchk_ok.2 ⟨by rw [fold_length]; exact h1.1, fun z hz => h1.2 z (fold_wf _ _ (Nat.le_refl _) z hz)⟩
theorem bwd_mem (x : Int) (u : List Int) (z : Int) (h : z ∈ bwd x u) : z ∈ u := by
  have key : ∀ (P : Int → Bool) (ps blk d : List Int), z ∈ back P ps blk d → z ∈ ps ∨ z ∈ blk ∨ z ∈ d := by
    intro P ps
    induction ps with
    | nil => intro blk d h; simp only [back, List.mem_append] at h; exact Or.inr h
    | cons y ps ih =>
      intro blk d h
      rw [back] at h
      split at h
      · rcases ih _ _ h with h | h | h
        · exact Or.inl (by simp [h])
        · simp at h
        · simp only [List.mem_append, List.mem_cons] at h
          rcases h with h | h | h
          · exact Or.inr (Or.inl h)
          · exact Or.inl (by simp [h])
          · exact Or.inr (Or.inr h)
      · rcases ih _ _ h with h | h | h
        · exact Or.inl (by simp [h])
        · rcases List.mem_cons.1 h with h | h
          · exact Or.inl (by simp [h])
          · exact Or.inr (Or.inl h)
        · exact Or.inr (Or.inr h)
  rcases key _ _ _ _ h with h | h | h
  · simpa using h
  · simp at h
  · simp at h
theorem unfold_wf : ∀ (n : Nat) (zs : List Int), ∀ z ∈ unfold n zs, z ∈ zs := by
  intro n
  induction n with
  | zero => intro zs z h; exact h
  | succ n ih =>
    intro zs z h
    have := ih _ z h
    rw [stepB] at this
    rcases List.mem_append.1 this with h | h
    · exact List.mem_of_mem_take (bwd_mem _ _ _ h)
    · exact List.mem_of_mem_drop h
theorem unfold_ok {zs : List Int} (h : lchk zs = 0) : lchk (unfold zs.length zs) = 0 := by
  have h1 := lchk_ok.1 h
  refine lchk_ok.2 ⟨by rw [unfold_length]; exact h1.1, fun z hz => h1.2 z (unfold_wf _ _ z hz)⟩

set_option maxHeartbeats 2000000 in
theorem mac_err (a : Option Addr) (cap : Nat) (zs : List Int) (w : World) (hs : Shows w a zs) (c : Int) (hc : (c != 0) = true) (hr : Hid (FoldR zs c [])) (hu : Hid (UnfoldR zs c [])) :
    Calls Try.prog 7 #[.slice a zs.length cap] w fun e w' => e = .returned (.bool true) ∧ Below w.heap.size w w' := by
  go_enter Try.func7, Try.ntmps7
  go_wp2_with fail
  refine (Fold_at _ _ _ _ (shows_lit w [2, 1] _ rfl (by decide) (by decide)) rfl fold21).mono ?_
  rintro e w1 ⟨v, rfl, hown, hb⟩
  have hbx : Below w.heap.size w w1 := ((Below.refl _ _).alloc (Nat.le_refl _) _).trans (hb.mono (by simp))
  have HB1 : Hid (Below w.heap.size w w1) := hbx
  replace hs := hs.below hbx
  obtain ⟨a1, n1, c1, rfl, S1, hn1, hc1⟩ := hown.opened (by decide) (by decide)
  have HN1 : Hid (n1 = [(2 : Int), 1].length) := hn1
  have HC1 : Hid (n1 ≤ c1) := hc1
  clear hown hn1 hc1
  clear hb hbx
  go_wp2_with fail
  refine (Same_at _ _ _ _ _ _ [2, 1] [2, 1] _ (S1.below ((Below.refl _ _).alloc (Nat.le_refl _) _)) (shows_lit w1 [2, 1] _ rfl (by decide) (by decide)) HN1.out rfl true (by decide)).mono ?_
  rintro e w2 ⟨rfl, hd⟩
  have hb : Below w1.heap.size w1 w2 := by
    obtain ⟨n, rfl⟩ := hd
    exact below_drewN ((Below.refl _ _).alloc (Nat.le_refl _) _) n
  have HB2 : Hid (Below w.heap.size w w2) := HB1.out.trans (hb.mono HB1.out.size)
  replace hs := hs.below hb
  replace S1 := S1.below hb
  clear hb hd
  clear S1
  go_wp2_with fail
  refine (Fold_at _ _ _ _ hs rfl hr.out).mono ?_
  rintro e w3 ⟨v, rfl, hown, hb⟩
  have HB3 : Hid (Below w.heap.size w w3) := HB2.out.trans (hb.mono HB2.out.size)
  replace hs := hs.below hb
  obtain ⟨a3, n3, c3, rfl, S3, hn3, hc3⟩ := hown.opened (by decide) (by decide)
  have HN3 : Hid (n3 = [].length) := hn3
  have HC3 : Hid (n3 ≤ c3) := hc3
  clear hown hn3 hc3
  clear hb
  have hz3 := HN3.out
  simp only [List.length_nil] at hz3
  subst hz3
  go_wp2_with fail
  refine (Unfold_at _ _ _ _ hs rfl hu.out).mono ?_
  rintro e w4 ⟨v, rfl, hown, hb⟩
  have HB4 : Hid (Below w.heap.size w w4) := HB3.out.trans (hb.mono HB3.out.size)
  replace hs := hs.below hb
  obtain ⟨a4, n4, c4, rfl, S4, hn4, hc4⟩ := hown.opened (by decide) (by decide)
  have HN4 : Hid (n4 = [].length) := hn4
  have HC4 : Hid (n4 ≤ c4) := hc4
  clear hown hn4 hc4
  clear hb
  have hz4 := HN4.out
  simp only [List.length_nil] at hz4
  subst hz4
  go_wp2
  go_ret
  exact ⟨rfl, HB4.out⟩

set_option maxHeartbeats 2000000 in
theorem mac_ok (a : Option Addr) (cap : Nat) (zs vs us ds : List Int) (t : Nat) (w : World) (hs : Shows w a zs) (h40 : zs.length ≤ 40) (hv40 : vs.length ≤ 40) (hu40 : us.length ≤ 40) (hd40 : ds.length ≤ 40) (hzw : Hid (∀ z ∈ zs, 0 ≤ z ∧ z ≤ 1000)) (hvw : Hid (∀ z ∈ vs, 0 ≤ z ∧ z ≤ 1000)) (huw : Hid (∀ z ∈ us, 0 ≤ z ∧ z ≤ 1000)) (hdw : Hid (∀ z ∈ ds, 0 ≤ z ∧ z ≤ 1000))
    (hr : Hid (FoldR zs 0 vs)) (hu : Hid (UnfoldR zs 0 us)) (hr2 : Hid (FoldR us 0 zs)) (hu2 : Hid (UnfoldR vs 0 zs)) (hf : Hid (major zs.length zs = t)) (hd : Hid (desc zs.length zs = ds)) (hw : Hid (wrongs vs = t)) :
    Calls Try.prog 7 #[.slice a zs.length cap] w fun e w' => e = .returned (.bool true) ∧ Below w.heap.size w w' := by
  go_enter Try.func7, Try.ntmps7
  go_wp2_with fail
  refine (Fold_at _ _ _ _ (shows_lit w [2, 1] _ rfl (by decide) (by decide)) rfl fold21).mono ?_
  rintro e w1 ⟨v, rfl, hown, hb⟩
  have hbx : Below w.heap.size w w1 := ((Below.refl _ _).alloc (Nat.le_refl _) _).trans (hb.mono (by simp))
  have HB1 : Hid (Below w.heap.size w w1) := hbx
  replace hs := hs.below hbx
  obtain ⟨a1, n1, c1, rfl, S1, hn1, hc1⟩ := hown.opened (by decide) (by decide)
  have HN1 : Hid (n1 = [(2 : Int), 1].length) := hn1
  have HC1 : Hid (n1 ≤ c1) := hc1
  clear hown hn1 hc1
  clear hb hbx
  go_wp2_with fail
  refine (Same_at _ _ _ _ _ _ [2, 1] [2, 1] _ (S1.below ((Below.refl _ _).alloc (Nat.le_refl _) _)) (shows_lit w1 [2, 1] _ rfl (by decide) (by decide)) HN1.out rfl true (by decide)).mono ?_
  rintro e w2 ⟨rfl, hd⟩
  have hb : Below w1.heap.size w1 w2 := by
    obtain ⟨n, rfl⟩ := hd
    exact below_drewN ((Below.refl _ _).alloc (Nat.le_refl _) _) n
  have HB2 : Hid (Below w.heap.size w w2) := HB1.out.trans (hb.mono HB1.out.size)
  replace hs := hs.below hb
  replace S1 := S1.below hb
  clear hb hd
  clear S1
  go_wp2_with fail
  refine (Fold_at _ _ _ _ hs rfl hr.out).mono ?_
  rintro e w3 ⟨v, rfl, hown, hb⟩
  have HB3 : Hid (Below w.heap.size w w3) := HB2.out.trans (hb.mono HB2.out.size)
  replace hs := hs.below hb
  obtain ⟨a3, n3, c3, rfl, S3, hn3, hc3⟩ := hown.opened (by omega) (small_wf hvw.out)
  have HN3 : Hid (n3 = vs.length) := hn3
  have HC3 : Hid (n3 ≤ c3) := hc3
  clear hown hn3 hc3
  clear hb
  go_wp2_with fail
  refine (Unfold_at _ _ _ _ hs rfl hu.out).mono ?_
  rintro e w4 ⟨v, rfl, hown, hb⟩
  have HB4 : Hid (Below w.heap.size w w4) := HB3.out.trans (hb.mono HB3.out.size)
  replace hs := hs.below hb
  replace S3 := S3.below hb
  obtain ⟨a4, n4, c4, rfl, S4, hn4, hc4⟩ := hown.opened (by omega) (small_wf huw.out)
  have HN4 : Hid (n4 = us.length) := hn4
  have HC4 : Hid (n4 ≤ c4) := hc4
  clear hown hn4 hc4
  clear hb
  go_wp2_with fail
  refine (Unfold_at _ _ _ _ S3 HN3.out hu2.out).mono ?_
  rintro e w5 ⟨v, rfl, hown, hb⟩
  have HB5 : Hid (Below w.heap.size w w5) := HB4.out.trans (hb.mono HB4.out.size)
  replace hs := hs.below hb
  replace S3 := S3.below hb
  replace S4 := S4.below hb
  obtain ⟨a5, n5, c5, rfl, S5, hn5, hc5⟩ := hown.opened (by omega) (small_wf hzw.out)
  have HN5 : Hid (n5 = zs.length) := hn5
  have HC5 : Hid (n5 ≤ c5) := hc5
  clear hown hn5 hc5
  clear hb
  go_wp2_with fail
  refine (Fold_at _ _ _ _ S4 HN4.out hr2.out).mono ?_
  rintro e w6 ⟨v, rfl, hown, hb⟩
  have HB6 : Hid (Below w.heap.size w w6) := HB5.out.trans (hb.mono HB5.out.size)
  replace hs := hs.below hb
  replace S3 := S3.below hb
  replace S4 := S4.below hb
  replace S5 := S5.below hb
  obtain ⟨a6, n6, c6, rfl, S6, hn6, hc6⟩ := hown.opened (by omega) (small_wf hzw.out)
  have HN6 : Hid (n6 = zs.length) := hn6
  have HC6 : Hid (n6 ≤ c6) := hc6
  clear hown hn6 hc6
  clear hb
  go_wp2_with fail
  refine (Falls_at _ _ _ _ _ hs rfl h40 t ds hf.out hd.out).mono ?_
  rintro e w7 ⟨v, rfl, hown, hb⟩
  have HB7 : Hid (Below w.heap.size w w7) := HB6.out.trans (hb.mono HB6.out.size)
  replace hs := hs.below hb
  replace S3 := S3.below hb
  replace S4 := S4.below hb
  replace S5 := S5.below hb
  replace S6 := S6.below hb
  obtain ⟨a7, n7, c7, rfl, S7, hn7, hc7⟩ := hown.opened (by omega) (small_wf hdw.out)
  have HN7 : Hid (n7 = ds.length) := hn7
  have HC7 : Hid (n7 ≤ c7) := hc7
  clear hown hn7 hc7
  clear hb
  go_wp2_with fail
  refine (Same_at _ _ _ _ _ _ zs zs _ S5 hs HN5.out rfl true (by simp)).mono ?_
  rintro e w8 ⟨rfl, hd⟩
  have hb : Below w7.heap.size w7 w8 := by
    obtain ⟨n, rfl⟩ := hd
    exact below_drewN (Below.refl _ _) n
  have HB8 : Hid (Below w.heap.size w w8) := HB7.out.trans (hb.mono HB7.out.size)
  replace hs := hs.below hb
  replace S3 := S3.below hb
  replace S4 := S4.below hb
  replace S5 := S5.below hb
  replace S6 := S6.below hb
  replace S7 := S7.below hb
  clear hb hd
  go_wp2_with fail
  refine (Same_at _ _ _ _ _ _ zs zs _ S6 hs HN6.out rfl true (by simp)).mono ?_
  rintro e w9 ⟨rfl, hd⟩
  have hb : Below w8.heap.size w8 w9 := by
    obtain ⟨n, rfl⟩ := hd
    exact below_drewN (Below.refl _ _) n
  have HB9 : Hid (Below w.heap.size w w9) := HB8.out.trans (hb.mono HB8.out.size)
  replace hs := hs.below hb
  replace S3 := S3.below hb
  replace S4 := S4.below hb
  replace S5 := S5.below hb
  replace S6 := S6.below hb
  replace S7 := S7.below hb
  clear hb hd
  go_wp2_with fail
  refine (Wrong_at _ _ _ vs _ S3 HN3.out hv40 t hw.out).mono ?_
  rintro e w10 ⟨rfl, hd⟩
  have hb : Below w9.heap.size w9 w10 := by
    obtain ⟨n, rfl⟩ := hd
    exact below_drewN (Below.refl _ _) n
  have HB10 : Hid (Below w.heap.size w w10) := HB9.out.trans (hb.mono HB9.out.size)
  replace hs := hs.below hb
  replace S3 := S3.below hb
  replace S4 := S4.below hb
  replace S5 := S5.below hb
  replace S6 := S6.below hb
  replace S7 := S7.below hb
  clear hb hd
  go_wp2_with fail
  go_ret
  exact ⟨rfl, HB10.out⟩

/-- MACMAHON'S, of every slice that can be read. -/
theorem mac_any (a : Option Addr) (cap : Nat) (zs : List Int) (w : World) (hs : Shows w a zs) :
    Calls Try.prog 7 #[.slice a zs.length cap] w fun e w' => e = .returned (.bool true) ∧ Below w.heap.size w w' := by
  by_cases hc : lchk zs = 0
  · have h := lchk_ok.1 hc
    have hv := lchk_ok.1 (fold_ok hc)
    have hu := lchk_ok.1 (unfold_ok hc)
    have hsm : ∀ {l : List Int}, (∀ z ∈ l, 1 ≤ z ∧ z ≤ 99) → ∀ z ∈ l, 0 ≤ z ∧ z ≤ 1000 := fun h z hz => by have := h z hz; omega
    refine mac_ok a cap zs (fold zs.length zs) (unfold zs.length zs) (desc zs.length zs) (major zs.length zs) w hs h.1 hv.1 hu.1 (by have := desc_len zs.length zs; omega) (hsm h.2) (hsm hv.2) (hsm hu.2)
      (fun z hz => by have := desc_small zs.length zs z hz; omega) ⟨hc, by simp⟩ ⟨hc, by simp⟩ ⟨unfold_ok hc, ?_⟩ ⟨fold_ok hc, ?_⟩ rfl rfl ?_
    · rw [if_pos rfl, unfold_length, fold_unfold _ _ (Nat.le_refl _)]
    · rw [if_pos rfl, fold_length, unfold_fold _ _ (Nat.le_refl _)]
    · have := macmahon zs.length zs (Nat.le_refl _)
      rw [List.take_of_length_le (by rw [fold_length]; exact Nat.le_refl _)] at this
      exact this
  · exact mac_err a cap zs w hs _ (bne_iff_ne.2 hc) ⟨rfl, by rw [if_neg hc]⟩ ⟨rfl, by rw [if_neg hc]⟩

#print axioms mac_any
end Go.Proofs.Ytnjbkiegeielhab
