/-
  The contract of perms.Unrounds.
-/
import Derived.Test.YtnjbkiegeielhabRRnd
namespace Go.Proofs.Ytnjbkiegeielhab
open Go.RowKit

/-- The greatest of the first k numbers. -/
def gmax (zs : List Int) : Nat → Int
  | 0 => 0
  | k + 1 => max (gmax zs k) (zs.getD k 0)
/-- What comes behind the number at k. -/
def img (zs : List Int) (k : Nat) : Int := if k + 1 < zs.length ∧ zs.getD (k + 1) 0 < gmax zs (k + 1) then zs.getD (k + 1) 0 else gmax zs (k + 1)
def unrTo (zs : List Int) : Nat → Nat → Int
  | 0 => fun _ => 0
  | k + 1 => upd (unrTo zs k) ((zs.getD k 0).toNat - 1) (img zs k)
def unrL (zs : List Int) : List Int := tab zs.length (unrTo zs zs.length)

theorem updr_same (f : Nat → Int) (j : Nat) (x : Int) : upd f j x j = x := by simp [upd]
theorem updr_ne (f : Nat → Int) {i j : Nat} (x : Int) (h : i ≠ j) : upd f j x i = f i := by simp [upd, h]

theorem unrTo_at {zs : List Int} (hp : IsPerm zs) : ∀ k, k ≤ zs.length → ∀ j, j < k → unrTo zs k ((zs.getD j 0).toNat - 1) = img zs j := by
  intro k
  induction k with
  | zero => intro _ j hj; omega
  | succ k ih =>
    intro hk j hj
    rw [unrTo]
    by_cases e : j = k
    · subst e; rw [updr_same]
    · rw [updr_ne]
      · exact ih (by omega) j (by omega)
      · intro e2
        have b1 := hp.bounds (j := j) (by omega)
        have b2 := hp.bounds (j := k) (by omega)
        exact e (hp.inj (by omega) (by omega) (by omega))

theorem edges_img (zs : List Int) : ∀ d k, k + d = zs.length → ∀ e ∈ edges (gmax zs k) (zs.drop k), ∃ j, j < zs.length ∧ e = (zs.getD j 0, img zs j) := by
  intro d
  induction d with
  | zero => intro k hk e he; rw [List.drop_of_length_le (by omega)] at he; simp [edges] at he
  | succ d ih =>
    intro k hk e he
    rw [drop_cons zs k (by omega), edges] at he
    rcases List.mem_cons.1 he with h | h
    · refine ⟨k, by omega, ?_⟩
      rw [h]
      have e1 : (zs.drop (k + 1) ≠ []) ↔ k + 1 < zs.length := by
        constructor
        · intro h; rcases Nat.lt_or_ge (k + 1) zs.length with h2 | h2
          · exact h2
          · exact absurd (List.drop_of_length_le h2) h
        · intro h h2; have := congrArg List.length h2; simp at this; omega
      have e2 : (zs.drop (k + 1)).headD 0 = zs.getD (k + 1) 0 := by
        rw [List.headD_eq_head?_getD, List.head?_drop, List.getD_eq_getElem?_getD]
      have e3 : max (gmax zs k) (zs.getD k 0) = gmax zs (k + 1) := rfl
      rw [e3, e2]
      unfold img
      by_cases h2 : k + 1 < zs.length ∧ zs.getD (k + 1) 0 < gmax zs (k + 1)
      · rw [if_pos h2, if_pos ⟨e1.2 h2.1, h2.2⟩]
      · rw [if_neg h2, if_neg (fun h3 => h2 ⟨e1.1 h3.1, h3.2⟩)]
    · exact ih (k + 1) (by omega) e h

theorem unrL_edges {zs : List Int} (hp : IsPerm zs) : (unrL zs).length = zs.length ∧ ∀ e ∈ edges 0 zs, app (unrL zs) e.1 = e.2 := by
  refine ⟨tab_length _ _, fun e he => ?_⟩
  have he' : e ∈ edges (gmax zs 0) (zs.drop 0) := by simpa [gmax] using he
  obtain ⟨j, hj, rfl⟩ := edges_img zs zs.length 0 (by omega) e he'
  have b := hp.bounds hj
  show app (unrL zs) (zs.getD j 0) = img zs j
  unfold app unrL
  rw [tab_getD _ _ _ (by omega), unrTo_at hp _ (Nat.le_refl _) j hj]

theorem gmax_bound {zs : List Int} (hp : IsPerm zs) : ∀ k, k ≤ zs.length → 0 ≤ gmax zs k ∧ gmax zs k ≤ zs.length := by
  intro k
  induction k with
  | zero => intro _; simp [gmax]
  | succ k ih =>
    intro hk
    have := ih (by omega)
    have := hp.bounds (j := k) (by omega)
    rw [gmax]; omega

theorem unrL_perm {zs : List Int} (hp : IsPerm zs) : IsPerm (unrL zs) := (unrounds_blocks hp (unrL_edges hp).1 (unrL_edges hp).2).1

set_option maxHeartbeats 4000000 in
theorem Unrounds_ok (a : Option Addr) (cap : Nat) (zs : List Int) (w : World) (hs : Shows w a zs) (hp : IsPerm zs) :
    Calls Try.prog 37 #[.slice a zs.length cap] w fun e w' => ∃ v, e = .returned (.tuple #[v, .int .i64 0]) ∧ Owns w' w.heap.size v (unrL zs) ∧ Below w.heap.size w w' := by
  have E : Hid (pchk zs = 0) := pchk_ok.2 hp
  have HP : Hid (IsPerm zs) := hp
  have h40 := hp.len
  clear hp
  obtain ⟨i0, hi, hz0, hz1, hz2⟩ := info_parts Try.info3
  go_enter Try.func37, Try.ntmps37
  go_wp2_with fail
  refine (Check_is _ _ _ _ _ hs rfl E).mono ?_
  rintro e w0 ⟨rfl, hb0⟩
  have HB0 : Hid (Below w.heap.size w w0) := hb0
  clear hb0
  go_wp2_with (at_make; refine wpList_make_full _ rfl _ _ 22 rfl w.heap.size 3 i0 (.int .i64 0) 1 Try.underlying22 hi hz0 hz1 _ _ _ _ zs.length rfl rfl rfl rfl ?b1 ?b2 ?b3 ?_)
  case b1 => rw [hz2]; omega
  case b2 => unfold maxLen; omega
  case b3 => exact HB0.out.size
  intro w1 hown hgrow
  have HB1 : Hid (Below w.heap.size w w1) := HB0.out.grown hgrow HB0.out.size (fun k h => by cases h)
  obtain ⟨g, hg⟩ : ∃ g, g = w0.heap.size := ⟨_, rfl⟩
  have HG : Hid (w.heap.size ≤ g) := by show _ ≤ _; rw [hg]; exact HB0.out.size
  have HO1 : Hid (Owns w1 w.heap.size (.slice (some ⟨g, 0, none⟩) zs.length zs.length) (tab zs.length (unrTo zs 0))) := by rw [hg]; exact owns_made hown
  rw [← hg]
  clear hown hgrow hg
  go_wp2
  go_loopw [6, 19] (fun x i wr => ∃ (k : Nat) (G : Int), k ≤ zs.length ∧ i = .int .i64 k ∧ x = .int .i64 G ∧ Hid (G = gmax zs k) ∧ Hid (Owns wr w.heap.size (.slice (some ⟨g, 0, none⟩) zs.length zs.length) (tab zs.length (unrTo zs k))) ∧ Hid (Below w.heap.size w wr)) (fun _ i _ => zs.length - (intOf i).toNat)
  case atStart => exact ⟨0, 0, Nat.zero_le _, rfl, rfl, rfl, HO1, HB1⟩
  case round =>
    obtain ⟨k, G, hk, rfl, rfl, HGm, HO, HB⟩ := hrel
    by_cases hlt : k < zs.length
    · have hlt' : (k : Int) < (zs.length : Int) := by omega
      have HLT : Hid (k < zs.length) := hlt
      obtain ⟨b, off, z, rfl, HZ, -, -, hc⟩ := (hs.below HB.out).elem hlt
      have hzb := HP.out.bounds hlt
      rw [← HZ.out] at hzb
      obtain ⟨j, rfl⟩ : ∃ j : Nat, z = (j : Int) + 1 := ⟨(z - 1).toNat, by omega⟩
      have hj : j < zs.length := by omega
      have hj' : (j : Int) < (zs.length : Int) := by omega
      obtain ⟨hfz, hcz⟩ := HO.out.tabAt hj
      obtain ⟨u, HU⟩ : ∃ u, Hid (u = unrTo zs k j) := ⟨_, rfl⟩
      rw [← HU.out] at hcz
      obtain ⟨G1, hG1⟩ : ∃ G1, G1 = if G < (j : Int) + 1 then (j : Int) + 1 else G := ⟨_, rfl⟩
      have HG1 : Hid (G1 = gmax zs (k + 1)) := by
        show _ = max (gmax zs k) (zs.getD k 0)
        rw [← HGm.out, ← HZ.out, hG1]
        split <;> omega
      have hw1 : IntKind.i64.wrap ((j : Int) + 1 - 1) = (j : Int) := by rw [IntWalk.i64_left, IntWalk.wrap64_in _ (by omega)]; omega
      have HStep : ∀ x, x = img zs k → Owns (wr.setCell ⟨g, j, none⟩ (.int .i64 x)) w.heap.size (.slice (some ⟨g, 0, none⟩) zs.length zs.length) (tab zs.length (unrTo zs (k + 1))) := fun x hx => by
        have := HO.out.tabStore j x
        rw [unrTo, ← HZ.out, show ((j : Int) + 1).toNat - 1 = j by omega, ← hx]; exact this
      have HST : Hid (∀ x, x = img zs k → Owns (wr.setCell ⟨g, j, none⟩ (.int .i64 x)) w.heap.size (.slice (some ⟨g, 0, none⟩) zs.length zs.length) (tab zs.length (unrTo zs (k + 1)))) := HStep
      clear HStep
      by_cases hn : k + 1 < zs.length
      · have hbn : decide ((k : Int) + 1 < (zs.length : Int)) = true := by simp; omega
        obtain ⟨b2, off2, y, hbb, HY, -, -, hcy⟩ := (hs.below HB.out).elem hn
        simp only [Option.some.injEq, Addr.mk.injEq, and_true] at hbb
        obtain ⟨rfl, rfl⟩ := hbb
        obtain ⟨k1, hk1⟩ : ∃ k1, k1 = k + 1 := ⟨_, rfl⟩
        have hw2 : IntKind.i64.wrap ((k : Int) + 1) = (k1 : Int) := by rw [IntWalk.i64_left, IntWalk.wrap64_in _ (by omega)]; omega
        have hk1l : (k1 : Int) < (zs.length : Int) := by omega
        have HK1 : Hid (k1 = k + 1) := hk1
        rw [← hk1] at hcy
        have HNX : Hid (k + 1 < zs.length) := hn
        clear hk1 hn hbn
        by_cases hyG : y < G1
        · have hI : Hid (y = img zs k) := by
            show _ = _; unfold img
            rw [← HG1.out, ← HY.out, if_pos ⟨HNX.out, hyG⟩]
          have hb : decide (y < G1) = true := by simpa using hyG
          rw [hG1] at hb
          clear hyG
          go_wp2
          go_roundw
          case rel => exact ⟨k1, G1, by have := HK1.out; have := HNX.out; omega, rfl, by rw [hG1], by rw [HK1.out]; exact HG1, by rw [HK1.out]; exact HST.out y hI.out, HB.out.setCell HG.out _⟩
          case measure => have := HLT.out; have := HK1.out; simp [intOf]; omega
        · have hI : Hid (G1 = img zs k) := by
            show _ = _; unfold img
            rw [← HG1.out, ← HY.out, if_neg (fun h => hyG h.2)]
          have hb : decide (y < G1) = false := by simpa using hyG
          rw [hG1] at hb
          clear hyG
          go_wp2
          go_roundw
          case rel => exact ⟨k1, G1, by have := HK1.out; have := HNX.out; omega, rfl, by rw [hG1], by rw [HK1.out]; exact HG1, by
                        rw [HK1.out]; have := HST.out G1 hI.out; rw [hG1] at this; exact this, HB.out.setCell HG.out _⟩
          case measure => have := HLT.out; have := HK1.out; simp [intOf]; omega
      · have hI : Hid (G1 = img zs k) := by
          show _ = _; unfold img
          rw [← HG1.out, if_neg (fun h => hn h.1)]
        have hbn : decide ((k : Int) + 1 < (zs.length : Int)) = false := by simp; omega
        clear hn
        go_wp2
        go_roundw
        case rel => exact ⟨k + 1, G1, HLT.out, by go_num, by rw [hG1], HG1, by
                      have := HST.out G1 hI.out; rw [hG1] at this; exact this, HB.out.setCell HG.out _⟩
        case measure => have := HLT.out; simp [intOf]; omega
    · obtain rfl : k = zs.length := by omega
      go_wp2
      go_ret2
      exact ⟨_, rfl, HO.out, HB.out⟩

theorem Rounds_err (a : Option Addr) (cap : Nat) (zs : List Int) (w : World) (hs : Shows w a zs) (c : Int) (h : pchk zs = c) (hc : (c != 0) = true) :
    Calls Try.prog 36 #[.slice a zs.length cap] w fun e w' => e = .returned (.tuple #[.slice none 0 0, .int .i64 c]) ∧ Below w.heap.size w w' := by
  have E : Hid (pchk zs = c) := h
  clear h
  go_enter Try.func36, Try.ntmps36
  go_wp2_with fail
  refine (Check_is _ _ _ _ _ hs rfl E).mono ?_
  rintro e w' ⟨rfl, hb⟩
  go_wp2_with fail
  go_ret2
  exact ⟨rfl, hb⟩
theorem Unrounds_err (a : Option Addr) (cap : Nat) (zs : List Int) (w : World) (hs : Shows w a zs) (c : Int) (h : pchk zs = c) (hc : (c != 0) = true) :
    Calls Try.prog 37 #[.slice a zs.length cap] w fun e w' => e = .returned (.tuple #[.slice none 0 0, .int .i64 c]) ∧ Below w.heap.size w w' := by
  have E : Hid (pchk zs = c) := h
  clear h
  go_enter Try.func37, Try.ntmps37
  go_wp2_with fail
  refine (Check_is _ _ _ _ _ hs rfl E).mono ?_
  rintro e w' ⟨rfl, hb⟩
  go_wp2_with fail
  go_ret2
  exact ⟨rfl, hb⟩

/-- What Rounds and Unrounds answer. -/
def RndR (zs : List Int) (c : Int) (q : List Int) : Prop := pchk zs = c ∧ (c = 0 → ∃ bs, Blocks zs bs ∧ q = bs.flatten) ∧ (c ≠ 0 → q = [])
def UnrR (zs : List Int) (c : Int) (q : List Int) : Prop := pchk zs = c ∧ q = if c = 0 then unrL zs else []

theorem Rounds_at {zs q : List Int} {c : Int} (a : Option Addr) (n cap : Nat) (w : World) (hs : Shows w a zs) (hn : n = zs.length) (hr : RndR zs c q) :
    Calls Try.prog 36 #[.slice a n cap] w fun e w' => ∃ v, e = .returned (.tuple #[v, .int .i64 c]) ∧ Owns w' w.heap.size v q ∧ Below w.heap.size w w' := by
  subst hn
  obtain ⟨h, h1, h2⟩ := hr
  by_cases hc : c = 0
  · obtain ⟨bs, hbs, rfl⟩ := h1 hc
    subst hc
    refine (Rounds_ok a cap zs w hs (pchk_ok.1 h)).mono fun e w' ⟨v, cs, he, hcs, ho, hb⟩ => ⟨v, he, ?_, hb⟩
    rw [hbs.uniq (pchk_ok.1 h) hcs]; exact ho
  · obtain rfl := h2 hc
    exact (Rounds_err a cap zs w hs c h (bne_iff_ne.2 hc)).mono fun e w' ⟨he, hw⟩ => ⟨_, he, World.ownsRow_nil _ _ _ _, hw⟩
theorem Unrounds_at {zs q : List Int} {c : Int} (a : Option Addr) (n cap : Nat) (w : World) (hs : Shows w a zs) (hn : n = zs.length) (hr : UnrR zs c q) :
    Calls Try.prog 37 #[.slice a n cap] w fun e w' => ∃ v, e = .returned (.tuple #[v, .int .i64 c]) ∧ Owns w' w.heap.size v q ∧ Below w.heap.size w w' := by
  subst hn
  obtain ⟨h, rfl⟩ := hr
  by_cases hc : c = 0
  · subst hc; exact Unrounds_ok a cap zs w hs (pchk_ok.1 h)
  · rw [if_neg hc]
    exact (Unrounds_err a cap zs w hs c h (bne_iff_ne.2 hc)).mono fun e w' ⟨he, hw⟩ => ⟨_, he, World.ownsRow_nil _ _ _ _, hw⟩

/-- Each permutation has its blocks. -/
theorem upTo_ex {p : List Int} (hp : IsPerm p) : ∀ k, k ≤ p.length → ∃ bs, UpTo p k bs := by
  intro k
  induction k with
  | zero => intro _; exact ⟨[], UpTo.zero hp⟩
  | succ k ih =>
    intro hk
    obtain ⟨bs, h⟩ := ih (by omega)
    by_cases e : ∃ b, Block p b ∧ b.headD 0 = (k : Int) + 1
    · obtain ⟨b, hb, he⟩ := e
      exact ⟨_, h.more hb he⟩
    · exact ⟨bs, h.same (fun b hb he => e ⟨b, hb, he⟩)⟩
theorem blocks_ex {p : List Int} (hp : IsPerm p) : ∃ bs, Blocks p bs := by
  obtain ⟨bs, h⟩ := upTo_ex hp p.length (Nat.le_refl _)
  exact ⟨bs, h.blocks hp⟩

/-- There and back. -/
theorem unr_rnd {p : List Int} (hp : IsPerm p) {bs : List (List Int)} (h : Blocks p bs) : unrL bs.flatten = p := by
  obtain ⟨hl, hq⟩ := h.perm hp
  obtain ⟨h1, h2⟩ := unrL_edges hq
  have hnd : ∀ b ∈ bs, b.Nodup := fun b hb => by
    obtain ⟨n, m, ht, rfl, h3, h4⟩ := (h.each b hb).n
    exact ht.nodup hp h3 h4
  have h3 := edges_blocks bs 0 h.each hnd h.rise (fun b hb => by have := (h.each b hb).bounds hp (h.each b hb).head_mem; omega)
  apply ext_getD (by rw [h1, hl])
  intro j hj
  rw [h1] at hj
  -- some place of q has j + 1
  obtain ⟨i, hi, hie⟩ := hq.place hj
  have : ∃ e ∈ edges 0 bs.flatten, e.1 = (j : Int) + 1 := by
    have key : ∀ (q : List Int) (g : Int) (i : Nat), i < q.length → ∃ e ∈ edges g q, e.1 = q.getD i 0 := by
      intro q
      induction q with
      | nil => intro g i hi; simp at hi
      | cons x q ih =>
        intro g i hi
        rw [edges]
        cases i with
        | zero => exact ⟨_, List.mem_cons_self, rfl⟩
        | succ i =>
          obtain ⟨e, he, h⟩ := ih (max g x) i (by simpa using hi)
          exact ⟨e, List.mem_cons_of_mem _ he, by rw [h]; rfl⟩
    obtain ⟨e, he, h⟩ := key bs.flatten 0 i hi
    exact ⟨e, he, by rw [h, hie]⟩
  obtain ⟨e, he, he1⟩ := this
  have a1 := h2 e he
  have a2 := h3 e he
  rw [he1] at a1 a2
  unfold app at a1 a2
  rw [show ((j : Int) + 1).toNat - 1 = j by omega] at a1 a2
  rw [a1, a2]

theorem rnd_unr {q : List Int} (hq : IsPerm q) : ∃ bs, Blocks (unrL q) bs ∧ q = bs.flatten := by
  obtain ⟨_, bs, h1, h2⟩ := unrounds_blocks hq (unrL_edges hq).1 (unrL_edges hq).2
  exact ⟨bs, h1, h2.symm⟩

end Go.Proofs.Ytnjbkiegeielhab
