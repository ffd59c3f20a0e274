/-
  The contracts of rule.Number and rule.Fillings.
-/
import Derived.Test.YtncokoimbpkapaaRwF
namespace Go.Proofs.Ytncokoimbpkapaa
open Go.RowKit Go.Shelf Go.Sort

theorem castL_natL {l : List Nat} : natL (castL l) = l := by
  unfold natL castL
  rw [List.map_map]
  exact (List.map_congr_left fun x _ => by simp).trans (List.map_id l)
theorem natL_at (z : List Int) (r : Nat) : (natL z).getD r 0 = (z.getD r 0).toNat := by
  simp only [natL, List.getD, List.getElem?_map]
  cases z[r]? with
  | none => rfl
  | some v => rfl
theorem pn_of {z : List Int} (h : ptC z = 0) (hs : (natL z).sum ≤ 16) : Pn (natL z) ∧ castL (natL z) = z := by
  have h1 := pt_zero h
  have hc := natL_cast (fun x hx => by have := h1.1 x hx; omega)
  have hl : (natL z).length = z.length := by simp [natL]
  have hg : PtGoes 1 0 z := by
    unfold ptC at h
    by_cases e : ptGoB 1 0 z = true
    · exact ptGoB_iff.1 e
    · rw [if_neg e] at h; omega
  refine ⟨⟨fun r => ?_, fun r hr => ?_, hs⟩, hc⟩
  · rw [natL_at, natL_at]
    by_cases hr : r + 1 < z.length
    · have := (hg (r + 1) hr).2 (by omega)
      rw [Nat.add_sub_cancel] at this
      omega
    · rw [show z.getD (r + 1) 0 = 0 from by rw [List.getD, List.getElem?_eq_none (by omega)]; rfl]
      omega
  · rw [natL_at]
    have := (hg r (by omega)).1
    omega
theorem chk_zero {ls : List (List Int)} (h : chkL ls = 0) : ∀ z ∈ ls, Pn (natL z) ∧ castL (natL z) = z := by
  unfold chkL at h
  by_cases e : firstBad ls = 0
  · rw [e] at h
    simp only [ne_eq, not_true_eq_false, if_false] at h
    by_cases e2 : bigB ls = true
    · rw [if_pos e2] at h; omega
    · have hfb : ∀ (ls : List (List Int)), firstBad ls = 0 → ∀ z ∈ ls, ptC z = 0 := by
        intro ls
        induction ls with
        | nil => intro _ z hz; simp at hz
        | cons a r ih =>
          intro h z hz
          simp only [firstBad] at h
          by_cases ea : ptC a = 0
          · simp only [ea, ne_eq, not_true_eq_false, if_false] at h
            rcases List.mem_cons.1 hz with rfl | hz
            · exact ea
            · exact ih h z hz
          · rw [if_pos ea] at h; exact absurd h ea
      intro z hz
      refine pn_of (hfb ls e z hz) ?_
      rcases Nat.lt_or_ge 16 (natL z).sum with q | q
      · exact absurd (List.any_eq_true.2 ⟨z, hz, decide_eq_true q⟩) e2
      · exact q
  · rw [if_pos e] at h; exact absurd h e
/-- Three lists, laid side by side. -/
theorem three_table {w : World} {a b c : Option Addr} {ca cb cc : Nat} {x y z : List Int} (hx : Shows w a x) (hy : Shows w b y) (hz : Shows w c z) (ka : a = none → ca = 0) (kb : b = none → cb = 0) (kc : c = none → cc = 0) (na : a = none → x = []) (nb : b = none → y = []) (nc : c = none → z = []) :
    Table (w.alloc (.cells #[.slice a x.length ca, .slice b y.length cb, .slice c z.length cc] 22)) (some ⟨w.heap.size, 0, none⟩) [x, y, z] := by
  have hB : Below w.heap.size w (w.alloc (.cells #[.slice a x.length ca, .slice b y.length cb, .slice c z.length cc] 22)) := (Below.refl _ _).alloc (Nat.le_refl _) _
  intro i hi
  have hsz : w.heap.size < (w.alloc (.cells #[.slice a x.length ca, .slice b y.length cb, .slice c z.length cc] 22)).heap.size := by simp
  match i, hi with
  | 0, _ => exact ⟨w.heap.size, 0, a, ca, rfl, hsz, by rw [World.cell?_alloc_new]; rfl, hx.below hB, fun e => ⟨na e, ka e⟩⟩
  | 1, _ => exact ⟨w.heap.size, 0, b, cb, rfl, hsz, by rw [World.cell?_alloc_new]; rfl, hy.below hB, fun e => ⟨nb e, kb e⟩⟩
  | 2, _ => exact ⟨w.heap.size, 0, c, cc, rfl, hsz, by rw [World.cell?_alloc_new]; rfl, hz.below hB, fun e => ⟨nc e, kc e⟩⟩
theorem Shows.nilx {w : World} {a : Option Addr} {x : List Int} (h : Shows w a x) (e : a = none) : x = [] := by
  rcases Classical.em (x = []) with q | q
  · exact q
  · obtain ⟨b, off, hab, _, _⟩ := h.cells q
    rw [e] at hab; cases hab

set_option maxHeartbeats 1000000 in
theorem Number_c (v0 v1 v2 : Value) (k c : Int) (w : World)
    (H1 : Hid (Calls Try.prog 9 #[.slice (some ⟨w.heap.size, 0, none⟩) 3 3] (w.alloc (.cells #[v0, v1, v2] 22)) fun e w' => e = .returned (.int .i64 k) ∧ w' = w.alloc (.cells #[v0, v1, v2] 22)))
    (H2 : Hid (k = 0 → Calls Try.prog 10 #[v0, v1, v2] (w.alloc (.cells #[v0, v1, v2] 22)) fun e w' => e = .returned (.int .i64 c) ∧ Below (w.alloc (.cells #[v0, v1, v2] 22)).heap.size (w.alloc (.cells #[v0, v1, v2] 22)) w'))
    (hv : (∃ a n c, v0 = .slice a n c) ∧ (∃ a n c, v1 = .slice a n c) ∧ (∃ a n c, v2 = .slice a n c)) :
    Calls Try.prog 4 #[v0, v1, v2] w fun e w' => e = .returned (.tuple #[.int .i64 (if k = 0 then c else 0), .int .i64 k]) ∧ Below w.heap.size w w' := by
  obtain ⟨⟨a0, n0, c0, rfl⟩, ⟨a1, n1, c1, rfl⟩, ⟨a2, n2, c2, rfl⟩⟩ := hv
  have hB : Below w.heap.size w (w.alloc (.cells #[.slice a0 n0 c0, .slice a1 n1 c1, .slice a2 n2 c2] 22)) := (Below.refl _ _).alloc (Nat.le_refl _) _
  have HB : Hid (Below w.heap.size w (w.alloc (.cells #[.slice a0 n0 c0, .slice a1 n1 c1, .slice a2 n2 c2] 22))) := hB
  clear hB
  by_cases hk : k = 0
  · subst hk
    have H3 := H2.out rfl
    have H4 : Hid (Calls Try.prog 10 #[.slice a0 n0 c0, .slice a1 n1 c1, .slice a2 n2 c2] (w.alloc (.cells #[.slice a0 n0 c0, .slice a1 n1 c1, .slice a2 n2 c2] 22)) fun e w' => e = .returned (.int .i64 c) ∧ Below w.heap.size w w') := by
      refine H3.mono ?_
      rintro e w' ⟨rfl, h⟩
      exact ⟨rfl, HB.out.trans (h.mono HB.out.size)⟩
    clear H2 H3
    go_enter Try.func4, Try.ntmps4
    go_wp2_with fail
    refine H1.out.mono ?_
    rintro e w1 ⟨rfl, hw1⟩
    subst hw1
    go_wp2_with fail
    refine H4.out.mono ?_
    rintro e w2 ⟨rfl, h2⟩
    go_wp2
    go_ret2
    exact ⟨by first | rfl | simp, h2⟩
  · have hb0 : (k != 0) = true := by simpa using hk
    clear H2
    go_enter Try.func4, Try.ntmps4
    go_wp2_with fail
    refine H1.out.mono ?_
    rintro e w1 ⟨rfl, hw1⟩
    subst hw1
    go_wp2
    go_ret2
    exact ⟨by first | rfl | simp, HB.out⟩
/-- How many right fillings Number tells. -/
def numF (x y z : List Int) : Int := if chkL [x, y, z] = 0 then ((rgtF (natL x) (natL y) (natL z)).length : Int) else 0
theorem Number_at (a b c : Option Addr) (ca cb cc : Nat) (x y z : List Int) (w : World) (hx : Shows w a x) (hy : Shows w b y) (hz : Shows w c z) (ka : a = none → ca = 0) (kb : b = none → cb = 0) (kc : c = none → cc = 0) :
    Calls Try.prog 4 #[.slice a x.length ca, .slice b y.length cb, .slice c z.length cc] w fun e w' => e = .returned (.tuple #[.int .i64 (numF x y z), .int .i64 (chkL [x, y, z])]) ∧ Below w.heap.size w w' := by
  have hT := three_table (ca := ca) (cb := cb) (cc := cc) hx hy hz ka kb kc hx.nilx hy.nilx hz.nilx
  have hB : Below w.heap.size w (w.alloc (.cells #[.slice a x.length ca, .slice b y.length cb, .slice c z.length cc] 22)) := (Below.refl _ _).alloc (Nat.le_refl _) _
  refine Number_c _ _ _ (chkL [x, y, z]) _ w (ucheck_at _ 3 3 [x, y, z] _ hT rfl (by simp)) (fun hk => ?_) ⟨⟨_, _, _, rfl⟩, ⟨_, _, _, rfl⟩, ⟨_, _, _, rfl⟩⟩
  have h := chk_zero hk
  obtain ⟨p1, e1⟩ := h x (by simp)
  obtain ⟨p2, e2⟩ := h y (by simp)
  obtain ⟨p3, e3⟩ := h z (by simp)
  have hx' : Shows (w.alloc (.cells #[.slice a x.length ca, .slice b y.length cb, .slice c z.length cc] 22)) a (castL (natL x)) := by rw [e1]; exact hx.below hB
  have hy' : Shows (w.alloc (.cells #[.slice a x.length ca, .slice b y.length cb, .slice c z.length cc] 22)) b (castL (natL y)) := by rw [e2]; exact hy.below hB
  have hz' : Shows (w.alloc (.cells #[.slice a x.length ca, .slice b y.length cb, .slice c z.length cc] 22)) c (castL (natL z)) := by rw [e3]; exact hz.below hB
  have key := number_at a b c ca cb cc _ _ _ _ hx' hy' hz' p1 p2 p3
  have l1 : (natL x).length = x.length := by simp [natL]
  have l2 : (natL y).length = y.length := by simp [natL]
  have l3 : (natL z).length = z.length := by simp [natL]
  rw [l1, l2, l3] at key
  exact key

theorem rgt_shape {al bl cl : List Nat} {t : List (List Nat)} (h : t ∈ rgtF al bl cl) : t.length = cl.length ∧ t.map List.length = (List.range cl.length).map (fun r => cl.getD r 0) := by
  unfold rgtF at h
  split at h
  · obtain ⟨g, rfl, _, _⟩ := (mem_srch _ _ _ _ _ _ _ _ (ord_bxs _ _ _)).1 h
    exact ⟨by simp [tabN], by simp [tabN, Function.comp_def]⟩
  · cases h
theorem castT_flat (t : List (List Nat)) : (castT t).flatten = castL t.flatten := by
  unfold castT castL
  rw [List.map_flatten]

set_option maxHeartbeats 2000000 in
theorem Fillings_c (v0 v1 v2 : Value) (k : Int) (w : World) (P : World → Value → Prop)
    (H1 : Hid (Calls Try.prog 9 #[.slice (some ⟨w.heap.size, 0, none⟩) 3 3] (w.alloc (.cells #[v0, v1, v2] 22)) fun e w' => e = .returned (.int .i64 k) ∧ w' = w.alloc (.cells #[v0, v1, v2] 22)))
    (H2 : Hid (k = 0 → Calls Try.prog 11 #[v0, v1, v2, .func (.func 12) #[] #[ptr (w.heap.size + 1)]] ((w.alloc (.cells #[v0, v1, v2] 22)).alloc (.cells #[.slice none 0 0] 26)) fun e w' => e = .returned (.tuple #[]) ∧ Hid (∃ v, w'.cell? ⟨w.heap.size + 1, 0, none⟩ = some v ∧ Calls Try.prog 14 #[v, .func (.func 15) #[] #[]] w' fun e w2 => e = .returned (.tuple #[]) ∧ w2.cell? ⟨w.heap.size + 1, 0, none⟩ = some v ∧ Hid (P w2 v))))
    (hv : (∃ a n c, v0 = .slice a n c) ∧ (∃ a n c, v1 = .slice a n c) ∧ (∃ a n c, v2 = .slice a n c)) :
    Calls Try.prog 5 #[v0, v1, v2] w fun e w' => (k = 0 ∧ ∃ v, e = .returned (.tuple #[v, .int .i64 0]) ∧ P w' v) ∨ (k ≠ 0 ∧ e = .returned (.tuple #[.slice none 0 0, .int .i64 k]) ∧ Below w.heap.size w w') := by
  obtain ⟨⟨a0, n0, c0, rfl⟩, ⟨a1, n1, c1, rfl⟩, ⟨a2, n2, c2, rfl⟩⟩ := hv
  have hB : Below w.heap.size w (w.alloc (.cells #[.slice a0 n0 c0, .slice a1 n1 c1, .slice a2 n2 c2] 22)) := (Below.refl _ _).alloc (Nat.le_refl _) _
  have HB : Hid (Below w.heap.size w (w.alloc (.cells #[.slice a0 n0 c0, .slice a1 n1 c1, .slice a2 n2 c2] 22))) := hB
  clear hB
  by_cases hk : k = 0
  · subst hk
    have H4 := H2.out rfl
    have H5 : Hid (Calls Try.prog 11 #[.slice a0 n0 c0, .slice a1 n1 c1, .slice a2 n2 c2, .func (.func 12) #[] #[ptr (w.heap.size + 1)]] ((w.alloc (.cells #[.slice a0 n0 c0, .slice a1 n1 c1, .slice a2 n2 c2] 22)).alloc (.cells #[.slice none 0 0] 26)) fun e w' => e = .returned (.tuple #[]) ∧ Hid (∃ v, w'.cell? ⟨w.heap.size + 1, 0, none⟩ = some v ∧ Calls Try.prog 14 #[v, .func (.func 15) #[] #[]] w' fun e w2 => e = .returned (.tuple #[]) ∧ w2.cell? ⟨w.heap.size + 1, 0, none⟩ = some v ∧ Hid (P w2 v))) := H4
    clear H2 H4
    go_enter Try.func5, Try.ntmps5
    go_wp2_with fail
    refine H1.out.mono ?_
    rintro e w1 ⟨rfl, hw1⟩
    subst hw1
    go_wp2_with fail
    refine H5.out.mono ?_
    rintro e w2 ⟨rfl, H6⟩
    obtain ⟨v, c0, h7⟩ := H6.out
    have H7 : Hid (Calls Try.prog 14 #[v, .func (.func 15) #[] #[]] w2 fun e w2 => e = .returned (.tuple #[]) ∧ w2.cell? ⟨w.heap.size + 1, 0, none⟩ = some v ∧ Hid (P w2 v)) := h7
    clear h7 H6
    go_wp2_with fail
    refine H7.out.mono ?_
    rintro e w3 ⟨rfl, c1, HPP⟩
    go_wp2
    go_ret2
    exact Or.inl ⟨by first | rfl | trivial, v, rfl, HPP.out⟩
  · have hb0 : (k != 0) = true := by simpa using hk
    have HK : Hid (k ≠ 0) := hk
    clear H2
    go_enter Try.func5, Try.ntmps5
    go_wp2_with fail
    refine H1.out.mono ?_
    rintro e w1 ⟨rfl, hw1⟩
    subst hw1
    go_wp2
    go_ret2
    exact Or.inr ⟨HK.out, rfl, HB.out⟩

/-- A list of tables, in order. -/
def Sorted (ts : List (List (List Int))) : Prop := ts.Pairwise (fun a b => ¬ cmpL b.flatten a.flatten < 0)
theorem Fillings_at {ρ : Go.Shelf.Ren} (L : SlLaysF.n6 Try.prog ρ) (hρ : ρ.f 6 = 14) (a b c : Option Addr) (ca cb cc : Nat) (x y z : List Int) (w : World) (hx : Shows w a x) (hy : Shows w b y) (hz : Shows w c z) (ka : a = none → ca = 0) (kb : b = none → cb = 0) (kc : c = none → cc = 0) :
    Calls Try.prog 5 #[.slice a x.length ca, .slice b y.length cb, .slice c z.length cc] w fun e w' => (chkL [x, y, z] = 0 ∧ ∃ v, e = .returned (.tuple #[v, .int .i64 0]) ∧ ∃ us ts, ts.Perm ((rgtF (natL x) (natL y) (natL z)).map castT) ∧ Sorted ts ∧ Cub (fun k => k = w.heap.size + 1) w' (w.heap.size + 2) v us ts ∧ Below w.heap.size w w') ∨ (chkL [x, y, z] ≠ 0 ∧ e = .returned (.tuple #[.slice none 0 0, .int .i64 (chkL [x, y, z])]) ∧ Below w.heap.size w w') := by
  have hT := three_table (ca := ca) (cb := cb) (cc := cc) hx hy hz ka kb kc hx.nilx hy.nilx hz.nilx
  obtain ⟨W, hW⟩ : ∃ W, W = w.alloc (.cells #[.slice a x.length ca, .slice b y.length cb, .slice c z.length cc] 22) := ⟨_, rfl⟩
  have hB : Below w.heap.size w W := by rw [hW]; exact (Below.refl _ _).alloc (Nat.le_refl _) _
  have hWs : W.heap.size = w.heap.size + 1 := by rw [hW]; simp
  have hB2 : Below W.heap.size W (W.alloc (.cells #[.slice none 0 0] 26)) := (Below.refl _ _).alloc (Nat.le_refl _) _
  refine Fillings_c _ _ _ (chkL [x, y, z]) w (fun w' v => ∃ us ts, ts.Perm ((rgtF (natL x) (natL y) (natL z)).map castT) ∧ Sorted ts ∧ Cub (fun k => k = w.heap.size + 1) w' (w.heap.size + 2) v us ts ∧ Below w.heap.size w w') (ucheck_at _ 3 3 [x, y, z] _ hT rfl (by simp)) (fun hk => ?_) ⟨⟨_, _, _, rfl⟩, ⟨_, _, _, rfl⟩, ⟨_, _, _, rfl⟩⟩
  rw [← hW]
  have h := chk_zero hk
  obtain ⟨p1, e1⟩ := h x (by simp)
  obtain ⟨p2, e2⟩ := h y (by simp)
  obtain ⟨p3, e3⟩ := h z (by simp)
  have hb3 := hB.trans (hB2.mono hB.size)
  have hx' : Shows (W.alloc (.cells #[.slice none 0 0] 26)) a (castL (natL x)) := by rw [e1]; exact hx.below hb3
  have hy' : Shows (W.alloc (.cells #[.slice none 0 0] 26)) b (castL (natL y)) := by rw [e2]; exact hy.below hb3
  have hz' : Shows (W.alloc (.cells #[.slice none 0 0] 26)) c (castL (natL z)) := by rw [e3]; exact hz.below hb3
  have key := each_cub a b c ca cb cc _ _ _ (w.heap.size + 1) _ hx' hy' hz' p1 p2 p3 (by rw [← hWs]; exact heap_alloc_new _ _)
  have l1 : (natL x).length = x.length := by simp [natL]
  have l2 : (natL y).length = y.length := by simp [natL]
  have l3 : (natL z).length = z.length := by simp [natL]
  rw [l1, l2, l3] at key
  refine key.mono ?_
  rintro e w1 ⟨rfl, ⟨v, us, hF⟩, hb1⟩
  have hbw : Below w.heap.size w w1 := hb3.trans (hb1.mono (by omega))
  refine ⟨rfl, v, cell_of_one hF.bx, ?_⟩
  obtain ⟨R, hR⟩ : ∃ R, R = rgtF (natL x) (natL y) (natL z) := ⟨_, rfl⟩
  rw [← hR] at hF
  have hC : Cub (fun k => k = w.heap.size + 1) w1 (w.heap.size + 2) v us (R.map castT) := by
    refine ⟨hF.own, by rw [List.length_map]; exact hF.len, fun k hkk => ?_⟩
    rw [List.length_map] at hkk
    obtain ⟨a1, c1, q1, q2⟩ := hF.el k hkk
    have eg : (R.map castT).getD k [] = castT (R.getD k []) := by
      simp only [List.getD, List.getElem?_map, List.getElem?_eq_getElem hkk]; rfl
    rw [eg, castT_len]
    exact ⟨a1, c1, q1, fun w' h1 h2 => q2 w' (fun j b1 _ b3 b4 => h1 j b1 b3 b4) h2⟩
  have hfl : w.heap.size + 1 < w1.heap.size := (Array.getElem?_eq_some_iff.1 hF.bx).1
  have hvf : v.ownBlock ≠ some (w.heap.size + 1) := fun e => by have := (hF.own.lt _ e).1; omega
  have hlen : (R.map castT).length < 4611686018427387904 := by
    rw [List.length_map, hR]
    unfold rgtF
    split
    · rename_i hh
      have := rgt_len (tri_of p1 p2 p3 hh) p3.s; omega
    · simp
  refine (SortCube_at L hρ 15 (enters_of Try.func15 (by kernel_rfl) rfl) v us (R.map castT) w1 hC hlen (by omega) (fun W2 a1 b1 ca1 cb1 s t hs ht hTs hTt => ?_)).mono ?_
  · obtain ⟨s0, hs0, rfl⟩ := List.mem_map.1 hs
    obtain ⟨t0, ht0, rfl⟩ := List.mem_map.1 ht
    rw [hR] at hs0 ht0
    have g1 := rgt_shape hs0
    have g2 := rgt_shape ht0
    have hmm : ∀ t : List (List Nat), (castT t).map List.length = t.map List.length := fun t => by
      unfold castT; rw [List.map_map]; exact List.map_congr_left fun r _ => castL_len r
    have hl := p3.len
    refine (byLetters_at a1 b1 _ _ ca1 cb1 (castT s0) (castT t0) W2 hTs hTt rfl rfl (by rw [castT_len, g1.1]; omega)).mono ?_
    rintro e w' ⟨rfl, rfl⟩
    exact ⟨by rw [cmpT_flat _ _ (by rw [hmm, hmm, g1.2, g2.2])], 0, #[], by rw [grow_empty]; rfl⟩
  · rintro e w2 ⟨rfl, us', ts', hp, hs, hc, hb, ho⟩
    have hbx2 : w2.heap[w.heap.size + 1]? = some (.cells #[v] 26 (0, 0)) := by rw [ho _ hfl hvf]; exact hF.bx
    exact ⟨rfl, cell_of_one hbx2, us', ts', by rw [← hR]; exact hp, hs, hc, hbw.trans (hb.mono (by omega))⟩

end Go.Proofs.Ytncokoimbpkapaa
