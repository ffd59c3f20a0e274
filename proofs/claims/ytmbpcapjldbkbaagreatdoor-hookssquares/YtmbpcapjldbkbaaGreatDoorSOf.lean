/-
  The contracts of fill.standardOf and fill.All: the tables that they list.
-/
import Derived.Test.YtmbpcapjldbkbaaGreatDoorSSt
import Derived.Test.YtmbpcapjldbkbaaGreatDoorHStM
import Derived.Test.YtmbpcapjldbkbaaGreatDoorRwE
import Derived.Laws.EntriesVeiled
import Derived.Deep.OwnRows
namespace Go.Proofs.YtmbpcapjldbkbaaGreatDoor
open Go.RowKit Go.Shelf Go.Sort

theorem Sd_at {H : Nat} {w0 : World} {l0 R lo m bp bs bf cp : Nat} {zs : List Int} {ap : Option Addr} (E : SE w0 l0 R lo m bp bs bf zs ap cp) : ∀ f, SS H w0 l0 R lo m bp bs bf zs f
  | 0 => Sd_zero E
  | f + 1 => Sd_succ E (Sd_at E f)

/-- The world in which the closure is called first. -/
abbrev swW (w1 : World) (ah : Option Addr) (nh ch n : Nat) (fv : Value) : World :=
  ((((w1.alloc (.cells #[.slice ah nh ch] 22)).alloc (.cells #[.slice none 0 0] 23)).alloc (.cells (madeCells #[Value.slice none 0 0] n) 22)).alloc (.cells #[.slice (some ⟨w1.heap.size + 2, 0, none⟩) n n] 34)).alloc (.cells #[fv] 96)
theorem swW_size (w1 : World) (ah : Option Addr) (nh ch n : Nat) (fv : Value) : (swW w1 ah nh ch n fv).heap.size = w1.heap.size + 5 := by simp
theorem swW_below (w1 : World) (ah : Option Addr) (nh ch n : Nat) (fv : Value) : Below w1.heap.size w1 (swW w1 ah nh ch n fv) := by
  refine ((((((Below.refl _ _).alloc (Nat.le_refl _) _).alloc ?_ _).alloc ?_ _).alloc ?_ _).alloc ?_ _) <;> simp <;> omega
theorem swW_blk (w1 : World) (ah : Option Addr) (nh ch n : Nat) (fv : Value) :
    (swW w1 ah nh ch n fv).heap[w1.heap.size]? = some (.cells #[.slice ah nh ch] 22 (0, 0)) ∧ (swW w1 ah nh ch n fv).heap[w1.heap.size + 1]? = some (.cells #[.slice none 0 0] 23 (0, 0)) ∧ (swW w1 ah nh ch n fv).heap[w1.heap.size + 2]? = some (.cells (madeCells #[Value.slice none 0 0] n) 22 (0, 0)) ∧ (swW w1 ah nh ch n fv).heap[w1.heap.size + 3]? = some (.cells #[.slice (some ⟨w1.heap.size + 2, 0, none⟩) n n] 34 (0, 0)) ∧ (swW w1 ah nh ch n fv).heap[w1.heap.size + 4]? = some (.cells #[fv] 96 (0, 0)) := by
  refine ⟨?_, ?_, ?_, ?_, ?_⟩
  · rw [Below.heap_alloc _ _ _ (by simp <;> omega), Below.heap_alloc _ _ _ (by simp <;> omega), Below.heap_alloc _ _ _ (by simp <;> omega), Below.heap_alloc _ _ _ (by simp)]
    exact heap_alloc_new _ _
  · rw [Below.heap_alloc _ _ _ (by simp <;> omega), Below.heap_alloc _ _ _ (by simp <;> omega), Below.heap_alloc _ _ _ (by simp)]
    have := heap_alloc_new (w1.alloc (.cells #[.slice ah nh ch] 22)) (.cells #[.slice none 0 0] 23)
    simpa using this
  · rw [Below.heap_alloc _ _ _ (by simp <;> omega), Below.heap_alloc _ _ _ (by simp)]
    have := heap_alloc_new ((w1.alloc (.cells #[.slice ah nh ch] 22)).alloc (.cells #[.slice none 0 0] 23)) (.cells (madeCells #[Value.slice none 0 0] n) 22)
    simpa using this
  · rw [Below.heap_alloc _ _ _ (by simp)]
    have := heap_alloc_new (((w1.alloc (.cells #[.slice ah nh ch] 22)).alloc (.cells #[.slice none 0 0] 23)).alloc (.cells (madeCells #[Value.slice none 0 0] n) 22)) (.cells #[.slice (some ⟨w1.heap.size + 2, 0, none⟩) n n] 34)
    simpa using this
  · have := heap_alloc_new ((((w1.alloc (.cells #[.slice ah nh ch] 22)).alloc (.cells #[.slice none 0 0] 23)).alloc (.cells (madeCells #[Value.slice none 0 0] n) 22)).alloc (.cells #[.slice (some ⟨w1.heap.size + 2, 0, none⟩) n n] 34)) (.cells #[fv] 96)
    simpa using this
theorem shown_atX {w W : World} {a : Option Addr} {zs : List Int} (h : Shows w a zs) {i : Nat} (hi : i < zs.length) (hW : ∀ k, k < w.heap.size → W.heap[k]? = w.heap[k]?) : ∃ b o, a = some ⟨b, o, none⟩ ∧ W.cell? ⟨b, o + i, none⟩ = some (.int .i64 (zs.getD i 0)) := by
  obtain ⟨b, o, z, e, HZ, -, -, hc⟩ := h.elem hi
  refine ⟨b, o, e, ?_⟩
  have hb : b < w.heap.size := by
    rcases Nat.lt_or_ge b w.heap.size with q | q
    · exact q
    · rw [World.cell?] at hc
      simp [Array.getElem?_eq_none q] at hc
  rw [World.cell?_of_block (w := w) (hW b hb), hc, HZ.out]
/-- Where the closure begins. -/
theorem sx_new {w : World} {ah : Option Addr} {nh ch n : Nat} (fv : Value) (hn40 : n ≤ 40) :
    TX w.heap.size (swW w ah nh ch n fv) (swW w ah nh ch n fv) (w.heap.size + 1) (w.heap.size + 2) (w.heap.size + 5) n (.slice none 0 0) [] (List.replicate n (.slice none 0 0)) (List.replicate n []) := by
  obtain ⟨b0, b1, b2, b3, b4⟩ := swW_blk w ah nh ch n fv
  have hrows : castT (List.replicate n []) = List.replicate n [] := by simp [castT, castL]
  refine ⟨fun _ _ _ _ => rfl, by rw [swW_size]; exact Nat.le_refl _, b1, World.ownsRow_nil _ _ _ _, ?_, fun i hi g hg => ?_, fun i hi g hg => ?_, ⟨by omega, by omega, by omega⟩, by simp, Below.refl _ _, ⟨by omega, by omega⟩⟩
  · rw [hrows]
    refine tbl_made ⟨by rw [toList_madeCells_one]; simp, Or.inr ⟨w.heap.size + 2, n, madeCells #[Value.slice none 0 0] n, rfl, Nat.le_refl _, b2, Nat.le_refl _, by unfold maxLen; omega, by rw [← Array.length_toList, toList_madeCells_one]; simp, ?_⟩⟩
    rw [Nat.mul_one, List.take_of_length_le (by rw [toList_madeCells_one]; simp)]
  · have : rowv (List.replicate n (Value.slice none 0 0)) i = .slice none 0 0 := by simp [rowv, List.getD, hi]
    rw [this] at hg; cases hg
  · have : rowv (List.replicate n (Value.slice none 0 0)) i = .slice none 0 0 := by simp [rowv, List.getD, hi]
    rw [this] at hg; cases hg
theorem se_new {w : World} {a : Option Addr} {n cap : Nat} {zs : List Int} (hp : IsPt zs) (hn : n = zs.length) (hs : Shows w a zs) :
    SE (swW w a n cap n (sdV (w.heap.size + 1) (w.heap.size + 3) w.heap.size (w.heap.size + 4))) (w.heap.size + 1) (w.heap.size + 2) (w.heap.size + 5) n w.heap.size (w.heap.size + 3) (w.heap.size + 4) zs a cap := by
  generalize hfv : sdV (w.heap.size + 1) (w.heap.size + 3) w.heap.size (w.heap.size + 4) = fv
  have hT := swW_below w a n cap n fv
  obtain ⟨b0, b1, b2, b3, b4⟩ := swW_blk w a n cap n fv
  have key : ∀ W : World, (∀ k, k < w.heap.size + 5 → k ≠ w.heap.size + 1 → k ≠ w.heap.size + 2 → W.heap[k]? = (swW w a n cap n fv).heap[k]?) → ∀ k, k < w.heap.size → W.heap[k]? = w.heap[k]? := fun W hW k hk => by
    rw [hW k (by omega) (by omega) (by omega), hT.block k hk]
  refine ⟨hp, hn, fun W hW => ⟨?_, ?_, ?_⟩, fun W hW i hi => ?_⟩
  · refine (cell_oneX (ty := 22) ?_).1
    rw [hW _ (by omega) (by omega) (by omega)]; exact b0
  · refine (cell_oneX (ty := 34) ?_).1
    rw [hW _ (by omega) (by omega) (by omega)]; exact b3
  · refine (cell_oneX (ty := 96) ?_).1
    rw [hW _ (by omega) (by omega) (by omega), hfv]; exact b4
  · obtain ⟨b, o, e1, e2⟩ := shown_atX (W := W) hs (by rw [← hn]; exact hi) (fun k hk => key W hW k hk)
    exact ⟨b, o, e1, by rw [e2, pF_cast hp]⟩
theorem Els.at {w : World} {x m : Nat} {vl : Value} {vs : List Value} : ∀ {us : List Value} {L : List (List (List Nat))}, Els w x m vl vs us L → ∀ k, k < L.length → Elm w x m vl vs (rowv us k) (L.getD k [])
  | [], [], _, _, hk => absurd hk (Nat.not_lt_zero _)
  | _ :: _, _ :: _, h, 0, _ => h.1
  | _ :: _, _ :: _, h, k + 1, hk => Els.at h.2 k (by rw [List.length_cons] at hk; omega)
/-- The first of all tableaux. -/
def st2 (zs : List Int) : List (List (List Nat)) := (stAll zs).take 2001
theorem st2_mem {zs : List Int} {t : List (List Nat)} (h : t ∈ st2 zs) : t ∈ stAll zs := List.mem_of_mem_take h
/-- The list at the closure's end. -/
theorem cub_of {H lo0 : Nat} {w0 w w' : World} {l0 R lo m : Nat} {vl : Value} {vs : List Value} {t : List (List Nat)} {zs : List Int} (hp : IsPt zs) (hlo : lo0 ≤ lo) (h : SEnd H w0 w l0 R lo m vl [] vs t (st2 zs) w') :
    ∃ v us, w'.heap[l0]? = some (.cells #[v] 23 (0, 0)) ∧ Below H w0 w' ∧ Cub (fun _ => False) w' lo0 v us ((st2 zs).map castT) := by
  obtain ⟨vl', nw, hx, hk, hv, hE⟩ := h
  rw [List.nil_append] at hx
  refine ⟨vl', nw, hx.lb, hx.be, ⟨ownsRow_down hx.li hlo, by rw [hE.len, List.length_map], fun k hkl => ?_⟩⟩
  rw [List.length_map] at hkl
  obtain ⟨x', y, c1, c2, c3, c4, c5⟩ := hE.at k hkl
  have hg : ((st2 zs).map castT).getD k [] = castT ((st2 zs).getD k []) := by
    simp only [List.getD, List.getElem?_map, List.getElem?_eq_getElem hkl]; rfl
  rw [hg]
  have hmem : (st2 zs).getD k [] ∈ stAll zs := st2_mem (by simp [List.getD, hkl])
  have hbd : ∀ l ∈ castT ((st2 zs).getD k []), l.length ≤ 17592186044416 ∧ ∀ z ∈ l, -9223372036854775808 ≤ z ∧ z ≤ 9223372036854775807 := fun l hl => by
    unfold castT at hl
    obtain ⟨r, hr, rfl⟩ := List.mem_map.1 hl
    have h := stAll_row hp _ hmem r hr
    refine ⟨by rw [castL_len]; omega, fun z hz => ?_⟩
    have := castL_lt h.2 z hz
    omega
  obtain ⟨a, n, c, e1, h1, hn⟩ := (c5 w' fun _ _ _ => rfl).table hbd
  refine ⟨a, c, by rw [e1, hn.out], fun W hW _ => ?_⟩
  obtain ⟨a2, n2, cc2, e2, h2, _⟩ := (c5 W fun j j1 j2 => hW j (by omega) (fun z => z) (fun e => by have := c3 j e j1; omega)).table hbd
  rw [e1] at e2
  simp only [Value.slice.injEq] at e2
  obtain ⟨rfl, _, _⟩ := e2
  exact h2

set_option maxHeartbeats 4000000 in
set_option maxRecDepth 100000 in
theorem standardOf_at (a : Option Addr) (n cap : Nat) (zs : List Int) (w : World) (hs : Shows w a zs) (hn : n = zs.length) (hp : IsPt zs) :
    Calls Tryz.prog 35 #[.slice a n cap] w fun e w' => ∃ v us, e = .returned v ∧ Cub (fun _ => False) w' w.heap.size v us ((st2 zs).map castT) ∧ Below w.heap.size w w' := by
  have hn40 : n ≤ 40 := by rw [hn]; exact hp.len
  have hmR : ∀ W, (Instr.makeSlice 34 (.int .i64 (n : Int)) (.int .i64 (n : Int))).run Tryz.prog W = .ok (.slice (some ⟨W.heap.size, 0, none⟩) n n) (W.alloc (.cells (madeCells #[Value.slice none 0 0] n) 22)) := fun W => run_make_row' 34 22 (.slice none 0 0) 24 Tryz.underlying34 (by kernel_rfl) rfl .i64 .i64 n (by omega) (by omega) W
  have HT : Hid (∀ W, W = swW w a n cap n (sdV (w.heap.size + 1) (w.heap.size + 3) w.heap.size (w.heap.size + 4)) → Calls Tryz.prog 72 #[.int .i64 1, bxP (w.heap.size + 1), bxP (w.heap.size + 3), bxP w.heap.size, bxP (w.heap.size + 4)] W fun e w' => e = .returned (.tuple #[]) ∧ ∃ v, w'.cell? ⟨w.heap.size + 1, 0, none⟩ = some v ∧ Hid (∃ us, Cub (fun _ => False) w' w.heap.size v us ((st2 zs).map castT) ∧ Below w.heap.size w w')) := fun W hW => by
    subst hW
    have hE := se_new (cap := cap) hp hn hs
    have hX := sx_new (w := w) (ah := a) (nh := n) (ch := cap) (sdV (w.heap.size + 1) (w.heap.size + 3) w.heap.size (w.heap.size + 4)) hn40
    have hsum : sZ (fun i => ((pF zs i : Nat) : Int)) n = szN zs + sZ (fun i => ((lnN (List.replicate n []) i : Nat) : Int)) n := by rw [hn]; exact stAll_sum
    refine (Sd_at hE (szN zs) 1 [] _ _ _ _ hX (by simp) (fun i _ => by rw [sum_zero_ln]; exact Nat.zero_le _) hsum (by have := szN_le hp; omega) (fun l hl => by rw [List.eq_of_mem_replicate hl]; exact ⟨by simp, fun z hz => by cases hz⟩)).mono ?_
    rintro e w' ⟨rfl, hS⟩
    have hS2 : SEnd w.heap.size (swW w a n cap n (sdV (w.heap.size + 1) (w.heap.size + 3) w.heap.size (w.heap.size + 4))) (swW w a n cap n (sdV (w.heap.size + 1) (w.heap.size + 3) w.heap.size (w.heap.size + 4))) (w.heap.size + 1) (w.heap.size + 2) (w.heap.size + 5) n (.slice none 0 0) [] (List.replicate n (.slice none 0 0)) (List.replicate n []) (st2 zs) w' := by
      have h2 := hS
      rw [List.length_nil, Nat.sub_zero, hn] at h2
      rw [hn]; exact h2
    obtain ⟨v, us, h1, h2, h3⟩ := cub_of (lo0 := w.heap.size) hp (by omega) hS2
    exact ⟨rfl, v, (cell_oneX h1).1, us, h3, (swW_below w a n cap n _).trans h2⟩
  clear hs hn hp
  go_enter Tryz.func35, Tryz.ntmps35
  go_wp2_with fail
  refine (HT.out _ rfl).mono ?_
  rintro e w2 ⟨rfl, v, hc2, HB2⟩
  go_wp2
  go_ret
  obtain ⟨us, h1, h2⟩ := HB2.out
  exact ⟨v, us, rfl, h1, h2⟩

theorem castT_lens (t : List (List Nat)) : (castT t).map List.length = t.map List.length := by
  unfold castT; rw [List.map_map]; exact List.map_congr_left fun l _ => castL_len l
/-- What fill.All answers: the tableaux in order, or that there are too many. -/
def FaR (zs : List Int) (lo : Nat) (w' : World) (r : Int) (v : Value) : Prop :=
  (r = 0 ∧ (stAll zs).length ≤ 2000 ∧ ∃ us ts, ts.Perm ((stAll zs).map castT) ∧ ts.Pairwise (fun a b => ¬ cmpL b.flatten a.flatten < 0) ∧ Cub (fun _ => False) w' lo v us ts) ∨ (r = 2 ∧ 2000 < (stAll zs).length ∧ v = .slice none 0 0)
set_option maxHeartbeats 2000000 in
theorem FAll_at {ρ : Ren} (L : SlLaysF.n6 Tryz.prog ρ) (hρ : ρ.f 6 = 36) (ef : ∀ args w, (callFunc 37 args).run Tryz.prog w = .ok (.enter 37 args) w) (a : Option Addr) (n cap : Nat) (zs : List Int) (w : World) (hs : Shows w a zs) (hn : n = zs.length) (hp : IsPt zs) :
    Calls Tryz.prog 6 #[.slice a n cap] w fun e w' => ∃ (v : Value) (r : Int), e = .returned (.tuple #[v, .int .i64 r]) ∧ Hid (FaR zs w.heap.size w' r v) ∧ Hid (Below w.heap.size w w') := by
  have H1 : Hid (Calls Tryz.prog 34 #[.slice a n cap] w fun e w' => e = .returned (.int .i64 0) ∧ w' = w) := by
    have := PaCheck_any a cap zs w hs
    rw [of_pt hp, ← hn] at this
    exact this
  obtain ⟨K, HK⟩ : ∃ K, Hid (K = min 2001 (stAll zs).length) := ⟨_, rfl⟩
  have H2 : Hid (Calls Tryz.prog 35 #[.slice a n cap] w fun e w' => ∃ al cl us, e = .returned (.slice al K cl) ∧ Hid (Cub (fun _ => False) w' w.heap.size (.slice al K cl) us ((st2 zs).map castT)) ∧ Hid (Below w.heap.size w w')) := by
    refine (standardOf_at a n cap zs w hs hn hp).mono ?_
    rintro e w' ⟨v, us, rfl, h1, h2⟩
    have hl : us.length = K := by rw [h1.len, List.length_map, st2, List.length_take, HK.out]
    rcases h1.own.2 with ⟨q, h0⟩ | ⟨g, cp, cur, q, _⟩
    · exact ⟨none, 0, us, by rw [q, ← hl, h0], by rw [q] at h1; rw [← hl, h0]; exact h1, h2⟩
    · exact ⟨_, _, us, by rw [q, hl], by rw [q, hl] at h1; exact h1, h2⟩
  have hK : K ≤ 2001 := by rw [HK.out]; omega
  have HP : Hid (IsPt zs) := hp
  have HL : Hid (∃ q : SlLaysF.n6 Tryz.prog ρ, q = L) := ⟨L, rfl⟩
  clear hs hn hp
  go_enter Tryz.func6, Tryz.ntmps6
  go_wp2_with fail
  refine H1.out.mono ?_
  rintro e w' ⟨rfl, hw⟩
  have hw := hw.symm
  subst hw
  go_wp2_with fail
  refine H2.out.mono ?_
  rintro e w2 ⟨al, cl, us, rfl, HC2, HB2⟩
  by_cases hk : K ≤ 2000
  · have hgt : ¬ ((K : Int) > 2000) := by omega
    have HSt : Hid (st2 zs = stAll zs) := by
      show _ = _; unfold st2; exact List.take_of_length_le (by have := HK.out; omega)
    have HS : Hid (Calls Tryz.prog 36 #[.slice al K cl, .func (.func 37) #[] #[]] w2 fun e w' => e = .returned (.tuple #[]) ∧ Hid (FaR zs w.heap.size w' 0 (.slice al K cl)) ∧ Hid (Below w.heap.size w w')) := by
      obtain ⟨L, _⟩ := HL.out
      refine (SortCube_at L hρ 37 ef (.slice al K cl) us ((st2 zs).map castT) w2 HC2.out (by rw [List.length_map, st2, List.length_take]; omega) HB2.out.size (fun W a b ca cb s t hs0 ht0 h1 h2 => ?_)).mono ?_
      · obtain ⟨s, hs, rfl⟩ := List.mem_map.1 hs0
        obtain ⟨t, ht, rfl⟩ := List.mem_map.1 ht0
        refine (fbyLetters_at a b _ _ ca cb (castT s) (castT t) W h1 h2 rfl rfl (by rw [castT_len, (stAll_mem s (st2_mem hs)).1]; have := HP.out.len; omega)).mono ?_
        rintro e w' ⟨rfl, rfl⟩
        refine ⟨by rw [cmpT_flat _ _ (by rw [castT_lens, castT_lens]; exact stAll_lens (st2_mem hs) (st2_mem ht))], 0, #[], ?_⟩
        first | rfl | simp [Go.Sort.grow, World.drewN]
      · rintro e w' ⟨rfl, us', ts', h1, h2, h3, h4, _⟩
        refine ⟨rfl, Or.inl ⟨rfl, by have := HK.out; omega, us', ts', by rw [← HSt.out]; exact h1, h2, h3⟩, HB2.out.trans h4⟩
    clear H1 H2 HC2 HL
    go_wp2_with fail
    refine HS.out.mono ?_
    rintro e w3 ⟨rfl, HF, HB3⟩
    go_wp2
    go_ret2
    exact ⟨_, 0, rfl, HF, HB3⟩
  · have hgt : (K : Int) > 2000 := by omega
    have HR : Hid (FaR zs w.heap.size w2 2 (.slice none 0 0)) := Or.inr ⟨rfl, by have := HK.out; omega, rfl⟩
    clear H1 H2
    go_wp2
    go_ret2
    exact ⟨_, 2, rfl, HR, HB2⟩

end Go.Proofs.YtmbpcapjldbkbaaGreatDoor
