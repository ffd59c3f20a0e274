/-
  The contracts of fill.tableauxOf and fill.AllOf: how many tables they list.
-/
import Derived.Test.YthbcgknfpjabgaaDoorWTl
import Derived.Laws.EntriesVeiled
import Derived.Deep.OwnRows
namespace Go.Proofs.YthbcgknfpjabgaaDoor
open Go.RowKit

theorem Tb_at {H : Nat} {w0 : World} {l0 R lo m bp bs bf bm bh M np cp nh ch : Nat} {zs : List Int} {ap ah : Option Addr} (E : TE w0 l0 R lo m bp bs bf bm bh zs M ap ah np cp nh ch) : ∀ f, TS H w0 l0 R lo m bp bs bf bm bh zs M f := by
  intro f
  induction f with
  | zero =>
    intro i j g us vs vl w hi hj hjm hf hX hu hg hg1
    by_cases hu2 : us.length = 2001
    · refine (Tb_many bp bs bf bm bh _ _ hX hu2).mono ?_
      rintro e w' ⟨rfl, rfl⟩
      exact ⟨rfl, vl, us, vs, hX, by omega⟩
    · obtain rfl : i = m := by omega
      obtain rfl : j = 0 := hjm rfl
      refine (Tb_leaf g E hX (by omega) hg).mono ?_
      rintro e w' ⟨rfl, vl', us', vs', h1, h2⟩
      refine ⟨rfl, vl', us', vs', h1, ?_⟩
      rw [h2, show rb (pF zs) i i 0 = [] by unfold rb; rw [if_neg (by omega)], tsr]
      simp; omega
  | succ f ih =>
    intro i j g us vs vl w hi hj hjm hf hX hu hg hg1
    by_cases hu2 : us.length = 2001
    · refine (Tb_many bp bs bf bm bh _ _ hX hu2).mono ?_
      rintro e w' ⟨rfl, rfl⟩
      exact ⟨rfl, vl, us, vs, hX, by omega⟩
    · by_cases him : i = m
      · subst him
        obtain rfl : j = 0 := hjm rfl
        refine (Tb_leaf g E hX (by omega) hg).mono ?_
        rintro e w' ⟨rfl, vl', us', vs', h1, h2⟩
        refine ⟨rfl, vl', us', vs', h1, ?_⟩
        rw [h2, show rb (pF zs) i i 0 = [] by unfold rb; rw [if_neg (by omega)], tsr]
        simp; omega
      · have hlt : i < m := by omega
        by_cases hjp : j = pF zs i
        · subst hjp
          have hX2 := hX
          rw [rS_next] at hX2
          have hc := ih (i + 1) 0 g us vs vl w (by omega) (fun _ => Nat.zero_le _) (fun _ => rfl) (by rw [← rb_row hlt]; omega) hX2 hu hg (fun q hq => by omega)
          rw [← rS_next, ← rb_row hlt, show ((i + 1 : Nat) : Int) = (i : Int) + 1 by omega] at hc
          exact Tb_next E hX (by omega) hlt hc
        · have hj' : j < pF zs i := by have := hj hlt; omega
          refine Tb_loop g E hX (by omega) hlt hj' hg hg1 (fun x us' vs' vl' W hx1 hx2 hXW huW => ?_)
          have hc := ih i (j + 1) (upd2 g i j x) us' vs' vl' W hi (fun _ => by omega) (fun e => absurd e him) (by
            have := rb_box (c := pF zs) hlt hj'
            rw [this, List.length_cons] at hf
            omega) hXW huW (fun r q => by unfold upd2; split; omega; exact hg r q) (fun q hq => by
              unfold upd2
              by_cases e : i = i ∧ q = j
              · rw [if_pos e]; exact hx1
              · rw [if_neg e]; exact hg1 q (by omega))
          rw [show ((j + 1 : Nat) : Int) = (j : Int) + 1 by omega] at hc
          exact hc

/-- The world in which the closure is called first. -/
abbrev twW (w1 : World) (ah : Option Addr) (nh ch n : Nat) (fv : Value) : World :=
  ((((w1.alloc (.cells #[.slice ah nh ch] 22)).alloc (.cells #[.slice none 0 0] 26)).alloc (.cells (madeCells #[Value.slice none 0 0] n) 22)).alloc (.cells #[.slice (some ⟨w1.heap.size + 2, 0, none⟩) n n] 34)).alloc (.cells #[fv] 52)
theorem twW_size (w1 : World) (ah : Option Addr) (nh ch n : Nat) (fv : Value) : (twW w1 ah nh ch n fv).heap.size = w1.heap.size + 5 := by simp
theorem twW_below (w1 : World) (ah : Option Addr) (nh ch n : Nat) (fv : Value) : Below w1.heap.size w1 (twW w1 ah nh ch n fv) := by
  refine ((((((Below.refl _ _).alloc (Nat.le_refl _) _).alloc ?_ _).alloc ?_ _).alloc ?_ _).alloc ?_ _) <;> simp <;> omega
theorem twW_blk (w1 : World) (ah : Option Addr) (nh ch n : Nat) (fv : Value) :
    (twW w1 ah nh ch n fv).heap[w1.heap.size]? = some (.cells #[.slice ah nh ch] 22 (0, 0)) ∧ (twW w1 ah nh ch n fv).heap[w1.heap.size + 1]? = some (.cells #[.slice none 0 0] 26 (0, 0)) ∧ (twW w1 ah nh ch n fv).heap[w1.heap.size + 2]? = some (.cells (madeCells #[Value.slice none 0 0] n) 22 (0, 0)) ∧ (twW w1 ah nh ch n fv).heap[w1.heap.size + 3]? = some (.cells #[.slice (some ⟨w1.heap.size + 2, 0, none⟩) n n] 34 (0, 0)) ∧ (twW w1 ah nh ch n fv).heap[w1.heap.size + 4]? = some (.cells #[fv] 52 (0, 0)) := by
  refine ⟨?_, ?_, ?_, ?_, ?_⟩
  · rw [Below.heap_alloc _ _ _ (by simp <;> omega), Below.heap_alloc _ _ _ (by simp <;> omega), Below.heap_alloc _ _ _ (by simp <;> omega), Below.heap_alloc _ _ _ (by simp)]
    exact heap_alloc_new _ _
  · rw [Below.heap_alloc _ _ _ (by simp <;> omega), Below.heap_alloc _ _ _ (by simp <;> omega), Below.heap_alloc _ _ _ (by simp)]
    have := heap_alloc_new (w1.alloc (.cells #[.slice ah nh ch] 22)) (.cells #[.slice none 0 0] 26)
    simpa using this
  · rw [Below.heap_alloc _ _ _ (by simp <;> omega), Below.heap_alloc _ _ _ (by simp)]
    have := heap_alloc_new ((w1.alloc (.cells #[.slice ah nh ch] 22)).alloc (.cells #[.slice none 0 0] 26)) (.cells (madeCells #[Value.slice none 0 0] n) 22)
    simpa using this
  · rw [Below.heap_alloc _ _ _ (by simp)]
    have := heap_alloc_new (((w1.alloc (.cells #[.slice ah nh ch] 22)).alloc (.cells #[.slice none 0 0] 26)).alloc (.cells (madeCells #[Value.slice none 0 0] n) 22)) (.cells #[.slice (some ⟨w1.heap.size + 2, 0, none⟩) n n] 34)
    simpa using this
  · have := heap_alloc_new ((((w1.alloc (.cells #[.slice ah nh ch] 22)).alloc (.cells #[.slice none 0 0] 26)).alloc (.cells (madeCells #[Value.slice none 0 0] n) 22)).alloc (.cells #[.slice (some ⟨w1.heap.size + 2, 0, none⟩) n n] 34)) (.cells #[fv] 52)
    simpa using this
theorem shown_at {w W : World} {a : Option Addr} {zs : List Int} (h : Shows w a zs) {i : Nat} (hi : i < zs.length) (hW : ∀ k, k < w.heap.size → W.heap[k]? = w.heap[k]?) : ∃ b o, a = some ⟨b, o, none⟩ ∧ W.cell? ⟨b, o + i, none⟩ = some (.int .i64 (zs.getD i 0)) := by
  obtain ⟨b, o, z, e, HZ, -, -, hc⟩ := h.elem hi
  refine ⟨b, o, e, ?_⟩
  have hb : b < w.heap.size := by
    rcases Nat.lt_or_ge b w.heap.size with q | q
    · exact q
    · rw [World.cell?] at hc
      simp [Array.getElem?_eq_none q] at hc
  rw [World.cell?_of_block (w := w) (hW b hb), hc, HZ.out]

/-- Where the closure begins. -/
theorem tx_new {w w1 : World} {ah : Option Addr} {nh ch n : Nat} {zs : List Int} (fv : Value) (hn : n = zs.length) (hn40 : n ≤ 40) (hb : Below w.heap.size w w1) :
    TX w.heap.size (twW w1 ah nh ch n fv) (twW w1 ah nh ch n fv) (w1.heap.size + 1) (w1.heap.size + 2) (w1.heap.size + 5) n (.slice none 0 0) [] (List.replicate n (.slice none 0 0)) (rS (pF zs) (fun _ _ => 0) n 0 0) := by
  obtain ⟨b0, b1, b2, b3, b4⟩ := twW_blk w1 ah nh ch n fv
  have hrows : castT (rS (pF zs) (fun _ _ => 0) n 0 0) = List.replicate n [] := by
    unfold castT rS
    rw [List.map_map, List.eq_replicate_iff]
    refine ⟨by simp, fun b hb => ?_⟩
    obtain ⟨r, _, rfl⟩ := List.mem_map.1 hb
    simp only [Function.comp]
    rw [if_neg (by omega)]
    split <;> simp [castL]
  have hsz := hb.size
  refine ⟨fun _ _ _ _ => rfl, by rw [twW_size]; exact Nat.le_refl _, b1, World.ownsRow_nil _ _ _ _, ?_, fun i hi g hg => ?_, fun i hi g hg => ?_, ⟨by omega, by omega, by omega⟩, rS_len _ _ _ _ _, Below.refl _ _, ⟨by omega, by omega⟩⟩
  · rw [hrows]
    refine tbl_made ⟨by rw [toList_madeCells_one]; simp, Or.inr ⟨w1.heap.size + 2, n, madeCells #[Value.slice none 0 0] n, rfl, Nat.le_refl _, b2, Nat.le_refl _, by unfold maxLen; omega, by rw [← Array.length_toList, toList_madeCells_one]; simp, ?_⟩⟩
    rw [Nat.mul_one, List.take_of_length_le (by rw [toList_madeCells_one]; simp)]
  · have : rowv (List.replicate n (Value.slice none 0 0)) i = .slice none 0 0 := by simp [rowv, List.getD, hi]
    rw [this] at hg; cases hg
  · have : rowv (List.replicate n (Value.slice none 0 0)) i = .slice none 0 0 := by simp [rowv, List.getD, hi]
    rw [this] at hg; cases hg
theorem te_new {w wB w1 : World} {a ah : Option Addr} {nh ch n cap M : Nat} {zs : List Int} (hp : IsPt zs) (hn : n = zs.length) (hM : M ≤ 99) (hs : Shows w a zs) (hB : wB = (w.alloc (.cells #[.slice a n cap] 22)).alloc (.cells #[.int .i64 (M : Int)] 3)) (hb : Below wB.heap.size wB w1) (hh : Shows w1 ah (ptConj zs)) (hnh : nh = pF zs 0) :
    TE (twW w1 ah nh ch n (tbV (w1.heap.size + 1) w.heap.size (w1.heap.size + 3) (w1.heap.size + 4) (w.heap.size + 1) w1.heap.size)) (w1.heap.size + 1) (w1.heap.size + 2) (w1.heap.size + 5) n w.heap.size (w1.heap.size + 3) (w1.heap.size + 4) (w.heap.size + 1) w1.heap.size zs M a ah n cap nh ch := by
  have hBs : wB.heap.size = w.heap.size + 2 := by rw [hB]; simp
  have p0 : wB.heap[w.heap.size]? = some (.cells #[.slice a n cap] 22 (0, 0)) := by
    rw [hB, Below.heap_alloc _ _ _ (by simp)]; exact heap_alloc_new _ _
  have p1 : wB.heap[w.heap.size + 1]? = some (.cells #[.int .i64 (M : Int)] 3 (0, 0)) := by
    rw [hB]
    have := heap_alloc_new (w.alloc (.cells #[.slice a n cap] 22)) (.cells #[.int .i64 (M : Int)] 3)
    simpa using this
  have hwB : Below w.heap.size w wB := by rw [hB]; exact ((Below.refl _ _).alloc (Nat.le_refl _) _).alloc (by simp) _
  have hsz := hb.size
  generalize hfv : tbV (w1.heap.size + 1) w.heap.size (w1.heap.size + 3) (w1.heap.size + 4) (w.heap.size + 1) w1.heap.size = fv
  have hT := twW_below w1 ah nh ch n fv
  obtain ⟨b0, b1, b2, b3, b4⟩ := twW_blk w1 ah nh ch n fv
  have key : ∀ W : World, (∀ k, k < w1.heap.size + 5 → k ≠ w1.heap.size + 1 → k ≠ w1.heap.size + 2 → W.heap[k]? = (twW w1 ah nh ch n fv).heap[k]?) → ∀ k, k < w1.heap.size → W.heap[k]? = w1.heap[k]? := fun W hW k hk => by
    rw [hW k (by omega) (by omega) (by omega), hT.block k hk]
  refine ⟨hp, hn, hM, ⟨rfl, hnh⟩, fun W hW => ⟨?_, ?_, ?_, ?_, ?_⟩, fun W hW i hi => ?_, fun W hW j hj => ?_⟩
  · refine (cell_oneX (ty := 22) ?_).1
    rw [key W hW _ (by omega), hb.block _ (by omega)]; exact p0
  · refine (cell_oneX (ty := 3) ?_).1
    rw [key W hW _ (by omega), hb.block _ (by omega)]; exact p1
  · refine (cell_oneX (ty := 22) ?_).1
    rw [hW _ (by omega) (by omega) (by omega)]; exact b0
  · refine (cell_oneX (ty := 34) ?_).1
    rw [hW _ (by omega) (by omega) (by omega)]; exact b3
  · refine (cell_oneX (ty := 52) ?_).1
    rw [hW _ (by omega) (by omega) (by omega), hfv]; exact b4
  · obtain ⟨b, o, e1, e2⟩ := shown_at (W := W) hs (by rw [← hn]; exact hi) (fun k hk => by rw [key W hW k (by omega), hb.block k (by omega), hwB.block k hk])
    exact ⟨b, o, e1, by rw [e2, pF_cast hp]⟩
  · obtain ⟨b, o, e1, e2⟩ := shown_at (W := W) hh (i := j) (by rw [conj_len]; exact hj) (fun k hk => key W hW k hk)
    refine ⟨b, o, e1, ?_⟩
    rw [e2]
    unfold ptConj
    rw [show (tab (zs.getD 0 0).toNat (ptCol zs)).getD j 0 = ptCol zs j from tab_atX (n := (zs.getD 0 0).toNat) hj, htF_cast]

set_option maxHeartbeats 4000000 in
set_option maxRecDepth 100000 in
theorem tableauxOf_at (a : Option Addr) (n cap M : Nat) (zs : List Int) (w : World) (hs : Shows w a zs) (hn : n = zs.length) (hp : IsPt zs) (hM : M ≤ 99) :
    Calls Tryd.prog 13 #[.slice a n cap, .int .i64 (M : Int)] w fun e w' => ∃ al cl, e = .returned (.slice al (min 2001 (tabsOf zs M).length) cl) ∧ Below w.heap.size w w' := by
  obtain ⟨K, HK⟩ : ∃ K, Hid (K = min 2001 (tabsOf zs M).length) := ⟨_, rfl⟩
  rw [← HK.out]
  have hn40 : n ≤ 40 := by rw [hn]; exact hp.len
  have hmR : ∀ W, (Instr.makeSlice 34 (.int .i64 (n : Int)) (.int .i64 (n : Int))).run Tryd.prog W = .ok (.slice (some ⟨W.heap.size, 0, none⟩) n n) (W.alloc (.cells (madeCells #[Value.slice none 0 0] n) 22)) := fun W => run_make_row' 34 22 (.slice none 0 0) 24 Tryd.underlying34 (by kernel_rfl) rfl .i64 .i64 n (by omega) (by omega) W
  obtain ⟨wB, hB⟩ : ∃ wB, wB = (w.alloc (.cells #[.slice a n cap] 22)).alloc (.cells #[.int .i64 (M : Int)] 3) := ⟨_, rfl⟩
  have hwB : Below w.heap.size w wB := by rw [hB]; exact ((Below.refl _ _).alloc (Nat.le_refl _) _).alloc (by simp) _
  have hBs : wB.heap.size = w.heap.size + 2 := by rw [hB]; simp
  have HC : Hid (Calls Tryd.prog 7 #[.slice a n cap] wB fun e w' => ∃ ah nh ch, e = .returned (.tuple #[.slice ah nh ch, .int .i64 0]) ∧ Hid (Shows w' ah (ptConj zs)) ∧ Hid (nh = pF zs 0) ∧ Hid (Below wB.heap.size wB w')) := by
    refine (Conjugate_ok a n cap zs wB (hs.below hwB) hn hp).mono ?_
    rintro e w' ⟨v, rfl, ho, hb⟩
    obtain ⟨ah, ch, rfl, hh⟩ := ho.shows (by rw [conj_len]; have := pF_le hp 0; omega) (fun z hz => by have := (conj_pt hp).range z hz; omega)
    exact ⟨ah, _, ch, rfl, hh, conj_len zs, hb⟩
  have p0 : wB.cell? ⟨w.heap.size, 0, none⟩ = some (.slice a n cap) := by
    refine (cell_oneX (ty := 22) ?_).1
    rw [hB, Below.heap_alloc _ _ _ (by simp)]; exact heap_alloc_new _ _
  have HT : Hid (∀ w1 ah nh ch, Below wB.heap.size wB w1 → Shows w1 ah (ptConj zs) → nh = pF zs 0 → ∀ W, W = twW w1 ah nh ch n (tbV (w1.heap.size + 1) w.heap.size (w1.heap.size + 3) (w1.heap.size + 4) (w.heap.size + 1) w1.heap.size) → Calls Tryd.prog 22 #[.int .i64 0, .int .i64 0, bxP (w1.heap.size + 1), bxP w.heap.size, bxP (w1.heap.size + 3), bxP (w1.heap.size + 4), bxP (w.heap.size + 1), bxP w1.heap.size] W fun e w' => e = .returned (.tuple #[]) ∧ ∃ al cl, w'.cell? ⟨w1.heap.size + 1, 0, none⟩ = some (.slice al K cl) ∧ Hid (Below w.heap.size w w')) := fun w1 ah nh ch hb hh hnh W hW => by
    subst hW
    have hwb1 : Below w.heap.size w w1 := hwB.trans (hb.mono hwB.size)
    have hE := te_new (cap := cap) (ch := ch) hp hn hM hs hB hb hh hnh
    have hX := tx_new (ah := ah) (nh := nh) (ch := ch) (zs := zs) (tbV (w1.heap.size + 1) w.heap.size (w1.heap.size + 3) (w1.heap.size + 4) (w.heap.size + 1) w1.heap.size) hn hn40 hwb1
    refine (Tb_at hE _ 0 0 (fun _ _ => 0) [] _ _ _ (Nat.zero_le _) (fun _ => Nat.zero_le _) (fun _ => rfl) (Nat.le_refl _) hX (by simp) (fun _ _ => by omega) (fun q hq => by omega)).mono ?_
    rintro e w' ⟨rfl, vl, us, vs, hX2, hu⟩
    obtain ⟨al, cl, rfl⟩ := hX2.shape
    refine ⟨rfl, al, cl, ?_, hwb1.trans (((twW_below w1 ah nh ch n _).mono hwb1.size).trans hX2.be)⟩
    rw [(cell_oneX hX2.lb).1, hu, HK.out, rb_start]
    simp only [List.length_nil, Nat.zero_add]
    rw [hn]
    rfl
  clear hs hn hp hwB
  go_enter Tryd.func13, Tryd.ntmps13
  go_upto_region 1 with fail
  rw [← hB]
  clear hB
  go_wp2_with fail
  refine HC.out.mono ?_
  rintro e w1 ⟨ah, nh, ch, rfl, HS1, HNh, HB1⟩
  have p1 : w1.cell? ⟨w.heap.size, 0, none⟩ = some (.slice a n cap) := by rw [HB1.out.cell (p := ⟨w.heap.size, 0, none⟩) (by show w.heap.size < _; omega)]; exact p0
  have hlt1 : w.heap.size < w1.heap.size := by have := HB1.out.size; omega
  have HTc := hid_t (HT.out w1 ah nh ch HB1.out HS1.out HNh.out)
  clear HT HC p0
  go_wp2_with fail
  refine (HTc.out _ rfl).mono ?_
  rintro e w2 ⟨rfl, al, cl, hc2, HB2⟩
  go_wp2
  go_ret
  exact ⟨al, cl, rfl, HB2.out⟩

/-- So many, or too many. -/
def AoR (zs : List Int) (M : Nat) (r : Int) (k : Nat) : Prop := r = 0 ∧ k = (tabsOf zs M).length ∧ k ≤ 2000 ∨ r = 2

set_option maxHeartbeats 2000000 in
theorem AllOf_at (a : Option Addr) (n cap M : Nat) (zs : List Int) (w : World) (hs : Shows w a zs) (hn : n = zs.length) (hp : IsPt zs) (hM : M ≤ 99) :
    Calls Tryd.prog 5 #[.slice a n cap, .int .i64 (M : Int)] w fun e w' => ∃ (al : Option Addr) (k cl : Nat) (r : Int), e = .returned (.tuple #[.slice al k cl, .int .i64 r]) ∧ AoR zs M r k ∧ Hid (Below w.heap.size w w') := by
  obtain ⟨K, HK⟩ : ∃ K, Hid (K = min 2001 (tabsOf zs M).length) := ⟨_, rfl⟩
  have H1 : Hid (Calls Tryd.prog 12 #[.slice a n cap] w fun e w' => e = .returned (.int .i64 0) ∧ w' = w) := by
    have := PaCheck_any a cap zs w hs
    rw [of_pt hp, ← hn] at this
    exact this
  have H2 : Hid (Calls Tryd.prog 13 #[.slice a n cap, .int .i64 (M : Int)] w fun e w' => ∃ al cl, e = .returned (.slice al K cl) ∧ Hid (Below w.heap.size w w')) := by
    rw [HK.out]; exact tableauxOf_at a n cap M zs w hs hn hp hM
  have g0 : ¬ ((M : Int) < 0) := by omega
  have g1 : ¬ ((M : Int) > 99) := by omega
  have hK : K ≤ 2001 := by rw [HK.out]; omega
  clear hs hn hp
  go_enter Tryd.func5, Tryd.ntmps5
  go_wp2_with fail
  refine H1.out.mono ?_
  rintro e w' ⟨rfl, hw⟩
  obtain rfl := hw
  go_wp2_with fail
  refine H2.out.mono ?_
  rintro e w2 ⟨al, cl, rfl, HB2⟩
  by_cases hk : K ≤ 2000
  · have hgt : ¬ ((K : Int) > 2000) := by omega
    have HR : AoR zs M 0 K := Or.inl ⟨rfl, by have := HK.out; omega, hk⟩
    clear H1 H2
    go_wp2
    go_ret2
    exact ⟨al, K, cl, 0, rfl, HR, HB2⟩
  · have hgt : (K : Int) > 2000 := by omega
    have HR : AoR zs M 2 0 := Or.inr rfl
    clear H1 H2
    go_wp2
    go_ret2
    exact ⟨none, 0, 0, 2, rfl, HR, HB2⟩

end Go.Proofs.YthbcgknfpjabgaaDoor
