/-
  The contract of insert.Back.
-/
import Derived.Test.YtpbmcaoomcippadIBck
namespace Go.Proofs.Ytpbmcaoomcippad
open Go.RowKit

/-- Where pairs lie: cells of pair i. -/
theorem OwnsP.cells {w : World} {lo : Nat} {v : Value} {l : List (Int × Int)} (h : OwnsP w lo v l) (h0 : 0 < l.length) : ∃ g c, v = .slice (some ⟨g, 0, none⟩) l.length c ∧ lo ≤ g ∧ g < w.heap.size ∧ ∀ i, i < l.length → w.cell? ⟨g, i * 2, none⟩ = some (.int .i64 (l.getD i (0, 0)).1) ∧ w.cell? ⟨g, i * 2 + 1, none⟩ = some (.int .i64 (l.getD i (0, 0)).2) := by
  have h1 : w.ownsRow lo 39 2 v l.length (pc l) := h
  rcases h1.2 with ⟨h2, h3⟩ | ⟨g, cap, cur, hv, hg, hh, _⟩
  · omega
  · subst hv
    refine ⟨g, cap, rfl, hg, (Array.getElem?_eq_some_iff.1 hh).1, fun i hi => ?_⟩
    rw [World.ownsRow.cellAt h1 (i * 2) (by omega), World.ownsRow.cellAt h1 (i * 2 + 1) (by omega)]
    exact pc_get l i hi
theorem OwnsP.shape {w : World} {lo : Nat} {v : Value} {l : List (Int × Int)} (h : OwnsP w lo v l) : ∃ a c, v = .slice a l.length c := by
  have h1 : w.ownsRow lo 39 2 v l.length (pc l) := h
  rcases h1.2 with ⟨h2, h3⟩ | ⟨g, cap, cur, hv, hg, hh, _⟩
  · exact ⟨none, 0, by rw [h2, h3]⟩
  · exact ⟨_, _, hv⟩

/-- What is wrong with p, q for Back. -/
def backC (p q : List (List Int)) : Int := if bothC p q ≠ 0 then bothC p q else if stdB q = true then 0 else 3
theorem backC_ok {p q : List (List Int)} : backC p q = 0 ↔ bothC p q = 0 ∧ stdB q = true := by
  unfold backC
  by_cases h1 : bothC p q ≠ 0
  · rw [if_pos h1]; exact ⟨fun h => absurd h h1, fun h => absurd h.1 h1⟩
  · rw [if_neg h1]
    have h1 := Decidable.not_not.1 h1
    by_cases h2 : stdB q = true
    · rw [if_pos h2]; exact ⟨fun _ => ⟨h1, h2⟩, fun _ => rfl⟩
    · rw [if_neg h2]; exact ⟨fun h => by omega, fun h => absurd h.2 h2⟩
def BkR (p q : List (List Int)) (c : Int) (l : List Int) : Prop := c = backC p q ∧ l = if c = 0 then (undo q.flatten.length p q).map Prod.snd else []

theorem map_snd_getD (l : List (Int × Int)) (i : Nat) : (l.map Prod.snd).getD i 0 = (l.getD i (0, 0)).2 := by
  simp only [List.getD, List.getElem?_map]
  cases l[i]? <;> rfl

set_option maxHeartbeats 4000000 in
set_option maxRecDepth 100000 in
theorem Back_ok {p q : List (List Int)} (a b : Option Addr) (n m ca cb : Nat) (w : World) (hp : Table w a p) (hq : Table w b q) (hn : n = p.length) (hm : m = q.length) (hc : backC p q = 0) :
    Calls Try.prog 14 #[.slice a n ca, .slice b m cb] w fun e w' => ∃ v, e = .returned (.tuple #[v, .int .i64 0]) ∧ Owns w' w.heap.size v ((undo q.flatten.length p q).map Prod.snd) ∧ Below w.heap.size w w' := by
  subst hn; subst hm
  obtain ⟨hc1, hc2⟩ := backC_ok.1 hc
  have HC : Hid (bothC p q = 0) := hc1
  obtain ⟨t1, t2, t3⟩ := bothC_ok.1 hc1
  have HSd : Hid (StdR q 0 true) := ⟨tchk_ok.2 t2, by rw [if_pos rfl]; exact hc2.symm⟩
  have hlp : p.length ≤ 17592186044416 := by have := t1.rows; omega
  have hlq : q.length ≤ 17592186044416 := by have := t2.rows; omega
  obtain ⟨q1, q2, q3⟩ := PQ.of_both hc1
  have HPQ : Hid (PQ q.flatten.length p q) := q1
  have HB3 : Hid (∀ z ∈ p.flatten, 1 ≤ z ∧ z ≤ 99) := q3
  have HP : Hid (Table w a p) := hp
  have HQ : Hid (Table w b q) := hq
  have HNN : Hid (q.flatten.length ≤ 40) := q2
  obtain ⟨i0, hi, hz0, hz1, hz2⟩ := info_parts Try.info3
  clear hp hq hc hc1 hc2 t1 t2 t3 q1 q2 q3
  go_enter Try.func14, Try.ntmps14
  go_wp2_with fail
  refine (checkBoth_at _ _ _ _ _ _ _ HP.out HQ.out rfl rfl hlp hlq HC).mono ?_
  rintro e w1 ⟨rfl, hb1⟩
  have HB1 : Hid (Below w.heap.size w w1) := hb1
  clear hb1
  go_wp2_with fail
  refine (IsStd_at _ _ _ _ (HQ.out.below HB1.out) hlq rfl HSd.out).mono ?_
  rintro e w2 ⟨rfl, hb2⟩
  have HB2 : Hid (Below w.heap.size w w2) := HB1.out.trans (hb2.mono HB1.out.size)
  clear hb2
  go_wp2_with fail
  refine (takenPairs_at _ _ _ _ _ _ _ (HP.out.below HB2.out) (HQ.out.below HB2.out) rfl rfl HPQ.out HNN.out HB3.out).mono ?_
  rintro e w3 ⟨v3, rfl, hO3, hb3⟩
  obtain ⟨l, HL⟩ : ∃ l, Hid (l = undo q.flatten.length p q) := ⟨_, rfl⟩
  have HLl : Hid (l.length = q.flatten.length) := by rw [HL.out]; exact undo_length _ _ _
  rw [← HL.out] at hO3
  obtain ⟨a3, c3, hsv⟩ := hO3.shape
  subst hsv
  obtain ⟨N, HN⟩ : ∃ N, Hid (N = l.length) := ⟨_, rfl⟩
  have hN40 : N ≤ 40 := by rw [HN.out, HLl.out]; exact HNN.out
  have HO3 : Hid (OwnsP w3 w2.heap.size (.slice a3 N c3) l) := by rw [HN.out]; exact hO3
  have HB3' : Hid (Below w.heap.size w w3) := HB2.out.trans (hb3.mono HB2.out.size)
  rw [← HN.out]
  clear hO3 hb3
  go_wp2_with (at_make; refine wpList_make_full _ rfl _ _ 22 rfl w3.heap.size 3 i0 (.int .i64 0) 1 Try.underlying22 hi hz0 hz1 _ _ _ _ N rfl rfl rfl rfl ?b1 ?b2 ?b3 ?_)
  case b1 => rw [hz2]; omega
  case b2 => unfold maxLen; omega
  case b3 => exact Nat.le_refl _
  intro w4 hown hgrow
  have hbg : Below w3.heap.size w3 w4 := (Below.refl _ _).grown hgrow (Nat.le_refl _) (fun k h => by cases h)
  obtain ⟨G, HG⟩ : ∃ G, Hid (G = w3.heap.size) := ⟨_, rfl⟩
  rw [← HG.out] at hown
  have HW0 : Hid (Owns w4 G (.slice (some ⟨G, 0, none⟩) N N) (tab N (fun _ => 0))) := owns_made (by rw [HG.out]; rw [HG.out] at hown; simpa [Value.cells] using hown)
  have HO4 : Hid (OwnsP w4 w2.heap.size (.slice a3 N c3) l) := HO3.out.below hbg
  have HB4 : Hid (Below w.heap.size w w4) := HB3'.out.trans (hbg.mono HB3'.out.size)
  have HGw : Hid (w.heap.size ≤ G) := by rw [HG.out]; exact HB3'.out.size
  have HG4 : Hid (G < w4.heap.size) := (HW0.out.lt (g := G) rfl).2
  have HO3G : Hid (∀ k, (Value.slice a3 N c3).ownBlock = some k → k < G) := fun k e => by rw [HG.out]; exact (HO3.out.lt k e).2
  rw [← HG.out]
  clear hown hgrow hbg
  go_wp2
  go_loopw [34] (fun q wr => ∃ k : Nat, k ≤ N ∧ q = .int .i64 k ∧ Hid (Owns wr G (.slice (some ⟨G, 0, none⟩) N N) (tab N (fun j => if j < k then (l.getD j (0, 0)).2 else 0))) ∧ Hid (OwnsP wr w2.heap.size (.slice a3 N c3) l) ∧ Hid (Below w.heap.size w wr) ∧ Hid (w4.heap.size ≤ wr.heap.size)) (fun q _ => N - (intOf q).toNat)
  case atStart => exact ⟨0, Nat.zero_le _, rfl, HW0.out.tabCongr (fun j _ => by rw [if_neg (by omega)]), HO4, HB4, Nat.le_refl _⟩
  case round =>
    obtain ⟨k, hk, rfl, HW, HO, HB, HZ⟩ := hrel
    by_cases hlt : k < N
    · have hlt' : (k : Int) < (N : Int) := by omega
      have hkl : k < l.length := by rw [← HN.out]; exact hlt
      obtain ⟨g, c5, hsl, hg1, hg2, hcells⟩ := HO.out.cells (by omega)
      simp only [Value.slice.injEq] at hsl
      obtain ⟨rfl, -, rfl⟩ := hsl
      obtain ⟨hc0, hc1⟩ := hcells k hkl
      obtain ⟨x, HX⟩ : ∃ x, Hid (x = (l.getD k (0, 0)).1) := ⟨_, rfl⟩
      obtain ⟨y, HY⟩ : ∃ y, Hid (y = (l.getD k (0, 0)).2) := ⟨_, rfl⟩
      rw [← HX.out] at hc0
      rw [← HY.out] at hc1
      clear hcells
      obtain ⟨hfz, hck⟩ := HW.out.tabAt hlt
      have hGw : G < wr.heap.size := by have := HG4.out; have := HZ.out; omega
      have hbA : Below wr.heap.size wr (wr.alloc (.cells #[.int .i64 x, .int .i64 y] 39)) := (Below.refl _ _).alloc (Nat.le_refl _) _
      have hfz2 : (wr.alloc (.cells #[.int .i64 x, .int .i64 y] 39)).frozen? ⟨G, k, none⟩ = false := by rw [hbA.frozen (p := ⟨G, k, none⟩) hGw]; exact hfz
      have hck2 := (hbA.cell (p := ⟨G, k, none⟩) hGw).trans hck
      have HW2 : Hid (Owns ((wr.alloc (.cells #[.int .i64 x, .int .i64 y] 39)).setCell ⟨G, k, none⟩ (.int .i64 y)) G (.slice (some ⟨G, 0, none⟩) N N) (tab N (fun j => if j < k + 1 then (l.getD j (0, 0)).2 else 0))) := by
        have := (HW.out.below hbA).tabStore k y
        refine this.tabCongr (fun j _ => ?_)
        unfold upd
        by_cases e : j = k
        · rw [if_pos e, if_pos (by omega), HY.out, e]
        · rw [if_neg e]
          show (if j < k then (l.getD j (0, 0)).2 else 0) = if j < k + 1 then (l.getD j (0, 0)).2 else 0
          by_cases e2 : j < k
          · rw [if_pos e2, if_pos (by omega)]
          · rw [if_neg e2, if_neg (by omega)]
      have HO2 : Hid (OwnsP ((wr.alloc (.cells #[.int .i64 x, .int .i64 y] 39)).setCell ⟨G, k, none⟩ (.int .i64 y)) w2.heap.size (.slice (some ⟨g, 0, none⟩) N c3) l) :=
        ownsRow_blocks (HO.out.below hbA) (fun b e => heap_setCell_other _ _ _ _ (fun e2 => by have := HO3G.out b e; simp only at e2; omega))
      have HB2' : Hid (Below w.heap.size w ((wr.alloc (.cells #[.int .i64 x, .int .i64 y] 39)).setCell ⟨G, k, none⟩ (.int .i64 y))) := (HB.out.trans (hbA.mono HB.out.size)).setCell (p := ⟨G, k, none⟩) HGw.out _
      have HZ2 : Hid (w4.heap.size ≤ ((wr.alloc (.cells #[.int .i64 x, .int .i64 y] 39)).setCell ⟨G, k, none⟩ (.int .i64 y)).heap.size) := by have := HZ.out; have := hbA.size; show _ ≤ _; simp at this ⊢; omega
      clear hfz hck hbA hGw
      go_wp2
      go_roundw
      case rel => exact ⟨k + 1, by omega, by go_num, HW2, HO2, HB2', HZ2⟩
      case measure => simp [intOf]; omega
    · obtain rfl : k = N := by omega
      have HE : Hid (Owns wr w.heap.size (.slice (some ⟨G, 0, none⟩) k k) ((undo q.flatten.length p q).map Prod.snd)) := by
        have h1 := HW.out.mono HGw.out
        have e : tab k (fun j => if j < k then (l.getD j (0, 0)).2 else 0) = l.map Prod.snd := by
          refine ext_getD (by rw [tab_length, List.length_map]; exact HN.out) (fun j hj => ?_)
          rw [tab_length] at hj
          rw [tab_getD _ _ _ hj, if_pos hj, map_snd_getD]
        rw [e, HL.out] at h1; exact h1
      go_wp2
      go_ret2
      exact ⟨_, rfl, HE.out, HB.out⟩

theorem Back_err {p q : List (List Int)} {c : Int} (a b : Option Addr) (n m ca cb : Nat) (w : World) (hp : Table w a p) (hq : Table w b q) (hn : n = p.length) (hm : m = q.length) (hlp : p.length ≤ 17592186044416) (hlq : q.length ≤ 17592186044416) (hc : backC p q = c) (h0 : c ≠ 0) :
    Calls Try.prog 14 #[.slice a n ca, .slice b m cb] w fun e w' => e = .returned (.tuple #[.slice none 0 0, .int .i64 c]) ∧ Below w.heap.size w w' := by
  subst hn; subst hm
  have HP : Hid (Table w a p) := hp
  have HQ : Hid (Table w b q) := hq
  clear hp hq
  by_cases hb : bothC p q = 0
  · have HC : Hid (bothC p q = 0) := hb
    have hsf : stdB q = false := by
      cases e : stdB q with
      | false => rfl
      | true => exact absurd (backC_ok.2 ⟨hb, e⟩) (by rw [hc]; exact h0)
    have HSd : Hid (StdR q 0 false) := ⟨tchk_ok.2 (bothC_ok.1 hb).2.1, by rw [if_pos rfl]; exact hsf.symm⟩
    have HC3 : Hid (c = 3) := by
      rw [← hc]; unfold backC
      rw [if_neg (by rw [hb]; simp), if_neg (by rw [hsf]; simp)]; rfl
    clear hb hsf hc
    go_enter Try.func14, Try.ntmps14
    go_wp2_with fail
    refine (checkBoth_at _ _ _ _ _ _ _ HP.out HQ.out rfl rfl hlp hlq HC).mono ?_
    rintro e w1 ⟨rfl, hb1⟩
    have HB1 : Hid (Below w.heap.size w w1) := hb1
    clear hb1
    go_wp2_with fail
    refine (IsStd_at _ _ _ _ (HQ.out.below HB1.out) hlq rfl HSd.out).mono ?_
    rintro e w2 ⟨rfl, hb2⟩
    have HB2 : Hid (Below w.heap.size w w2) := HB1.out.trans (hb2.mono HB1.out.size)
    clear hb2
    go_wp2
    go_ret2
    exact ⟨by rw [HC3.out]; rfl, HB2.out⟩
  · obtain ⟨d, hd⟩ : ∃ d, bothC p q = d := ⟨_, rfl⟩
    have HC : Hid (bothC p q = d) := hd
    have hdb : (d != 0) = true := by rw [bne_iff_ne, ← hd]; exact hb
    have HCd : Hid (c = d) := by
      rw [← hc]; unfold backC
      rw [if_pos hb, hd]; rfl
    clear hb hd hc
    go_enter Try.func14, Try.ntmps14
    go_wp2_with fail
    refine (checkBoth_at _ _ _ _ _ _ _ HP.out HQ.out rfl rfl hlp hlq HC).mono ?_
    rintro e w1 ⟨rfl, hb1⟩
    go_wp2
    go_ret2
    exact ⟨by rw [HCd.out]; rfl, hb1⟩
theorem Back_at {p q : List (List Int)} {c : Int} {l : List Int} (a b : Option Addr) (n m ca cb : Nat) (w : World) (hp : Table w a p) (hq : Table w b q) (hn : n = p.length) (hm : m = q.length) (hlp : p.length ≤ 17592186044416) (hlq : q.length ≤ 17592186044416) (hr : BkR p q c l) :
    Calls Try.prog 14 #[.slice a n ca, .slice b m cb] w fun e w' => ∃ v, e = .returned (.tuple #[v, .int .i64 c]) ∧ Owns w' w.heap.size v l ∧ Below w.heap.size w w' := by
  obtain ⟨hc, hl⟩ := hr
  by_cases h0 : c = 0
  · subst h0
    rw [if_pos rfl] at hl
    subst hl
    exact Back_ok a b n m ca cb w hp hq hn hm hc.symm
  · rw [if_neg h0] at hl
    subst hl
    exact (Back_err a b n m ca cb w hp hq hn hm hlp hlq hc.symm h0).mono fun e w' ⟨he, hb⟩ => ⟨_, he, World.ownsRow_nil _ _ _ _, hb⟩

end Go.Proofs.Ytpbmcaoomcippad
