/-
  ferref.Strips, ahead of the sorting: one for each box whose hook is that long.
-/
import Derived.Test.YtheebpjkjclgbaaLHok
namespace Go.Proofs.Ytheebpjkjclgbaa
open Go.RowKit

/-- The strips of row i, the first j boxes. -/
def stJ (zs : List Int) (k i j : Nat) : List (List Int × Nat) := (List.range j).flatMap fun j => if hkN zs i j = k then [(stP zs i j, htF zs j - 1 - i)] else []
theorem stJ_succ (zs : List Int) (k i j : Nat) : stJ zs k i (j + 1) = stJ zs k i j ++ if hkN zs i j = k then [(stP zs i j, htF zs j - 1 - i)] else [] := by
  unfold stJ; rw [List.range_succ, List.flatMap_append, List.flatMap_singleton]
theorem stJ_all (zs : List Int) (k i : Nat) : stJ zs k i (pF zs i) = stAt zs k i := rfl
/-- Those of the first i rows. -/
def rawS (zs : List Int) (k i : Nat) : List (List Int × Nat) := (List.range i).flatMap (stAt zs k)
theorem rawS_succ (zs : List Int) (k i : Nat) : rawS zs k (i + 1) = rawS zs k i ++ stAt zs k i := by
  unfold rawS; rw [List.range_succ, List.flatMap_append, List.flatMap_singleton]
theorem rawS_len {zs : List Int} (h : IsPt zs) (k : Nat) : ∀ i, (rawS zs k i).length ≤ i
  | 0 => by simp [rawS]
  | i + 1 => by rw [rawS_succ, List.length_append]; have := rawS_len h k i; have := stAt_len h k i; omega
theorem stJ_len (zs : List Int) (k i : Nat) : ∀ j, (stJ zs k i j).length ≤ j
  | 0 => by simp [stJ]
  | j + 1 => by rw [stJ_succ, List.length_append]; have := stJ_len zs k i j; split <;> simp <;> omega
theorem conj_at {zs : List Int} {j : Nat} (hj : j < pF zs 0) : (ptConj zs).getD j 0 = (htF zs j : Int) := by
  unfold ptConj
  rw [tab_getD _ _ _ (by unfold pF at hj; exact hj), htF_cast]

/-- What stands ahead of the sorting. -/
def RawR (zs : List Int) (k : Nat) (w w' : World) (v : Value) : Prop := ∃ X, Stl w' w.heap.size v X ∧ X.map Prod.snd = rawS zs k zs.length ∧ Below w.heap.size w w'

set_option maxHeartbeats 16000000 in
set_option maxRecDepth 100000 in
theorem RStrips_c (a : Option Addr) (n cap k : Nat) (zs : List Int) (w : World) (hs : Shows w a zs) (hn : n = zs.length) (hp : IsPt zs) (P : Value → World → Prop)
    (HSort : Hid (∀ W v, RawR zs k w W v → Calls Try.prog 22 #[v, .func (.func 23) #[] #[]] W fun e w' => e = .returned (.tuple #[]) ∧ P v w')) :
    Calls Try.prog 6 #[.slice a n cap, .int .i64 (k : Int)] w fun e w' => ∃ v, e = .returned v ∧ P v w' := by
  have hn40 : n ≤ 40 := by rw [hn]; exact hp.len
  have HHk : Hid (Calls Try.prog 20 #[.slice a n cap] w fun e w' => ∃ ah nh ch, e = .returned (.slice ah nh ch) ∧ Hid (nh = n) ∧ Hid (Table w' ah ((List.range n).map (hkW zs))) ∧ Hid (Below w.heap.size w w')) := by
    refine (Hooked_at a n cap zs w hs hn hp).mono ?_
    rintro e w' ⟨v, rfl, h1, h2⟩
    obtain ⟨ah, nh, ch, rfl, h3, h4⟩ := h1.table (fun l hl => by
      obtain ⟨i, _, rfl⟩ := List.mem_map.1 hl
      refine ⟨by rw [hkW_len]; have := pF_le hp i; omega, fun z hz => ?_⟩
      unfold hkW castL at hz
      obtain ⟨y, hy, rfl⟩ := List.mem_map.1 hz
      obtain ⟨j, hj, rfl⟩ := List.mem_map.1 hy
      have := pF_le hp i; have := htF_le hp j; have := hp.len
      unfold hkN; omega)
    exact ⟨ah, nh, ch, rfl, by rw [h4.out]; show _ = _; simp, h3, h2⟩
  have HCj : Hid (∀ W, Below w.heap.size w W → Calls Try.prog 21 #[.slice a n cap] W fun e w' => ∃ aq nq cq, e = .returned (.slice aq nq cq) ∧ Hid (nq = pF zs 0) ∧ Hid (Shows w' aq (ptConj zs)) ∧ Hid (Below W.heap.size W w')) := fun W hW => by
    have := Conj_is a cap zs W (hs.below hW) hp
    rw [← hn] at this
    refine this.mono ?_
    rintro e w' ⟨v, rfl, h1, h2⟩
    obtain ⟨aq, cq, rfl, h3⟩ := h1.shows (by rw [conj_len]; have := pF_le hp 0; omega) (fun z hz => by have := (conj_pt hp).range z hz; omega)
    exact ⟨aq, _, cq, rfl, conj_len zs, h3, h2⟩
  have HS : Hid (Shows w a zs) := hs
  have HP : Hid (IsPt zs) := hp
  have HN : Hid (n = zs.length) := hn
  clear hs hp hn
  go_enter Try.func6, Try.ntmps6
  go_wp2_with fail
  refine HHk.out.mono ?_
  rintro e w1 ⟨ah, nh, ch, rfl, HNh, HTh, HB1⟩
  have hnh := HNh.out
  subst hnh
  have k1 := hid_w (HCj.out w1 HB1.out)
  clear HHk HCj HNh
  go_wp2_with fail
  refine k1.out.mono ?_
  rintro e w2 ⟨aq, nq, cq, rfl, HNq, HSq, HB2⟩
  have HB3 : Hid (Below w.heap.size w w2) := HB1.out.trans (HB2.out.mono HB1.out.size)
  have HT2 : Hid (Table w2 ah ((List.range nh).map (hkW zs))) := HTh.out.below HB2.out
  have hnq40 : nq ≤ 40 := by rw [HNq.out]; exact pF_le HP.out 0
  clear k1 HTh HB1 HB2
  go_wp2
  go_loopw [5, 8] (fun v iv wr => ∃ (i : Nat) (X : List StX), i ≤ nh ∧ iv = .int .i64 i ∧ Hid (Stl wr w2.heap.size v X) ∧ Hid (X.map Prod.snd = rawS zs k i) ∧ Hid (Below w2.heap.size w2 wr)) (fun _ iv _ => nh - (intOf iv).toNat)
  case atStart => exact ⟨0, [], Nat.zero_le _, rfl, Stl.nil _ _, rfl, Below.refl _ _⟩
  case round =>
    obtain ⟨i, X, hi, rfl, HX, HXs, HBi⟩ := hrel
    by_cases hlt : i < nh
    · have hlt' : (i : Int) < (nh : Int) := by omega
      have hil : i < zs.length := by rw [← HN.out]; exact hlt
      obtain ⟨m, HM⟩ : ∃ m, Hid (m = pF zs i) := ⟨_, rfl⟩
      have hm40 : m ≤ 40 := by rw [HM.out]; exact pF_le HP.out i
      have HRow : Hid (∀ W, Below w2.heap.size w2 W → ∃ b o ai ci, ah = some ⟨b, o, none⟩ ∧ W.cell? ⟨b, o + i, none⟩ = some (.slice ai m ci) ∧ Hid (Shows W ai (hkW zs i))) := fun W hW => by
        obtain ⟨b, o, ai, q, ci, e, hc, HQ, HSr, _, _⟩ := (HT2.out.below hW).elemR (k := i) (by simp; exact hlt)
        rw [show ((List.range nh).map (hkW zs)).getD i [] = hkW zs i by simp [List.getD, hlt]] at HQ HSr
        refine ⟨b, o, ai, ci, e, ?_, HSr⟩
        rw [hc, HQ.out, hkW_len, HM.out]
      go_wp2
      go_loopw [5, 9] (fun v jv wr => ∃ (j : Nat) (Y : List StX), j ≤ m ∧ jv = .int .i64 j ∧ Hid (Stl wr w2.heap.size v Y) ∧ Hid (Y.map Prod.snd = rawS zs k i ++ stJ zs k i j) ∧ Hid (Below w2.heap.size w2 wr)) (fun _ jv _ => m - (intOf jv).toNat)
      case atStart => exact ⟨0, X, Nat.zero_le _, rfl, HX, by show _ = _; rw [HXs.out]; simp [stJ], HBi⟩
      case round =>
        clear HX HXs HBi
        obtain ⟨j, Y, hj, rfl, HY, HYs, HBj⟩ := hrel
        obtain ⟨wk, hwk⟩ : ∃ wk, wk = wr := ⟨_, rfl⟩
        subst hwk
        obtain ⟨b, o, ai, ci, ea, hci, HSr⟩ := HRow.out wk HBj.out
        subst ea
        by_cases hjm : j < m
        · have hjm' : (j : Int) < (m : Int) := by omega
          have hjp : j < pF zs i := by rw [← HM.out]; exact hjm
          obtain ⟨b2, o2, z, ez, HZ, -, -, hcz⟩ := HSr.out.elem (k := j) (by rw [hkW_len]; exact hjp)
          subst ez
          have hzk : z = (hkN zs i j : Int) := by rw [HZ.out, hkW_at hjp]
          obtain ⟨hk', HHk⟩ : ∃ hk', Hid (hk' = hkN zs i j) := ⟨_, rfl⟩
          rw [hzk, ← HHk.out] at hcz
          clear hzk HZ
          by_cases hkk : hk' = k
          · have hne : ((hk' : Int) != (k : Int)) = false := by rw [bne_eq_false_iff_eq]; omega
            have HKK : Hid (hkN zs i j = k) := by show _ = _; rw [← HHk.out]; exact hkk
            have hj0 : j < pF zs 0 := by have := pF_mono HP.out 0 i; rw [Nat.zero_add] at this; omega
            obtain ⟨b3, o3, qz, eq3, HQ3, -, -, hcq⟩ := (HSq.out.below HBj.out).elem (k := j) (by rw [conj_len]; exact hj0)
            subst eq3
            rw [conj_at hj0] at HQ3
            have hq1 := (htF_iff HP.out i j).2 hjp
            have hq2 := htF_le HP.out j
            obtain ⟨T, HT⟩ : ∃ T, Hid (T = htF zs j - 1) := ⟨_, rfl⟩
            have hqT : qz - 1 = (T : Int) := by rw [HQ3.out, HT.out]; omega
            have hiT : i ≤ T := by rw [HT.out]; omega
            have hTn : T < zs.length := by rw [HT.out]; omega
            have hjq : (j : Int) < (nq : Int) := by rw [HNq.out]; omega
            have hqb : 1 ≤ qz ∧ qz ≤ 40 := by have := HP.out.len; rw [HQ3.out]; omega
            obtain ⟨HSk⟩ : Hid (Shows wk a zs) ∧ True := ⟨HS.out.below (HB3.out.trans (HBj.out.mono HB3.out.size)), trivial⟩
            have hTh : (T : Int) - (i : Int) = ((T - i : Nat) : Int) := by omega
            obtain ⟨hgt, HHg⟩ : ∃ hgt, Hid (hgt = T - i) := ⟨_, rfl⟩
            rw [← HHg.out] at hTh
            have HGe : Hid (htF zs j - 1 - i = hgt) := by show _ = _; rw [HHg.out, HT.out]
            have hane : a = none → zs = [] ∧ cap = 0 := fun e => by
              obtain ⟨b9, o9, e9, _⟩ := HS.out.cells (fun q => by rw [q] at hil; simp at hil)
              rw [e] at e9; cases e9
            have HAn : Hid (a = none → zs = [] ∧ cap = 0) := hane
            clear hq1 hq2 hane
            go_wp2_with (at_builtin; refine append_src (base := wk.heap.size) (zs := []) (ys := zs) rfl _ _ rfl rfl rfl (World.ownsRow_nil _ _ _ _) HSk.out HN.out HAn.out ?c1 ?c2 ?_)
            case c1 => have := HP.out.len; simp; omega
            case c2 => exact Nat.le_refl _
            intro v3 w3 hO3 hb3 _
            try rw [List.nil_append] at hO3
            obtain ⟨G, cp, hv3, hGge, hGlt, -, -⟩ := hO3.head (by omega)
            have hcpl : zs.length ≤ cp := by
              rcases hO3.2 with ⟨q, h0⟩ | ⟨g, cap', cur, q, _, _, hnc, _⟩
              · omega
              · rw [hv3] at q
                simp only [Value.slice.injEq] at q
                obtain ⟨_, _, rfl⟩ := q
                exact hnc
            rw [← HN.out] at hv3 hcpl
            subst hv3
            have HO3 : Hid (Owns w3 wk.heap.size (.slice (some ⟨G, 0, none⟩) nh cp) (mdL zs i i)) := by rw [mdL_start]; exact hO3
            have HB4 : Hid (Below wk.heap.size wk w3) := hb3
            have HGg : Hid (wk.heap.size ≤ G) := hGge
            have hTnh : T < nh := by rw [HN.out]; exact hTn
            clear hO3 hb3 hGge hGlt
            go_wp2
            go_loopw [12] (fun rv wr => ∃ r : Nat, i ≤ r ∧ r ≤ T ∧ rv = .int .i64 (r : Int) ∧ Hid (Owns wr wk.heap.size (.slice (some ⟨G, 0, none⟩) nh cp) (mdL zs i r)) ∧ Hid (Below wk.heap.size wk wr)) (fun rv _ => T - (intOf rv).toNat)
            case atStart => exact ⟨i, Nat.le_refl _, hiT, rfl, HO3, HB4⟩
            case round =>
              clear HO3 HB4
              obtain ⟨r, hr1, hr2, rfl, HO, HB⟩ := hrel
              by_cases hrT : r < T
              · have hrT' : (r : Int) < (T : Int) := by omega
                obtain ⟨b5, o5, y, ey, HYy, hy1, hy2, hcy⟩ := (HSk.out.below HB.out).elem (k := r + 1) (by omega)
                obtain ⟨r1, HR1⟩ : ∃ r1, Hid (r1 = r + 1) := ⟨_, rfl⟩
                have hr1e : (r : Int) + 1 = (r1 : Int) := by have := HR1.out; omega
                have hr1l : (r1 : Int) < (nh : Int) := by have := HR1.out; omega
                have hrl : (r : Int) < (nh : Int) := by omega
                rw [← HR1.out] at hcy HYy
                have hyr := HP.out.range y (by rw [HYy.out, HR1.out]; exact getD_mem (by omega))
                obtain ⟨g, cp2, e3, -, hglt, hfz, hce⟩ := HO.out.head (by rw [mdL_len]; omega)
                simp only [Value.slice.injEq, Option.some.injEq, Addr.mk.injEq, and_true] at e3
                obtain ⟨rfl, -, -⟩ := e3
                have hcr := hce r (by rw [mdL_len]; omega)
                have hfr := hfz r
                have HO2 : Hid (Owns (wr.setCell ⟨G, r, none⟩ (.int .i64 (y - 1))) wk.heap.size (.slice (some ⟨G, 0, none⟩) nh cp) (mdL zs i (r + 1))) := by
                  have := HO.out.store (by rw [mdL_len]; exact HN.out) r (y - 1)
                  rw [← mdL_step hr1, ← HR1.out, ← HYy.out]; exact this
                have HB2' : Hid (Below wk.heap.size wk (wr.setCell ⟨G, r, none⟩ (.int .i64 (y - 1)))) := HB.out.setCell (p := ⟨G, r, none⟩) HGg.out _
                clear hce hfz
                subst ey
                go_wp2
                first
                | exact ⟨⟨r + 1, by omega, by omega, by go_num, HO2, HB2'⟩, by simp [intOf]; omega⟩
                | (go_roundw
                   case rel => exact ⟨r + 1, by omega, by omega, by go_num, HO2, HB2'⟩
                   case measure => simp [intOf] <;> omega)
              · obtain rfl : r = T := by omega
                have hrT' : ¬ (r : Int) < (r : Int) := by omega
                have hrl : (r : Int) < (nh : Int) := by omega
                obtain ⟨g, cp2, e3, -, hglt, hfz, hce⟩ := HO.out.head (by rw [mdL_len]; omega)
                simp only [Value.slice.injEq, Option.some.injEq, Addr.mk.injEq, and_true] at e3
                obtain ⟨rfl, -, -⟩ := e3
                have hcr := hce r (by rw [mdL_len]; omega)
                have hfr := hfz r
                obtain ⟨w5, Hw5⟩ : ∃ w5, Hid (w5 = wr.setCell ⟨G, r, none⟩ (.int .i64 (j : Int))) := ⟨_, rfl⟩
                have HO5 : Hid (Owns w5 wk.heap.size (.slice (some ⟨G, 0, none⟩) nh cp) (lfL zs i j)) := by
                  have := HO.out.store (by rw [mdL_len]; exact HN.out) r (j : Int)
                  rw [HT.out, mdL_end HP.out hjp, ← HT.out] at this
                  rw [Hw5.out]; exact this
                have HB5 : Hid (Below wk.heap.size wk w5) := by rw [Hw5.out]; exact HB.out.setCell (p := ⟨G, r, none⟩) HGg.out _
                clear hce hfz HO HB
                go_upto_region 18 with fail
                rw [← Hw5.out]
                clear hcr hfr
                obtain ⟨N, HNn⟩ : ∃ N, Hid (N = lfN zs i j) := ⟨_, rfl⟩
                have hNl : N ≤ nh := by rw [HNn.out, HN.out]; exact lfN_le zs i j
                have HCell : Hid (∀ q, q < nh → w5.cell? ⟨G, q, none⟩ = some (.int .i64 ((rmF (pF zs) i j q : Nat) : Int))) := fun q hq => by
                  obtain ⟨g, cp2, e3, -, -, -, hce⟩ := HO5.out.head (by rw [lfL_len, ← HN.out]; omega)
                  simp only [Value.slice.injEq, Option.some.injEq, Addr.mk.injEq, and_true] at e3
                  obtain ⟨rfl, -, -⟩ := e3
                  rw [hce q (by rw [lfL_len, ← HN.out]; exact hq), lfL_at (by rw [← HN.out]; exact hq)]
                have HYk : Hid (Stl w5 w2.heap.size u5 Y) := HY.out.below HB5.out
                have HB5w : Hid (Below w2.heap.size w2 w5) := HBj.out.trans (HB5.out.mono HBj.out.size)
                have HYl : Hid (Y.length ≤ 80) := by
                  have h1 := congrArg List.length HYs.out
                  rw [List.length_map, List.length_append] at h1
                  have h2 := rawS_len HP.out k i
                  have h3 := stJ_len zs k i j
                  show _ ≤ _; omega
                obtain ⟨ya, yc, hyv⟩ := HY.out.shape
                obtain ⟨yl, HYlen⟩ : ∃ yl, Hid (yl = Y.length) := ⟨_, rfl⟩
                rw [← HYlen.out] at hyv
                subst hyv
                go_loopw [11] (fun lv wr => ∃ q : Nat, N ≤ q ∧ q ≤ nh ∧ lv = .slice (some ⟨G, 0, none⟩) q cp ∧ wr = w5) (fun lv _ => lenOf lv)
                case atStart => exact ⟨nh, hNl, Nat.le_refl _, rfl, rfl⟩
                case round =>
                  obtain ⟨q, hq1, hq2, rfl, hwr⟩ := hrel
                  obtain rfl : w5 = wr := hwr.symm
                  clear hwr
                  by_cases hqN : N < q
                  · obtain ⟨q1, HQ1⟩ : ∃ q1, Hid (q = q1 + 1) := ⟨q - 1, by show _ = _; omega⟩
                    have hq0 : (q : Int) > 0 := by omega
                    have hq0n : 0 < q := by omega
                    have hq1e : (q : Int) - 1 = (q1 : Int) := by have := HQ1.out; omega
                    have hq1l : (q1 : Int) < (q : Int) := by have := HQ1.out; omega
                    have hq1c : (q1 : Int) ≤ (cp : Int) := by have := HQ1.out; omega
                    have hcell : w5.cell? ⟨G, q1, none⟩ = some (.int .i64 0) := by
                      rw [HCell.out q1 (by have := HQ1.out; omega), lfN_zero HP.out hil (by rw [← HNn.out]; have := HQ1.out; omega)]; rfl
                    have HqN : Hid (N ≤ q1 ∧ q1 ≤ nh) := by have := HQ1.out; exact ⟨by omega, by omega⟩
                    clear hqN
                    go_wp2
                    first
                    | exact ⟨⟨q1, HqN.out.1, HqN.out.2, rfl, trivial⟩, by have := HQ1.out; simp [lenOf]; omega⟩
                    | (go_roundw
                       case rel => exact ⟨q1, HqN.out.1, HqN.out.2, rfl, trivial⟩
                       case measure => have := HQ1.out; simp [lenOf] <;> omega)
                  · obtain rfl : q = N := by omega
                    have HOp : Hid (Owns w5 w2.heap.size (.slice (some ⟨G, 0, none⟩) q cp) (stP zs i j)) := by
                      have h1 := HO5.out.cutY (m := lfN zs i j) (by rw [lfL_len]; exact lfN_le zs i j) (fun e => by cases e)
                      rw [← HNn.out] at h1
                      have h2 := h1.mono HBj.out.size
                      unfold stP; rw [← HNn.out]; exact h2
                    have HYs3 : Hid ((Y ++ [((.slice (some ⟨G, 0, none⟩) q cp : Value), stP zs i j, hgt)]).map Prod.snd = rawS zs k i ++ stJ zs k i (j + 1)) := by
                      show _ = _
                      rw [List.map_append, HYs.out, stJ_succ, if_pos HKK.out, HGe.out, List.append_assoc]; rfl
                    by_cases hq0 : q = 0
                    · have hq0' : ¬ ((q : Int) > 0) := by omega
                      have HQ0 : Hid (q = 0) := hq0
                      clear hq0 hqN
                      go_wp2_with (at_builtin; refine append_strip (w := w5) (hgt := hgt) rfl _ _ rfl rfl rfl rfl HYk.out HOp.out (by have := HYl.out; omega) HB5w.out.size ?_)
                      intro v7 w7 hX7 hB7
                      have HX7 : Hid (Stl w7 w2.heap.size v7 (Y ++ [((.slice (some ⟨G, 0, none⟩) q cp : Value), stP zs i j, hgt)])) := hX7
                      have HB7 : Hid (Below w2.heap.size w2 w7) := HB5w.out.trans hB7
                      obtain ⟨v7a, v7c, hv7⟩ := hX7.shape
                      clear hX7 hB7
                      subst hv7
                      go_wp2
                      first
                      | exact ⟨⟨j + 1, _, by omega, by go_num, HX7, HYs3, HB7⟩, by simp [intOf]; omega⟩
                      | (go_roundw
                         case rel => exact ⟨j + 1, _, by omega, by go_num, HX7, HYs3, HB7⟩
                         case measure => simp [intOf] <;> omega)
                    · obtain ⟨q1, HQ1⟩ : ∃ q1, Hid (q = q1 + 1) := ⟨q - 1, by show _ = _; omega⟩
                      have hq0' : (q : Int) > 0 := by omega
                      have hq0n : 0 < q := by omega
                      have hq1e : (q : Int) - 1 = (q1 : Int) := by have := HQ1.out; omega
                      have hq1l : (q1 : Int) < (q : Int) := by have := HQ1.out; omega
                      obtain ⟨z0, HZ0⟩ : ∃ z0, Hid (z0 = rmF (pF zs) i j q1) := ⟨_, rfl⟩
                      have hcell : w5.cell? ⟨G, q1, none⟩ = some (.int .i64 (z0 : Int)) := by
                        rw [HCell.out q1 (by have := HQ1.out; omega), ← HZ0.out]
                      have hz0 : ((z0 : Int) == 0) = false := by
                        have := lfN_pos (zs := zs) (i := i) (j := j) (r := q1) (by rw [← HNn.out]; have := HQ1.out; omega)
                        rw [← HZ0.out] at this
                        rw [beq_eq_false_iff_ne]; omega
                      clear hq0 hqN
                      go_wp2_with (at_builtin; refine append_strip (w := w5) (hgt := hgt) rfl _ _ rfl rfl rfl rfl HYk.out HOp.out (by have := HYl.out; omega) HB5w.out.size ?_)
                      intro v7 w7 hX7 hB7
                      have HX7 : Hid (Stl w7 w2.heap.size v7 (Y ++ [((.slice (some ⟨G, 0, none⟩) q cp : Value), stP zs i j, hgt)])) := hX7
                      have HB7 : Hid (Below w2.heap.size w2 w7) := HB5w.out.trans hB7
                      obtain ⟨v7a, v7c, hv7⟩ := hX7.shape
                      clear hX7 hB7
                      subst hv7
                      go_wp2
                      first
                      | exact ⟨⟨j + 1, _, by omega, by go_num, HX7, HYs3, HB7⟩, by simp [intOf]; omega⟩
                      | (go_roundw
                         case rel => exact ⟨j + 1, _, by omega, by go_num, HX7, HYs3, HB7⟩
                         case measure => simp [intOf] <;> omega)
          · have hne : ((hk' : Int) != (k : Int)) = true := by rw [bne_iff_ne]; omega
            have HYs2 : Hid (Y.map Prod.snd = rawS zs k i ++ stJ zs k i (j + 1)) := by
              show _ = _
              rw [stJ_succ, if_neg (by rw [← HHk.out]; exact hkk), List.append_nil]; exact HYs.out
            clear hkk
            go_wp2
            first
            | exact ⟨⟨j + 1, Y, by omega, by go_num, HY, HYs2, HBj⟩, by simp [intOf]; omega⟩
            | (go_roundw
               case rel => exact ⟨j + 1, Y, by omega, by go_num, HY, HYs2, HBj⟩
               case measure => simp [intOf] <;> omega)
        · obtain rfl : j = m := by omega
          have hjm' : ¬ ((j : Int) < (j : Int)) := by omega
          have HYs2 : Hid (Y.map Prod.snd = rawS zs k (i + 1)) := by
            show _ = _
            rw [rawS_succ, ← stJ_all, ← HM.out]; exact HYs.out
          go_wp2
          first
          | exact ⟨⟨i + 1, Y, by omega, by go_num, HY, HYs2, HBj⟩, by simp [intOf]; omega⟩
          | (go_roundw
             case rel => exact ⟨i + 1, Y, by omega, by go_num, HY, HYs2, HBj⟩
             case measure => simp [intOf] <;> omega)
    · obtain rfl : i = nh := by omega
      have hlt' : ¬ ((i : Int) < (i : Int)) := by omega
      have HCs := hid_w (HSort.out wr u5 ⟨X, HX.out.mono HB3.out.size, by rw [← HN.out]; exact HXs.out, HB3.out.trans (HBi.out.mono HB3.out.size)⟩)
      obtain ⟨xa, xc, hxs⟩ := HX.out.shape
      subst hxs
      go_wp2_with fail
      refine HCs.out.mono ?_
      rintro e w9 ⟨rfl, hP⟩
      go_wp2
      go_ret
      exact ⟨_, rfl, hP⟩

end Go.Proofs.Ytheebpjkjclgbaa
