/-
  The contract of ferref.Neighbours.
-/
import Derived.Test.YtnjbkiegeielhabWWrd
namespace Go.Proofs.Ytnjbkiegeielhab
open Go.RowKit

theorem desc_first {zs : List Int} {d : Nat} (h : FD zs d) : ∀ n, n ≤ zs.length → ((d = 0 ∨ n ≤ d) → desc n zs = []) ∧ (0 < d → d < n → ∃ t, desc n zs = (d : Int) :: t) := by
  intro n
  induction n with
  | zero => intro _; exact ⟨fun _ => rfl, fun _ h => by omega⟩
  | succ n ih =>
    intro hn
    obtain ⟨i1, i2⟩ := ih (by omega)
    constructor
    · intro hd
      rw [desc, i1 (by omega)]
      rw [if_neg]; rfl
      rintro ⟨h0, hlt⟩
      rcases hd with hd | hd
      · have := h.2.1 hd n (by omega) (by omega); omega
      · have := h.1 n (by omega) (by omega); omega
    · intro h0 hd
      rw [desc]
      by_cases e : d = n
      · subst e
        rw [i1 (by omega), if_pos ⟨h0, (h.2.2 h0).2⟩]
        exact ⟨[], rfl⟩
      · obtain ⟨t, ht⟩ := i2 h0 (by omega)
        exact ⟨t ++ _, by rw [ht]; rfl⟩

set_option maxHeartbeats 4000000 in
theorem Neighbours_ok (a : Option Addr) (n cap : Nat) (zs : List Int) (w : World) (hs : Shows w a zs) (hn : n = zs.length) (hnone : a = none → zs = [] ∧ cap = 0) (hp : IsPerm zs) :
    Calls Try.prog 23 #[.slice a n cap] w fun e w' => ∃ v ws, e = .returned v ∧ Played zs ws ∧ Owns w' w.heap.size v ws ∧ Below w.heap.size w w' := by
  subst hn
  have HP : Hid (IsPerm zs) := hp
  have h40 := hp.len
  have HNo : Hid (a = none → zs = [] ∧ cap = 0) := hnone
  clear hp hnone
  go_enter Try.func23, Try.ntmps23
  go_wp2_with (at_builtin; refine append_src (zs := []) (ys := zs) rfl _ _ rfl rfl rfl (World.ownsRow_nil _ w.heap.size _ _) hs rfl HNo.out ?c1 ?c2 ?_)
  case c1 => simp; omega
  case c2 => exact Nat.le_refl _
  intro v w1 hown hb1 _
  have HB1 : Hid (Below w.heap.size w w1) := hb1
  have hown : Owns w1 w.heap.size v zs := hown
  rcases Nat.eq_zero_or_pos zs.length with h0 | h0
  · obtain rfl : zs = [] := List.eq_nil_of_length_eq_zero h0
    obtain ⟨a1, n1, c1, rfl, S1, hn1, -⟩ := hown.opened (by decide) (by decide)
    simp only [List.length_nil] at hn1
    subst hn1
    clear hown hb1
    go_wp2_with fail
    refine (Falls_at _ _ _ [] _ S1 rfl (by decide) 0 [] rfl rfl).mono ?_
    rintro e w2 ⟨v2, rfl, hown2, hb2⟩
    obtain ⟨a2, n2, c2, rfl, S2, hn2, -⟩ := hown2.opened (by decide) (by decide)
    simp only [List.length_nil] at hn2
    subst hn2
    have HB2 : Hid (Below w.heap.size w w2) := HB1.out.trans (hb2.mono HB1.out.size)
    clear hown2 hb2
    go_wp2_with fail
    go_loopw [4, 5] (fun v l wr => v = .slice none 0 0 ∧ l = .slice a2 0 c2 ∧ Hid (Below w.heap.size w wr)) (fun _ _ _ => 0)
    case atStart => exact ⟨rfl, rfl, HB2⟩
    case round =>
      obtain ⟨rfl, rfl, HB⟩ := hrel
      go_wp2
      go_ret
      exact ⟨_, [], rfl, ⟨⟨rfl, rfl, fun i h => by simp at h⟩, [], rfl, ⟨fun i h1 h2 => by omega, fun _ i h1 h2 => by simp at h2, fun h => by omega⟩⟩, World.ownsRow_nil _ _ _ _, HB.out⟩
  · obtain ⟨g, c1, rfl, hgB, hglt, -, -⟩ := hown.head h0
    have HG : Hid (w.heap.size ≤ g ∧ g < w1.heap.size) := ⟨hgB, hglt⟩
    have HO1 : Hid (Owns w1 w.heap.size (.slice (some ⟨g, 0, none⟩) zs.length c1) zs) := hown
    obtain ⟨a1, cc1, hv1, S1⟩ := hown.shows (by omega) (fun z hz => by have := HP.out.low z hz; have := HP.out.high z hz; omega)
    simp only [Value.slice.injEq] at hv1
    obtain ⟨rfl, hxx, rfl⟩ := hv1
    clear hown hb1 hgB hglt hxx
    go_wp2_with fail
    refine (Falls_at _ _ _ zs _ S1 rfl h40 _ _ rfl rfl).mono ?_
    rintro e w2 ⟨v2, rfl, hown2, hb2⟩
    have HO2 : Hid (Owns w2 w.heap.size (.slice (some ⟨g, 0, none⟩) zs.length c1) zs) := HO1.out.below hb2
    have HB2 : Hid (Below w.heap.size w w2) := HB1.out.trans (hb2.mono HB1.out.size)
    have HOd : Hid (Owns w2 w1.heap.size v2 (desc zs.length zs)) := hown2
    have hsz2 : w1.heap.size ≤ w2.heap.size := hb2.size
    clear S1 hown2 hb2
    go_wp2_with fail
    go_loopw [4, 5] (fun v l wr => ∃ (rs ws : List Int), Hid (IsPerm rs ∧ rs.length = zs.length) ∧ Hid (Chain zs ws rs) ∧ Hid (play ws rs = zs) ∧ Hid (wrongs rs + ws.length = wrongs zs) ∧ Hid (∀ i ∈ ws, 1 ≤ i ∧ i < zs.length) ∧ Hid (lenOf v = ws.length) ∧ Hid (Owns wr w.heap.size (.slice (some ⟨g, 0, none⟩) zs.length c1) rs) ∧ Hid (Owns wr w1.heap.size v ws) ∧ Hid (Owns wr w1.heap.size l (desc zs.length rs)) ∧ Hid (Below w.heap.size w wr) ∧ w1.heap.size ≤ wr.heap.size) (fun v _ _ => wrongs zs - lenOf v)
    case atStart => exact ⟨zs, [], ⟨HP.out, rfl⟩, rfl, rfl, by show _ = _; simp, fun i h => by simp at h, rfl, HO2, World.ownsRow_nil _ _ _ _, HOd, HB2, hsz2⟩
    case round =>
      obtain ⟨rs, ws, HR, HCh, HPl, HW, HWs, HLn, HO, HOw, HOl, HB, hsz⟩ := hrel
      obtain ⟨d, hd⟩ := FD_ex rs
      have HD : Hid (FD rs d) := hd
      have hdf := desc_first hd zs.length (by rw [HR.out.2]; exact Nat.le_refl _)
      have hds := desc_small zs.length rs
      have hdl := desc_len zs.length rs
      obtain ⟨al, nl, cl, rfl, Sl, hnl, -⟩ := HOl.out.opened (by omega) (fun z hz => by have := hds z hz; omega)
      rcases Nat.eq_zero_or_pos d with hd0 | hd0
      · subst hd0
        have hnil := hdf.1 (Or.inl rfl)
        rw [hnil] at hnl
        simp only [List.length_nil] at hnl
        subst hnl
        have HE : Hid (rs = orderL zs.length) := by
          have := sorted_order HR.out.1 (HD.out.2.1 rfl)
          rw [HR.out.2] at this; exact this
        have HW0 : Hid (wrongs rs = 0) := by
          have key : ∀ l : List Int, l.Pairwise (· < ·) → wrongs l = 0 := by
            intro l
            induction l with
            | nil => intro _; rfl
            | cons y l ih =>
              intro h
              rw [List.pairwise_cons] at h
              rw [wrongs, ih h.2]
              have : l.countP (fun z => decide (z < y)) = 0 := by rw [List.countP_eq_zero]; intro z hz; have := h.1 z hz; simp; omega
              omega
          show _ = _
          rw [HE.out]; exact key _ (order_rising _)
        clear hd hdf hds hdl Sl hnil
        go_wp2
        go_ret
        exact ⟨_, ws, rfl, ⟨⟨by rw [← HE.out]; exact HPl.out, by have := HW.out; have := HW0.out; omega, HWs.out⟩, rs, HCh.out, HD.out⟩, HOw.out.mono (by have := HG.out; omega), HB.out⟩
      · obtain ⟨k, rfl⟩ : ∃ k, d = k + 1 := ⟨d - 1, by omega⟩
        have hdd := HD.out.2.2 (by omega)
        rw [show k + 1 - 1 = k by omega] at hdd
        have hkl : k + 1 < zs.length := by have := HR.out.2; omega
        have HKR : Hid (k + 1 < rs.length) := hdd.1
        have HDD : Hid (rs.getD (k + 1) 0 < rs.getD k 0) := hdd.2
        obtain ⟨t, ht⟩ := hdf.2 hd0 hkl
        rw [ht] at hnl Sl
        have hnlp : 0 < nl := by rw [hnl]; simp
        have hnlp' : (0 : Int) < (nl : Int) := by omega
        obtain ⟨bl, ol, dv, rfl, HDv, -, -, hcl⟩ := Sl.elem (k := 0) (by simp)
        rw [Nat.add_zero] at hcl
        obtain ⟨k1, hk1⟩ : ∃ k1, k1 = k + 1 := ⟨_, rfl⟩
        obtain rfl : dv = (k1 : Int) := by rw [HDv.out, hk1]; rfl
        obtain ⟨hbg, hfz, hclq⟩ := HO.out.at (by rw [HR.out.2])
        have h1 := hclq k (by rw [HR.out.2]; omega)
        have h2 := hclq (k + 1) (by rw [HR.out.2]; omega)
        have f1 := hfz k
        have f2 := hfz (k + 1)
        rw [← hk1] at h2 f2
        have hw1 : IntKind.i64.wrap ((k1 : Int) - 1) = (k : Int) := by rw [IntWalk.i64_left, IntWalk.wrap64_in _ (by omega)]; omega
        have b1 : (k : Int) < (zs.length : Int) := by omega
        have b2 : (k1 : Int) < (zs.length : Int) := by omega
        have hne : ¬ k = k1 := by omega
        have hne' : ¬ k1 = k := by omega
        obtain ⟨x, HX⟩ : ∃ x, Hid (x = rs.getD k 0) := ⟨_, rfl⟩
        obtain ⟨y, HY⟩ : ∃ y, Hid (y = rs.getD (k + 1) 0) := ⟨_, rfl⟩
        rw [← HX.out] at h1
        rw [hk1, ← HY.out, ← hk1] at h2
        have HK1 : Hid (k1 = k + 1) := hk1
        have hq0 := (HO.out.store (by rw [HR.out.2]) k y).store (by rw [List.length_set, HR.out.2]) k1 x
        have HO3 : Hid (Owns ((wr.setCell ⟨g, k, none⟩ (.int .i64 y)).setCell ⟨g, k1, none⟩ (.int .i64 x)).drew w.heap.size (.slice (some ⟨g, 0, none⟩) zs.length c1) (swapAt k rs)) := by
          show Owns _ _ _ _
          unfold swapAt
          rw [← HX.out, ← HY.out, ← HK1.out]; exact hq0.below (below_drewN (Below.refl _ _) 1)
        have HB3 : Hid (Below w.heap.size w ((wr.setCell ⟨g, k, none⟩ (.int .i64 y)).setCell ⟨g, k1, none⟩ (.int .i64 x)).drew) := ((HB.out.setCell HG.out.1 _).setCell HG.out.1 _).trans (below_drewN (Below.refl _ _) 1)
        have hbut : But g wr ((wr.setCell ⟨g, k, none⟩ (.int .i64 y)).setCell ⟨g, k1, none⟩ (.int .i64 x)).drew := ((HO.out.but (by rw [HR.out.2]) k y).trans ((HO.out.store (by rw [HR.out.2]) k y).but (by rw [List.length_set, HR.out.2]) k1 x)).trans (but_drewN g _ 1)
        have HOw3 : Hid (Owns ((wr.setCell ⟨g, k, none⟩ (.int .i64 y)).setCell ⟨g, k1, none⟩ (.int .i64 x)).drew w1.heap.size u4 ws) := hbut _ _ _ HOw.out (fun e => by have := (HOw.out.lt e).1; have := HG.out; omega)
        have HSZ : Hid (((wr.setCell ⟨g, k, none⟩ (.int .i64 y)).setCell ⟨g, k1, none⟩ (.int .i64 x)).drew.heap.size = wr.heap.size) := by show _ = _; simp [World.drew]
        have hsz3 : w1.heap.size ≤ ((wr.setCell ⟨g, k, none⟩ (.int .i64 y)).setCell ⟨g, k1, none⟩ (.int .i64 x)).drew.heap.size := by
          have : ((wr.setCell ⟨g, k, none⟩ (.int .i64 y)).setCell ⟨g, k1, none⟩ (.int .i64 x)).drew.heap.size = wr.heap.size := by simp [World.drew]
          omega
        have hwl : ws.length ≤ 1600 := by have := HW.out; have := wrongs_small h40; omega
        clear hd hdf hds hdl hnl ht hdd hfz hclq hk1 hq0 hbut HDv Sl
        go_wp2_with fail
        go_region
        go_wp2_with (at_builtin; refine append_int_at (N := wr.heap.size) (x := (k1 : Int)) rfl _ _ rfl rfl rfl HSZ.out.symm HOw3.out ?c1 ?c2 ?_)
        case c1 => omega
        case c2 => exact hsz3
        intro v' w4 hO4 hb4 _
        have HO4 : Hid (Owns w4 w1.heap.size v' (ws ++ [(k1 : Int)])) := hO4
        have HO5 : Hid (Owns w4 w.heap.size (.slice (some ⟨g, 0, none⟩) zs.length c1) (swapAt k rs)) := HO3.out.belowB HG.out.2 hb4
        have HB4 : Hid (Below w.heap.size w w4) := HB3.out.trans (hb4.mono (by have := HG.out; omega))
        have HL4 : Hid (lenOf v' = (ws ++ [(k1 : Int)]).length) := by
          obtain ⟨a2, c2, h2⟩ := HO4.out.shape
          show _ = _; rw [h2]; rfl
        have hsz4 : w1.heap.size ≤ w4.heap.size := Nat.le_trans hsz3 hb4.size
        clear hO4 hb4
        have HP5 : Hid (IsPerm (swapAt k rs) ∧ (swapAt k rs).length = zs.length) := ⟨swapAt_perm HR.out.1 HKR.out, by rw [swapAt_len]; exact HR.out.2⟩
        obtain ⟨a5, cc5, hv5, S5⟩ := HO5.out.shows (by rw [HP5.out.2]; omega) (fun z hz => by have := HP5.out.1.low z hz; have := HP5.out.1.high z hz; have := HP5.out.2; omega)
        simp only [Value.slice.injEq] at hv5
        obtain ⟨rfl, hxx, rfl⟩ := hv5
        clear hxx
        go_wp2_with fail
        refine (Falls_at _ _ _ (swapAt k rs) _ S5 (by rw [HP5.out.2]) (by rw [HP5.out.2]; exact h40) _ _ rfl rfl).mono ?_
        rintro e w6 ⟨v6, rfl, hO6, hb6⟩
        have HO6 : Hid (Owns w6 w1.heap.size v6 (desc zs.length (swapAt k rs))) := by
          have := hO6.mono hsz4
          rw [HP5.out.2] at this; exact this
        have HOq6 : Hid (Owns w6 w.heap.size (.slice (some ⟨g, 0, none⟩) zs.length c1) (swapAt k rs)) := HO5.out.below hb6
        have HOw6 : Hid (Owns w6 w1.heap.size v' (ws ++ [(k1 : Int)])) := HO4.out.below hb6
        have HB6 : Hid (Below w.heap.size w w6) := HB4.out.trans (hb6.mono HB4.out.size)
        have hsz6 : w1.heap.size ≤ w6.heap.size := Nat.le_trans hsz4 hb6.size
        clear hO6 hb6 S5
        go_wp2
        go_roundw
        case rel => exact ⟨swapAt k rs, ws ++ [(k1 : Int)], HP5, by
                      have := HCh.out.snoc HD.out (by omega)
                      rw [show k + 1 - 1 = k by omega, ← HK1.out] at this
                      exact this, by
                      show _ = _
                      rw [play_snoc, HK1.out, Int.toNat_natCast, show k + 1 - 1 = k by omega, swapAt_swapAt HKR.out]; exact HPl.out, by
                      have h1 := wrongs_swapAt HKR.out HDD.out
                      have h2 := HW.out
                      show _ = _
                      rw [List.length_append]; simp; omega, fun i hi => by
                      rcases List.mem_append.1 hi with h | h
                      · exact HWs.out i h
                      · simp at h; have := HK1.out; omega, HL4, HOq6, HOw6, HO6, HB6, hsz6⟩
        case measure =>
          have h1 := wrongs_swapAt HKR.out HDD.out
          have h2 := HW.out
          have h3 := HL4.out
          have h4 := HLn.out
          rw [List.length_append] at h3
          simp only [List.length_cons, List.length_nil] at h3
          omega

end Go.Proofs.Ytnjbkiegeielhab
