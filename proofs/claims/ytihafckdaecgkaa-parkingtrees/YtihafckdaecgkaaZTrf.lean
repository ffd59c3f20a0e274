/-
  Tree: the tree of a right code.
-/
import Derived.Test.YtihafckdaecgkaaZTre
namespace Go.Proofs.Ytihafckdaecgkaa
open Go.RowKit

theorem take_count {c : List Int} {k : Nat} (hk : k < c.length) {z : Int} (hz : z = c.getD k 0) (v : Int) : (c.take (k + 1)).count v = (c.take k).count v + if z = v then 1 else 0 := by
  subst hz
  rw [List.take_add_one, List.count_append, List.getElem?_eq_getElem hk]
  congr 1
  simp [List.getD, hk, List.count_cons]
theorem drop_getD {c : List Int} {k : Nat} (hk : k < c.length) {z : Int} (hz : z = c.getD k 0) : c.drop k = z :: c.drop (k + 1) := by
  subst hz
  rw [List.drop_eq_getElem_cons hk]; simp [List.getD, hk]

theorem OwnsP.other {w : World} {lo g j : Nat} {v x : Value} {l : List (Int × Int)} (h : OwnsP w lo v l) (hg : g < lo) : OwnsP (w.setCell ⟨g, j, none⟩ x) lo v l :=
  ownsRow_blocks h (fun k e => by
    have h1 := (h.lt k e).1
    exact Below.heap_setCell _ _ _ _ (by show k ≠ g; omega))
set_option maxHeartbeats 16000000 in
set_option maxRecDepth 100000 in
theorem Tree_ok (HSC : SortC) (a : Option Addr) (n cap : Nat) (c : List Int) (w : World) (hs : Shows w a c) (hn : n = c.length) (h18 : n ≤ 18) (hi : inIv c 1 ((n + 2 : Nat) : Int) = true) :
    Calls Try.prog 9 #[.slice a n cap] w fun e w' => ∃ v M X, e = .returned (.tuple #[v, .int .i64 0]) ∧ Hid (TrR (tst c) c M ∧ X.Perm M ∧ X.Pairwise (fun x y => ¬ ltP y x)) ∧ Hid (OwnsP w' w.heap.size v X) ∧ Hid (Below w.heap.size w w') := by
  have h' : ¬ (18 : Int) < (n : Int) := by omega
  obtain ⟨m, Hm⟩ : ∃ m : Nat, Hid (m = n + 2) := ⟨_, rfl⟩
  obtain ⟨N, HN⟩ : ∃ N : Nat, Hid (N = m + 1) := ⟨_, rfl⟩
  obtain ⟨r, Hr⟩ : ∃ r : Nat, Hid (r = n + 1) := ⟨_, rfl⟩
  have hm : (n : Int) + 2 = (m : Int) := by have := Hm.out; omega
  have hN : (m : Int) + 1 = (N : Int) := by have := HN.out; omega
  have hr : (m : Int) - 1 = (r : Int) := by have := Hm.out; have := Hr.out; omega
  have hN30 : N ≤ 30 := by have := Hm.out; have := HN.out; omega
  have hr30 : r ≤ 30 := by have := Hr.out; omega
  have HS : Hid (Shows w a c) := hs
  have HNz : Hid (n = c.length) := hn
  have HZ : Hid (∀ z ∈ c, 1 ≤ z ∧ z ≤ (m : Int)) := by rw [Hm.out]; exact inIv_iff.1 hi
  have HC : Hid (Calls Try.prog 27 #[.slice a n cap, .int .i64 1, .int .i64 m] w fun e w' => e = .returned (.bool true) ∧ w' = w) := areWithin_at a n cap c 1 m true w hs hn (by rw [Hm.out]; exact hi)
  clear hs hn hi
  obtain ⟨i1, hj, hy0, hy1, hy2⟩ := info_parts Try.info3
  go_enter Try.func9, Try.ntmps9
  go_wp2_with fail
  refine HC.out.mono ?_
  rintro e w9 ⟨rfl, hw9⟩
  obtain rfl : w = w9 := hw9.symm
  clear hw9 HC
  go_wp2_with (at_make; refine wpList_make_full _ rfl _ _ 23 rfl w.heap.size 3 i1 (.int .i64 0) 1 Try.underlying23 hj hy0 hy1 _ _ _ _ N rfl rfl rfl rfl ?b1 ?b2 ?b3 ?_)
  case b1 => rw [hy2]; omega
  case b2 => unfold maxLen; omega
  case b3 => exact Nat.le_refl _
  intro w1 hown hgrow
  have HB1 : Hid (Below w.heap.size w w1) := (Below.refl _ _).grown hgrow (Nat.le_refl _) (fun k h => by cases h)
  have HO1 : Hid (Owns w1 w.heap.size (.slice (some ⟨w.heap.size, 0, none⟩) N N) (tab N (fun v => if 1 ≤ v ∧ v < 1 then 1 else 0))) := (owns_mkT hown).tabSame (fun j _ => by rw [if_neg (by omega)])
  clear hown hgrow hj hy0 hy1 hy2 i1
  go_wp2
  go_loopw [6] (fun q wr => ∃ k : Nat, 1 ≤ k ∧ k ≤ N ∧ q = .int .i64 k ∧ Hid (Owns wr w.heap.size (.slice (some ⟨w.heap.size, 0, none⟩) N N) (tab N (fun v => if 1 ≤ v ∧ v < k then 1 else 0))) ∧ Hid (Below w.heap.size w wr)) (fun q _ => N - (intOf q).toNat)
  case atStart => exact ⟨1, Nat.le_refl _, by have := HN.out; omega, rfl, HO1, HB1⟩
  case round =>
    clear HO1 HB1
    obtain ⟨k, hk1, hk, rfl, HO, HB⟩ := hrel
    by_cases hlt : k < N
    · have hlt' : (k : Int) < (N : Int) := by omega
      have hle' : (k : Int) ≤ (m : Int) := by omega
      obtain ⟨hkf, hkc⟩ := HO.out.tabBox (j := k) hlt
      go_wp2
      go_roundw
      case rel =>
        refine ⟨k + 1, by omega, by omega, by go_num, ?_, HB.out.setCell (Nat.le_refl _) _⟩
        refine (HO.out.tabPut k 1).tabSame (fun j hj => ?_)
        unfold updT
        by_cases e : j = k
        · subst e; rw [if_pos rfl, if_pos (by omega)]
        · rw [if_neg e]
          dsimp only
          by_cases e2 : 1 ≤ j ∧ j < k
          · rw [if_pos e2, if_pos (by omega)]
          · rw [if_neg e2, if_neg (by omega)]
      case measure => simp [intOf]; omega
    · obtain rfl : k = N := by omega
      have hgt' : ¬ (k : Int) ≤ (m : Int) := by omega
      have HO2 : Hid (Owns wr w.heap.size (.slice (some ⟨w.heap.size, 0, none⟩) k k) (tab k (fun v => if v = 0 then 0 else 1 + ((c.take 0).count (v : Int) : Int)))) := HO.out.tabSame (fun j hj => by
        by_cases e : j = 0
        · rw [if_pos e, if_neg (by omega)]
        · rw [if_neg e, if_pos (by omega)]; simp)
      clear HO hk hlt
      go_wp2
      go_loopw [8, 38] (fun _ q wr => ∃ j : Nat, j ≤ n ∧ q = .int .i64 j ∧ Hid (Owns wr w.heap.size (.slice (some ⟨w.heap.size, 0, none⟩) k k) (tab k (fun v => if v = 0 then 0 else 1 + ((c.take j).count (v : Int) : Int)))) ∧ Hid (Below w.heap.size w wr)) (fun _ q _ => n - (intOf q).toNat)
      case atStart => exact ⟨0, Nat.zero_le _, rfl, HO2, HB⟩
      case round =>
        clear HO2 HB
        obtain ⟨j, hj, rfl, HO, HB⟩ := hrel
        by_cases hlt : j < n
        · have hlt' : (j : Int) < (n : Int) := by omega
          have hjc : j < c.length := by rw [← HNz.out]; exact hlt
          obtain ⟨b, off, z, rfl, HZz, -, -, hc⟩ := (HS.out.below HB.out).elem (k := j) hjc
          have hz := HZ.out z (by rw [HZz.out]; exact getD_mem hjc)
          obtain ⟨p, rfl⟩ : ∃ p : Nat, z = p := ⟨z.toNat, by omega⟩
          have hpk : p < k := by omega
          have hpk' : (p : Int) < (k : Int) := by omega
          obtain ⟨hpf, hpc⟩ := HO.out.tabBox (j := p) hpk
          rw [if_neg (by omega)] at hpc
          obtain ⟨ep, Hep⟩ : ∃ ep : Int, Hid (ep = 1 + ((c.take j).count (p : Int) : Int)) := ⟨_, rfl⟩
          have he1 : 0 ≤ ep := by rw [Hep.out]; omega
          have he2 : ep ≤ 100 := by
            have h1 := List.count_le_length (a := (p : Int)) (l := c.take j)
            rw [List.length_take] at h1
            rw [Hep.out]; omega
          rw [← Hep.out] at hpc
          go_wp2
          go_roundw
          case rel =>
            refine ⟨j + 1, by omega, by go_num, ?_, HB.out.setCell (Nat.le_refl _) _⟩
            refine (HO.out.tabPut p (ep + 1)).tabSame (fun v hv => ?_)
            unfold updT
            rw [take_count hjc HZz.out]
            by_cases e : v = p
            · subst e
              rw [if_pos rfl, if_neg (by omega), if_pos rfl, Hep.out]; omega
            · rw [if_neg e, if_neg (show ¬ (p : Int) = (v : Int) by omega)]; rfl
          case measure => simp [intOf]; omega
        · obtain rfl : j = n := by omega
          have HO3 : Hid (Owns wr w.heap.size (.slice (some ⟨w.heap.size, 0, none⟩) k k) (tst c)) := by
            have h1 := HO.out
            rw [List.take_of_length_le (by rw [← HNz.out]; exact Nat.le_refl _)] at h1
            unfold tst
            rw [← HNz.out, show j + 3 = k by have := Hm.out; have := HN.out; omega]
            exact h1
          have HSt : Hid (St (rgV 1 (j + 2)) (tst c) (c.drop 0)) := by
            have h1 := St_start (c := c) (fun z hz => by have := HZ.out z hz; have := Hm.out; have := HNz.out; omega)
            rw [← HNz.out] at h1
            exact h1
          clear HO hj hlt
          obtain ⟨i2, hj2, hp0, hp1, hp2⟩ := info_parts Try.infoP
          go_wp2_with (at_make; refine wpList_make_own _ rfl _ _ 22 rfl wr.heap.size 34 i2 (.agg #[.int .i64 0, .int .i64 0]) 2 Try.underlyingP hj2 hp0 hp1 _ _ _ r rfl rfl rfl ?b1 ?b2 ?b3 ?_)
          case b1 => rw [hp2]; omega
          case b2 => unfold maxLen; omega
          case b3 => exact Nat.le_refl _
          intro w4 hown hgrow
          obtain ⟨G, HG⟩ : ∃ G, Hid (G = wr.heap.size) := ⟨_, rfl⟩
          have HB4 : Below wr.heap.size wr w4 := (Below.refl _ _).grown hgrow (Nat.le_refl _) (fun k h => by cases h)
          have HGw : Hid (w.heap.size < G) := by
            obtain ⟨_, cur, hcur, _⟩ := HO3.out.block (by rw [tst_length, ← HNz.out]; have := Hm.out; have := HN.out; omega)
            rw [HG.out]; exact (Array.getElem?_eq_some_iff.1 hcur).1
          have HO4 : Hid (Owns w4 w.heap.size (.slice (some ⟨w.heap.size, 0, none⟩) k k) (tst c)) := HO3.out.below HB4
          have HP4 : Hid (OwnsP w4 G (.slice (some ⟨G, 0, none⟩) 0 r) []) := by rw [HG.out]; exact hown
          have HB5 : Hid (Below w.heap.size w w4) := HB.out.trans (HB4.mono HB.out.size)
          have HG4 : Hid (G ≤ w4.heap.size) := by rw [HG.out]; exact HB4.size
          rw [← HG.out]
          clear hown hgrow HB4 HO3 HB hj2 hp0 hp1 hp2 i2 HG wr
          go_wp2
          go_loopw [9, 11, 12, 54] (fun v9 _ _ q wr => ∃ (i : Nat) (es V : List Int) (Mk : List (Int × Int)), i ≤ j ∧ q = .int .i64 i ∧ Hid (St V es (c.drop i)) ∧ Hid (es.length = k) ∧ Hid (∀ M', TrR es (c.drop i) M' → TrR (tst c) c (Mk ++ M')) ∧ Hid (Mk.length = i) ∧ Hid (Owns wr w.heap.size (.slice (some ⟨w.heap.size, 0, none⟩) k k) es) ∧ Hid (OwnsP wr G v9 Mk) ∧ Hid (Below w.heap.size w wr) ∧ Hid (G ≤ wr.heap.size)) (fun _ _ _ q _ => j - (intOf q).toNat)
          case atStart => exact ⟨0, tst c, _, [], Nat.zero_le _, rfl, HSt, by show _ = _; rw [tst_length, ← HNz.out]; have := Hm.out; have := HN.out; omega, fun M' h => h, rfl, HO4, HP4, HB5, HG4⟩
          case round =>
            clear HSt HO4 HP4 HB5 HG4
            obtain ⟨i, es, V, Mk, hi, rfl, HSt, HL, HT, HMl, HO, HP, HB, HGr⟩ := hrel
            by_cases hlt : i < j
            · have hlt' : (i : Int) < (j : Int) := by omega
              have hic : i < c.length := by rw [← HNz.out]; exact hlt
              obtain ⟨b, off, z, rfl, HZz, -, -, hc⟩ := (HS.out.below HB.out).elem (k := i) hic
              have Hd : Hid (c.drop i = z :: c.drop (i + 1)) := drop_getD hic HZz.out
              rw [Hd.out] at HSt HT
              obtain ⟨x, hx⟩ := HSt.out.leaf
              obtain ⟨n1, n2, n3, n4⟩ := HSt.out.next hx
              have hbz := HSt.out.2.2.1 z n3
              obtain ⟨p, rfl⟩ : ∃ p : Nat, z = p := ⟨z.toNat, by omega⟩
              rw [Int.toNat_natCast] at n1
              have HSn : Hid (St (V.erase (x : Int)) (dn es x p) (c.drop (i + 1))) := n1
              have HX : Hid (Lf es x) := hx
              have hxk : x < k := by rw [← HL.out]; exact hx.1
              have hpk : p < k := by rw [← HL.out]; omega
              have hxp : x ≠ p := by omega
              have hxk' : (x : Int) < (k : Int) := by omega
              have hpk' : (p : Int) < (k : Int) := by omega
              have hbd := HSt.out.bd (by have := HNz.out; simp; omega)
              have HIx : Hid (Calls Try.prog 22 #[.slice (some ⟨w.heap.size, 0, none⟩) k k, .int .i64 1] wr fun e w' => e = .returned (.int .i64 (x : Int)) ∧ w' = wr) := by
                have h1 := Index_any (some ⟨w.heap.size, 0, none⟩) k es 1 x wr (HO.out.showsAt HL.out.symm (by rw [HL.out]; omega) hbd) hx.idx
                rw [HL.out] at h1
                exact h1
              obtain ⟨mn, Hmn⟩ : ∃ mn : Int, Hid (mn = min (x : Int) (p : Int)) := ⟨_, rfl⟩
              obtain ⟨mx, Hmx⟩ : ∃ mx : Int, Hid (mx = max (x : Int) (p : Int)) := ⟨_, rfl⟩
              obtain ⟨W, HW⟩ : ∃ W, Hid (W = wr.alloc (.cells #[.int .i64 mn, .int .i64 mx] 34)) := ⟨_, rfl⟩
              have HE : Hid (Calls Try.prog 28 #[.int .i64 (x : Int), .int .i64 (p : Int)] wr fun e w' => e = .returned (.agg #[.int .i64 mn, .int .i64 mx]) ∧ w' = W) := by rw [HW.out, Hmn.out, Hmx.out]; exact edgeOf_at x p wr
              have HBW : Hid (Below wr.heap.size wr W) := by rw [HW.out]; exact (Below.refl _ _).alloc (Nat.le_refl _) _
              have HPW : Hid (OwnsP W G u9 Mk) := HP.out.below HBW.out
              have HOW : Hid (Owns W w.heap.size (.slice (some ⟨w.heap.size, 0, none⟩) k k) es) := HO.out.below HBW.out
              have HGW : Hid (G ≤ W.heap.size) := Nat.le_trans HGr.out HBW.out.size
              have HLk : Hid (Mk.length + 1 ≤ 1000) := by show _ ≤ _; rw [HMl.out]; omega
              have HBn : Hid (Below w.heap.size w W) := HB.out.trans (HBW.out.mono HB.out.size)
              obtain ⟨ex, Hex⟩ : ∃ ex, Hid (ex = es.getD x 0) := ⟨_, rfl⟩
              obtain ⟨ep, Hep⟩ : ∃ ep, Hid (ep = (es.set x (ex - 1)).getD p 0) := ⟨_, rfl⟩
              have hex1 : 0 ≤ ex := by rw [Hex.out, hx.2.1]; omega
              have hex2 : ex ≤ 2000 := by rw [Hex.out, hx.2.1]; omega
              have hep : 0 ≤ ep ∧ ep ≤ 2000 := by
                rw [Hep.out, getD_set' _ _ _ _ (by rw [HL.out]; exact hpk), if_neg hxp]
                exact hbd _ (getD_mem (by rw [HL.out]; exact hpk))
              clear n1 n2 n3 n4 hbz hx hbd HP HO HB HBW
              go_wp2_with fail
              refine HIx.out.mono ?_
              rintro e w9 ⟨rfl, hw9⟩
              obtain rfl : wr = w9 := hw9.symm
              clear hw9
              go_wp2_with fail
              refine HE.out.mono ?_
              rintro e w9 ⟨rfl, hw9⟩
              obtain rfl : W = w9 := hw9.symm
              clear hw9
              go_wp2_with (at_builtin; refine append_pair (x := mn) (y := mx) rfl _ _ rfl rfl rfl rfl HPW.out HLk.out HGW.out ?_)
              intro v' w' hP9 hB9
              have HP9 : Hid (OwnsP w' G v' (Mk ++ [(mn, mx)])) := hP9
              have HB9 : Hid (Below G W w') := hB9
              clear hP9 hB9 HIx HE HPW
              have HOe : Hid (Owns w' w.heap.size (.slice (some ⟨w.heap.size, 0, none⟩) k k) es) := HOW.out.under HGw.out HB9.out
              have HOs := HOe.out.store HL.out.symm x (ex - 1)
              obtain ⟨-, hfz, hcz⟩ := HOe.out.at HL.out.symm
              have hxf := hfz x
              have hxc := hcz x (by rw [HL.out]; exact hxk)
              rw [← Hex.out] at hxc
              obtain ⟨-, hfz2, hcz2⟩ := HOs.at (by rw [List.length_set]; exact HL.out.symm)
              have hpf := hfz2 p
              have hpc := hcz2 p (by rw [List.length_set, HL.out]; exact hpk)
              rw [← Hep.out] at hpc
              have HOn := HOs.store (by rw [List.length_set]; exact HL.out.symm) p (ep - 1)
              obtain ⟨hep1, hep2⟩ := hep
              have HOt : Hid (Owns ((w'.setCell ⟨w.heap.size, x, none⟩ (.int .i64 (ex - 1))).setCell ⟨w.heap.size, p, none⟩ (.int .i64 (ep - 1))) w.heap.size (.slice (some ⟨w.heap.size, 0, none⟩) k k) (dn es x p)) := by
                unfold dn
                rw [← Hex.out, ← Hep.out]; exact HOn
              clear hfz hcz hfz2 hcz2 HOs HOn HOe HOW
              go_wp2
              go_roundw
              case rel =>
                refine ⟨i + 1, dn es x p, V.erase (x : Int), Mk ++ [(mn, mx)], by omega, by go_num, HSn, by show _ = _; rw [dn_length]; exact HL.out, ?_, by show _ = _; rw [List.length_append, HMl.out]; rfl, HOt, ?_, ?_, ?_⟩
                · intro M' hM
                  rw [List.append_assoc]
                  exact HT.out _ ⟨x, M', HX.out, by rw [Hmn.out, Hmx.out]; rfl, by rw [Int.toNat_natCast]; exact hM⟩
                · exact (HP9.out.other HGw.out).other HGw.out
                · exact ((HBn.out.trans (HB9.out.mono (Nat.le_of_lt HGw.out))).setCell (Nat.le_refl _) _).setCell (Nat.le_refl _) _
                · exact Nat.le_trans HGW.out (Nat.le_trans HB9.out.size (((Below.refl 0 w').setCell (Nat.zero_le _) _).setCell (Nat.zero_le _) _).size)
              case measure => simp [intOf]; omega
            · obtain rfl : i = j := by omega
              rw [List.drop_of_length_le (by rw [← HNz.out]; exact Nat.le_refl _)] at HSt HT
              obtain ⟨x, hx⟩ := HSt.out.leaf
              obtain ⟨d, hd, hb1, hb2⟩ := HSt.out.two hx
              have HX : Hid (Lf es x) := hx
              have hxk : x < k := by rw [← HL.out]; exact hx.1
              have hxk' : (x : Int) < (k : Int) := by omega
              have hxd : x + 1 + d < k := by rw [← HL.out]; exact hb1
              have hbd := HSt.out.bd (by simp)
              have HIx : Hid (Calls Try.prog 22 #[.slice (some ⟨w.heap.size, 0, none⟩) k k, .int .i64 1] wr fun e w' => e = .returned (.int .i64 (x : Int)) ∧ w' = wr) := by
                have h1 := Index_any (some ⟨w.heap.size, 0, none⟩) k es 1 x wr (HO.out.showsAt HL.out.symm (by rw [HL.out]; omega) hbd) hx.idx
                rw [HL.out] at h1
                exact h1
              have HIy : Hid (Calls Try.prog 22 #[.slice (some ⟨w.heap.size, x + 1, none⟩) (k - (x + 1)) (k - (x + 1)), .int .i64 1] wr fun e w' => e = .returned (.int .i64 (d : Int)) ∧ w' = wr) := by
                have h1 := Index_any (some ⟨w.heap.size, x + 1, none⟩) (k - (x + 1)) (es.drop (x + 1)) 1 d wr ((HO.out.showsAt HL.out.symm (by rw [HL.out]; omega) hbd).drop (x + 1)) hd.idx
                rw [List.length_drop, HL.out] at h1
                exact h1
              clear hbd hd
              go_wp2_with fail
              refine HIx.out.mono ?_
              rintro e w9 ⟨rfl, hw9⟩
              obtain rfl : wr = w9 := hw9.symm
              clear hw9
              have hx1 : (x : Int) + 1 ≤ (k : Int) := by omega
              go_wp2_with fail
              refine HIy.out.mono ?_
              rintro e w9 ⟨rfl, hw9⟩
              obtain rfl : wr = w9 := hw9.symm
              clear hw9 HIx HIy
              obtain ⟨y, Hy⟩ : ∃ y : Nat, Hid (y = x + 1 + d) := ⟨_, rfl⟩
              have hy : (x : Int) + 1 + (d : Int) = (y : Int) := by have := Hy.out; omega
              obtain ⟨W, HW⟩ : ∃ W, Hid (W = wr.alloc (.cells #[.int .i64 (x : Int), .int .i64 (y : Int)] 34)) := ⟨_, rfl⟩
              have HE : Hid (Calls Try.prog 28 #[.int .i64 (x : Int), .int .i64 (y : Int)] wr fun e w' => e = .returned (.agg #[.int .i64 (x : Int), .int .i64 (y : Int)]) ∧ w' = W) := by
                have h1 := edgeOf_at x y wr
                rw [show min (x : Int) (y : Int) = x by omega, show max (x : Int) (y : Int) = y by omega, ← HW.out] at h1
                exact h1
              have HBW : Hid (Below wr.heap.size wr W) := by rw [HW.out]; exact (Below.refl _ _).alloc (Nat.le_refl _) _
              have HPW : Hid (OwnsP W G u9 Mk) := HP.out.below HBW.out
              have HGW : Hid (G ≤ W.heap.size) := Nat.le_trans HGr.out HBW.out.size
              have HLk : Hid (Mk.length + 1 ≤ 1000) := by show _ ≤ _; rw [HMl.out]; omega
              have HBn : Hid (Below w.heap.size w W) := HB.out.trans (HBW.out.mono HB.out.size)
              have HTe : Hid (TrR (tst c) c (Mk ++ [((x : Int), (y : Int))])) := HT.out _ ⟨x, y, HX.out, by have := Hy.out; omega, by rw [Hy.out]; exact hb1, by rw [Hy.out]; exact hb2, rfl⟩
              go_wp2_with fail
              refine HE.out.mono ?_
              rintro e w9 ⟨rfl, hw9⟩
              obtain rfl : W = w9 := hw9.symm
              clear hw9 HE
              go_wp2_with (at_builtin; refine append_pair (x := (x : Int)) (y := (y : Int)) rfl _ _ rfl rfl rfl rfl HPW.out HLk.out HGW.out ?_)
              intro v' w' hP9 hB9
              have HB9 : Hid (Below w.heap.size w w') := HBn.out.trans (hB9.mono (Nat.le_of_lt HGw.out))
              have HIO := inOrder_at HSC v' (Mk ++ [((x : Int), (y : Int))]) w' hP9 (by rw [List.length_append, HMl.out]; simp; omega) (Nat.le_trans HGW.out hB9.size)
              have HGs : Hid (w.heap.size ≤ G) := Nat.le_of_lt HGw.out
              clear hP9 hB9 HPW
              go_wp2_with fail
              refine HIO.mono ?_
              rintro e w8 ⟨rfl, X, HX1, HX2, HX3⟩
              go_wp2
              go_ret2
              exact ⟨v', Mk ++ [((x : Int), (y : Int))], X, rfl, ⟨HTe.out, HX1.out.1, HX1.out.2⟩, HX2.out.mono HGs.out, HB9.out.trans (HX3.out.mono HGs.out)⟩
end Go.Proofs.Ytihafckdaecgkaa
