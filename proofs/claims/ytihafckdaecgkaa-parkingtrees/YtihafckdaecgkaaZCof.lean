/-
  Code: the code of a tree.
-/
import Derived.Test.YtihafckdaecgkaaZCod
namespace Go.Proofs.Ytihafckdaecgkaa
open Go.RowKit

theorem dg_take {L : List (Int × Int)} {k : Nat} (hk : k < L.length) {x y : Int} (he : (x, y) = L.getD k (0, 0)) (v : Int) : dg (L.take (k + 1)) v = dg (L.take k) v + ((if x = v then 1 else 0) + (if y = v then 1 else 0)) := by
  rw [List.take_add_one, dg_append, List.getElem?_eq_getElem hk, show L[k] = (x, y) by rw [he]; simp [List.getD, hk]]
  show _ = _
  rw [Option.toList_some, dg_cons]
  simp [dg]
theorem dg_le (L : List (Int × Int)) (v : Int) : dg L v ≤ 2 * L.length := by
  induction L with
  | nil => simp [dg]
  | cons e L ih => rw [dg_cons, List.length_cons]; split <;> split <;> omega

set_option maxHeartbeats 16000000 in
set_option maxRecDepth 100000 in
theorem Code_ok (a : Option Addr) (n cap : Nat) (L : List (Int × Int)) (w : World) (hs : ShowsP w a L) (hwf : ∀ e ∈ L, (-9223372036854775808 ≤ e.1 ∧ e.1 ≤ 9223372036854775807) ∧ -9223372036854775808 ≤ e.2 ∧ e.2 ≤ 9223372036854775807) (hn : n = L.length) (h1 : 1 ≤ n) (h19 : n ≤ 19) (hi : itr (1 : Nat) ((1 + n : Nat) : Int) id L = true) :
    Calls Try.prog 5 #[.slice a n cap] w fun e w' => ∃ v c es, e = .returned (.tuple #[v, .int .i64 0]) ∧ Hid (Ed es L ∧ es.length = n + 2 ∧ CdR es c L) ∧ Hid (Owns w' w.heap.size v c) ∧ Hid (Below w.heap.size w w') := by
  have h' : ¬ (19 : Int) < (n : Int) := by omega
  have hb0 : ((n : Int) == 0) = false := beq_eq_false_iff_ne.2 (by omega)
  obtain ⟨N, HN⟩ : ∃ N : Nat, Hid (N = n + 2) := ⟨_, rfl⟩
  obtain ⟨r, Hr⟩ : ∃ r : Nat, Hid (r = n - 1) := ⟨_, rfl⟩
  have hN : (n : Int) + 2 = (N : Int) := by have := HN.out; omega
  have hr : (n : Int) - 1 = (r : Int) := by have := Hr.out; omega
  have hN30 : N ≤ 30 := by have := HN.out; omega
  have hr30 : r ≤ 30 := by have := Hr.out; omega
  have HNz : Hid (n = L.length) := hn
  have HTr : Hid (Tr (rgV 1 (n + 1)) L) := (itr_tr hn).1 hi
  have HC := isTree_at a n cap 1 L true w hs hwf hn (by omega) (by omega) hi
  obtain ⟨b, off, rfl, hbl, hcs⟩ := hs.cells (by intro e; rw [e] at hn; simp at hn; omega)
  have HS : Hid (ShowsP w (some ⟨b, off, none⟩) L) := hs
  clear hs hwf hn hi hbl hcs
  obtain ⟨i1, hj, hy0, hy1, hy2⟩ := info_parts Try.info3
  go_enter Try.func5, Try.ntmps5
  go_wp2_with fail
  refine HC.mono ?_
  rintro e w1 ⟨rfl, HB1⟩
  have HCl := CloneP_at ⟨b, off, none⟩ n cap L w1 (HS.out.below HB1.out) HNz.out (by rw [← HNz.out]; omega)
  go_wp2_with fail
  refine HCl.mono ?_
  rintro e w2 ⟨v4, rfl, HL2, HB2⟩
  clear HCl HC
  obtain ⟨g, cap4, rfl, HLg, Hg1, Hg2⟩ : ∃ g cap4, v4 = .slice (some ⟨g, 0, none⟩) n cap4 ∧ Hid (OwnsP w2 g (.slice (some ⟨g, 0, none⟩) n cap4) L) ∧ Hid (w.heap.size ≤ g) ∧ Hid (g < w2.heap.size) := by
    rcases HL2.out.2 with ⟨_, h3⟩ | ⟨g, cap4, cur, hv, hg, hh, rest⟩
    · rw [← HNz.out] at h3; omega
    · rw [← HNz.out] at hv
      refine ⟨g, cap4, hv, ⟨HL2.out.1, Or.inr ⟨g, cap4, cur, by rw [← HNz.out], Nat.le_refl _, hh, rest⟩⟩, Nat.le_trans HB1.out.size hg, (Array.getElem?_eq_some_iff.1 hh).1⟩
  have HBw2 : Hid (Below w.heap.size w w2) := HB1.out.trans (HB2.out.mono HB1.out.size)
  clear HL2 HB1 HB2
  go_wp2_with (at_make; refine wpList_make_full _ rfl _ _ 23 rfl w2.heap.size 3 i1 (.int .i64 0) 1 Try.underlying23 hj hy0 hy1 _ _ _ _ N rfl rfl rfl rfl ?b1 ?b2 ?b3 ?_)
  case b1 => rw [hy2]; omega
  case b2 => unfold maxLen; omega
  case b3 => exact Nat.le_refl _
  intro w3 hown hgrow
  obtain ⟨E, HE⟩ : ∃ E, Hid (E = w2.heap.size) := ⟨_, rfl⟩
  have HB3 : Hid (Below E w2 w3) := by rw [HE.out]; exact (Below.refl _ _).grown hgrow (Nat.le_refl _) (fun k h => by cases h)
  have HO3 : Hid (Owns w3 E (.slice (some ⟨E, 0, none⟩) N N) (tab N (fun v => (dg (L.take 0) (v : Int) : Int)))) := by rw [HE.out]; exact (owns_mkT hown).tabSame (fun j _ => rfl)
  have HE3 : Hid (E < w3.heap.size) := by
    obtain ⟨_, cur, hcur, _⟩ := HO3.out.block (by rw [tab_length])
    exact (Array.getElem?_eq_some_iff.1 hcur).1
  have HgE : Hid (g < E) := by rw [HE.out]; exact Hg2.out
  have HwE : Hid (w.heap.size ≤ E) := Nat.le_trans Hg1.out (Nat.le_of_lt HgE.out)
  rw [← HE.out]
  clear hown hgrow Hg2
  go_wp2
  go_loopw [7, 31] (fun _ q wr => ∃ k : Nat, k ≤ n ∧ q = .int .i64 k ∧ Hid (Owns wr E (.slice (some ⟨E, 0, none⟩) N N) (tab N (fun v => (dg (L.take k) (v : Int) : Int)))) ∧ Hid (Below E w2 wr) ∧ Hid (E < wr.heap.size)) (fun _ q _ => n - (intOf q).toNat)
  case atStart => exact ⟨0, Nat.zero_le _, rfl, HO3, HB3, HE3⟩
  case round =>
    clear HO3 HB3 HE3
    obtain ⟨k, hk, rfl, HO, HB, HEr⟩ := hrel
    have HBw : Hid (Below w.heap.size w wr) := HBw2.out.trans (HB.out.mono HwE.out)
    by_cases hlt : k < n
    · have hlt' : (k : Int) < (n : Int) := by omega
      have hkL : k < L.length := by rw [← HNz.out]; exact hlt
      obtain ⟨b', off', x, y, hab, -, Hel, hc0, hc1⟩ := (HS.out.below HBw.out).elem hkL
      cases hab
      have hm := HTr.out.2.2.1 _ (getD_memP hkL)
      rw [← Hel.out, mem_rgV, mem_rgV] at hm
      obtain ⟨p, rfl⟩ : ∃ p : Nat, x = p := ⟨x.toNat, by omega⟩
      obtain ⟨q, rfl⟩ : ∃ q : Nat, y = q := ⟨y.toNat, by omega⟩
      have hpN : p < N := by have := HN.out; omega
      have hqN : q < N := by have := HN.out; omega
      have hpN' : (p : Int) < (N : Int) := by omega
      have hqN' : (q : Int) < (N : Int) := by omega
      obtain ⟨W, HW⟩ : ∃ W, Hid (W = wr.alloc (.cells #[.int .i64 (p : Int), .int .i64 (q : Int)] 34)) := ⟨_, rfl⟩
      have HBW : Hid (Below wr.heap.size wr W) := by rw [HW.out]; exact (Below.refl _ _).alloc (Nat.le_refl _) _
      have HOW : Hid (Owns W E (.slice (some ⟨E, 0, none⟩) N N) (tab N (fun v => (dg (L.take k) (v : Int) : Int)))) := HO.out.below HBW.out
      have hf0 : W.cell? ⟨wr.heap.size, 0, none⟩ = some (.int .i64 (p : Int)) := by rw [HW.out, World.cell?_alloc_at _ _ _ _ rfl]; rfl
      have hf1 : W.cell? ⟨wr.heap.size, 1, none⟩ = some (.int .i64 (q : Int)) := by rw [HW.out, World.cell?_alloc_at _ _ _ _ rfl]; rfl
      obtain ⟨ep, Hep⟩ : ∃ ep : Int, Hid (ep = (dg (L.take k) (p : Int) : Int)) := ⟨_, rfl⟩
      obtain ⟨eq, Heq⟩ : ∃ eq : Int, Hid (eq = updT (fun v => (dg (L.take k) (v : Int) : Int)) p (ep + 1) q) := ⟨_, rfl⟩
      have hdl : ∀ v : Int, (dg (L.take k) v : Int) ≤ 40 := fun v => by
        have := dg_le (L.take k) v
        rw [List.length_take] at this
        omega
      have he1 : 0 ≤ ep := by rw [Hep.out]; omega
      have he2 : ep ≤ 100 := by rw [Hep.out]; have := hdl p; omega
      have he3 : 0 ≤ eq := by rw [Heq.out]; unfold updT; split; omega; dsimp only; omega
      have he4 : eq ≤ 101 := by rw [Heq.out]; unfold updT; split; omega; have := hdl q; dsimp only; omega
      obtain ⟨hpf, hpc⟩ := HOW.out.tabBox (j := p) hpN
      rw [← Hep.out] at hpc
      have HO1 := HOW.out.tabPut p (ep + 1)
      obtain ⟨hqf, hqc⟩ := HO1.tabBox (j := q) hqN
      rw [← Heq.out] at hqc
      have hne : E ≠ wr.heap.size := Nat.ne_of_lt HEr.out
      have hf2 : (W.setCell ⟨E, p, none⟩ (.int .i64 (ep + 1))).cell? ⟨wr.heap.size, 1, none⟩ = some (.int .i64 (q : Int)) := by
        rw [World.cell?_of_block (Below.heap_setCell _ _ _ _ (by show wr.heap.size ≠ E; exact fun c => hne c.symm))]; exact hf1
      have HO2 : Hid (Owns ((W.setCell ⟨E, p, none⟩ (.int .i64 (ep + 1))).setCell ⟨E, q, none⟩ (.int .i64 (eq + 1))) E (.slice (some ⟨E, 0, none⟩) N N) (tab N (fun v => (dg (L.take (k + 1)) (v : Int) : Int)))) := by
        refine (HO1.tabPut q (eq + 1)).tabSame (fun v hv => ?_)
        rw [dg_take hkL Hel.out]
        unfold updT
        by_cases c1 : v = q
        · subst c1
          rw [if_pos rfl, Heq.out]
          unfold updT
          by_cases c2 : v = p
          · subst c2
            rw [if_pos rfl, Hep.out]; simp; omega
          · rw [if_neg c2, if_neg (show ¬ (p : Int) = (v : Int) by omega)]; simp
        · rw [if_neg c1, if_neg (show ¬ (q : Int) = (v : Int) by omega)]
          by_cases c2 : v = p
          · subst c2
            rw [if_pos rfl, Hep.out]; simp
          · rw [if_neg c2, if_neg (show ¬ (p : Int) = (v : Int) by omega)]; simp
      clear HO1 hdl hm
      have HBn : Hid (Below E w2 ((W.setCell ⟨E, p, none⟩ (.int .i64 (ep + 1))).setCell ⟨E, q, none⟩ (.int .i64 (eq + 1)))) := ((HB.out.trans (HBW.out.mono (Nat.le_of_lt HEr.out))).setCell (Nat.le_refl _) _).setCell (Nat.le_refl _) _
      have HEn : Hid (E < ((W.setCell ⟨E, p, none⟩ (.int .i64 (ep + 1))).setCell ⟨E, q, none⟩ (.int .i64 (eq + 1))).heap.size) := Nat.lt_of_lt_of_le HEr.out (Nat.le_trans HBW.out.size (((Below.refl 0 W).setCell (Nat.zero_le _) _).setCell (Nat.zero_le _) _).size)
      go_upto_region 10 with fail
      rw [← HW.out]
      go_wp2
      go_roundw
      case rel => exact ⟨k + 1, by omega, by go_num, HO2, HBn, HEn⟩
      case measure => simp [intOf]; omega
    · obtain rfl : k = n := by omega
      obtain ⟨es0, Hes⟩ : ∃ es0, Hid (es0 = tab N (fun v => (dg L (v : Int) : Int))) := ⟨_, rfl⟩
      have HO4 : Hid (Owns wr E (.slice (some ⟨E, 0, none⟩) N N) es0) := by
        have h1 := HO.out
        rw [List.take_of_length_le (by rw [← HNz.out]; exact Nat.le_refl _), ← Hes.out] at h1
        exact h1
      have HEd : Hid (Ed es0 L) := fun v hv => by
        rw [Hes.out] at hv ⊢
        rw [tab_length] at hv
        exact tab_getD _ _ _ hv
      have HEl : Hid (es0.length = N) := by rw [Hes.out]; exact tab_length _ _
      have HVB : Hid (VB (rgV 1 (k + 1)) es0) := fun v hv => by
        have := mem_rgV.1 hv
        have := HN.out
        rw [HEl.out]; omega
      have HLr : Hid (OwnsP wr g (.slice (some ⟨g, 0, none⟩) k cap4) L) := HLg.out.underG HgE.out HB.out
      clear HO Hes HLg HB hlt hk
      go_wp2_with (at_make; refine wpList_make_own _ rfl _ _ 23 rfl wr.heap.size 3 i1 (.int .i64 0) 1 Try.underlying23 hj hy0 hy1 _ _ _ r rfl rfl rfl ?b1 ?b2 ?b3 ?_)
      case b1 => rw [hy2]; omega
      case b2 => unfold maxLen; omega
      case b3 => exact Nat.le_refl _
      intro w5 hown hgrow
      obtain ⟨C, HCe⟩ : ∃ C, Hid (C = wr.heap.size) := ⟨_, rfl⟩
      have HB5 : Below wr.heap.size wr w5 := (Below.refl _ _).grown hgrow (Nat.le_refl _) (fun k h => by cases h)
      have HEC : Hid (E < C) := by rw [HCe.out]; exact HEr.out
      have HO5 : Hid (Owns w5 E (.slice (some ⟨E, 0, none⟩) N N) es0) := HO4.out.below HB5
      have HL5 : Hid (OwnsP w5 g (.slice (some ⟨g, 0, none⟩) k cap4) L) := HLr.out.below HB5
      have HC5 : Hid (Owns w5 C (.slice (some ⟨C, 0, none⟩) 0 r) []) := by rw [HCe.out]; exact hown
      have HBw5 : Hid (Below w.heap.size w w5) := HBw.out.trans (HB5.mono HBw.out.size)
      have HCs : Hid (C ≤ w5.heap.size) := by rw [HCe.out]; exact HB5.size
      rw [← HCe.out]
      clear hown hgrow HB5 HO4 HLr HBw HEr HCe hj hy0 hy1 hy2 i1
      go_wp2
      go_loopw [4, 8, 9, 10, 11] (fun v4 v8 _ _ _ wr => ∃ (lf : List (Int × Int)) (es V cs : List Int), v4 = .slice (some ⟨g, 0, none⟩) lf.length cap4 ∧ 1 ≤ lf.length ∧ lf.length ≤ k ∧ Hid (Tr V lf) ∧ Hid (Ed es lf) ∧ Hid (VB V es) ∧ Hid (es.length = N) ∧ Hid (∀ c', CdR es c' lf → CdR es0 (cs ++ c') L) ∧ Hid (cs.length ≤ 30) ∧ Hid (cs.length + lf.length = k) ∧ Hid (OwnsP wr g v4 lf) ∧ Hid (Owns wr E (.slice (some ⟨E, 0, none⟩) N N) es) ∧ Hid (Owns wr C v8 cs) ∧ Hid (Below w.heap.size w wr) ∧ Hid (C ≤ wr.heap.size)) (fun v4 _ _ _ _ _ => lenOf v4)
      case atStart => exact ⟨L, es0, _, [], by rw [HNz.out], by rw [← HNz.out]; exact h1, by rw [← HNz.out]; exact Nat.le_refl _, HTr, HEd, HVB, HEl, fun c' h => h, by simp [Hid], by show _ = _; rw [← HNz.out]; simp, HL5, HO5, HC5, HBw5, HCs⟩
      case round =>
        clear HO5 HL5 HC5 HBw5 HCs HVB
        obtain ⟨lf, es, V, cs, rfl, hl1, hlk, HT, HD, HV, HL, HR, HCl, HCk, HP, HO, HCo, HB, HCr⟩ := hrel
        obtain ⟨m, Hm⟩ : ∃ m, Hid (m = lf.length) := ⟨_, rfl⟩
        rw [← Hm.out] at HP hl1 hlk ⊢
        by_cases hgt : 1 < m
        · have hgt' : (1 : Int) < (m : Int) := by omega
          obtain ⟨x, hx⟩ := HT.out.lf HD.out HV.out (by rw [← Hm.out]; omega)
          obtain ⟨hd1, e, L1, L2, o, hL, hj, hno⟩ := HT.out.edge HD.out hx
          have HLf : Hid (lf = L1 ++ e :: L2) := hL
          have hT' := HT.out
          have hD' := HD.out
          rw [hL] at hT' hD'
          obtain ⟨n1, n2, n3, n4, n5, n6, n7⟩ := hT'.next hD' HV.out hx hj
          have hbo := HV.out o n6
          obtain ⟨p, rfl⟩ : ∃ p : Nat, o = p := ⟨o.toNat, by omega⟩
          rw [Int.toNat_natCast] at n2 n3
          have HTn : Hid (Tr (V.erase (x : Int)) (L1 ++ L2)) := n1
          have HDn : Hid (Ed (dn es x p) (L1 ++ L2)) := n2
          have HVn : Hid (VB (V.erase (x : Int)) (dn es x p)) := n3
          have HX : Hid (Lf es x) := hx
          have HJ : Hid (Jn e x p) := hj
          obtain ⟨i, Hi⟩ : ∃ i, Hid (i = L1.length) := ⟨_, rfl⟩
          have hgi : lf.getD i (0, 0) = e := by rw [hL, Hi.out]; simp [List.getD]
          have him : i < m := by rw [Hm.out, hL, Hi.out]; simp
          have him' : (i : Int) < (m : Int) := by omega
          have hxN : x < N := by rw [← HL.out]; exact hx.1
          have hpN : p < N := by rw [← HL.out]; omega
          have hxp : x ≠ p := by omega
          have hxN' : (x : Int) < (N : Int) := by omega
          have hpN' : (p : Int) < (N : Int) := by omega
          have hdb : ∀ z ∈ es, 0 ≤ z ∧ z ≤ 2000 := fun z hz => by
            obtain ⟨q, hq, rfl⟩ := mem_getD hz
            rw [HD.out q hq]
            have := dg_le lf q
            rw [← Hm.out] at this
            omega
          have HIx : Hid (Calls Try.prog 22 #[.slice (some ⟨E, 0, none⟩) N N, .int .i64 1] wr fun e w' => e = .returned (.int .i64 (x : Int)) ∧ w' = wr) := by
            have h1 := Index_any (some ⟨E, 0, none⟩) N es 1 x wr (HO.out.showsAt HL.out.symm (by rw [HL.out]; omega) hdb) hx.idx
            rw [HL.out] at h1
            exact h1
          obtain ⟨W, HW⟩ : ∃ W, Hid (W = wr.alloc (.cells #[.int .i64 (x : Int)] 3)) := ⟨_, rfl⟩
          have HBW : Hid (Below wr.heap.size wr W) := by rw [HW.out]; exact (Below.refl _ _).alloc (Nat.le_refl _) _
          have hcx : W.cell? ⟨wr.heap.size, 0, none⟩ = some (.int .i64 (x : Int)) := by rw [HW.out, World.cell?_alloc_at _ _ _ _ rfl]; rfl
          have hWs : wr.heap.size < W.heap.size := by rw [HW.out]; simp
          have HPW : Hid (OwnsP W g (.slice (some ⟨g, 0, none⟩) m cap4) lf) := HP.out.below HBW.out
          have HSW : Hid (ShowsP W (some ⟨g, 0, none⟩) lf) := by
            obtain ⟨a', c', hv, hs⟩ := HPW.out.shows (by rw [← Hm.out]; omega)
            cases hv; exact hs
          have HIf := IndexP_at (some ⟨g, 0, none⟩) m cap4 wr.heap.size i lf x W HSW.out Hm.out (by omega) hcx hWs him (by rw [hgi]; exact hj.ends) (fun j hj => by
            have e1 : lf.getD j (0, 0) = L1.getD j (0, 0) := by rw [hL]; simp [List.getD, List.getElem?_append_left (show j < L1.length by rw [← Hi.out]; exact hj)]
            rw [e1]; exact hno _ (getD_memP (by rw [← Hi.out]; exact hj)))
          clear n1 n2 n3 n4 n5 n6 n7 hT' hD' hj hx hno hd1
          go_wp2_with fail
          refine HIx.out.mono ?_
          rintro e' w9 ⟨rfl, hw9⟩
          obtain rfl : wr = w9 := hw9.symm
          clear hw9 HIx
          go_upto_region 16 with fail
          rw [← HW.out]
          go_wp2_with fail
          refine HIf.mono ?_
          rintro e' w6 ⟨rfl, HB6⟩
          clear HIf
          obtain ⟨B, HBe⟩ : ∃ B, Hid (B = wr.heap.size) := ⟨_, rfl⟩
          rw [← HBe.out]
          have HP6 : Hid (OwnsP w6 g (.slice (some ⟨g, 0, none⟩) m cap4) lf) := HPW.out.below HB6.out
          have HO6 : Hid (Owns w6 E (.slice (some ⟨E, 0, none⟩) N N) es) := (HO.out.below HBW.out).below HB6.out
          have HC6 : Hid (Owns w6 C u8 cs) := (HCo.out.below HBW.out).below HB6.out
          have hl6 : w6.cell? ⟨B, 0, none⟩ = some (.int .i64 (x : Int)) := by rw [HBe.out]; exact (HB6.out.cell (p := ⟨wr.heap.size, 0, none⟩) hWs).trans hcx
          have HB6w : Hid (Below w.heap.size w w6) := (HB.out.trans (HBW.out.mono HB.out.size)).trans (HB6.out.mono (Nat.le_trans HB.out.size HBW.out.size))
          have HC6s : Hid (C ≤ w6.heap.size) := Nat.le_trans HCr.out (Nat.le_trans HBW.out.size HB6.out.size)
          have HBs : Hid (B < w6.heap.size) := by rw [HBe.out]; exact Nat.lt_of_lt_of_le hWs HB6.out.size
          have HuB : Hid (u8.ownBlock ≠ some B) := fun c => by
            have := (World.ownsRow.lt HCo.out B c).2
            rw [HBe.out] at this
            exact absurd this (Nat.lt_irrefl _)
          obtain ⟨b', off', ea, eb, hab, -, Hel, hc0, hc1⟩ := (HSW.out.below HB6.out).elem (k := i) (by rw [← Hm.out]; exact him)
          cases hab
          rw [Nat.zero_add] at hc0 hc1
          have hEb := HT.out.2.2.1 e (by rw [HLf.out]; simp)
          have hv1 := HV.out _ hEb.1
          have hv2 := HV.out _ hEb.2
          rw [HL.out] at hv1 hv2
          rw [hgi] at Hel
          have hJ := HJ.out
          rw [← Hel.out] at hv1 hv2 hJ
          obtain ⟨s, Hs⟩ : ∃ s, Hid (s = ea + eb) := ⟨_, rfl⟩
          have hs1 : ea + eb = s := Hs.out.symm
          have hs2 : s - (x : Int) = (p : Int) := by rw [← hs1]; rcases hJ with ⟨q1, q2⟩ | ⟨q1, q2⟩ <;> simp only at q1 q2 <;> omega
          have hs3 : 0 ≤ s ∧ s ≤ 100 := by rw [← hs1]; simp only at hv1 hv2; omega
          have hv3 : 0 ≤ ea ∧ ea ≤ 100 := by simp only at hv1; omega
          have hv4 : 0 ≤ eb ∧ eb ≤ 100 := by simp only at hv2; omega
          clear hv1 hv2 hJ hEb hcx hWs
          go_wp2_with fail
          go_quiet (fail)
          obtain ⟨W7, HW7⟩ : ∃ W7, Hid (W7 = w6.drewN nq) := ⟨_, rfl⟩
          rw [← HW7.out]
          have HB67 : Hid (Below w6.heap.size w6 W7) := by rw [HW7.out]; exact below_drewN (Below.refl _ _) nq
          have HP7 : Hid (OwnsP W7 g (.slice (some ⟨g, 0, none⟩) m cap4) lf) := HP6.out.below HB67.out
          have HO7 : Hid (Owns W7 E (.slice (some ⟨E, 0, none⟩) N N) es) := HO6.out.below HB67.out
          have HC7 : Hid (W7.ownsRow C 3 1 u8 (cs.map (Value.int .i64)).length (cs.map (Value.int .i64))) := vals_of_owns (HC6.out.below HB67.out)
          have hl7 : W7.cell? ⟨B, 0, none⟩ = some (.int .i64 (x : Int)) := (HB67.out.cell (p := ⟨B, 0, none⟩) HBs.out).trans hl6
          have HB7w : Hid (Below w.heap.size w W7) := HB6w.out.trans (HB67.out.mono HB6w.out.size)
          have HC7s : Hid (C ≤ W7.heap.size) := Nat.le_trans HC6s.out HB67.out.size
          have HBs7 : Hid (B < W7.heap.size) := Nat.lt_of_lt_of_le HBs.out HB67.out.size
          clear HP6 HO6 HC6 hl6 HB6w HC6s HBs HW7 HB67 hc0 hc1 hs1 hs2 hs3 hv3 hv4
          go_wp2_with (at_builtin; refine append_one elem_int (x := .int .i64 (p : Int)) rfl _ _ rfl rfl rfl rfl HC7.out rfl ?c1 ?c2 ?c3 ?_)
          case c1 => rw [List.length_map]; unfold maxLen; have := HCl.out; omega
          case c2 => rw [List.length_map]; have := HCl.out; omega
          case c3 => exact HC7s.out
          intro v' w8 hC8 hB8 hK8
          have HC8 : Hid (Owns w8 C v' (cs ++ [(p : Int)])) := owns_of_vals (by rw [List.length_append, List.length_map]; exact hC8)
          have HB8 : Hid (Below C W7 w8) := hB8
          have hl8 : w8.cell? ⟨B, 0, none⟩ = some (.int .i64 (x : Int)) := by
            rw [World.cell?_of_block (w := W7) (hK8.block B HBs7.out HuB.out)]; exact hl7
          have HO8 : Hid (Owns w8 E (.slice (some ⟨E, 0, none⟩) N N) es) := HO7.out.under HEC.out HB8.out
          have HP8 : Hid (OwnsP w8 g (.slice (some ⟨g, 0, none⟩) m cap4) lf) := HP7.out.underG (Nat.lt_trans HgE.out HEC.out) HB8.out
          have HB8w : Hid (Below w.heap.size w w8) := HB7w.out.trans (HB8.out.mono (Nat.le_trans HwE.out (Nat.le_of_lt HEC.out)))
          have HC8s : Hid (C ≤ w8.heap.size) := Nat.le_trans HC7s.out HB8.out.size
          clear hC8 hB8 hK8 HP7 HO7 HC7 hl7 HB7w HC7s HBs7 HB8
          obtain ⟨ex, Hex⟩ : ∃ ex, Hid (ex = es.getD x 0) := ⟨_, rfl⟩
          obtain ⟨ep, Hep⟩ : ∃ ep, Hid (ep = (es.set x (ex - 1)).getD p 0) := ⟨_, rfl⟩
          have hex1 : 0 ≤ ex := by rw [Hex.out, HX.out.2.1]; omega
          have hex2 : ex ≤ 2000 := by rw [Hex.out, HX.out.2.1]; omega
          have hep : 0 ≤ ep ∧ ep ≤ 2000 := by
            rw [Hep.out, getD_set' _ _ _ _ (by rw [HL.out]; exact hpN), if_neg hxp]
            exact hdb _ (getD_mem (by rw [HL.out]; exact hpN))
          have HOs := HO8.out.store HL.out.symm x (ex - 1)
          obtain ⟨-, hfz, hcz⟩ := HO8.out.at HL.out.symm
          have hxf := hfz x
          have hxc := hcz x (by rw [HL.out]; exact hxN)
          rw [← Hex.out] at hxc
          obtain ⟨-, hfz2, hcz2⟩ := HOs.at (by rw [List.length_set]; exact HL.out.symm)
          have hpf := hfz2 p
          have hpc := hcz2 p (by rw [List.length_set, HL.out]; exact hpN)
          rw [← Hep.out] at hpc
          have HOn := HOs.store (by rw [List.length_set]; exact HL.out.symm) p (ep - 1)
          obtain ⟨hep1, hep2⟩ := hep
          obtain ⟨W9, HW9⟩ : ∃ W9, Hid (W9 = (w8.setCell ⟨E, x, none⟩ (.int .i64 (ex - 1))).setCell ⟨E, p, none⟩ (.int .i64 (ep - 1))) := ⟨_, rfl⟩
          have HO9 : Hid (Owns W9 E (.slice (some ⟨E, 0, none⟩) N N) (dn es x p)) := by
            rw [HW9.out]; unfold dn
            rw [← Hex.out, ← Hep.out]; exact HOn
          have HP9 : Hid (OwnsP W9 g (.slice (some ⟨g, 0, none⟩) m cap4) lf) := by rw [HW9.out]; exact (HP8.out.otherG (Nat.ne_of_lt HgE.out)).otherG (Nat.ne_of_lt HgE.out)
          have HC9 : Hid (Owns W9 C v' (cs ++ [(p : Int)])) := by rw [HW9.out]; exact (HC8.out.otherV HEC.out).otherV HEC.out
          have HB9w : Hid (Below w.heap.size w W9) := by rw [HW9.out]; exact (HB8w.out.setCell HwE.out _).setCell HwE.out _
          have HC9s : Hid (C ≤ W9.heap.size) := by rw [HW9.out]; exact Nat.le_trans HC8s.out (((Below.refl 0 w8).setCell (Nat.zero_le _) _).setCell (Nat.zero_le _) _).size
          have HgC : Hid (g < C) := Nat.lt_trans HgE.out HEC.out
          have HDl := DeleteP_own g m cap4 i g lf W9 HP9.out Hm him (by omega) (Nat.le_trans (Nat.le_of_lt HgC.out) HC9s.out)
          clear hfz hcz hfz2 hcz2 HOs HOn HO8 HP8 HC8 HB8w HC8s
          go_upto_region 21 with fail
          rw [← HW9.out]
          go_wp2_with fail
          refine HDl.mono ?_
          rintro e' w10 ⟨rfl, hP10, hB10, hU10⟩
          have Hcut : Hid (lf.take i ++ lf.drop (i + 1) = L1 ++ L2) := by
            show _ = _
            rw [HLf.out, Hi.out]; simp
          rw [Hcut.out] at hP10
          have Hml : Hid (m - 1 = (L1 ++ L2).length) := by
            show _ = _
            rw [Hm.out, HLf.out]; simp
          have HP10 : Hid (OwnsP w10 g (.slice (some ⟨g, 0, none⟩) (m - 1) cap4) (L1 ++ L2)) := hP10
          have HO10 : Hid (Owns w10 E (.slice (some ⟨E, 0, none⟩) N N) (dn es x p)) := HO9.out.butG hU10 (fun c => by have := HgE.out; omega)
          have HC10 : Hid (Owns w10 C v' (cs ++ [(p : Int)])) := HC9.out.butGv hU10 HgC.out
          have HB10 : Hid (Below w.heap.size w w10) := HB9w.out.trans (hB10.mono Hg1.out)
          have HC10s : Hid (C ≤ w10.heap.size) := Nat.le_trans HC9s.out hB10.size
          have hm1 : 1 ≤ m - 1 := by omega
          have hm2 : m - 1 ≤ k := by omega
          have hm3 : m - 1 < m := by omega
          clear hP10 hB10 hU10 HDl
          go_wp2
          go_roundw
          case rel =>
            refine ⟨L1 ++ L2, dn es x p, V.erase (x : Int), cs ++ [(p : Int)], by rw [← Hml.out], by rw [← Hml.out]; exact hm1, by rw [← Hml.out]; exact hm2, HTn, HDn, HVn, by show _ = _; rw [dn_length]; exact HL.out, ?_, ?_, ?_, HP10, HO10, HC10, HB10, HC10s⟩
            · intro c' hc'
              rw [List.append_assoc]
              refine HR.out _ ⟨x, e, L1, L2, HX.out, HLf.out, HJ.out, ?_⟩
              rw [Int.toNat_natCast]; exact hc'
            · show _ ≤ _
              rw [List.length_append, List.length_singleton]
              have := HCk.out
              rw [← Hm.out] at this
              omega
            · show _ = _
              rw [List.length_append, List.length_singleton, ← Hml.out]
              have := HCk.out
              rw [← Hm.out] at this
              omega
          case measure => exact hm3
        · have hm1 : m = 1 := by omega
          have HR1 : Hid (CdR es0 cs L) := by
            have h1 := HR.out [] (by show lf.length = 1; rw [← Hm.out]; exact hm1)
            rw [List.append_nil] at h1; exact h1
          have HwC : Hid (w.heap.size ≤ C) := Nat.le_trans HwE.out (Nat.le_of_lt HEC.out)
          subst hm1
          go_wp2
          go_ret2
          exact ⟨u8, cs, es0, rfl, ⟨HEd.out, by rw [HEl.out]; exact HN.out, HR1.out⟩, HCo.out.mono HwC.out, HB⟩
end Go.Proofs.Ytihafckdaecgkaa
