/-
  The contracts of slides.shortened, slides.moved.
-/
import Derived.Test.YtjciandmpfcfjaaSCod
import Derived.Test.YtjciandmpfcfjaaITkn
namespace Go.Proofs.Ytjciandmpfcfjaa
open Go.RowKit

set_option maxHeartbeats 2000000 in
theorem shortened_at {ls : List (List Int)} {lo : Nat} {S : Nat → Prop} (v : Value) (i : Nat) (w : World) (hT : TIn w lo S v ls) (hi : i < ls.length) (hl : ls.length ≤ 1000) (hp : ∀ r ∈ ls, 0 < r.length ∧ r.length ≤ 1000) :
    Calls Try.prog 64 #[v, .int .i64 i] w fun e w' => ∃ v', e = .returned v' ∧ TIn w' lo S v' (tk ls i) ∧ Off S w w' ∧ w'.heap.size = w.heap.size := by
  obtain ⟨vs, hV⟩ := hT
  have HV : Hid (TblIn w lo S v vs ls) := hV
  obtain ⟨g, n, cap, hsv, HN, hg1, hg2, hfg, hcells⟩ := hV.t.head (by omega)
  subst hsv
  have hn := HN.out
  have hi' : (i : Int) < (n : Int) := by omega
  have hci := hcells i hi
  have hfi := hfg i
  have hrp := hp _ (row_mem hi)
  obtain ⟨h, ch, hrv, hh1, hh2, hhf, hhc⟩ := (hV.t.rows i hi).head hrp.1
  obtain ⟨e, He⟩ : ∃ e, Hid (e + 1 = (row ls i).length) := ⟨(row ls i).length - 1, by show _ = _; have h2 : 0 < (row ls i).length := hrp.1; omega⟩
  have he1 : e + 1 ≤ 1000 := by rw [He.out]; exact hrp.2
  have hrv' : rowv vs i = .slice (some ⟨h, 0, none⟩) (e + 1) ch := by rw [hrv, He.out]; rfl
  rw [hrv'] at hci
  have hrow := hV.t.rows i hi
  rw [hrv'] at hrow
  have hcape : e + 1 ≤ ch := by
    have := ownsRow_cap (n := e + 1) (xs := (row ls i).map (Value.int .i64)) (by unfold Owns at hrow; rw [show (ls.getD i []).length = e + 1 from He.out.symm] at hrow; exact hrow)
    exact this.1
  have hcapg : n ≤ cap := by
    have := hV.t.own
    rw [hV.t.len, ← hn] at this
    exact (ownsRow_cap this).1
  have hsub : IntKind.i64.wrap (((e + 1 : Nat) : Int) - 1) = (e : Int) := by rw [IntWalk.i64_left, IntWalk.wrap64_in _ (by omega)]; omega
  have hle : (e : Int) < ((e + 1 : Nat) : Int) := by omega
  have hle2 : (e : Int) ≤ (ch : Int) := by omega
  have hig : (i : Int) ≤ (cap : Int) := by omega
  -- the row cut
  have hO2 : Owns w lo (.slice (some ⟨h, 0, none⟩) e ch) (row ls i).dropLast := by
    have := hrow.front He.out (by omega)
    rw [Nat.add_sub_cancel] at this
    exact this
  have hk : KeepB (rowv vs i) (.slice (some ⟨h, 0, none⟩) e ch) w w := ⟨Nat.le_refl _, fun _ _ _ => rfl, fun q e2 => by rw [hrv']; exact Or.inl e2⟩
  obtain ⟨p1, p2⟩ := hV.setRow hi hO2 hk
  have HP1 : Hid (TblIn (w.setCell ⟨g, i, none⟩ (.slice (some ⟨h, 0, none⟩) e ch)) lo S (.slice (some ⟨g, 0, none⟩) n cap) (vs.set i (.slice (some ⟨h, 0, none⟩) e ch)) (ls.set i (row ls i).dropLast)) :=
    ⟨p1.t, hV.hd, fun j hj k ek => by
      rcases p1.rs j hj k ek with q | q
      · exact q
      · omega⟩
  have HO : Hid (Off S w (w.setCell ⟨g, i, none⟩ (.slice (some ⟨h, 0, none⟩) e ch)).drew) := ((Off.refl S w).setCell (hV.hd g rfl) _).drewN 1
  have HIl : Hid (i < ls.length) := hi
  clear hV hrv hrv' hrow hrp hcells hfg hhf hhc hO2 hk p1 p2 hp
  by_cases he0 : e = 0
  · have HT2 : Hid (TIn (w.setCell ⟨g, i, none⟩ (.slice (some ⟨h, 0, none⟩) e ch)).drew lo S (.slice (some ⟨g, 0, none⟩) i cap) (tk ls i)) := by
      have := HP1.out.take (k := i) (by rw [List.length_set]; exact HN.out) (by rw [List.length_set]; exact Nat.le_of_lt HIl.out)
      rw [List.take_set_of_le (l := ls) (Nat.le_refl _)] at this
      show TIn _ _ _ _ _
      unfold tk
      rw [if_pos (by rw [← He.out]; omega)]
      exact ⟨_, this.same (fun _ _ => rfl)⟩
    subst he0
    go_enter Try.func64, Try.ntmps64
    go_wp2_with fail
    go_region
    go_wp2
    go_ret
    exact ⟨_, rfl, HT2.out, HO.out, by simp [World.drew]⟩
  · have hb0 : ((e : Int) == 0) = false := by simp; omega
    have HT2 : Hid (TIn (w.setCell ⟨g, i, none⟩ (.slice (some ⟨h, 0, none⟩) e ch)).drew lo S (.slice (some ⟨g, 0, none⟩) n cap) (tk ls i)) := by
      show TIn _ _ _ _ _
      unfold tk
      rw [if_neg (by rw [← He.out]; omega)]
      exact ⟨_, HP1.out.same (fun _ _ => rfl)⟩
    clear he0
    go_enter Try.func64, Try.ntmps64
    go_wp2_with fail
    go_region
    go_wp2
    go_ret
    exact ⟨_, rfl, HT2.out, HO.out, by simp [World.drew]⟩
theorem mv_down {n : Nat} {s : List (List Int)} {i j : Nat} (c : box s (i + 1) j ≠ 0 ∧ (box s i (j + 1) = 0 ∨ box s (i + 1) j ≤ box s i (j + 1))) : mv (n + 1) s i j = mv n (sb s i j (box s (i + 1) j)) (i + 1) j := by rw [mv_step, if_pos c]
theorem mv_right {n : Nat} {s : List (List Int)} {i j : Nat} (c : ¬ (box s (i + 1) j ≠ 0 ∧ (box s i (j + 1) = 0 ∨ box s (i + 1) j ≤ box s i (j + 1)))) (c2 : box s i (j + 1) ≠ 0) : mv (n + 1) s i j = mv n (sb s i j (box s i (j + 1))) i (j + 1) := by rw [mv_step, if_neg c, if_pos c2]
theorem mv_end {n : Nat} {s : List (List Int)} {i j : Nat} (c : ¬ (box s (i + 1) j ≠ 0 ∧ (box s i (j + 1) = 0 ∨ box s (i + 1) j ≤ box s i (j + 1)))) (c2 : ¬ box s i (j + 1) ≠ 0) : mv n s i j = (s, i, j) := by
  cases n with
  | zero => rfl
  | succ n => rw [mv_step, if_neg c, if_neg c2]
/-- A store into a box of a table of one's own. -/
theorem TblIn.sbox {w : World} {lo i j hb c m : Nat} {S : Nat → Prop} {v : Value} {vs : List Value} {ls : List (List Int)} (ht : TblIn w lo S v vs ls) (hi : i < ls.length) (hv : rowv vs i = .slice (some ⟨hb, 0, none⟩) m c) (hm : m = (row ls i).length) (x : Int) :
    TblIn (w.setCell ⟨hb, j, none⟩ (.int .i64 x)) lo S v vs (sb ls i j x) := ht.storeBox hi hv hm j x
/-- A box of a table of one's own, ready for a store. -/
theorem TblIn.open {w : World} {lo i j : Nat} {S : Nat → Prop} {a : Option Addr} {n cap : Nat} {vs : List Value} {ls : List (List Int)} (ht : TblIn w lo S (.slice a n cap) vs ls) (hf : Few ls) (hj : j < (row ls i).length) :
    ∃ g hb ch m, a = some ⟨g, 0, none⟩ ∧ n = ls.length ∧ Hid (rowv vs i = .slice (some ⟨hb, 0, none⟩) m ch) ∧ Hid (m = (row ls i).length) ∧ j < m ∧ m ≤ 1000 ∧ w.cell? ⟨g, i, none⟩ = some (.slice (some ⟨hb, 0, none⟩) m ch) ∧ w.cell? ⟨hb, j, none⟩ = some (.int .i64 (box ls i j)) ∧ w.frozen? ⟨hb, j, none⟩ = false ∧ Hid (S hb) ∧ g < w.heap.size ∧ hb < w.heap.size := by
  have hi := row_lt hj
  obtain ⟨g, n0, c0, hsl, hn, hg1, hg2, -, hcells⟩ := ht.t.head (by omega)
  simp only [Value.slice.injEq] at hsl
  obtain ⟨rfl, rfl, rfl⟩ := hsl
  have hrp := hf.one _ (row_mem hi)
  obtain ⟨h, ch, hrv, hh1, hh2, hhf, hhc⟩ := (ht.t.rows i hi).head hrp.1
  have hci := hcells i hi
  rw [hrv] at hci
  exact ⟨g, h, ch, _, rfl, hn, hrv, rfl, hj, hrp.2, hci, hhc j hj, hhf j, ht.rs i hi h (by rw [hrv]; rfl), hg2, hh2⟩

set_option maxHeartbeats 8000000 in
theorem moved_at {ls : List (List Int)} {lo : Nat} {S : Nat → Prop} {h : Nat → Nat} (a : Option Addr) (n cap : Nat) (vs : List Value) (i j : Nat) (w : World) (hT : TblIn w lo S (.slice a n cap) vs ls) (hF : Few ls) (hH : Hol h ls i j) :
    Calls Try.prog 63 #[.slice a n cap, .int .i64 i, .int .i64 j] w fun e w' => e = .returned (.tuple #[.int .i64 ((mv (left ls i j) ls i j).2.1 : Nat), .int .i64 ((mv (left ls i j) ls i j).2.2 : Nat)]) ∧ TblIn w' lo S (.slice a n cap) vs (mv (left ls i j) ls i j).1 ∧ Off S w w' ∧ w'.heap.size = w.heap.size ∧ Few (mv (left ls i j) ls i j).1 := by
  have HT0 : Hid (TblIn w lo S (.slice a n cap) vs ls) := hT
  have HF0 : Hid (Few ls) := hF
  have HH0 : Hid (Hol h ls i j) := hH
  obtain ⟨M, HM⟩ : ∃ M, Hid (M = mv (left ls i j) ls i j) := ⟨_, rfl⟩
  rw [← HM.out]
  clear hT hF hH
  go_enter Try.func63, Try.ntmps63
  go_wp2
  go_loopw [1, 2] (fun iv jv wr => ∃ (p q k : Nat) (ms : List (List Int)), iv = .int .i64 p ∧ jv = .int .i64 q ∧ Hid (Hol h ms p q) ∧ Hid (Few ms) ∧ Hid (left ms p q ≤ k) ∧ Hid (ms.length = ls.length ∧ (row ms 0).length = (row ls 0).length) ∧ Hid (M = mv k ms p q) ∧ Hid (TblIn wr lo S (.slice a n cap) vs ms) ∧ Hid (Off S w wr ∧ wr.heap.size = w.heap.size)) (fun iv jv _ => (ls.length - (intOf iv).toNat) + ((row ls 0).length - (intOf jv).toNat))
  case atStart => exact ⟨i, j, left ls i j, ls, rfl, rfl, HH0, HF0, Nat.le_refl _, ⟨rfl, rfl⟩, HM, HT0, ⟨Off.refl _ _, rfl⟩⟩
  case round =>
    obtain ⟨p, q, k, ms, rfl, rfl, HH, HF, HK, HL, HE, HT, HO⟩ := hrel
    obtain ⟨k, rfl⟩ : ∃ m, k = m + 1 := ⟨k - 1, by have := HK.out; unfold left at this; have := HH.out.wide; omega⟩
    obtain ⟨pa, pn, pc, hsl, hTb, hnn⟩ := (TIn.tbl ⟨vs, HT.out⟩).table HF.out.bd
    simp only [Value.slice.injEq] at hsl
    obtain ⟨rfl, rfl, rfl⟩ := hsl
    have HTb : Hid (Table wr a ms) := hTb
    have HNN : Hid (n = ms.length) := hnn.out
    have hp : p < 1000 := by have := HH.out.row; have := HF.out.len; omega
    have hq : q < 1000 := by have := HH.out.lt; have := (HF.out.one _ (row_mem HH.out.row)).2; omega
    have hp1 : IntKind.i64.wrap ((p : Int) + 1) = ((p + 1 : Nat) : Int) := by rw [IntWalk.i64_left, IntWalk.wrap64_in _ (by omega)]; omega
    have hq1 : IntKind.i64.wrap ((q : Int) + 1) = ((q + 1 : Nat) : Int) := by rw [IntWalk.i64_left, IntWalk.wrap64_in _ (by omega)]; omega
    clear hTb hnn
    obtain ⟨x, HX⟩ : ∃ x, Hid (x = box ms p (q + 1)) := ⟨_, rfl⟩
    obtain ⟨y, HY⟩ : ∃ y, Hid (y = box ms (p + 1) q) := ⟨_, rfl⟩
    have hxb : -1000 ≤ x ∧ x ≤ 1000 := by rw [HX.out]; exact HF.out.box _ _
    have hyb : -1000 ≤ y ∧ y ≤ 1000 := by rw [HY.out]; exact HF.out.box _ _
    obtain ⟨g, hb, ch, m, rfl, -, HRv, HMm, hqm, hm1, hcg, hcb, hfb, HSh, hgl, hhl⟩ := HT.out.open HF.out (i := p) HH.out.lt
    have hpn : (p : Int) < (n : Int) := by have := HNN.out; have := HH.out.row; omega
    have hqm' : (q : Int) < (m : Int) := by omega
    have HBX : Hid (∀ z, -1000 ≤ z → z ≤ 1000 → Few (sb ms p q z)) := fun z h1 h2 => HF.out.sb p q ⟨h1, h2⟩
    have HST : Hid (∀ z, TblIn (wr.setCell ⟨hb, q, none⟩ (.int .i64 z)) lo S (.slice (some ⟨g, 0, none⟩) n cap) vs (sb ms p q z)) := fun z => HT.out.sbox HH.out.row HRv.out HMm.out z
    have HOF : Hid (∀ z, Off S w (wr.setCell ⟨hb, q, none⟩ (.int .i64 z)) ∧ (wr.setCell ⟨hb, q, none⟩ (.int .i64 z)).heap.size = w.heap.size) := fun z => ⟨HO.out.1.setCell HSh.out _, by simp [HO.out.2]⟩
    go_wp2_with fail
    refine (letterAt_at _ _ _ ms p (q + 1) wr HTb.out HNN.out).mono ?_
    rintro e w1 ⟨rfl, rfl⟩
    rw [← HX.out]
    go_wp2_with fail
    refine (letterAt_at _ _ _ ms (p + 1) q w1 HTb.out HNN.out).mono ?_
    rintro e w2 ⟨rfl, rfl⟩
    rw [← HY.out]
    have hrp : p < ls.length := by have := HH.out.row; have := HL.out.1; omega
    have hrq : q < (row ls 0).length := by have := HH.out.wide; have := HL.out.2; omega
    by_cases c1 : y = 0
    · subst c1
      have hno : ¬ (box ms (p + 1) q ≠ 0 ∧ (box ms p (q + 1) = 0 ∨ box ms (p + 1) q ≤ box ms p (q + 1))) := fun z => z.1 HY.out.symm
      by_cases c2 : x = 0
      · subst c2
        have HEnd : Hid (M = (ms, p, q)) := by show _ = _; rw [HE.out]; exact mv_end hno (fun z => z HX.out.symm)
        go_wp2
        go_ret2
        refine ⟨by rw [HEnd.out]; rfl, by rw [HEnd.out]; exact HT.out, HO.out.1, HO.out.2, by rw [HEnd.out]; exact HF.out⟩
      · have hx0 : (x != 0) = true := bne_iff_ne.2 c2
        have HR := HH.out.right hno (by rw [← HX.out]; exact c2)
        rw [← HX.out] at HR
        have HEq : Hid (M = mv k (sb ms p q x) p (q + 1)) := by show _ = _; rw [HE.out, mv_right hno (by rw [← HX.out]; exact c2), ← HX.out]
        have hq2 := HR.1.wide
        rw [sb_len] at hq2
        have HR1 : Hid (Hol h (sb ms p q x) p (q + 1)) := HR.1
        have HK2 : Hid (left (sb ms p q x) p (q + 1) ≤ k) := by have := HR.2.2; have := HK.out; show _ ≤ _; omega
        have HL2 : Hid ((sb ms p q x).length = ls.length ∧ (row (sb ms p q x) 0).length = (row ls 0).length) := ⟨by rw [sb_length]; exact HL.out.1, by rw [sb_len]; exact HL.out.2⟩
        clear HR hno
        go_wp2
        go_roundw
        case rel => exact ⟨p, q + 1, k, _, rfl, by go_num, HR1, HBX.out x hxb.1 hxb.2, HK2, HL2, HEq, HST.out x, HOF.out x⟩
        case measure => have := HL.out.2; simp [intOf]; omega
    · have hy0 : (y != 0) = true := bne_iff_ne.2 c1
      by_cases c2 : x = 0 ∨ y ≤ x
      · have hc : box ms (p + 1) q ≠ 0 ∧ (box ms p (q + 1) = 0 ∨ box ms (p + 1) q ≤ box ms p (q + 1)) := by rw [← HX.out, ← HY.out]; exact ⟨c1, c2⟩
        have HR := HH.out.down hc
        rw [← HY.out] at HR
        have HEq : Hid (M = mv k (sb ms p q y) (p + 1) q) := by show _ = _; rw [HE.out, mv_down hc, ← HY.out]
        have hp2 := HR.1.row
        rw [sb_length] at hp2
        have HR1 : Hid (Hol h (sb ms p q y) (p + 1) q) := HR.1
        have HK2 : Hid (left (sb ms p q y) (p + 1) q ≤ k) := by have := HR.2.2; have := HK.out; show _ ≤ _; omega
        have HL2 : Hid ((sb ms p q y).length = ls.length ∧ (row (sb ms p q y) 0).length = (row ls 0).length) := ⟨by rw [sb_length]; exact HL.out.1, by rw [sb_len]; exact HL.out.2⟩
        clear HR hc
        by_cases c3 : x = 0
        · subst c3
          go_wp2
          go_roundw
          case rel => exact ⟨p + 1, q, k, _, by go_num, rfl, HR1, HBX.out y hyb.1 hyb.2, HK2, HL2, HEq, HST.out y, HOF.out y⟩
          case measure => have := HL.out.1; simp [intOf]; omega
        · have hx0 : (x == 0) = false := by simp; exact c3
          have hyx : y ≤ x := by rcases c2 with z | z
                                 · exact absurd z c3
                                 · exact z
          go_wp2
          go_roundw
          case rel => exact ⟨p + 1, q, k, _, by go_num, rfl, HR1, HBX.out y hyb.1 hyb.2, HK2, HL2, HEq, HST.out y, HOF.out y⟩
          case measure => have := HL.out.1; simp [intOf]; omega
      · have hx0 : (x == 0) = false := by simp; exact fun z => c2 (Or.inl z)
        have hx1 : (x != 0) = true := bne_iff_ne.2 (fun z => c2 (Or.inl z))
        have hyx : ¬ y ≤ x := fun z => c2 (Or.inr z)
        have hno : ¬ (box ms (p + 1) q ≠ 0 ∧ (box ms p (q + 1) = 0 ∨ box ms (p + 1) q ≤ box ms p (q + 1))) := by rw [← HX.out, ← HY.out]; exact fun z => c2 z.2
        have hxn : box ms p (q + 1) ≠ 0 := by rw [← HX.out]; exact fun z => c2 (Or.inl z)
        have HR := HH.out.right hno hxn
        rw [← HX.out] at HR
        have HEq : Hid (M = mv k (sb ms p q x) p (q + 1)) := by show _ = _; rw [HE.out, mv_right hno hxn, ← HX.out]
        have hq2 := HR.1.wide
        rw [sb_len] at hq2
        have HR1 : Hid (Hol h (sb ms p q x) p (q + 1)) := HR.1
        have HK2 : Hid (left (sb ms p q x) p (q + 1) ≤ k) := by have := HR.2.2; have := HK.out; show _ ≤ _; omega
        have HL2 : Hid ((sb ms p q x).length = ls.length ∧ (row (sb ms p q x) 0).length = (row ls 0).length) := ⟨by rw [sb_length]; exact HL.out.1, by rw [sb_len]; exact HL.out.2⟩
        clear HR hno hxn
        go_wp2
        go_roundw
        case rel => exact ⟨p, q + 1, k, _, rfl, by go_num, HR1, HBX.out x hxb.1 hxb.2, HK2, HL2, HEq, HST.out x, HOF.out x⟩
        case measure => have := HL.out.2; simp [intOf]; omega

end Go.Proofs.Ytjciandmpfcfjaa
