/-
  The contract of ferref.FromText.
-/
import Derived.Test.YtgcagoalnhgljacDoorXFm
namespace Go.Proofs.YtgcagoalnhgljacDoor
open Go.RowKit

set_option maxHeartbeats 2000000 in
set_option maxRecDepth 100000 in
theorem FromText_empty (s : ByteArray) (w : World) (h : s.data.toList = []) :
    Calls Tryd.prog 7 #[.string s] w fun e w' => e = .returned (.tuple #[.slice none 0 0, .agg #[.int .i64 0, .int .i64 0]]) ∧ Below w.heap.size w w' := by
  have he : s.toList.isEmpty = true := isEmpty_yes h
  clear h
  go_enter Tryd.func7, Tryd.ntmps7
  go_wp2
  exact bodyPost_ret (v := .tuple #[.slice none 0 0, .agg #[.int .i64 0, .int .i64 0]]) (by simp [results, Tryd.results7, go_sem]) rfl ⟨rfl, (Below.refl _ _).alloc (Nat.le_refl _) _⟩

set_option maxHeartbeats 16000000 in
set_option maxRecDepth 100000 in
theorem FromText_rows (s : ByteArray) (w : World) (hs : s.size ≤ 1048576) (hne : s.data.toList ≠ []) {c p : Int} {q : List (List Int)} (hr : ReadR s.data.toList c p q) :
    Calls Tryd.prog 7 #[.string s] w fun e w' => ∃ v, e = .returned (.tuple #[v, .agg #[.int .i64 c, .int .i64 p]]) ∧ Tbl w' w.heap.size v q ∧ Below w.heap.size w w' := by
  have he : s.toList.isEmpty = false := isEmpty_no hne
  have HNe : Hid (s.data.toList ≠ []) := hne
  have HR : Hid (ReadR s.data.toList c p q) := hr
  clear hr hne
  go_enter Tryd.func7, Tryd.ntmps7
  go_wp2
  go_loopw [4, 5, 6] (fun v st i wr => ∃ (k d : Nat) (pre : List (List Int)) (cur : List Int), k ≤ s.size ∧ d ≤ 2 ∧ i = .int .i64 k ∧ st = .int .i64 d ∧ Hid (Fed s.data.toList k d pre cur) ∧ Hid (Tbl wr (w.heap.size + 1) v (pre ++ [cur])) ∧ Hid (Below (w.heap.size + 1) (w.alloc (.cells #[.int .i64 0, .int .i64 0] 27)) wr)) (fun _ _ i _ => s.size - (intOf i).toNat)
  case atStart =>
    refine ⟨0, 0, [], [], Nat.zero_le _, by omega, rfl, rfl, Fed.start _, ?_, ?_⟩
    · have := tbl_one (w := w.alloc (.cells #[.int .i64 0, .int .i64 0] 27)) (lo := w.heap.size + 1) (by simp)
      simpa [Hid] using this
    · exact (Below.refl _ _).alloc (by simp) _
  case round =>
    obtain ⟨k, d, pre, cur, hk, hd, rfl, rfl, HF, HT, HB⟩ := hrel
    obtain ⟨vs, hV⟩ := HT.out
    obtain ⟨g, n, cap, hve, HN, hgl, hgw, hgf, hgc⟩ := hV.head (by simp)
    subst hve
    obtain ⟨P, hP⟩ : ∃ P, P = pre.length := ⟨_, rfl⟩
    have HP : Hid (P = pre.length) := hP
    have HnP : Hid (n = P + 1) := by show _ = _; rw [HN.out, hP]; simp
    have hPs : P ≤ 1048576 := by have := HF.out.rows; omega
    obtain ⟨hc0, hc1, hf0, hf1, hBw⟩ := fault_cells HB.out
    have HBw : Hid (Below w.heap.size w wr) := hBw
    have HV : Hid (TblV wr (w.heap.size + 1) (.slice (some ⟨g, 0, none⟩) n cap) vs (pre ++ [cur])) := hV
    clear hBw
    by_cases hlt : k < s.size
    · have hlt' : (k : Int) < (s.size : Int) := by omega
      have HD : Hid (s.data.toList.drop k = s[k] :: s.data.toList.drop (k + 1)) := drop_byte s k hlt
      obtain ⟨ch, hcc⟩ : ∃ ch, ch = s[k] := ⟨_, rfl⟩
      obtain ⟨x, HX⟩ : ∃ x, Hid (x = ch.toNat) := ⟨_, rfl⟩
      have hs0 : s[k].toNat = x := by rw [HX.out, hcc]
      have hcb : x < 256 := by rw [HX.out]; exact ch.toNat_lt
      rw [← hcc] at HD
      clear hcc
      have hn1 : (n : Int) - 1 = (P : Int) := by have := HnP.out; omega
      have hPn : (P : Int) < (n : Int) := by have := HnP.out; omega
      have hPl : P < (pre ++ [cur]).length := by rw [hP]; simp
      have hcP := hgc P hPl
      have hfP := hgf P
      have hrow := hV.rows P hPl
      rw [hP, getD_last, ← hP] at hrow
      have HRw : Hid (Owns wr (w.heap.size + 1) (rowv vs P) cur) := hrow
      have HPl : Hid (P < (pre ++ [cur]).length) := hPl
      have HBx : Hid (nextX x d = false → ¬ (0 < d ∧ (x = 47 ∨ x = 32)) → c = 4 ∧ p = (k : Int) ∧ q = []) := fun h1 h2 => readR_wrong HR.out (HF.out.bad HD.out (by rw [← nextX_eq, ← HX.out]; exact h1) (fun h => h2 ⟨h.1, by
        rcases sep_cases h.2 with e | e
        · left; rw [HX.out, e]; rfl
        · right; rw [HX.out, e]; rfl⟩))
      obtain ⟨u, HU⟩ : ∃ u, Hid (u = rowv vs P) := ⟨_, rfl⟩
      rw [← HU.out] at hcP
      obtain ⟨au, cu, hsu⟩ : ∃ au cu, u = .slice au cur.length cu := by
        rw [HU.out]; exact hrow.shape
      have HSu : Hid (u = .slice au cur.length cu) := hsu
      obtain ⟨m, HM⟩ : ∃ m, Hid (m = cur.length) := ⟨_, rfl⟩
      rw [← HM.out] at hsu
      have hm : m ≤ 1048576 := by rw [HM.out]; have := HF.out.boxes; simp at this; omega
      subst hsu
      have HV0 : Hid (TblV wr (w.heap.size + 1) (.slice (some ⟨g, 0, none⟩) n cap) vs (pre ++ [cur])) := hV
      have hHg : w.heap.size + 1 ≤ g := hgl
      clear hV hgc hgf hrow hPl hP hgl HT
      rcases (by omega : d = 0 ∨ d = 1 ∨ d = 2) with rfl | rfl | rfl
      · by_cases h49 : 48 < x
        · by_cases h57 : x ≤ 57
          · obtain ⟨a, ha⟩ : ∃ a, a = x - 48 := ⟨_, rfl⟩
            have hxa : (x : Int) - 48 = (a : Int) := by omega
            have HNx : Hid (Fed s.data.toList (k + 1) 1 pre (cur ++ [(a : Int)])) := HF.out.first HD.out a (by omega) (by omega) (by rw [← HX.out]; omega)
            have hg1 : (48 : Int) < (x : Int) := by omega
            have hg2 : (x : Int) ≤ 57 := by omega
            have HRow : Hid (wr.ownsRow (w.heap.size + 1) 3 1 (.slice au m cu) (cur.map (Value.int .i64)).length (cur.map (Value.int .i64))) := by rw [HU.out]; exact vals_of_owns HRw.out
            have HLn : Hid ((cur.map (Value.int .i64)).length ≤ 1048576) := by show _ ≤ _; rw [List.length_map, ← HM.out]; exact hm
            clear ha h49 h57
            go_wp2_with (at_builtin; refine append_one elem_int (x := .int .i64 a) rfl _ _ rfl rfl rfl rfl HRow.out rfl ?c1 ?c2 ?c3 ?_)
            case c1 => have := HLn.out; unfold maxLen; omega
            case c2 => have := HLn.out; omega
            case c3 => have := HB.out.size; simp at this; omega
            intro v' w2 hO' hb' hk'
            have hO2 : Owns w2 (w.heap.size + 1) v' (cur ++ [(a : Int)]) := by unfold Owns; simpa using hO'
            rw [HU.out] at hk'
            have hS := HV0.out.setRow HPl.out hO2 hk'
            have eS : (pre ++ [cur]).set P (cur ++ [(a : Int)]) = pre ++ [cur ++ [(a : Int)]] := by rw [HP.out]; exact set_last _ _ _
            rw [eS] at hS
            have hne : (rowv vs P).ownBlock ≠ some g := fun e => HV0.out.off P HPl.out _ rfl e
            have hfz2 : w2.frozen? ⟨g, P, none⟩ = false := by rw [World.frozen?_of_block (hk'.block g hgw hne)]; exact hfP
            have hcj2 : w2.cell? ⟨g, P, none⟩ = some (.slice au m cu) := by rw [World.cell?_of_block (hk'.block g hgw hne)]; exact hcP
            have HT2 : Hid (Tbl (w2.setCell ⟨g, P, none⟩ v') (w.heap.size + 1) (.slice (some ⟨g, 0, none⟩) n cap) (pre ++ [cur ++ [(a : Int)]])) := ⟨_, hS⟩
            have HB2 : Hid (Below (w.heap.size + 1) (w.alloc (.cells #[.int .i64 0, .int .i64 0] 27)) (w2.setCell ⟨g, P, none⟩ v')) := (HB.out.trans hb').setCell (p := ⟨g, P, none⟩) hHg _
            obtain ⟨av', nv', hv'⟩ := hO2.shape
            rw [List.length_append, List.length_singleton, ← HM.out] at hv'
            subst hv'
            clear hO' hO2 hb' hk' hS hcP hfP eS hne
            go_wp2
            go_roundw
            case rel => exact ⟨k + 1, 1, pre, cur ++ [(a : Int)], by omega, by omega, by go_num, rfl, HNx, HT2, HB2⟩
            case measure => simp [intOf]; omega
          · have hg1 : (48 : Int) < (x : Int) := by omega
            have hg2 : ¬ (x : Int) ≤ 57 := by omega
            obtain ⟨rfl, rfl, rfl⟩ := HBx.out (by simp [nextX]; omega) (by omega)
            clear HBx
            go_wp2
            exact bodyPost_ret (v := .tuple #[.slice none 0 0, .agg #[.int .i64 4, .int .i64 k]]) (by simp [results, Tryd.results7, go_sem, hc0, hc1]) rfl ⟨_, rfl, Tbl.nil _ _, (HBw.out.setCell (p := ⟨w.heap.size, 0, none⟩) (Nat.le_refl _) _).setCell (p := ⟨w.heap.size, 1, none⟩) (Nat.le_refl _) _⟩
        · have hg1 : ¬ (48 : Int) < (x : Int) := by omega
          obtain ⟨rfl, rfl, rfl⟩ := HBx.out (by simp [nextX]; omega) (by omega)
          clear HBx
          go_wp2
          exact bodyPost_ret (v := .tuple #[.slice none 0 0, .agg #[.int .i64 4, .int .i64 k]]) (by simp [results, Tryd.results7, go_sem, hc0, hc1]) rfl ⟨_, rfl, Tbl.nil _ _, (HBw.out.setCell (p := ⟨w.heap.size, 0, none⟩) (Nat.le_refl _) _).setCell (p := ⟨w.heap.size, 1, none⟩) (Nat.le_refl _) _⟩
      · by_cases h48 : 48 ≤ x
        · by_cases h57 : x ≤ 57
          · obtain ⟨cs, y, hcs, hy1, hy9⟩ := HF.out.one rfl
            subst hcs
            have HNx : Hid (Fed s.data.toList (k + 1) 2 pre (cs ++ [10 * (y : Int) + (x : Int) - 48])) := HF.out.second ⟨hy1, hy9⟩ HD.out x h48 h57 HX.out.symm
            have hg1 : (48 : Int) ≤ (x : Int) := by omega
            have hg2 : (x : Int) ≤ 57 := by omega
            obtain ⟨t, HTt⟩ : ∃ t, Hid (t = cs.length) := ⟨_, rfl⟩
            have hmt : m = t + 1 := by rw [HM.out, HTt.out]; simp
            have hm1 : (m : Int) - 1 = (t : Int) := by omega
            have htm : (t : Int) < (m : Int) := by omega
            obtain ⟨h, ch2, hrv, hh1, hh2, hhf, hhc⟩ := HRw.out.head (by simp)
            have hrv2 := hrv
            rw [← HU.out, ← HM.out] at hrv
            simp only [Value.slice.injEq] at hrv
            obtain ⟨rfl, -, rfl⟩ := hrv
            have hcy := hhc t (by rw [HTt.out]; simp)
            have eL : (cs ++ [(y : Int)]).getD t 0 = (y : Int) := by rw [HTt.out]; simp [List.getD]
            rw [eL] at hcy
            have hfy := hhf t
            have HST := HV0.out.storeBox HPl.out hrv2 (by rw [HP.out, getD_last]) t (10 * (y : Int) + (x : Int) - 48)
            have eS : (pre ++ [cs ++ [(y : Int)]]).set P (((pre ++ [cs ++ [(y : Int)]]).getD P []).set t (10 * (y : Int) + (x : Int) - 48)) = pre ++ [cs ++ [10 * (y : Int) + (x : Int) - 48]] := by
              rw [HP.out, getD_last, set_last, HTt.out, set_last]
            rw [eS] at HST
            have HT2 : Hid (Tbl (wr.setCell ⟨h, t, none⟩ (.int .i64 (10 * (y : Int) + (x : Int) - 48))) (w.heap.size + 1) (.slice (some ⟨g, 0, none⟩) n cap) (pre ++ [cs ++ [10 * (y : Int) + (x : Int) - 48]])) := ⟨_, HST⟩
            have HB2 : Hid (Below (w.heap.size + 1) (w.alloc (.cells #[.int .i64 0, .int .i64 0] 27)) (wr.setCell ⟨h, t, none⟩ (.int .i64 (10 * (y : Int) + (x : Int) - 48)))) := HB.out.setCell (p := ⟨h, t, none⟩) hh1 _
            clear hhf hhc HST eS eL hrv2 h48 h57
            go_wp2_with fail
            go_region
            go_wp2
            go_roundw
            case rel => exact ⟨k + 1, 2, pre, cs ++ [10 * (y : Int) + (x : Int) - 48], by omega, by omega, by go_num, rfl, HNx, HT2.out.same (fun _ _ _ => rfl), HB2.out.drew⟩
            case measure => simp [intOf]; omega
          · have hg1 : (48 : Int) ≤ (x : Int) := by omega
            have hg2 : ¬ (x : Int) ≤ 57 := by omega
            have hg3 : ((x : Int) == 32) = false := by simp; omega
            have hg4 : ((x : Int) == 47) = false := by simp; omega
            obtain ⟨rfl, rfl, rfl⟩ := HBx.out (by simp [nextX]; omega) (by omega)
            clear HBx
            go_wp2
            exact bodyPost_ret (v := .tuple #[.slice none 0 0, .agg #[.int .i64 4, .int .i64 k]]) (by simp [results, Tryd.results7, go_sem, hc0, hc1]) rfl ⟨_, rfl, Tbl.nil _ _, (HBw.out.setCell (p := ⟨w.heap.size, 0, none⟩) (Nat.le_refl _) _).setCell (p := ⟨w.heap.size, 1, none⟩) (Nat.le_refl _) _⟩
        · have hg1 : ¬ (48 : Int) ≤ (x : Int) := by omega
          by_cases h32 : x = 32
          · subst h32
            have HNx : Hid (Fed s.data.toList (k + 1) 0 pre cur) := HF.out.blank (by omega) HD.out HX.out.symm
            go_wp2
            go_roundw
            case rel => exact ⟨k + 1, 0, pre, cur, by omega, by omega, by go_num, rfl, HNx, ⟨_, HV0.out⟩, HB⟩
            case measure => simp [intOf]; omega
          · have hg3 : ((x : Int) == 32) = false := by simp; omega
            by_cases h47 : x = 47
            · clear hg3 h32
              subst h47
              have HNx : Hid (Fed s.data.toList (k + 1) 0 (pre ++ [cur]) []) := HF.out.slash (by omega) HD.out HX.out.symm
              have HLv : Hid (vs.length ≤ 1048577) := by show _ ≤ _; rw [HV0.out.len, List.length_append, ← HP.out]; simp; omega
              go_wp2_with (at_builtin; refine append_one elem_row (x := .slice none 0 0) rfl _ _ rfl rfl rfl rfl HV0.out.own rfl ?c1 ?c2 ?c3 ?_)
              case c1 => have := HLv.out; unfold maxLen; omega
              case c2 => have := HLv.out; omega
              case c3 => have := HB.out.size; simp at this; omega
              intro v' w2 hO' hb' hk'
              have hO2 : w2.ownsRow (w.heap.size + 1) 38 1 v' (vs ++ [Value.slice none 0 0]).length (vs ++ [Value.slice none 0 0]) := by simpa using hO'
              have HT2 : Hid (Tbl w2 (w.heap.size + 1) v' ((pre ++ [cur]) ++ [[]])) := ⟨_, HV0.out.push (World.ownsRow_nil _ _ _ _) (fun _ _ => apart_nil _) (apart_nil _).symm hO2 hk'⟩
              have HB2 : Hid (Below (w.heap.size + 1) (w.alloc (.cells #[.int .i64 0, .int .i64 0] 27)) w2) := HB.out.trans hb'
              clear hO' hO2 hb' hk'
              go_wp2
              go_roundw
              case rel => exact ⟨k + 1, 0, pre ++ [cur], [], by omega, by omega, by go_num, rfl, HNx, HT2, HB2⟩
              case measure => simp [intOf]; omega
            · have hg4 : ((x : Int) == 47) = false := by simp; omega
              obtain ⟨rfl, rfl, rfl⟩ := HBx.out (by simp [nextX]; omega) (by omega)
              clear HBx
              go_wp2
              exact bodyPost_ret (v := .tuple #[.slice none 0 0, .agg #[.int .i64 4, .int .i64 k]]) (by simp [results, Tryd.results7, go_sem, hc0, hc1]) rfl ⟨_, rfl, Tbl.nil _ _, (HBw.out.setCell (p := ⟨w.heap.size, 0, none⟩) (Nat.le_refl _) _).setCell (p := ⟨w.heap.size, 1, none⟩) (Nat.le_refl _) _⟩
      · by_cases h32 : x = 32
        · subst h32
          have HNx : Hid (Fed s.data.toList (k + 1) 0 pre cur) := HF.out.blank (by omega) HD.out HX.out.symm
          go_wp2
          go_roundw
          case rel => exact ⟨k + 1, 0, pre, cur, by omega, by omega, by go_num, rfl, HNx, ⟨_, HV0.out⟩, HB⟩
          case measure => simp [intOf]; omega
        · have hg3 : ((x : Int) == 32) = false := by simp; omega
          by_cases h47 : x = 47
          · clear hg3 h32
            subst h47
            have HNx : Hid (Fed s.data.toList (k + 1) 0 (pre ++ [cur]) []) := HF.out.slash (by omega) HD.out HX.out.symm
            have HLv : Hid (vs.length ≤ 1048577) := by show _ ≤ _; rw [HV0.out.len, List.length_append, ← HP.out]; simp; omega
            go_wp2_with (at_builtin; refine append_one elem_row (x := .slice none 0 0) rfl _ _ rfl rfl rfl rfl HV0.out.own rfl ?c1 ?c2 ?c3 ?_)
            case c1 => have := HLv.out; unfold maxLen; omega
            case c2 => have := HLv.out; omega
            case c3 => have := HB.out.size; simp at this; omega
            intro v' w2 hO' hb' hk'
            have hO2 : w2.ownsRow (w.heap.size + 1) 38 1 v' (vs ++ [Value.slice none 0 0]).length (vs ++ [Value.slice none 0 0]) := by simpa using hO'
            have HT2 : Hid (Tbl w2 (w.heap.size + 1) v' ((pre ++ [cur]) ++ [[]])) := ⟨_, HV0.out.push (World.ownsRow_nil _ _ _ _) (fun _ _ => apart_nil _) (apart_nil _).symm hO2 hk'⟩
            have HB2 : Hid (Below (w.heap.size + 1) (w.alloc (.cells #[.int .i64 0, .int .i64 0] 27)) w2) := HB.out.trans hb'
            clear hO' hO2 hb' hk'
            go_wp2
            go_roundw
            case rel => exact ⟨k + 1, 0, pre ++ [cur], [], by omega, by omega, by go_num, rfl, HNx, HT2, HB2⟩
            case measure => simp [intOf]; omega
          · have hg4 : ((x : Int) == 47) = false := by simp; omega
            obtain ⟨rfl, rfl, rfl⟩ := HBx.out (by simp [nextX]) (by omega)
            clear HBx
            go_wp2
            exact bodyPost_ret (v := .tuple #[.slice none 0 0, .agg #[.int .i64 4, .int .i64 k]]) (by simp [results, Tryd.results7, go_sem, hc0, hc1]) rfl ⟨_, rfl, Tbl.nil _ _, (HBw.out.setCell (p := ⟨w.heap.size, 0, none⟩) (Nat.le_refl _) _).setCell (p := ⟨w.heap.size, 1, none⟩) (Nat.le_refl _) _⟩
    · obtain rfl : k = s.size := by omega
      have HL : Hid (s.size = s.data.toList.length) := Lib.size_eq s
      have hpos : 0 < s.size := by rw [HL.out]; exact List.length_pos_iff.2 HNe.out
      by_cases hd0 : d = 0
      · subst hd0
        obtain ⟨rfl, rfl, rfl⟩ := readR_wrong HR.out (HF.out.short HL.out hpos)
        clear hgc hgf hV HT hP
        go_wp2
        exact bodyPost_ret (v := .tuple #[.slice none 0 0, .agg #[.int .i64 4, .int .i64 s.size]]) (by simp [results, Tryd.results7, go_sem, hc0, hc1]) rfl ⟨_, rfl, Tbl.nil _ _, (HBw.out.setCell (p := ⟨w.heap.size, 0, none⟩) (Nat.le_refl _) _).setCell (p := ⟨w.heap.size, 1, none⟩) (Nat.le_refl _) _⟩
      · have hdb : ((d : Int) == 0) = false := by simp; omega
        have hDn := HF.out.done HL.out (by omega)
        obtain ⟨hE, hq⟩ := readR_rows HR.out hDn.1 HNe.out hDn.2
        have E : Hid (tchk (pre ++ [cur]) = c) := hE
        have HQ : Hid ((c = 0 ∧ p = 0 ∧ q = pre ++ [cur]) ∨ (c ≠ 0 ∧ p = -1 ∧ q = [])) := hq
        have HSm := HF.out.small (by omega)
        obtain ⟨a3, n3, c3, hv3, hTb, HN3⟩ := HT.out.table HSm
        simp only [Value.slice.injEq] at hv3
        obtain ⟨rfl, rfl, rfl⟩ := hv3
        have HLr : Hid ((pre ++ [cur]).length ≤ 2000000) := by show _ ≤ _; rw [List.length_append, ← hP]; simp; omega
        have HLf : Hid ((pre ++ [cur]).flatten.length ≤ 2000000) := by show _ ≤ _; have := HF.out.boxes; omega
        have HTb : Hid (Table wr (some ⟨g, 0, none⟩) (pre ++ [cur])) := hTb
        clear hgc hgf hV hP hE hq hDn HSm hTb hc0 hc1 hf0 hf1 hd0
        go_wp2_with fail
        refine (RTab_is _ _ _ _ _ HTb.out HN3.out HLr.out HLf.out E).mono ?_
        rintro e w4 ⟨rfl, hb4⟩
        have HB4 : Hid (Below (w.heap.size + 1) (w.alloc (.cells #[.int .i64 0, .int .i64 0] 27)) w4) := HB.out.trans (hb4.mono (by have := HB.out.size; simp at this; omega))
        have HT4 : Hid (Tbl w4 (w.heap.size + 1) (.slice (some ⟨g, 0, none⟩) n cap) (pre ++ [cur])) := HT.out.below hb4
        obtain ⟨hc0, hc1, hf0, hf1, hBw⟩ := fault_cells HB4.out
        have HBw4 : Hid (Below w.heap.size w w4) := hBw
        clear hb4 hBw HT HB
        rcases HQ.out with ⟨rfl, rfl, rfl⟩ | ⟨hc, rfl, rfl⟩
        · go_wp2
          exact bodyPost_ret (v := .tuple #[.slice (some ⟨g, 0, none⟩) n cap, .agg #[.int .i64 0, .int .i64 0]]) (by simp [results, Tryd.results7, go_sem, hc0, hc1]) rfl ⟨_, rfl, (HT4.out.same (fun k hk _ => by rw [heap_setCell_other _ _ _ _ (by simp only; omega), heap_setCell_other _ _ _ _ (by simp only; omega)])).mono (by omega), (HBw4.out.setCell (p := ⟨w.heap.size, 0, none⟩) (Nat.le_refl _) _).setCell (p := ⟨w.heap.size, 1, none⟩) (Nat.le_refl _) _⟩
        · have hcb : (c != 0) = true := bne_iff_ne.2 hc
          clear hc
          go_wp2
          exact bodyPost_ret (v := .tuple #[.slice none 0 0, .agg #[.int .i64 c, .int .i64 (-1)]]) (by simp [results, Tryd.results7, go_sem, hc0, hc1]) rfl ⟨_, rfl, Tbl.nil _ _, (HBw4.out.setCell (p := ⟨w.heap.size, 0, none⟩) (Nat.le_refl _) _).setCell (p := ⟨w.heap.size, 1, none⟩) (Nat.le_refl _) _⟩

theorem FromText_at (s : ByteArray) (w : World) (hs : s.size ≤ 1048576) {c p : Int} {q : List (List Int)} (hr : ReadR s.data.toList c p q) :
    Calls Tryd.prog 7 #[.string s] w fun e w' => ∃ v, e = .returned (.tuple #[v, .agg #[.int .i64 c, .int .i64 p]]) ∧ Tbl w' w.heap.size v q ∧ Below w.heap.size w w' := by
  by_cases h : s.data.toList = []
  · obtain ⟨rfl, rfl, rfl⟩ := readR_empty hr h
    exact (FromText_empty s w h).mono fun e w' ⟨he, hb⟩ => ⟨_, he, Tbl.nil _ _, hb⟩
  · exact FromText_rows s w hs h hr

end Go.Proofs.YtgcagoalnhgljacDoor
