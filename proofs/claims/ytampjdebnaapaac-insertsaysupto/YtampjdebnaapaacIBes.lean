/-
  The contract of ferref.Beside.
-/
import Derived.Test.YtampjdebnaapaacIAcr
import Derived.Test.YtampjdebnaapaacIPut
import Derived.Test.YtampjdebnaapaacISid
namespace Go.Proofs.Ytampjdebnaapaac
open Go.RowKit

/-- All rows are short, all letters small. -/
def SmT' (ls : List (List Int)) : Prop := ∀ l ∈ ls, l.length ≤ 17592186044416 ∧ ∀ z ∈ l, -9223372036854775808 ≤ z ∧ z ≤ 9223372036854775807
theorem insC_small {ls : List (List Int)} (h : IsTab ls) {x : Int} (hx : 1 ≤ x ∧ x ≤ 99) : (ins true x (cols ls)).length ≤ 1000 ∧ width (ins true x (cols ls)) ≤ 1000 ∧ SmT' (ins true x (cols ls)) := by
  have hT : TC (ins true x (cols ls)) := insC_TC (T_cols h.T)
  have hf : (ins true x (cols ls)).flatten.length ≤ 1601 := by rw [ins_count]; have := cols_flat h; omega
  have hrow : ∀ k, (row (ins true x (cols ls)) k).length ≤ 1601 := fun k => by
    by_cases hk : k < (ins true x (cols ls)).length
    · exact Nat.le_trans (row_le_flat hk) hf
    · rw [row_out (by omega)]; simp
  have hlen : (ins true x (cols ls)).length ≤ 41 ∧ width (ins true x (cols ls)) ≤ 41 := by
    have key : ∀ (t : List (List Int)) (y : Int), (ins true y t).length ≤ t.length + 1 ∧ ∀ k, (row (ins true y t) k).length ≤ (row t k).length + 1 := by
      intro t
      induction t with
      | nil => intro y; refine ⟨by simp [ins], fun k => ?_⟩; cases k <;> simp [ins, row]
      | cons r t ih =>
        intro y
        rw [insC_put]
        refine ⟨?_, fun k => ?_⟩
        · split
          · simp
          · have := (ih (r.getD (spot true y r) 0)).1; simp only [List.length_cons]; omega
        · cases k with
          | zero => show (put (spot true y r) y r).length ≤ r.length + 1; rw [put_len]; split <;> omega
          | succ k =>
            split
            · show (row t k).length ≤ (row t k).length + 1; omega
            · exact (ih _).2 k
    have k1 := key (cols ls) x
    have k2 := k1.2 0
    have w1 := width_le h
    have w2 : (row (cols ls) 0).length ≤ 40 := by
      by_cases hz : 0 < width ls
      · rw [cols_row hz]; have := colOf_le ls 0; have := h.rows; omega
      · rw [row_out (by rw [cols_length]; omega)]; simp
    refine ⟨by have := k1.1; rw [cols_length] at this; omega, by unfold width; omega⟩
  refine ⟨by omega, by omega, fun l hl => ?_⟩
  obtain ⟨k, hk, rfl⟩ := mem_row hl
  refine ⟨by have := hrow k; omega, fun z hz => ?_⟩
  have hm : z ∈ (ins true x (cols ls)).flatten := List.mem_flatten.2 ⟨_, hl, hz⟩
  rcases ins_mem hm with e | e
  · omega
  · obtain ⟨c, hc, hz2⟩ := List.mem_flatten.1 e
    obtain ⟨j, _, rfl⟩ := List.mem_map.1 hc
    have := h.mem (colOf_mem hz2); omega


set_option maxHeartbeats 4000000 in
theorem Beside_at {x : Int} (a : Option Addr) (n cap : Nat) (ls : List (List Int)) (w : World) (hs : Table w a ls) (hn : n = ls.length) (hp : IsTab ls) (hx : 1 ≤ x ∧ x ≤ 99) :
    Calls Try.prog 30 #[.slice a n cap, .int .i64 x] w fun e w' => ∃ v, e = .returned (.tuple #[v, .int .i64 (insAt true x (cols ls) : Nat)]) ∧ Tbl w' w.heap.size v (cols (ins true x (cols ls))) ∧ Below w.heap.size w w' := by
  subst hn
  have HS0 : Hid (Table w a ls) := hs
  have HT : Hid (IsTab ls) := hp
  have h40 := hp.rows
  obtain ⟨ks, HKs⟩ : ∃ ks, Hid (ks = cols ls) := ⟨_, rfl⟩
  have HR0 : Hid (∀ r ∈ ks, 0 < r.length ∧ r.length ≤ 1000) := fun r hr => by
    rw [HKs.out] at hr
    obtain ⟨k, hk, rfl⟩ := mem_row hr
    refine ⟨(cols_shp hp.shp).one k hk, ?_⟩
    rw [cols_length] at hk
    rw [cols_row hk]; have := colOf_le ls k; omega
  have hkl : ks.length ≤ 1000 := by rw [HKs.out, cols_length]; have := width_le hp; omega
  have HTC : Hid (TC (ins true x ks)) := by rw [HKs.out]; exact insC_TC (T_cols hp.T)
  have HQ : Hid ((ins true x ks).length ≤ 1000 ∧ width (ins true x ks) ≤ 1000 ∧ SmT' (ins true x ks)) := by rw [HKs.out]; exact insC_small hp hx
  clear hs hp
  go_enter Try.func30, Try.ntmps30
  go_wp2_with fail
  refine (Across_sh _ _ _ _ _ HS0.out rfl HT.out.shp (by omega) (by have := width_le HT.out; omega)).mono ?_
  rintro e w1 ⟨v1, rfl, hT1, hb1⟩
  rw [← HKs.out] at hT1
  have HT1 : Hid (Tbl w1 w.heap.size v1 ks) := hT1
  have HB1 : Hid (Below w.heap.size w w1) := hb1
  obtain ⟨a2, c2, hsv⟩ : ∃ a2 c2, v1 = .slice a2 ks.length c2 := by obtain ⟨vs, h⟩ := hT1; exact h.shape
  subst hsv
  clear hT1 hb1
  have HV0 : Hid (TIn w1 w.heap.size (fun k => w.heap.size ≤ k ∧ k < w1.heap.size) (.slice a2 ks.length c2) ks) := TIn.of_tbl HT1.out
  obtain ⟨S, HSd⟩ : ∃ S : Nat → Prop, Hid (S = fun k => w.heap.size ≤ k ∧ k < w1.heap.size) := ⟨_, rfl⟩
  rw [← HSd.out] at HV0
  obtain ⟨vs, hV⟩ := HV0.out
  have HV1 : Hid (TblIn w1 w.heap.size S (.slice a2 ks.length c2) vs ks) := hV
  have HSl : Hid (∀ k, S k → w.heap.size ≤ k) := fun k hk => by rw [HSd.out] at hk; exact hk.1
  have HSl2 : Hid (InS S w.heap.size w1) := fun k hk => by rw [HSd.out] at hk; exact hk
  clear hV HV0 HSd
  go_wp2
  go_loopw [1, 7] (fun xv q wr => ∃ (i : Nat) (y : Int) (ms : List (List Int)), i ≤ ks.length ∧ q = .int .i64 i ∧ xv = .int .i64 y ∧ Hid (ms.length = ks.length) ∧ Hid (TblIn wr w.heap.size S (.slice a2 ks.length c2) vs ms) ∧ Hid (Off S w1 wr ∧ wr.heap.size = w1.heap.size) ∧
    Hid (∀ r ∈ ms, 0 < r.length ∧ r.length ≤ 1000) ∧ Hid (ins true x ks = ms.take i ++ ins true y (ms.drop i) ∧ insAt true x ks = insAt true y (ms.drop i) + i)) (fun _ q _ => ks.length - (intOf q).toNat)
  case atStart => exact ⟨0, x, ks, Nat.zero_le _, rfl, rfl, rfl, HV1, ⟨Off.refl _ _, rfl⟩, HR0, by simp [Hid]⟩
  case round =>
    obtain ⟨i, y, ms, hi, rfl, rfl, HLm, HV, HO, HR, HM⟩ := hrel
    by_cases hil : i < ks.length
    · have hil' : (i : Int) < (ks.length : Int) := by omega
      have HIm : Hid (i < ms.length) := by rw [HLm.out]; exact hil
      obtain ⟨g, n0, c0, hsl, -, hg1, hg2, hfg, hcells⟩ := HV.out.t.head (by have := HIm.out; omega)
      simp only [Value.slice.injEq] at hsl
      obtain ⟨rfl, -, rfl⟩ := hsl
      have hci := hcells i HIm.out
      have hfgi := hfg i
      have hrp := HR.out _ (row_mem HIm.out)
      obtain ⟨h, ch, hrv, hh1, hh2, hhf, hhc⟩ := (HV.out.t.rows i HIm.out).head hrp.1
      obtain ⟨m, HMm⟩ : ∃ m, Hid (m = (row ms i).length) := ⟨_, rfl⟩
      have hm1 : m ≤ 1000 := by rw [HMm.out]; exact hrp.2
      have hrv' : rowv vs i = .slice (some ⟨h, 0, none⟩) m ch := by rw [hrv, HMm.out]; rfl
      rw [hrv'] at hci
      have HRv : Hid (rowv vs i = .slice (some ⟨h, 0, none⟩) m ch) := hrv'
      have HHc : Hid (∀ j, j < m → wr.cell? ⟨h, j, none⟩ = some (.int .i64 (box ms i j))) := fun j hj => hhc j (by rw [HMm.out] at hj; exact hj)
      have HHf : Hid (∀ j, wr.frozen? ⟨h, j, none⟩ = false) := hhf
      have HSh : Hid (S h) := HV.out.rs i HIm.out h (by rw [hrv']; rfl)
      clear hrv hrv' hhc hhf hcells hrp hfg
      go_wp2
      go_loop [8] (fun q => ∃ j : Nat, j ≤ m ∧ q = .int .i64 j ∧ Hid (∀ k, k < j → box ms i k < y)) (fun q => m - (intOf q).toNat)
      case atStart => exact ⟨0, Nat.zero_le _, rfl, fun k hk => by omega⟩
      case round =>
        obtain ⟨j, hj, rfl, HP⟩ := hrel
        by_cases hjm : j < m
        · have hjm' : (j : Int) < (m : Int) := by omega
          have hcj := HHc.out j hjm
          obtain ⟨z, HZ⟩ : ∃ z, Hid (z = box ms i j) := ⟨_, rfl⟩
          rw [← HZ.out] at hcj
          by_cases hzy : z < y
          · have HZY : Hid (z < y) := hzy
            go_wp2
            go_round
            case rel => exact ⟨j + 1, by omega, by go_num, fun k hk => by
                          by_cases e : k = j
                          · subst e; rw [← HZ.out]; exact HZY.out
                          · exact HP.out k (by omega)⟩
            case measure => simp [intOf]; omega
          · have HZY : Hid (¬ z < y) := hzy
            have hne : ((j : Int) == (m : Int)) = false := by simp; omega
            have hfj := HHf.out j
            have HSp : Hid (spot true y (row ms i) = j) := spot_is (by rw [← HMm.out]; omega) (fun k hk => by have q := HP.out k hk; unfold box at q; simp [passes] at q ⊢; exact q) (Or.inr (by have := HZY.out; rw [HZ.out] at this; unfold box at this; simp [passes] at this ⊢; exact this))
            have hon := ins_on HIm.out HSp.out (by rw [← HMm.out]; exact hjm)
            have HV2 : Hid (TblIn (wr.setCell ⟨h, j, none⟩ (.int .i64 y)).drew w.heap.size S (.slice (some ⟨g, 0, none⟩) ks.length c2) vs (ms.set i ((row ms i).set j y))) := (HV.out.storeBox HIm.out HRv.out HMm.out j y).same (fun _ _ => rfl)
            have HO2 : Hid (Off S w1 (wr.setCell ⟨h, j, none⟩ (.int .i64 y)).drew ∧ (wr.setCell ⟨h, j, none⟩ (.int .i64 y)).drew.heap.size = w1.heap.size) := ⟨(HO.out.1.setCell HSh.out _).drewN 1, by have := HO.out.2; simpa [World.drew] using this⟩
            have HR2 : Hid (∀ r ∈ ms.set i ((row ms i).set j y), 0 < r.length ∧ r.length ≤ 1000) := set_rows_len HR.out
            have HM2 : Hid (ins true x ks = (ms.set i ((row ms i).set j y)).take (i + 1) ++ ins true z ((ms.set i ((row ms i).set j y)).drop (i + 1)) ∧ insAt true x ks = insAt true z ((ms.set i ((row ms i).set j y)).drop (i + 1)) + (i + 1)) := by
              rw [HZ.out]
              exact ⟨HM.out.1.trans hon.1, by rw [HM.out.2, hon.2]; omega⟩
            clear hon
            go_wp2_with fail
            go_region
            go_wp2
            go_roundw
            case rel => exact ⟨i + 1, z, _, by omega, by go_num, rfl, by show _ = _; rw [List.length_set]; exact HLm.out, HV2, HO2, HR2, HM2⟩
            case measure => simp [intOf]; omega
        · obtain rfl : j = m := by omega
          have hne : ((j : Int) == (j : Int)) = true := by simp
          have hjm' : ¬ (j : Int) < (j : Int) := by omega
          have HSp : Hid (spot true y (row ms i) = (row ms i).length) := spot_is (Nat.le_refl _) (fun k hk => by have q := HP.out k (by rw [HMm.out]; exact hk); unfold box at q; simp [passes] at q ⊢; exact q) (Or.inl rfl)
          have hend := ins_end HIm.out HSp.out
          have HF : Hid (ms.set i (row ms i ++ [y]) = ins true x ks ∧ insAt true x ks = i) := ⟨by rw [HM.out.1, hend.1], by rw [HM.out.2, hend.2]; omega⟩
          have HRow : Hid (wr.ownsRow w.heap.size 3 1 (.slice (some ⟨h, 0, none⟩) j ch) ((row ms i).map (Value.int .i64)).length ((row ms i).map (Value.int .i64))) := by
            have := vals_of_owns (HV.out.t.rows i HIm.out)
            rw [HRv.out] at this; exact this
          have HLn : Hid (((row ms i).map (Value.int .i64)).length ≤ 1000) := by show _ ≤ _; rw [List.length_map, ← HMm.out]; exact hm1
          have HLo : Hid (w.heap.size ≤ wr.heap.size) := by rw [HO.out.2]; exact HB1.out.size
          clear hend
          go_wp2_with (at_builtin; refine append_one elem_int (x := .int .i64 y) rfl _ _ rfl rfl rfl rfl HRow.out rfl ?c1 ?c2 ?c3 ?_)
          case c1 => have := HLn.out; rw [List.length_map] at this; unfold maxLen; omega
          case c2 => have := HLn.out; rw [List.length_map] at this; omega
          case c3 => exact HLo.out
          intro v' w2 hO' hb' hk'
          have hO2 : Owns w2 w.heap.size v' (row ms i ++ [y]) := by unfold Owns; simpa using hO'
          rw [← HRv.out] at hk'
          obtain ⟨p1, p2⟩ := HV.out.setRow HIm.out hO2 hk'
          have hne2 : (rowv vs i).ownBlock ≠ some g := fun e => HV.out.t.off i HIm.out _ rfl e
          have hfz2 : w2.frozen? ⟨g, i, none⟩ = false := by rw [World.frozen?_of_block (hk'.block g hg2 hne2)]; exact hfgi
          have hcj2 : w2.cell? ⟨g, i, none⟩ = some (.slice (some ⟨h, 0, none⟩) j ch) := by rw [World.cell?_of_block (hk'.block g hg2 hne2)]; exact hci
          rw [HF.out.1] at p1
          have HP1 : Hid (Tbl (w2.setCell ⟨g, i, none⟩ v') w.heap.size (.slice (some ⟨g, 0, none⟩) ks.length c2) (ins true x ks)) := ⟨_, p1.t⟩
          have HP2 : Hid (Below w.heap.size w (w2.setCell ⟨g, i, none⟩ v')) := by
            have hoff : Off S wr (w2.setCell ⟨g, i, none⟩ v') := ⟨(hb'.mono (Nat.zero_le _)).setCell (p := ⟨g, i, none⟩) (Nat.zero_le _) _, p2⟩
            exact HB1.out.trans ((HO.out.1.below HB1.out.size HSl.out).trans (hoff.below HLo.out HSl.out))
          obtain ⟨av', nv', hv'⟩ := hO2.shape
          rw [List.length_append, List.length_singleton] at hv'
          subst hv'
          clear hO' hO2 hb' hk' hci hfgi p1 p2
          obtain ⟨aq, nq, cq, hqv, hTb, HNq⟩ := HP1.out.table HQ.out.2.2
          simp only [Value.slice.injEq] at hqv
          obtain ⟨rfl, rfl, rfl⟩ := hqv
          go_wp2_with (go_at_call 17; refine (Across_sh _ _ _ _ _ hTb HNq.out HTC.out.shp HQ.out.1 HQ.out.2.1).mono ?_; rintro e w5 ⟨v5, rfl, hT5, hb5⟩)
          have HT5 : Hid (Tbl w5 w.heap.size v5 (cols (ins true x ks))) := hT5.mono HP2.out.size
          have HB5 : Hid (Below w.heap.size w w5) := HP2.out.trans (hb5.mono HP2.out.size)
          clear hT5 hb5 hTb
          go_wp2
          go_ret2
          exact ⟨_, by rw [← HKs.out, HF.out.2]; rfl, by rw [← HKs.out]; exact HT5.out, HB5.out⟩
    · obtain rfl : i = ks.length := by omega
      have hov := ins_over (s := true) (x := y) (ls := ms)
      rw [HLm.out] at hov
      have HF : Hid (ms ++ [[y]] = ins true x ks ∧ insAt true x ks = ks.length) := ⟨by rw [HM.out.1, hov.1], by rw [HM.out.2, hov.2]; omega⟩
      clear hov
      have HO1 : Hid (Owns (wr.alloc (.cells #[.int .i64 y] 3)) wr.heap.size (.slice (some ⟨wr.heap.size, 0, none⟩) 1 1) [y]) := owns_new y
      have HBa : Hid (Below wr.heap.size wr (wr.alloc (.cells #[.int .i64 y] 3))) := (Below.refl _ wr).alloc (Nat.le_refl _) _
      have HSw : Hid (InS S w.heap.size wr) := fun k hk => by rw [HO.out.2]; exact HSl2.out k hk
      have HLv : Hid (vs.length = ks.length) := by show _ = _; rw [HV.out.t.len]; exact HLm.out
      have HLo : Hid (w.heap.size ≤ wr.heap.size) := by rw [HO.out.2]; exact HB1.out.size
      go_wp2_with (at_builtin; refine append_one elem_row (x := .slice (some ⟨wr.heap.size, 0, none⟩) 1 1) rfl _ _ rfl rfl rfl ?c0 (HV.out.same (fun k hk => HBa.out.block k (HSw.out k hk).2)).t.own rfl ?c1 ?c2 ?c3 ?_)
      case c0 => simp
      case c1 => have := HLv.out; unfold maxLen; omega
      case c2 => have := HLv.out; omega
      case c3 => have := HLo.out; have := HBa.out.size; omega
      intro v' w2 hO' hb' hk'
      have hO2 : w2.ownsRow w.heap.size 22 1 v' (vs ++ [Value.slice (some ⟨wr.heap.size, 0, none⟩) 1 1]).length (vs ++ [Value.slice (some ⟨wr.heap.size, 0, none⟩) 1 1]) := by simpa using hO'
      obtain ⟨p1, p2⟩ := HV.out.push HSw.out HLo.out HBa.out HO1.out hO2 hk'
      rw [HF.out.1] at p1
      have HP1 : Hid (Tbl w2 w.heap.size v' (ins true x ks)) := ⟨_, p1.t⟩
      have HP2 : Hid (Below w.heap.size w w2) := by
        have hoff : Off S wr w2 := ⟨((HBa.out.mono (Nat.zero_le _)).trans (hb'.mono (Nat.zero_le _))), p2⟩
        exact HB1.out.trans ((HO.out.1.below HB1.out.size HSl.out).trans (hoff.below HLo.out HSl.out))
      clear p1 p2 hO' hO2 hb' hk'
      obtain ⟨aq, nq, cq, hqv, hTb, HNq⟩ := HP1.out.table HQ.out.2.2
      subst hqv
      go_wp2_with (go_at_call 17; refine (Across_sh _ _ _ _ _ hTb HNq.out HTC.out.shp HQ.out.1 HQ.out.2.1).mono ?_; rintro e w5 ⟨v5, rfl, hT5, hb5⟩)
      have HT5 : Hid (Tbl w5 w.heap.size v5 (cols (ins true x ks))) := hT5.mono HP2.out.size
      have HB5 : Hid (Below w.heap.size w w5) := HP2.out.trans (hb5.mono HP2.out.size)
      clear hT5 hb5 hTb
      go_wp2
      go_ret2
      exact ⟨_, by rw [← HKs.out, HF.out.2]; rfl, by rw [← HKs.out]; exact HT5.out, HB5.out⟩

end Go.Proofs.Ytampjdebnaapaac
