/-
  The contract of ferref.OfEdges.
-/
import Derived.Test.YtniedfecmakhpaaDoorDFrp
import Derived.Test.YtniedfecmakhpaaDoorESpl
namespace Go.Proofs.YtniedfecmakhpaaDoor
open Go.RowKit

/-- as Rec, with room behind the list of rows -/
structure RecC (w : World) (lo g r cap c : Nat) (gs : Nat → Nat) (P : Nat → Nat → Nat) : Prop where
  t : TblV w lo (.slice (some ⟨g, 0, none⟩) r cap) (rvs r c gs) (tb r c P)
section
variable {w w' : World} {lo g r cap c : Nat} {gs : Nat → Nat} {P Q : Nat → Nat → Nat}
theorem RecC.same (h : RecC w lo g r cap c gs P) (hk : ∀ k, lo ≤ k → k < w.heap.size → w'.heap[k]? = w.heap[k]?) : RecC w' lo g r cap c gs P := ⟨h.t.same hk⟩
theorem RecC.below (h : RecC w lo g r cap c gs P) (hb : Below w.heap.size w w') : RecC w' lo g r cap c gs P := h.same (fun k _ hk => hb.block k hk)
theorem RecC.congr (h : RecC w lo g r cap c gs P) (e : ∀ i, i < r → ∀ j, j < c → P i j = Q i j) : RecC w lo g r cap c gs Q := ⟨by rw [← tb_congr e]; exact h.t⟩
theorem RecC.tbl (h : RecC w lo g r cap c gs P) : Tbl w lo (.slice (some ⟨g, 0, none⟩) r cap) (tb r c P) := ⟨_, h.t⟩
theorem RecC.head (h : RecC w lo g r cap c gs P) {i : Nat} (hi : i < r) : w.cell? ⟨g, i, none⟩ = some (.slice (some ⟨gs i, 0, none⟩) c c) := by
  obtain ⟨g9, n9, cap9, e9, -, _, _, _, hce9⟩ := h.t.head (by rw [tb_len]; omega)
  simp only [Value.slice.injEq, Option.some.injEq, Addr.mk.injEq, and_true] at e9
  obtain ⟨rfl, -, -⟩ := e9
  rw [hce9 i (by rw [tb_len]; exact hi), rvs_at hi]
theorem RecC.box (h : RecC w lo g r cap c gs P) {i j : Nat} (hi : i < r) (hj : j < c) :
    w.cell? ⟨gs i, j, none⟩ = some (.int .i64 (P i j : Int)) ∧ w.frozen? ⟨gs i, j, none⟩ = false ∧ lo ≤ gs i ∧ gs i < w.heap.size := by
  have ho := h.t.rows i (by rw [tb_len]; exact hi)
  rw [rvs_at hi, tb_get hi] at ho
  obtain ⟨g8, cap8, e8, hg8, hgs8, hfr8, hce8⟩ := ho.head (by rw [tab_length]; omega)
  simp only [Value.slice.injEq, Option.some.injEq, Addr.mk.injEq, and_true] at e8
  obtain ⟨rfl, -, -⟩ := e8
  have := hce8 j (by rw [tab_length]; exact hj)
  rw [tab_getD _ _ _ hj] at this
  exact ⟨this, hfr8 j, hg8, hgs8⟩
theorem RecC.set {W : World} (h : RecC w lo g r cap c gs P) {i j : Nat} (hi : i < r) (x : Nat) (hW : W.heap = w.heap) : RecC (W.setCell ⟨gs i, j, none⟩ (.int .i64 (x : Int))) lo g r cap c gs (upd P i j x) := by
  have h1 := (h.same (w' := W) (fun k _ _ => by rw [hW])).t
  have h2 := h1.storeBox (by rw [tb_len]; exact hi) (rvs_at hi) (by rw [tb_get hi, tab_length]) j (x : Int)
  rw [tb_set hi] at h2
  exact ⟨h2⟩
end

theorem rvs_push (i c : Nat) (gs : Nat → Nat) (q : Nat) : rvs i c gs ++ [.slice (some ⟨q, 0, none⟩) c c] = rvs (i + 1) c (fun k => if k = i then q else gs k) := by
  unfold rvs
  rw [List.range_succ, List.map_append]
  congr 1
  · exact List.map_congr_left (fun k hk => by show _ = Value.slice (some ⟨if k = i then q else gs k, 0, none⟩) c c; rw [if_neg (by have := List.mem_range.1 hk; omega)])
  · simp
theorem tb_push (i c : Nat) : tb i c (fun _ _ => 0) ++ [List.replicate c 0] = tb (i + 1) c (fun _ _ => 0) := by
  unfold tb
  rw [List.range_succ, List.map_append]
  congr 1
  simp only [List.map_cons, List.map_nil, List.cons.injEq, and_true]
  symm
  rw [List.eq_replicate_iff]
  exact ⟨tab_length _ _, fun x hx => by obtain ⟨_, _, rfl⟩ := tab_mem hx; rfl⟩

/-- pieces of a text in block X -/
def PcO (w : World) (X : Nat) (pc : List ByteArray) : Prop := w.ownsRow X 9 1 (.slice (some ⟨X, 0, none⟩) pc.length pc.length) pc.length (pc.map Value.string)
theorem PcO.cell {w : World} {X : Nat} {pc : List ByteArray} (h : PcO w X pc) {i : Nat} (hi : i < pc.length) : w.cell? ⟨X, i, none⟩ = some (.string pc[i]) := by
  rw [World.ownsRow.cellAt h i (by omega)]
  simp [hi]
theorem pco_made {w : World} {pc : List ByteArray} (hl : pc.length ≤ 1000) : PcO (w.alloc (.cells (pc.map Value.string).toArray 9)) w.heap.size pc := by
  refine ⟨by simp, Or.inr ⟨w.heap.size, pc.length, (pc.map Value.string).toArray, rfl, Nat.le_refl _, heap_alloc_new _ _, Nat.le_refl _, by unfold maxLen; omega, by simp, ?_⟩⟩
  rw [Nat.mul_one]
  exact List.take_of_length_le (by simp)

def oq (r : Nat) (bx : Nat → Nat) (Q : Nat → Nat → Nat) (i j a b : Nat) : Nat := if (r - 1 - a < i ∧ b < bx a) ∨ (r - 1 - a = i ∧ b < j) then Q a b + 1 else Q a b

set_option maxHeartbeats 4000000 in
set_option maxRecDepth 100000 in
theorem OfEdges_at (a : Option Addr) (n cap : Nat) (ss : List ByteArray) (m : Int) (w : World) (hs : Txs w a ss) (hn : n = ss.length) (hm : 0 < w.heap.size ∧ w.cell? ⟨0, 0, none⟩ = some (.int .i64 m)) :
    Calls Tryd.prog 9 #[.slice a n cap] w fun e w' => ∃ v, e = .returned (.tuple #[v, .int .i64 (fpC ss)]) ∧ Hid (fpC ss = 0 → Tbl w' w.heap.size v (tb (fpR ss) (fpK ss) (fpP ss))) ∧ Hid (fpC ss ≠ 0 → v = .slice none 0 0) ∧ Hid (Below w.heap.size w w') := by
  subst hn
  have hl := hs.len
  have HS : Hid (Txs w a ss) := hs
  have HMx : Hid (∀ W, Below w.heap.size w W → W.cell? ⟨0, 0, none⟩ = some (.int .i64 m)) := fun W hW => (hW.cell (p := ⟨0, 0, none⟩) hm.1).trans hm.2
  clear hs hm
  by_cases hA : sides [(ss.length : Int)]
  · have HAs : Hid (sides [(ss.length : Int)]) := hA
    have hl8 : 1 ≤ (ss.length : Int) ∧ (ss.length : Int) ≤ 8 := (sides1 _).1 hA
    clear hA hl
    have hl0 : (0 : Int) < (ss.length : Int) := by omega
    have hA1 : ¬ (ss.length : Int) < 1 := by omega
    have hA2 : ¬ 8 < (ss.length : Int) := by omega
    obtain ⟨b, off, rfl, -, hc0, hz0⟩ := HS.out.at_ 0 (by omega)
    rw [Nat.add_zero] at hc0
    obtain ⟨s0, HS0⟩ : ∃ s0, Hid (s0 = ss.getD 0 ⟨#[]⟩) := ⟨_, rfl⟩
    rw [← HS0.out] at hc0 hz0
    obtain ⟨r, HRr⟩ : ∃ r, Hid (r = fpR ss) := ⟨_, rfl⟩
    obtain ⟨c, HCc⟩ : ∃ c, Hid (c = fpK ss) := ⟨_, rfl⟩
    have HRe : Hid (List.count 85 s0.data.toList = r) := by show _ = _; rw [HRr.out, HS0.out]; rfl
    have HCe : Hid (List.count 82 s0.data.toList = c) := by show _ = _; rw [HCc.out, HS0.out]; rfl
    go_enter Tryd.func9, Tryd.ntmps9
    go_wp2_with fail
    go_quiet ((go_at_call 22; exact Calls.quiet_of_same (Count_at s0 _ _)))
    rw [HRe.out, HCe.out]
    have HBq : Hid (Below w.heap.size w (w.drewN nq)) := below_drewN (Below.refl _ _) nq
    obtain ⟨w1, HW1⟩ : ∃ w1, Hid (w1 = w.drewN nq) := ⟨_, rfl⟩
    rw [← HW1.out] at HBq ⊢
    clear hc0 HW1
    by_cases hD : sides [(r : Int), (c : Int)]
    · have hrc := (sides2 _ _).1 hD
      have HFc : Hid (fpC ss = (frm r c 0 (fun _ _ => 0) (byL ss)).1) := by show _ = _; unfold fpC; rw [if_neg (not_not_intro HAs.out), ← HRr.out, ← HCc.out, if_neg (not_not_intro hD)]
      have HFp : Hid (fpP ss = (frm r c 0 (fun _ _ => 0) (byL ss)).2) := by show _ = _; unfold fpP; rw [← HRr.out, ← HCc.out]
      clear hD
      have d1 : ¬ (r : Int) < 1 := by omega
      have d2 : ¬ 8 < (r : Int) := by omega
      have d3 : ¬ (c : Int) < 1 := by omega
      have d4 : ¬ 8 < (c : Int) := by omega
      obtain ⟨i1, hi1, hy0, hy1, hy2⟩ := info_parts Tryd.info3
      have HI1 : Hid (Tryd.prog.info? 3 = some i1 ∧ i1.zero = some (.int .i64 0) ∧ i1.size = 1 ∧ i1.bytes = 8) := ⟨hi1, hy0, hy1, hy2⟩
      clear hi1 hy0 hy1 hy2
      go_wp2
      go_loopw [6, 7] (fun v q wr => ∃ (i : Nat) (gs : Nat → Nat), i ≤ r ∧ q = .int .i64 i ∧ Hid (TblV wr w.heap.size v (rvs i c gs) (tb i c fun _ _ => 0)) ∧ Hid (Below w.heap.size w wr)) (fun _ q _ => r - (intOf q).toNat)
      case atStart => exact ⟨0, fun _ => 0, Nat.zero_le _, rfl, ⟨World.ownsRow_nil _ _ _ _, rfl, fun i h => absurd h (by rw [tb_len]; omega), fun i _ h => absurd h (by rw [tb_len]; omega), fun i h => absurd h (by rw [tb_len]; omega)⟩, HBq⟩
      case round =>
        clear HBq
        obtain ⟨i, gs, hi, rfl, HT, HB⟩ := hrel
        by_cases hil : i < r
        · have hil' : (i : Int) < (r : Int) := by omega
          obtain ⟨hi1, hy0, hy1, hy2⟩ := HI1.out
          go_wp2_with (at_make; refine wpList_make_full _ rfl _ _ 33 rfl wr.heap.size 3 i1 (.int .i64 0) 1 Tryd.underlying33 hi1 hy0 hy1 _ _ _ _ c rfl rfl rfl rfl ?b1 ?b2 ?b3 ?_)
          case b1 => rw [hy2]; omega
          case b2 => unfold maxLen; omega
          case b3 => exact Nat.le_refl _
          intro wm hown hgrow
          have HB0 : Hid (Below wr.heap.size wr wm) := (Below.refl _ _).grown hgrow (Nat.le_refl _) (fun k h => by cases h)
          have HO : Hid (Owns wm w.heap.size (.slice (some ⟨wr.heap.size, 0, none⟩) c c) (List.replicate c 0)) := by
            have h : wm.ownsRow wr.heap.size 3 1 (.slice (some ⟨wr.heap.size, 0, none⟩) c c) c (madeCells #[Value.int .i64 0] c).toList := by simpa [Value.cells] using hown
            rw [toList_madeCells_one] at h
            refine Owns.mono (base := wr.heap.size) ?_ HB.out.size
            unfold Owns
            simpa using h
          have HV2 : Hid (TblV wm w.heap.size u6 (rvs i c gs) (tb i c fun _ _ => 0)) := HT.out.same (fun q _ hq => HB0.out.block q hq)
          clear hown hgrow hi1 hy0 hy1 hy2
          go_wp2_with (at_builtin; refine append_one elem_row (x := .slice (some ⟨wr.heap.size, 0, none⟩) c c) rfl _ _ rfl rfl rfl rfl HV2.out.own rfl ?c3 ?c4 ?c5 ?_)
          case c3 => have := HT.out.len; rw [tb_len] at this; unfold maxLen; omega
          case c4 => have := HT.out.len; rw [tb_len] at this; omega
          case c5 => exact Nat.le_trans HB.out.size HB0.out.size
          intro v' w3 hO3 hb3 hk3
          have hO3' : w3.ownsRow w.heap.size 33 1 v' (rvs i c gs ++ [Value.slice (some ⟨wr.heap.size, 0, none⟩) c c]).length (rvs i c gs ++ [Value.slice (some ⟨wr.heap.size, 0, none⟩) c c]) := by simpa using hO3
          have HT3 : Hid (TblV w3 w.heap.size v' (rvs (i + 1) c (fun k => if k = i then wr.heap.size else gs k)) (tb (i + 1) c fun _ _ => 0)) := by
            show TblV _ _ _ _ _
            rw [← rvs_push, ← tb_push]
            refine HV2.out.push HO.out (fun k hk q e e2 => ?_) (fun q e e2 => ?_) hO3' hk3
            · cases e
              exact Nat.lt_irrefl _ ((HT.out.rows k hk).lt e2).2
            · cases e2
              exact Nat.lt_irrefl _ (HT.out.own.lt _ e).2
          have HB3 : Hid (Below w.heap.size w w3) := (HB.out.trans (HB0.out.mono HB.out.size)).trans hb3
          clear hO3 hO3' hb3 hk3
          go_wp2
          go_roundw
          case rel => exact ⟨i + 1, _, by omega, by go_num, HT3, HB3⟩
          case measure => simp [intOf]; omega
        · obtain rfl : i = r := by omega
          obtain ⟨g, n9, capg, hv6, HN9, -, -, -, -⟩ := HT.out.head (by rw [tb_len]; omega)
          have hn9 : n9 = i := by rw [HN9.out, tb_len]
          subst hn9
          subst hv6
          have HR0 : Hid (RecC wr w.heap.size g n9 capg c gs fun _ _ => 0) := ⟨HT.out⟩
          clear HT HI1 HN9
          go_wp2
          go_loopw [8] (fun q wr => ∃ (i : Nat) (Q : Nat → Nat → Nat), i ≤ ss.length ∧ q = .int .i64 i ∧ Hid (RecC wr w.heap.size g n9 capg c gs Q) ∧ Hid (Below w.heap.size w wr) ∧ Hid (frm n9 c i Q ((byL ss).drop i) = frm n9 c 0 (fun _ _ => 0) (byL ss)) ∧ Hid (∀ a, a < n9 → ∀ b, b < c → Q a b ≤ i)) (fun q _ => ss.length - (intOf q).toNat)
          case atStart => exact ⟨0, _, Nat.zero_le _, rfl, HR0, HB, rfl, fun _ _ _ _ => Nat.zero_le _⟩
          case round =>
            clear HR0 HB
            obtain ⟨k, Q, hk, rfl, HR, HB, HF, HQ⟩ := hrel
            by_cases hkl : k < ss.length
            · have hkl' : (k : Int) < (ss.length : Int) := by omega
              obtain ⟨b9, off9, e9, hb9, hci, hzi⟩ := (HS.out.below HB.out).at_ k hkl
              simp only [Option.some.injEq, Addr.mk.injEq, and_true] at e9
              obtain ⟨rfl, rfl⟩ := e9
              obtain ⟨s, HSs⟩ : ∃ s, Hid (s = ss.getD k ⟨#[]⟩) := ⟨_, rfl⟩
              rw [← HSs.out] at hci hzi
              have HF2 : Hid (frm n9 c k Q (s.data.toList :: (byL ss).drop (k + 1)) = frm n9 c 0 (fun _ _ => 0) (byL ss)) := by
                have h := HF.out; rw [byL_drop hkl, ← HSs.out] at h; exact h
              clear HF
              obtain ⟨u, HU⟩ : ∃ u, Hid (u = s.data.toList.count 85) := ⟨_, rfl⟩
              obtain ⟨v, HV⟩ : ∃ v, Hid (v = s.data.toList.count 82) := ⟨_, rfl⟩
              obtain ⟨L, HL⟩ : ∃ L, Hid (L = s.size) := ⟨_, rfl⟩
              have HLl : Hid (s.data.toList.length = L) := by show _ = _; rw [HL.out]; exact Array.length_toList
              have HCu := hid_w (Count_at s 85 wr)
              have HCv := hid_w (Count_at s 82 wr)
              rw [← HU.out] at HCu
              rw [← HV.out] at HCv
              have HE : Hid (isE n9 c s.data.toList ↔ L = n9 + c ∧ u = n9 ∧ v = c) := by show _ ↔ _; unfold isE; rw [HLl.out, HU.out, HV.out]
              have hsz2 : s.size = L := HL.out.symm
              have hLb : L ≤ 9223372036854775807 := by rw [HL.out]; exact hzi
              have HNo : Hid (¬ isE n9 c s.data.toList → fpC ss = 1) := fun hE => by
                rw [HFc.out, ← HF2.out]; unfold frm; rw [if_pos hE]
              by_cases h2 : u = n9
              · have h2' : ((u : Int) != (n9 : Int)) = false := by simp; omega
                by_cases h3 : v = c
                · have h3' : ((v : Int) != (c : Int)) = false := by simp; omega
                  by_cases h1 : L = n9 + c
                  · have h1' : ((L : Int) != (n9 : Int) + (c : Int)) = false := by simp; omega
                    have HEy : Hid (isE n9 c s.data.toList) := HE.out.2 ⟨h1, h2, h3⟩
                    have hL16 : s.size ≤ 1000 := by rw [hsz2]; omega
                    clear h1 h2 h3 HNo HE
                    have HSp := hid_w (Split_d s m wr hL16 (HMx.out wr HB.out))
                    go_wp2_with fail
                    refine HCu.out.mono ?_
                    rintro e w5 ⟨rfl, hw5⟩
                    obtain rfl : wr = w5 := hw5.symm
                    clear hw5
                    go_wp2_with fail
                    refine HCv.out.mono ?_
                    rintro e w5 ⟨rfl, hw5⟩
                    obtain rfl : wr = w5 := hw5.symm
                    clear hw5 HCu HCv
                    go_wp2_with fail
                    refine HSp.out.mono ?_
                    rintro e w6 ⟨pc, hpc, rfl, rfl⟩
                    clear HSp hci
                    obtain ⟨X, HXe⟩ : ∃ X, Hid (X = wr.heap.size) := ⟨_, rfl⟩
                    obtain ⟨wk, HWk⟩ : ∃ wk, Hid (wk = wr.alloc (.cells (pc.map Value.string).toArray 9)) := ⟨_, rfl⟩
                    have Hbk : Hid (Below wr.heap.size wr wk) := by rw [HWk.out]; exact (Below.refl _ _).alloc (Nat.le_refl _) _
                    have HPl : Hid (pc.length = n9 + 1) := by
                      show _ = _
                      have h := congrArg List.length hpc
                      rw [List.length_map, pcs_len] at h
                      rw [h, HEy.out.2.1]
                    have HPo : Hid (PcO wk X pc) := by rw [HWk.out, HXe.out]; exact pco_made (by rw [HPl.out]; omega)
                    have HPs : Hid (∀ i, (hi : i < pc.length) → pc[i].size = ((pcs s.data.toList).getD i []).length) := fun i hlp => by
                      rw [← hpc, List.getD, List.getElem?_map, List.getElem?_eq_getElem hlp]
                      show pc[i].size = pc[i].data.toList.length
                      exact Array.length_toList.symm
                    have HRk : Hid (RecC wk w.heap.size g n9 capg c gs (oq n9 (bo s.data.toList) Q 0 0)) := (HR.out.below Hbk.out).congr (fun a _ b _ => by unfold oq; rw [if_neg (by omega)])
                    have HBk : Hid (Below w.heap.size w wk) := HB.out.trans (Hbk.out.mono HB.out.size)
                    have HGX : Hid (∀ i, i < n9 → gs i < X) := fun i hi => by rw [HXe.out]; exact (HR.out.box (i := i) (j := 0) hi (by omega)).2.2.2
                    rw [← HXe.out, ← HWk.out, HPl.out]
                    clear hpc HWk Hbk HR HB HXe
                    go_wp2
                    go_loopw [10, 11] (fun nv q wr => ∃ i nn : Nat, i ≤ n9 ∧ q = .int .i64 i ∧ nv = .int .i64 nn ∧ nn ≤ 100 ∧ Hid (nn = pn s.data.toList i) ∧ Hid (RecC wr w.heap.size g n9 capg c gs (oq n9 (bo s.data.toList) Q i 0)) ∧ Hid (PcO wr X pc) ∧ Hid (Below w.heap.size w wr) ∧ Hid (∀ t, t < i → ∀ b, b < bo s.data.toList (n9 - 1 - t) → k ≤ Q (n9 - 1 - t) b)) (fun _ q _ => n9 - (intOf q).toNat)
                    case atStart => exact ⟨0, 0, Nat.zero_le _, rfl, rfl, by omega, rfl, HRk, HPo, HBk, fun t h => absurd h (by omega)⟩
                    case round =>
                      clear HRk HPo HBk
                      obtain ⟨i, nn, hi, rfl, rfl, hnn, HNn, HR, HPo, HB, HK⟩ := hrel
                      by_cases hil : i < n9
                      · have hil' : (i : Int) < (n9 : Int) := by omega
                        have hip' : (i : Int) < ((n9 + 1 : Nat) : Int) := by omega
                        have hip2 : (i : Int) < (n9 : Int) + 1 := by omega
                        have hlp : i < pc.length := by rw [HPl.out]; omega
                        obtain ⟨p, HPp⟩ : ∃ p, Hid (p = pc[i]'hlp) := ⟨pc[i]'hlp, show pc[i]'hlp = pc[i]'hlp from rfl⟩
                        have cp : wr.cell? ⟨X, i, none⟩ = some (.string p) := by rw [HPp.out]; exact HPo.out.cell hlp
                        obtain ⟨q, HQq⟩ : ∃ q, Hid (q = n9 - 1 - i) := ⟨_, rfl⟩
                        obtain ⟨n2, HN2⟩ : ∃ n2, Hid (n2 = bo s.data.toList q) := ⟨_, rfl⟩
                        have hpsz : nn + p.size = n2 := by
                          rw [HN2.out, HQq.out, ← pn_bo HEy.out hil, HNn.out, HPp.out, HPs.out i hlp]; rfl
                        have hn2c : n2 ≤ c := by rw [HN2.out]; exact bo_le HEy.out q
                        have hpe : (nn : Int) + (p.size : Int) = (n2 : Int) := by omega
                        have hqe : (n9 : Int) - 1 - (i : Int) = (q : Int) := by have := HQq.out; omega
                        have hqr : q < n9 := by have := HQq.out; omega
                        have hqr' : (q : Int) < (n9 : Int) := by omega
                        have cR := HR.out.head (i := q) hqr
                        clear HPp
                        go_wp2
                        clear cp cR
                        go_loopw [13] (fun jv wr => ∃ j : Nat, j ≤ n2 ∧ jv = .int .i64 j ∧ Hid (RecC wr w.heap.size g n9 capg c gs (oq n9 (bo s.data.toList) Q i j)) ∧ Hid (PcO wr X pc) ∧ Hid (Below w.heap.size w wr) ∧ Hid (∀ b, b < j → k ≤ Q q b)) (fun jv _ => n2 - (intOf jv).toNat)
                        case atStart => exact ⟨0, Nat.zero_le _, rfl, HR, HPo, HB, fun b h => absurd h (by omega)⟩
                        case round =>
                          clear HR HPo HB
                          obtain ⟨j, hj, rfl, HR, HPo, HB, HJ⟩ := hrel
                          by_cases hjl : j < n2
                          · have hjl' : (j : Int) < (n2 : Int) := by omega
                            have hjc' : (j : Int) < (c : Int) := by omega
                            obtain ⟨cB, fB, hlo, hhi⟩ := HR.out.box (i := q) (j := j) hqr (by omega)
                            obtain ⟨y, HY⟩ : ∃ y, Hid (y = Q q j) := ⟨_, rfl⟩
                            have hye : oq n9 (bo s.data.toList) Q i j q j = y := by rw [HY.out]; unfold oq; rw [if_neg (by have := HQq.out; omega)]
                            rw [hye] at cB
                            have hy : y ≤ k := by rw [HY.out]; exact HQ.out q hqr j (by omega)
                            clear hye
                            have HGx : Hid (gs q ≠ X) := by show _ ≠ _; have := HGX.out q hqr; omega
                            by_cases hyk : y < k
                            · have hyk' : (y : Int) < (k : Int) := by omega
                              have HN : Hid (fpC ss = 3) := by
                                show _ = _
                                rw [HFc.out, ← HF2.out]; unfold frm
                                rw [if_neg (not_not_intro HEy.out), if_pos ⟨q, hqr, j, by rw [← HN2.out]; exact hjl, by rw [← HY.out]; exact hyk⟩]
                              go_wp2
                              go_ret2
                              exact ⟨_, by rw [HN.out]; rfl, fun h => absurd (HN.out.symm.trans h) (by decide), fun _ => rfl, HB⟩
                            · have hyk' : ¬ (y : Int) < (k : Int) := by omega
                              have HR3 : Hid (∀ W : World, W.heap = wr.heap → RecC (W.setCell ⟨gs q, j, none⟩ (.int .i64 ((k : Int) + 1))) w.heap.size g n9 capg c gs (oq n9 (bo s.data.toList) Q i (j + 1))) := fun W hW => by
                                have h2 := HR.out.set (j := j) hqr (k + 1) hW
                                rw [show ((k + 1 : Nat) : Int) = (k : Int) + 1 by omega] at h2
                                refine h2.congr (fun a ha b _ => ?_)
                                have hq := HQq.out
                                unfold upd
                                by_cases e : a = q ∧ b = j
                                · obtain ⟨rfl, rfl⟩ := e
                                  rw [if_pos ⟨rfl, rfl⟩]; unfold oq; rw [if_pos (by omega), ← HY.out]; omega
                                · rw [if_neg e]
                                  unfold oq
                                  by_cases h4 : (n9 - 1 - a < i ∧ b < bo s.data.toList a) ∨ (n9 - 1 - a = i ∧ b < j)
                                  · rw [if_pos h4, if_pos (by omega)]
                                  · rw [if_neg h4, if_neg (by omega)]
                              have HW3 : Hid (∀ v, PcO (wr.setCell ⟨gs q, j, none⟩ v) X pc) := fun v => ownsRow_blocks HPo.out (fun q e => by
                                cases e; exact heap_setCell_other _ _ _ _ (fun e2 => HGx.out e2.symm))
                              have HQw : Hid (w.heap.size ≤ gs q) := hlo
                              have HJ3 : Hid (∀ b, b < j + 1 → k ≤ Q q b) := fun b hb => by
                                by_cases e : b = j
                                · subst e; rw [← HY.out]; omega
                                · exact HJ.out b (by omega)
                              go_wp2
                              go_roundw
                              case rel => exact ⟨j + 1, by omega, by go_num, HR3.out _ rfl, HW3.out _, HB.out.setCell (p := ⟨gs q, j, none⟩) HQw.out _, HJ3⟩
                              case measure => simp [intOf]; omega
                          · obtain rfl : j = n2 := by omega
                            have HR4 : Hid (RecC wr w.heap.size g n9 capg c gs (oq n9 (bo s.data.toList) Q (i + 1) 0)) := HR.out.congr (fun a ha b _ => by
                              unfold oq
                              have e := HN2.out
                              have hq := HQq.out
                              by_cases h4 : (n9 - 1 - a < i ∧ b < bo s.data.toList a) ∨ (n9 - 1 - a = i ∧ b < j)
                              · rw [if_pos h4, if_pos (by
                                  rcases h4 with h4 | ⟨h4, h5⟩
                                  · left; exact ⟨by omega, h4.2⟩
                                  · left; exact ⟨by omega, by rw [show a = q by omega, ← e]; exact h5⟩)]
                              · rw [if_neg h4, if_neg (by
                                  rintro (⟨h5, h6⟩ | ⟨h5, h6⟩)
                                  · by_cases e2 : n9 - 1 - a = i
                                    · rw [show a = q by omega, ← e] at h6; exact h4 (Or.inr ⟨e2, h6⟩)
                                    · exact h4 (Or.inl ⟨by omega, h6⟩)
                                  · omega)])
                            have HK3 : Hid (∀ t, t < i + 1 → ∀ b, b < bo s.data.toList (n9 - 1 - t) → k ≤ Q (n9 - 1 - t) b) := fun t ht b hb => by
                              by_cases e : t = i
                              · subst e; rw [← HQq.out] at hb ⊢; exact HJ.out b (by rw [HN2.out]; exact hb)
                              · exact HK.out t (by omega) b hb
                            have HNn3 : Hid (j = pn s.data.toList (i + 1)) := by show _ = _; rw [HN2.out, HQq.out]; exact (pn_bo HEy.out hil).symm
                            go_wp2
                            go_roundw
                            case rel => exact ⟨i + 1, j, by omega, by go_num, rfl, by omega, HNn3, HR4, HPo, HB, HK3⟩
                            case measure => simp [intOf]; omega
                      · obtain rfl : i = n9 := by omega
                        have HNb : Hid (¬ bad1 i k (bo s.data.toList) Q) := by
                          rintro ⟨a, ha, b, hb, hq⟩
                          have := HK.out (i - 1 - a) (by omega) b
                          rw [show i - 1 - (i - 1 - a) = a by omega] at this
                          have := this hb
                          omega
                        have HRe : Hid (RecC wr w.heap.size g i capg c gs (add1 (bo s.data.toList) Q)) := HR.out.congr (fun a ha b _ => by
                          unfold oq add1
                          by_cases h : b < bo s.data.toList a
                          · rw [if_pos (Or.inl ⟨by omega, h⟩), if_pos h]
                          · rw [if_neg (by omega), if_neg h])
                        have HF3 : Hid (frm i c (k + 1) (add1 (bo s.data.toList) Q) ((byL ss).drop (k + 1)) = frm i c 0 (fun _ _ => 0) (byL ss)) := by
                          show _ = _
                          rw [← HF2.out]; conv => rhs; unfold frm
                          rw [if_neg (not_not_intro HEy.out), if_neg HNb.out]
                        have HQ3 : Hid (∀ a, a < i → ∀ b, b < c → add1 (bo s.data.toList) Q a b ≤ k + 1) := fun a ha b hb => by
                          have := HQ.out a ha b hb
                          unfold add1; split <;> omega
                        go_wp2
                        go_roundw
                        case rel => exact ⟨k + 1, _, by omega, by go_num, HRe, HB, HF3, HQ3⟩
                        case measure => simp [intOf]; omega
                  · have h1' : ((L : Int) != (n9 : Int) + (c : Int)) = true := by simp; omega
                    have HN : Hid (fpC ss = 1) := HNo.out (fun h => h1 (HE.out.1 h).1)
                    clear h1 h2 h3 HNo HE
                    go_wp2_with fail
                    refine HCu.out.mono ?_
                    rintro e w5 ⟨rfl, rfl⟩
                    go_wp2_with fail
                    refine HCv.out.mono ?_
                    rintro e w5 ⟨rfl, rfl⟩
                    go_wp2
                    go_ret2
                    exact ⟨_, by rw [HN.out]; rfl, fun h => absurd (HN.out.symm.trans h) (by decide), fun _ => rfl, HB⟩
                · have h3' : ((v : Int) != (c : Int)) = true := by simp; omega
                  have HN : Hid (fpC ss = 1) := HNo.out (fun h => h3 (HE.out.1 h).2.2)
                  clear h2 h3 HNo HE
                  go_wp2_with fail
                  refine HCu.out.mono ?_
                  rintro e w5 ⟨rfl, rfl⟩
                  go_wp2_with fail
                  refine HCv.out.mono ?_
                  rintro e w5 ⟨rfl, rfl⟩
                  go_wp2
                  go_ret2
                  exact ⟨_, by rw [HN.out]; rfl, fun h => absurd (HN.out.symm.trans h) (by decide), fun _ => rfl, HB⟩
              · have h2' : ((u : Int) != (n9 : Int)) = true := by simp; omega
                have HN : Hid (fpC ss = 1) := HNo.out (fun h => h2 (HE.out.1 h).2.1)
                clear h2 HNo HE
                go_wp2_with fail
                refine HCu.out.mono ?_
                rintro e w5 ⟨rfl, rfl⟩
                go_wp2
                go_ret2
                exact ⟨_, by rw [HN.out]; rfl, fun h => absurd (HN.out.symm.trans h) (by decide), fun _ => rfl, HB⟩
            · have hie : k = ss.length := by omega
              subst hie
              have HFe : Hid (frm n9 c 0 (fun _ _ => 0) (byL ss) = (0, Q)) := by
                show _ = _
                rw [← HF.out, List.drop_of_length_le (by unfold byL; rw [List.length_map]; exact Nat.le_refl _)]; rfl
              have HT : Hid (Tbl wr w.heap.size (.slice (some ⟨g, 0, none⟩) n9 capg) (tb n9 c Q)) := HR.out.tbl
              have HN : Hid (fpC ss = 0) := by show _ = _; rw [HFc.out, HFe.out]
              go_wp2
              go_ret2
              exact ⟨_, by rw [HN.out]; rfl, fun _ => by rw [← HRr.out, ← HCc.out, HFp.out, HFe.out]; exact HT.out, fun h => absurd HN.out h, HB⟩
    · have HN : Hid (fpC ss = 1) := by show _ = _; unfold fpC; rw [if_neg (not_not_intro HAs.out), ← HRr.out, ← HCc.out, if_pos hD]
      have hcase : ((r : Int) < 1) ∨ (¬ (r : Int) < 1 ∧ 8 < (r : Int)) ∨ (¬ (r : Int) < 1 ∧ ¬ 8 < (r : Int) ∧ (c : Int) < 1) ∨ (¬ (r : Int) < 1 ∧ ¬ 8 < (r : Int) ∧ ¬ (c : Int) < 1 ∧ 8 < (c : Int)) := by
        rw [sides2] at hD; omega
      clear hD
      rcases hcase with d1 | ⟨d1, d2⟩ | ⟨d1, d2, d3⟩ | ⟨d1, d2, d3, d4⟩
      all_goals (
        go_wp2
        go_ret2
        exact ⟨_, by rw [HN.out]; rfl, fun h => absurd (HN.out.symm.trans h) (by decide), fun _ => rfl, HBq⟩)
  · have HN : Hid (fpC ss = 1) := by show _ = _; unfold fpC; rw [if_pos hA]
    have hcase : ((ss.length : Int) < 1) ∨ (¬ (ss.length : Int) < 1 ∧ 8 < (ss.length : Int)) := by
      rw [sides1] at hA; omega
    clear hA
    rcases hcase with d1 | ⟨d1, d2⟩
    all_goals (
      go_enter Tryd.func9, Tryd.ntmps9
      go_wp2
      go_ret2
      exact ⟨_, by rw [HN.out]; rfl, fun h => absurd (HN.out.symm.trans h) (by decide), fun _ => rfl, Below.refl _ _⟩)

end Go.Proofs.YtniedfecmakhpaaDoor
