/-
  The contracts of ferref.First, ferref.OfWord.
-/
import Derived.Test.YtpbmcaoomcippadIMak
import Derived.Test.YtpbmcaoomcippadIInt
import Derived.Deep.RegionLaw
namespace Go.Proofs.Ytpbmcaoomcippad
open Go.RowKit

/-- The first numbers. -/
def firstL (n : Nat) : List Int := tab n (fun i => (i : Int) + 1)
theorem firstL_succ (n : Nat) : firstL (n + 1) = firstL n ++ [(n : Int) + 1] := by unfold firstL tab; rw [List.range_succ, List.map_append]; rfl

set_option maxHeartbeats 2000000 in
theorem First_at (n : Nat) (w : World) (hn : n ≤ 1000) : Calls Try.prog 12 #[.int .i64 n] w fun e w' => ∃ v, e = .returned v ∧ Owns w' w.heap.size v (firstL n) ∧ Below w.heap.size w w' := by
  go_enter Try.func12, Try.ntmps12
  go_wp2
  go_loopw [3, 4] (fun v i wr => ∃ k : Nat, k ≤ n ∧ i = .int .i64 ((k : Int) + 1) ∧ Hid (Owns wr w.heap.size v (firstL k)) ∧ Hid (Below w.heap.size w wr)) (fun _ i _ => n + 1 - (intOf i).toNat)
  case atStart => exact ⟨0, Nat.zero_le _, rfl, World.ownsRow_nil _ _ _ _, Below.refl _ _⟩
  case round =>
    obtain ⟨k, hk, rfl, HO, HB⟩ := hrel
    by_cases hlt : k < n
    · have hle : (k : Int) + 1 ≤ (n : Int) := by omega
      have HLn : Hid ((firstL k).length ≤ 1000) := by show _ ≤ _; unfold firstL; rw [tab_length]; omega
      go_wp2_with (at_builtin; refine append_int (x := (k : Int) + 1) rfl _ _ rfl rfl HO.out rfl ?c1 ?c2 ?_)
      case c1 => have := HLn.out; omega
      case c2 => exact HB.out.size
      intro v' w2 hO' hb'
      have HO2 : Hid (Owns w2 w.heap.size v' (firstL (k + 1))) := by show Owns _ _ _ _; rw [firstL_succ]; exact hO'
      have HB2 : Hid (Below w.heap.size w w2) := HB.out.trans hb'
      clear hO' hb'
      go_wp2
      go_roundw
      case rel => exact ⟨k + 1, by omega, by go_num, HO2, HB2⟩
      case measure => simp [intOf]; omega
    · obtain rfl : k = n := by omega
      have hle : ¬ (k : Int) + 1 ≤ (k : Int) := by omega
      go_wp2
      go_ret
      exact ⟨_, rfl, HO.out, HB.out⟩

/-- Letters with those beside them. -/
def zipP (w v : List Int) : List (Int × Int) := (List.range w.length).map (fun i => (v.getD i 0, w.getD i 0))
theorem zipP_length (w v : List Int) : (zipP w v).length = w.length := by simp [zipP]
theorem zipP_take {w v : List Int} {k : Nat} (hk : k < w.length) : (zipP w v).take (k + 1) = (zipP w v).take k ++ [(v.getD k 0, w.getD k 0)] := by
  unfold zipP
  rw [List.take_succ_eq_append_getElem (by simpa using hk)]
  simp
theorem zipP_first (w : List Int) : zipP w (firstL w.length) = numW w := by
  unfold zipP numW
  refine List.map_congr_left (fun i hi => ?_)
  rw [firstL, tab_getD _ _ _ (List.mem_range.1 hi)]

/-- A row is lengthened: an empty one is laid first where there is none. -/
theorem lng_two (q : List (List Int)) (a : Int) : (q ++ [[]]).set q.length (([] : List Int) ++ [a]) = lng q q.length a := by
  unfold lng
  rw [if_pos rfl, List.set_append_right _ _ (Nat.le_refl _)]
  simp

set_option maxHeartbeats 8000000 in
set_option maxRecDepth 100000 in
theorem OfWord_at (a b : Option Addr) (n m ca cb : Nat) (zs vs : List Int) (w : World) (hs : Shows w a zs) (hv : Shows w b vs) (hn : n = zs.length) (hm : m = vs.length) (hl : zs.length ≤ 40) (hlv : zs.length ≤ vs.length) (hwf : ∀ z ∈ zs, 0 ≤ z ∧ z ≤ 1000) :
    Calls Try.prog 11 #[.slice a n ca, .slice b m cb] w fun e w' => ∃ v u, e = .returned (.tuple #[v, u]) ∧ Tbl w' w.heap.size v (mk (zipP zs vs)).1 ∧ Tbl w' w.heap.size u (mk (zipP zs vs)).2 ∧ Below w.heap.size w w' := by
  subst hn; subst hm
  have HS : Hid (Shows w a zs) := hs
  have HV : Hid (Shows w b vs) := hv
  have HWf : Hid (∀ z ∈ zs, 0 ≤ z ∧ z ≤ 1000) := hwf
  have hvl := hv.len
  clear hs hv hwf
  go_enter Try.func11, Try.ntmps11
  go_wp2
  go_loopw [4, 5, 6] (fun v u i wr => ∃ k : Nat, k ≤ zs.length ∧ i = .int .i64 k ∧ Hid (Two wr w.heap.size v u (mk ((zipP zs vs).take k)).1 (mk ((zipP zs vs).take k)).2) ∧ Hid (Below w.heap.size w wr)) (fun _ _ i _ => zs.length - (intOf i).toNat)
  case atStart => exact ⟨0, Nat.zero_le _, rfl, Two.nil _ _, Below.refl _ _⟩
  case round =>
    obtain ⟨k, hk, rfl, HT, HB⟩ := hrel
    by_cases hlt : k < zs.length
    · have hlt' : (k : Int) < (zs.length : Int) := by omega
      obtain ⟨P, HP⟩ : ∃ P, Hid (P = (mk ((zipP zs vs).take k)).1) := ⟨_, rfl⟩
      obtain ⟨Q, HQ⟩ : ∃ Q, Hid (Q = (mk ((zipP zs vs).take k)).2) := ⟨_, rfl⟩
      have HW : Hid (OnWay k P Q) := by rw [HP.out, HQ.out]; exact onWay_mk k ((zipP zs vs).take k) (by rw [List.length_take, zipP_length]; omega)
      have hlet : ∀ z ∈ P.flatten, 0 ≤ z ∧ z ≤ 1000 := fun z hz => by
        rw [HP.out] at hz
        have h1 := (mk_letters k ((zipP zs vs).take k) (by rw [List.length_take, zipP_length]; omega)).1 z hz
        obtain ⟨c, hc, rfl⟩ := List.mem_map.1 h1
        obtain ⟨i, hi, rfl⟩ := List.mem_map.1 (List.mem_of_mem_take hc)
        exact HWf.out _ (getD_mem (List.mem_range.1 hi))
      rw [← HP.out, ← HQ.out] at HT
      obtain ⟨sm1, sm2⟩ := HW.out.sml (by omega)
      obtain ⟨ap, np, cp, hpv, hPT, HNp⟩ := HT.out.fst.table (fun l hl => ⟨by have := (sm1.2 l hl).2; omega, fun z hz => by have := hlet z (List.mem_flatten.2 ⟨l, hl, hz⟩); omega⟩)
      subst hpv
      have HPT : Hid (Table wr ap P) := hPT
      have HSm : Hid (Sml P ∧ Sml Q) := ⟨sm1, sm2⟩
      obtain ⟨b1, off1, z, rfl, HZ, -, -, hc⟩ := (HS.out.below HB.out).elem hlt
      obtain ⟨b2, off2, y, rfl, HY, -, -, hcy⟩ := (HV.out.below HB.out).elem (k := k) (by omega)
      have hkv : (k : Int) < (vs.length : Int) := by omega
      have HSt : Hid (put1 (P, Q) (y, z) = mk ((zipP zs vs).take (k + 1))) := by
        show _ = _
        rw [zipP_take hlt, mk_snoc, HP.out, HQ.out, HY.out, HZ.out]
      -- q's own set of blocks
      obtain ⟨⟨-, -, -⟩, ⟨au, cu, hu⟩⟩ := HT.out.shape
      obtain ⟨nq, HNq⟩ : ∃ nq, Hid (nq = Q.length) := ⟨_, rfl⟩
      rw [← HNq.out] at hu
      subst hu
      clear hlet sm1 sm2 hPT
      go_wp2_with fail
      refine (Into_at (x := z) _ _ _ P _ HPT.out HNp.out (by have := HSm.out.1.1; omega) (fun r hr => by have := HSm.out.1.2 r hr; omega)).mono ?_
      rintro e w2 ⟨v2, rfl, hT2, hb2⟩
      have HB2 : Hid (Below w.heap.size w w2) := HB.out.trans (hb2.mono HB.out.size)
      obtain ⟨Sp0, Sq, -, hQin, -, hSq, -⟩ := HT.out
      have HSq : Hid (InS Sq w.heap.size wr) := hSq
      have HQ2 : Hid (TIn w2 w.heap.size Sq (.slice au nq cu) Q) := hQin.same (fun j hj => hb2.block j (hSq j hj).2)
      obtain ⟨Sp, HSp⟩ : ∃ S : Nat → Prop, Hid (S = fun j => wr.heap.size ≤ j ∧ j < w2.heap.size) := ⟨_, rfl⟩
      have HP2 : Hid (TIn w2 w.heap.size Sp v2 (ins false z P)) := by
        have := TIn.of_tbl hT2
        rw [← HSp.out] at this
        obtain ⟨us, this⟩ := this
        exact ⟨us, this.mono HB.out.size⟩
      have HSz : Hid (wr.heap.size ≤ w2.heap.size) := hb2.size
      obtain ⟨i, HI⟩ : ∃ i, Hid (i = insAt false z P) := ⟨_, rfl⟩
      have HIl : Hid (i ≤ Q.length) := by rw [HI.out, ← HW.out.len]; exact insAt_le
      have HCy : Hid (∀ W : World, Below w2.heap.size w2 W → W.cell? ⟨b2, off2 + k, none⟩ = some (.int .i64 y)) := fun W hW => by
        obtain ⟨b', off', ha', hlt2, hc'⟩ := (HV.out.below HB2.out).cells (fun e => by have h5 := hlv; rw [e, List.length_nil] at h5; omega)
        simp only [Option.some.injEq, Addr.mk.injEq, and_true] at ha'
        obtain ⟨rfl, rfl⟩ := ha'
        rw [hW.cell (p := ⟨b2, off2 + k, none⟩) hlt2, hc' k (by omega), HY.out]
      have HCyB : Hid (∀ W : World, Below w.heap.size w W → W.cell? ⟨b2, off2 + k, none⟩ = some (.int .i64 y)) := fun W hW => by
        obtain ⟨b', off', ha', hlt2, hc'⟩ := (HV.out.below hW).cells (fun e => by have h5 := hlv; rw [e, List.length_nil] at h5; omega)
        simp only [Option.some.injEq, Addr.mk.injEq, and_true] at ha'
        obtain ⟨rfl, rfl⟩ := ha'
        rw [hc' k (by omega), HY.out]
      rw [← HI.out]
      clear hT2 hb2 hQin hSq hcy
      by_cases hiq : i = Q.length
      · have hie : ((i : Int) == (nq : Int)) = true := by rw [hiq, HNq.out]; simp
        have HIQ : Hid (i = Q.length) := hiq
        clear hiq
        have hV2 := HQ2.out
        obtain ⟨us2, hV2⟩ := hV2
        have HV2 : Hid (TblIn w2 w.heap.size Sq (.slice au nq cu) us2 Q) := hV2
        have HLv : Hid (us2.length = Q.length) := hV2.t.len
        have HQs : Hid (Q.length ≤ 900) := HSm.out.2.1
        have HSq2 : Hid (InS Sq w.heap.size w2) := fun j hj => by have := HSq.out j hj; have := HSz.out; omega
        clear hV2
        go_wp2_with (at_builtin; refine append_one elem_row (x := .slice none 0 0) rfl _ _ rfl rfl rfl rfl HV2.out.t.own rfl ?c1 ?c2 ?c3 ?_)
        case c1 => have := HLv.out; have := HQs.out; unfold maxLen; omega
        case c2 => have := HLv.out; have := HQs.out; omega
        case c3 => exact HB2.out.size
        intro v3 w3 hO3 hb3 hk3
        have hO3' : w3.ownsRow w.heap.size 22 1 v3 (us2 ++ [Value.slice none 0 0]).length (us2 ++ [Value.slice none 0 0]) := by simpa using hO3
        obtain ⟨p1, p2⟩ := HV2.out.push (zs := []) HSq2.out HB2.out.size (Below.refl _ _) (World.ownsRow_nil _ _ _ _) hO3' hk3
        obtain ⟨us, hus⟩ : ∃ us, us = us2 ++ [Value.slice none 0 0] := ⟨_, rfl⟩
        obtain ⟨R, hRd⟩ : ∃ R : List (List Int), R = Q ++ [([] : List Int)] := ⟨_, rfl⟩
        have HRd : Hid (R = Q ++ [([] : List Int)]) := hRd
        clear hRd
        obtain ⟨S3, HS3d⟩ : ∃ S3 : Nat → Prop, Hid (S3 = Gr Sq w2 w3) := ⟨_, rfl⟩
        rw [← hus, ← HRd.out, ← HS3d.out] at p1
        have HV3 : Hid (TblIn w3 w.heap.size S3 v3 us R) := p1
        have HRl : Hid (i < R.length) := by rw [HRd.out, HIQ.out]; show _ < _; simp
        have HRs : Hid ((R.getD i []).length ≤ 1000) := by
          rw [HRd.out, HIQ.out]; show ((Q ++ [[]]).getD Q.length []).length ≤ 1000; simp
        have HB3 : Hid (Below w.heap.size w w3) := HB2.out.trans hb3
        have HCy3 : Hid (w3.cell? ⟨b2, off2 + k, none⟩ = some (.int .i64 y)) := HCyB.out w3 HB3.out
        have HKe : Hid (∀ j, j < w2.heap.size → ¬ S3 j → w3.heap[j]? = w2.heap[j]?) := fun j hj hn => p2 j hj (fun q => hn (by rw [HS3d.out]; exact Or.inl q))
        have HS3 : Hid ((∀ j, S3 j → w.heap.size ≤ j ∧ j < w3.heap.size) ∧ ∀ j, S3 j → ¬ (wr.heap.size ≤ j ∧ j < w2.heap.size)) := by
          rw [HS3d.out]
          have z1 := HSz.out
          have z2 := hk3.size
          have zw := HB.out.size
          refine ⟨fun j hj => ?_, fun j hj h => ?_⟩
          · rcases hj with g | g
            · have := HSq.out j g; omega
            · omega
          · rcases hj with g | g
            · have := HSq.out j g; omega
            · omega
        have HLn2 : Hid (R.set i (R.getD i [] ++ [y]) = (put1 (P, Q) (y, z)).2) := by
          show _ = _
          rw [HRd.out]
          show (Q ++ [[]]).set i ((Q ++ [[]]).getD i [] ++ [y]) = lng Q (insAt false z P) y
          rw [← HI.out, HIQ.out, ← lng_two]
          simp
        obtain ⟨a3, c3', hsv3⟩ : ∃ a c, v3 = .slice a R.length c := p1.t.shape
        obtain ⟨nR, HnR⟩ : ∃ nR, Hid (nR = R.length) := ⟨_, rfl⟩
        rw [← HnR.out] at hsv3
        subst hsv3
        have HSz3 : Hid (w2.heap.size ≤ w3.heap.size) := hk3.size
        clear hO3 hO3' hb3 hk3 p1 p2 hus
        obtain ⟨g, n3, c3, hsl, HN3, hg1, hg2, hfg, hcells⟩ := HV3.out.t.head (by have := HRl.out; omega)
        simp only [Value.slice.injEq] at hsl
        obtain ⟨rfl, rfl, rfl⟩ := hsl
        have hci := hcells i HRl.out
        have hfgi := hfg i
        have hrow := HV3.out.t.rows i HRl.out
        obtain ⟨rr, HRr⟩ : ∃ rr, Hid (rr = R.getD i []) := ⟨_, rfl⟩
        rw [← HRr.out] at hrow
        have HRow : Hid (w3.drew.ownsRow w.heap.size 3 1 (rowv us i) (rr.map (Value.int .i64)).length (rr.map (Value.int .i64))) := vals_of_owns (hrow.below (below_drewN (Below.refl _ _) 1))
        have HLn : Hid (rr.length ≤ 1000) := by rw [HRr.out]; exact HRs.out
        obtain ⟨uu, HU⟩ : ∃ uu, Hid (uu = rowv us i) := ⟨_, rfl⟩
        rw [← HU.out] at hci HRow
        obtain ⟨ai, ni, ci, hsu⟩ : ∃ ai ni ci, uu = .slice ai ni ci := by
          rw [HU.out]; obtain ⟨a1, c1, e1⟩ := hrow.shape; exact ⟨_, _, _, e1⟩
        subst hsu
        have hin : (i : Int) < (nR : Int) := by rw [HN3.out]; have := HRl.out; omega
        have hcy3 := HCy3.out
        have HEnd : Hid (∀ v4 w4, w4.ownsRow w.heap.size 3 1 v4 (rr.map (Value.int .i64) ++ [Value.int .i64 y]).length (rr.map (Value.int .i64) ++ [Value.int .i64 y]) → Below w.heap.size w3.drew w4 → KeepB (.slice ai ni ci) v4 w3.drew w4 →
            w4.frozen? ⟨g, i, none⟩ = false ∧ w4.cell? ⟨g, i, none⟩ = some (.slice ai ni ci) ∧ Two (w4.setCell ⟨g, i, none⟩ v4) w.heap.size v2 (.slice (some ⟨g, 0, none⟩) nR c3') (mk ((zipP zs vs).take (k + 1))).1 (mk ((zipP zs vs).take (k + 1))).2 ∧ Below w.heap.size w (w4.setCell ⟨g, i, none⟩ v4) ∧ ∃ a4 m4 c4, v4 = .slice a4 m4 c4) := fun v4 w4 hO4 hb4 hk4 => by
          have hO5 : Owns w4 w.heap.size v4 (rr ++ [y]) := by unfold Owns; simpa using hO4
          rw [HU.out] at hk4
          have hk5 : KeepB (rowv us i) v4 w3 w4 := ⟨hk4.size, hk4.block, hk4.lies⟩
          obtain ⟨p1, p2⟩ := HV3.out.setRow HRl.out hO5 hk5
          have hne : (rowv us i).ownBlock ≠ some g := fun e => HV3.out.t.off i HRl.out _ rfl e
          refine ⟨by rw [World.frozen?_of_block (hk5.block g hg2 hne)]; exact hfgi, by rw [World.cell?_of_block (hk5.block g hg2 hne)]; exact hci, ?_, ?_, ?_⟩
          · have z1 := HSz.out
            have z2 := HSz3.out
            have z3 : w3.heap.size ≤ w4.heap.size := hk5.size
            have zw := HB.out.size
            refine ⟨Sp, Gr S3 w3 w4, ?_, ?_, fun j hj => ?_, fun j hj => ?_, fun j hj hj2 => ?_⟩
            · rw [← HSt.out]
              refine HP2.out.same (fun j hj => ?_)
              rw [HSp.out] at hj
              have hS3n : ¬ S3 j := fun hs => by have := HS3.out.2 j hs; omega
              rw [p2 j (by omega) hS3n]
              exact HKe.out j (by omega) hS3n
            · rw [← HSt.out]
              rw [HRr.out, HLn2.out] at p1
              exact ⟨_, p1⟩
            · rw [HSp.out] at hj
              simp; omega
            · rcases hj with g1 | g1
              · have := HS3.out.1 j g1; simp; omega
              · simp; omega
            · rw [HSp.out] at hj
              rcases hj2 with g1 | g1
              · have := HS3.out.2 j g1; omega
              · omega
          · exact ((below_drewN HB3.out 1).trans hb4).setCell (p := ⟨g, i, none⟩) hg1 _
          · obtain ⟨a4, c4, e4⟩ := hO5.shape
            exact ⟨_, _, _, e4⟩
        clear hrow hcells hfg
        go_wp2_with fail
        go_region_law (refine step_one elem_int (w := w3.drew) (N := w3.heap.size) (x := .int .i64 y) rfl (.tmp 37) (.tmp 42) rfl (by first | (simp [Act.eval]; done) | (simp [Act.eval, Act.put]; done)) (by first | (simp [Act.eval]; done) | (simp [Act.eval, Act.put]; done)) rfl HRow.out rfl (by have := HLn.out; unfold maxLen; rw [List.length_map]; omega) (by have := HLn.out; rw [List.length_map]; omega) HB3.out.size ?_; intro v4 w4 hO4 hb4 hk4; obtain ⟨e1, e2, e3, e4, a4, m4, c4, rfl⟩ := HEnd.out v4 w4 hO4 hb4 hk4; clear hO4 hb4 hk4)
        all_goals (
          have HF3 : Hid (Two (w4.setCell ⟨g, i, none⟩ (.slice a4 m4 c4)) w.heap.size v2 (.slice (some ⟨g, 0, none⟩) nR c3') (mk ((zipP zs vs).take (k + 1))).1 (mk ((zipP zs vs).take (k + 1))).2) := e3
          have HF4 : Hid (Below w.heap.size w (w4.setCell ⟨g, i, none⟩ (.slice a4 m4 c4))) := e4
          clear e3 e4
          go_wp2
          go_roundw
          case rel => exact ⟨k + 1, by omega, by go_num, HF3, HF4⟩
          case measure => simp [intOf]; omega)
      · have hie : ((i : Int) == (nq : Int)) = false := by rw [HNq.out]; simp; omega
        have hV2 := HQ2.out
        obtain ⟨us, hV2⟩ := hV2
        obtain ⟨w3, hw3⟩ : ∃ w3, w3 = w2 := ⟨_, rfl⟩
        obtain ⟨R, HRd⟩ : ∃ R, Hid (R = Q) := ⟨_, rfl⟩
        obtain ⟨S3, HS3d⟩ : ∃ S3 : Nat → Prop, Hid (S3 = Sq) := ⟨_, rfl⟩
        have HV3 : Hid (TblIn w3 w.heap.size S3 (.slice au nq cu) us R) := by rw [hw3, HRd.out, HS3d.out]; exact hV2
        have HRl : Hid (i < R.length) := by rw [HRd.out]; have := HIl.out; show _ < _; omega
        have HRs : Hid ((R.getD i []).length ≤ 1000) := by rw [HRd.out]; have := (HSm.out.2.2 _ (row_mem (ls := Q) (a := i) (by have := HIl.out; omega))).2; show (Q.getD i []).length ≤ 1000; unfold row at this; omega
        have HB3 : Hid (Below w.heap.size w w3) := by rw [hw3]; exact HB2.out
        have HB23 : Hid (Below w2.heap.size w2 w3) := by rw [hw3]; exact Below.refl _ _
        have HKe : Hid (∀ j, j < w2.heap.size → ¬ S3 j → w3.heap[j]? = w2.heap[j]?) := fun j _ _ => by rw [hw3]
        have HS3 : Hid ((∀ j, S3 j → w.heap.size ≤ j ∧ j < w3.heap.size) ∧ ∀ j, S3 j → ¬ (wr.heap.size ≤ j ∧ j < w2.heap.size)) := by
          rw [HS3d.out, hw3]
          exact ⟨fun j hj => by have := HSq.out j hj; have := HSz.out; omega, fun j hj h => by have := HSq.out j hj; omega⟩
        have HLn2 : Hid (R.set i (R.getD i [] ++ [y]) = (put1 (P, Q) (y, z)).2) := by
          show _ = _
          rw [HRd.out]
          show Q.set i (row Q i ++ [y]) = lng Q (insAt false z P) y
          unfold lng
          rw [← HI.out, if_neg hiq]
        rw [← hw3]
        clear hV2 hw3
        obtain ⟨g, n3, c3, hsl, HN3, hg1, hg2, hfg, hcells⟩ := HV3.out.t.head (by have := HRl.out; omega)
        simp only [Value.slice.injEq] at hsl
        obtain ⟨rfl, rfl, rfl⟩ := hsl
        have hci := hcells i HRl.out
        have hfgi := hfg i
        have hrow := HV3.out.t.rows i HRl.out
        obtain ⟨rr, HRr⟩ : ∃ rr, Hid (rr = R.getD i []) := ⟨_, rfl⟩
        rw [← HRr.out] at hrow
        have HRow : Hid (w3.drew.ownsRow w.heap.size 3 1 (rowv us i) (rr.map (Value.int .i64)).length (rr.map (Value.int .i64))) := vals_of_owns (hrow.below (below_drewN (Below.refl _ _) 1))
        have HLn : Hid (rr.length ≤ 1000) := by rw [HRr.out]; exact HRs.out
        obtain ⟨uu, HU⟩ : ∃ uu, Hid (uu = rowv us i) := ⟨_, rfl⟩
        rw [← HU.out] at hci HRow
        obtain ⟨ai, ni, ci, hsu⟩ : ∃ ai ni ci, uu = .slice ai ni ci := by
          rw [HU.out]; obtain ⟨a1, c1, e1⟩ := hrow.shape; exact ⟨_, _, _, e1⟩
        subst hsu
        have hin : (i : Int) < (nq : Int) := by rw [HN3.out]; have := HRl.out; omega
        have hcy3 := HCy.out w3 HB23.out
        have HEnd : Hid (∀ v4 w4, w4.ownsRow w.heap.size 3 1 v4 (rr.map (Value.int .i64) ++ [Value.int .i64 y]).length (rr.map (Value.int .i64) ++ [Value.int .i64 y]) → Below w.heap.size w3.drew w4 → KeepB (.slice ai ni ci) v4 w3.drew w4 →
            w4.frozen? ⟨g, i, none⟩ = false ∧ w4.cell? ⟨g, i, none⟩ = some (.slice ai ni ci) ∧ Two (w4.setCell ⟨g, i, none⟩ v4) w.heap.size v2 (.slice (some ⟨g, 0, none⟩) nq cu) (mk ((zipP zs vs).take (k + 1))).1 (mk ((zipP zs vs).take (k + 1))).2 ∧ Below w.heap.size w (w4.setCell ⟨g, i, none⟩ v4) ∧ ∃ a4 m4 c4, v4 = .slice a4 m4 c4) := fun v4 w4 hO4 hb4 hk4 => by
          have hO5 : Owns w4 w.heap.size v4 (rr ++ [y]) := by unfold Owns; simpa using hO4
          rw [HU.out] at hk4
          have hk5 : KeepB (rowv us i) v4 w3 w4 := ⟨hk4.size, hk4.block, hk4.lies⟩
          obtain ⟨p1, p2⟩ := HV3.out.setRow HRl.out hO5 hk5
          have hne : (rowv us i).ownBlock ≠ some g := fun e => HV3.out.t.off i HRl.out _ rfl e
          refine ⟨by rw [World.frozen?_of_block (hk5.block g hg2 hne)]; exact hfgi, by rw [World.cell?_of_block (hk5.block g hg2 hne)]; exact hci, ?_, ?_, ?_⟩
          · have z1 := HSz.out
            have z2 := HB23.out.size
            have z3 : w3.heap.size ≤ w4.heap.size := hk5.size
            have zw := HB.out.size
            refine ⟨Sp, Gr S3 w3 w4, ?_, ?_, fun j hj => ?_, fun j hj => ?_, fun j hj hj2 => ?_⟩
            · rw [← HSt.out]
              refine HP2.out.same (fun j hj => ?_)
              rw [HSp.out] at hj
              have hS3n : ¬ S3 j := fun hs => by have := HS3.out.2 j hs; omega
              rw [p2 j (by omega) hS3n]
              exact HKe.out j (by omega) hS3n
            · rw [← HSt.out]
              rw [HRr.out, HLn2.out] at p1
              exact ⟨_, p1⟩
            · rw [HSp.out] at hj
              simp; omega
            · rcases hj with g1 | g1
              · have := HS3.out.1 j g1; simp; omega
              · simp; omega
            · rw [HSp.out] at hj
              rcases hj2 with g1 | g1
              · have := HS3.out.2 j g1; omega
              · omega
          · exact ((below_drewN HB3.out 1).trans hb4).setCell (p := ⟨g, i, none⟩) hg1 _
          · obtain ⟨a4, c4, e4⟩ := hO5.shape
            exact ⟨_, _, _, e4⟩
        clear hrow hcells hfg
        go_wp2_with fail
        go_region_law (refine step_one elem_int (w := w3.drew) (N := w3.heap.size) (x := .int .i64 y) rfl (.tmp 37) (.tmp 42) rfl (by first | (simp [Act.eval]; done) | (simp [Act.eval, Act.put]; done)) (by first | (simp [Act.eval]; done) | (simp [Act.eval, Act.put]; done)) rfl HRow.out rfl (by have := HLn.out; unfold maxLen; rw [List.length_map]; omega) (by have := HLn.out; rw [List.length_map]; omega) HB3.out.size ?_; intro v4 w4 hO4 hb4 hk4; obtain ⟨e1, e2, e3, e4, a4, m4, c4, rfl⟩ := HEnd.out v4 w4 hO4 hb4 hk4; clear hO4 hb4 hk4)
        all_goals (
          have HF3 : Hid (Two (w4.setCell ⟨g, i, none⟩ (.slice a4 m4 c4)) w.heap.size v2 (.slice (some ⟨g, 0, none⟩) nq cu) (mk ((zipP zs vs).take (k + 1))).1 (mk ((zipP zs vs).take (k + 1))).2) := e3
          have HF4 : Hid (Below w.heap.size w (w4.setCell ⟨g, i, none⟩ (.slice a4 m4 c4))) := e4
          clear e3 e4
          go_wp2
          go_roundw
          case rel => exact ⟨k + 1, by omega, by go_num, HF3, HF4⟩
          case measure => simp [intOf]; omega)
    · obtain rfl : k = zs.length := by omega
      have HE : Hid (Two wr w.heap.size u4 u5 (mk (zipP zs vs)).1 (mk (zipP zs vs)).2) := by
        have := HT.out
        rw [List.take_of_length_le (by rw [zipP_length]; exact Nat.le_refl _)] at this; exact this
      go_wp2
      go_ret2
      exact ⟨_, _, rfl, HE.out.fst, HE.out.snd, HB.out⟩

end Go.Proofs.Ytpbmcaoomcippad
