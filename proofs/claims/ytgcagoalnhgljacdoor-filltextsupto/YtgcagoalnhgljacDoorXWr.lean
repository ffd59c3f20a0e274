/-
  Lists of strings of the call's own; the contract of fill.Write.
-/
import Derived.Test.YtgcagoalnhgljacDoorXRd
namespace Go.Proofs.YtgcagoalnhgljacDoor
open Go.RowKit

theorem Tryd.info9 : (Tryd.prog.info? 9).map (fun i => (i.zero, i.size, i.bytes)) = some (some (.string ⟨#[]⟩), 1, 16) := by kernel_rfl

/-- v owns the strings f 0, .. , f (n - 1). -/
def OwnsS (w : World) (base : Nat) (v : Value) (n : Nat) (f : Nat → ByteArray) : Prop := w.ownsRow base 9 1 v n ((List.range n).map fun j => Value.string (f j))
theorem OwnsS.at {w : World} {base g cap n : Nat} {f : Nat → ByteArray} (h : OwnsS w base (.slice (some ⟨g, 0, none⟩) n cap) n f) {j : Nat} (hj : j < n) :
    w.frozen? ⟨g, j, none⟩ = false ∧ w.cell? ⟨g, j, none⟩ = some (.string (f j)) := by
  refine ⟨World.ownsRow.frozenAt h j, ?_⟩
  rw [World.ownsRow.cellAt h j (by omega)]
  simp [hj]
theorem OwnsS.congr {w : World} {base n : Nat} {v : Value} {f g : Nat → ByteArray} (h : OwnsS w base v n f) (he : ∀ j, j < n → f j = g j) : OwnsS w base v n g := by
  unfold OwnsS
  rw [← List.map_congr_left (f := fun j => Value.string (f j)) (fun j hj => by rw [he j (List.mem_range.1 hj)])]; exact h
theorem OwnsS.store {w : World} {base g cap n : Nat} {f : Nat → ByteArray} (h : OwnsS w base (.slice (some ⟨g, 0, none⟩) n cap) n f) (j : Nat) (x : ByteArray) :
    OwnsS (w.setCell ⟨g, j, none⟩ (.string x)) base (.slice (some ⟨g, 0, none⟩) n cap) n (fun i => if i = j then x else f i) := by
  unfold OwnsS at h ⊢
  have h := (World.ownsRow.stored h j (.string x)).1
  have e : (List.range n).map (fun i => Value.string (if i = j then x else f i)) = ((List.range n).map fun i => Value.string (f i)).set j (.string x) := by
    apply List.ext_getElem
    · simp
    · intro i h1 h2
      simp only [List.getElem_map, List.getElem_range, List.getElem_set]
      by_cases e : j = i
      · simp [e]
      · simp [e, Ne.symm e]
  rw [e]; exact h
theorem ownsS_made {w : World} {base g n : Nat} (h : w.ownsRow base 9 1 (.slice (some ⟨g, 0, none⟩) n n) n (madeCells #[Value.string ⟨#[]⟩] n).toList) : OwnsS w base (.slice (some ⟨g, 0, none⟩) n n) n (fun _ => ⟨#[]⟩) := by
  unfold OwnsS
  have e : (List.range n).map (fun _ => Value.string ⟨#[]⟩) = (madeCells #[Value.string ⟨#[]⟩] n).toList := by
    rw [toList_madeCells_one, List.eq_replicate_iff]
    refine ⟨by simp, fun v hv => ?_⟩
    obtain ⟨j, _, rfl⟩ := List.mem_map.1 hv
    rfl
  rw [e]; exact h
theorem OwnsS.same {w w' : World} {base n : Nat} {v : Value} {f : Nat → ByteArray} (h : OwnsS w base v n f) (hk : ∀ k, v.ownBlock = some k → w'.heap[k]? = w.heap[k]?) : OwnsS w' base v n f := ownsRow_blocks h hk

def bytesOf (l : List UInt8) : ByteArray := ⟨l.toArray⟩
theorem bytesOf_data (l : List UInt8) : (bytesOf l).data.toList = l := rfl

set_option maxHeartbeats 1000000 in
/-- strings.Join of a row of strings of the call's own. -/
theorem Join_own (g n cap base : Nat) (f : Nat → List UInt8) (c : UInt8) (w : World) (h : OwnsS w base (.slice (some ⟨g, 0, none⟩) n cap) n (fun j => bytesOf (f j))) (hn : n ≤ 1000) (hl : (Lib.join ((List.range n).map f) [c]).length ≤ 1000000) :
    Calls Tryd.prog 18 #[.slice (some ⟨g, 0, none⟩) n cap, .string ⟨#[c]⟩] w fun e w' => e = .returned (.string (bytesOf (Lib.join ((List.range n).map f) [c]))) ∧ Below w.heap.size w w' := by
  have hlt := h.lt g rfl
  have hcap : n ≤ cap := by
    rcases h.2 with ⟨h2, _⟩ | ⟨g', cap', cur, hv, _, _, h4, _⟩
    · cases h2
    · simp only [Value.slice.injEq] at hv; omega
  have e1 : ((List.range n).map fun j => bytesOf (f j)).length = n := by simp
  have e2 : ((List.range n).map fun j => bytesOf (f j)).map (·.data.toList) = (List.range n).map f := by
    rw [List.map_map]; rfl
  have := Go.Proofs.Tryd.strings_Join g 0 cap ((List.range n).map fun j => bytesOf (f j)) ⟨#[c]⟩ w (fun j x hx => by
    obtain ⟨hj, rfl⟩ := List.getElem?_eq_some_iff.1 hx
    simp only [List.length_map, List.length_range] at hj
    rw [Nat.zero_add, (h.at hj).2]; simp) hlt.2 (by rw [e1]; omega) (by rw [e1]; exact hcap) (by rw [e2]; exact Nat.le_trans hl (by omega))
  rw [e1, e2] at this
  exact this

theorem map_range_row (r : List Int) : (List.range r.length).map (fun j => ltxt (r.getD j 0)) = r.map ltxt := by
  apply List.ext_getElem
  · simp
  · intro i h1 h2
    simp at h1 h2
    simp [List.getD, h1]
theorem map_range_rows (ls : List (List Int)) : (List.range ls.length).map (fun j => rtxt (row ls j)) = ls.map rtxt := by
  apply List.ext_getElem
  · simp
  · intro i h1 h2
    simp at h1 h2
    simp [row, List.getD, h1]

set_option maxHeartbeats 8000000 in
set_option maxRecDepth 100000 in
theorem Write_ok (a : Option Addr) (cap : Nat) (ls : List (List Int)) (w : World) (hs : Table w a ls) (hp : IsTab ls) :
    Calls Tryd.prog 5 #[.slice a ls.length cap] w fun e w' => e = .returned (.tuple #[.string (bytesOf (ttxt ls)), .int .i64 0]) ∧ Below w.heap.size w w' := by
  have E : Hid (tchk ls = 0) := tchk_ok.2 hp
  have h40 := hp.rows
  have HL : Hid (ls.length ≤ 17592186044416) := tab_len hp
  have HT : Hid (IsTab ls) := hp
  have HS : Hid (Table w a ls) := hs
  have HOk : Hid (RowsOk ls) := hp.rowsOk
  have HTl : Hid ((ttxt ls).length ≤ 160) := by have := ttxt_len hp.rowsOk; have := hp.few; show _ ≤ _; omega
  clear hp hs
  obtain ⟨i9, hi, hz0, hz1, hz2⟩ := info_parts Tryd.info9
  go_enter Tryd.func5, Tryd.ntmps5
  go_wp2_with fail
  refine (TCheck_is _ _ _ _ _ HS.out HL.out rfl E).mono ?_
  rintro e w0 ⟨rfl, n, rfl⟩
  have HB0 : Hid (Below w.heap.size w (w.drewN n)) := below_drew n
  go_wp2_with (at_make; refine wpList_make_full _ rfl _ _ 42 rfl w.heap.size 9 i9 (.string ⟨#[]⟩) 1 Tryd.underlying42 hi hz0 hz1 _ _ _ _ ls.length rfl rfl rfl rfl ?b1 ?b2 ?b3 ?_)
  case b1 => rw [hz2]; omega
  case b2 => unfold maxLen; omega
  case b3 => exact HB0.out.size
  intro w1 hown hgrow
  have HB1 : Hid (Below w.heap.size w w1) := HB0.out.grown hgrow HB0.out.size (fun k h => by cases h)
  have HO1 : Hid (OwnsS w1 w.heap.size (.slice (some ⟨w.heap.size, 0, none⟩) ls.length ls.length) ls.length (fun j => bytesOf (if j < 0 then rtxt (row ls j) else []))) := (ownsS_made (by simpa [Value.cells] using hown)).congr (fun j _ => by simp [bytesOf])
  clear hown hgrow
  go_wp2
  go_loopw [21] (fun i wr => ∃ k : Nat, k ≤ ls.length ∧ i = .int .i64 k ∧ Hid (OwnsS wr w.heap.size (.slice (some ⟨w.heap.size, 0, none⟩) ls.length ls.length) ls.length (fun j => bytesOf (if j < k then rtxt (row ls j) else []))) ∧ Hid (Below w.heap.size w wr)) (fun i _ => ls.length - (intOf i).toNat)
  case atStart => exact ⟨0, Nat.zero_le _, rfl, HO1, HB1⟩
  case round =>
    obtain ⟨k, hk, rfl, HO, HB⟩ := hrel
    clear HO1 HB1
    by_cases hlt : k < ls.length
    · have hlt' : (k : Int) < (ls.length : Int) := by omega
      have HLT : Hid (k < ls.length) := hlt
      obtain ⟨b, off, ai, m, ci, rfl, HCe, HM, HSk, -, hmb⟩ := HS.out.elemB hlt
      have hc := HCe.out _ HB.out
      have hm40 : m ≤ 40 := by rw [HM.out]; exact HT.out.width hlt
      obtain ⟨wo, hwo⟩ : ∃ wo, wo = wr := ⟨_, rfl⟩
      subst hwo
      have HRt : Hid ((rtxt (row ls k)).length ≤ 120) := by have := rtxt_len (HOk.out _ (row_mem hlt)).2; rw [← HM.out] at this; show _ ≤ _; omega
      go_wp2_with (at_make; refine wpList_make_full _ rfl _ _ 42 rfl w.heap.size 9 i9 (.string ⟨#[]⟩) 1 Tryd.underlying42 hi hz0 hz1 _ _ _ _ m rfl rfl rfl rfl ?b1 ?b2 ?b3 ?_)
      case b1 => rw [hz2]; omega
      case b2 => unfold maxLen; omega
      case b3 => exact HB.out.size
      intro w2 hown2 hgrow2
      have HB2 : Hid (Below wo.heap.size wo w2) := (Below.refl _ _).grown hgrow2 (Nat.le_refl _) (fun k h => by cases h)
      obtain ⟨g, hg⟩ : ∃ g, g = wo.heap.size := ⟨_, rfl⟩
      rw [← hg] at hown2 HB2
      rw [← hg]
      have HG : Hid (g = wo.heap.size) := hg
      have HO2 : Hid (OwnsS w2 w.heap.size (.slice (some ⟨g, 0, none⟩) m m) m (fun j => bytesOf (if j < 0 then ltxt (box ls k j) else []))) := (ownsS_made (by simpa [Value.cells] using hown2)).congr (fun j _ => by simp [bytesOf])
      clear hown2 hgrow2 hg
      go_wp2
      go_loopw [31] (fun i wr => ∃ t : Nat, t ≤ m ∧ i = .int .i64 t ∧ Hid (OwnsS wr w.heap.size (.slice (some ⟨g, 0, none⟩) m m) m (fun j => bytesOf (if j < t then ltxt (box ls k j) else []))) ∧ Hid (Below g wo wr)) (fun i _ => m - (intOf i).toNat)
      case atStart => exact ⟨0, Nat.zero_le _, rfl, HO2, HB2⟩
      case round =>
        obtain ⟨t, ht, rfl, HOt, HBt⟩ := hrel
        clear hc HO2
        have HBw : Hid (Below w.heap.size w wr) := HB.out.trans (HBt.out.mono (by rw [HG.out]; exact HB.out.size))
        by_cases htl : t < m
        · have htl' : (t : Int) < (m : Int) := by omega
          have HTR : Hid (t < (row ls k).length) := by show _ < _; rw [← HM.out]; exact htl
          obtain ⟨b2, off2, z, hai, HZ, -, -, hcz⟩ := (HSk.out.below HBw.out).elem HTR.out
          subst hai
          have HZ' : Hid (z = box ls k t) := HZ.out
          have hzb : 1 ≤ z ∧ z ≤ 99 := by rw [HZ'.out]; exact HT.out.letters HLT.out HTR.out
          obtain ⟨I, hI⟩ : ∃ I : Nat, I = z.toNat := ⟨_, rfl⟩
          obtain rfl : z = (I : Int) := by omega
          have hI100 : I < 100 := by omega
          have HTx : Hid (Lib.decDigits I = ltxt (box ls k t)) := by show _ = _; rw [← HZ'.out]; simp [ltxt]
          clear hzb hI HZ
          obtain ⟨hfz, hcl⟩ := HOt.out.at htl
          go_wp2_with (go_at_call 17; refine (Go.Proofs.Tryd.strconv_Itoa_small I hI100 _).mono ?_; rintro e w' ⟨rfl, rfl⟩)
          rw [HTx.out]
          refine ⟨?_, ?_⟩
          · exact ⟨t + 1, by omega, by go_num, (HOt.out.store t (bytesOf (ltxt (box ls k t)))).congr (fun j _ => by
              by_cases e : j = t
              · subst e; rw [if_pos rfl, if_pos (by omega)]
              · rw [if_neg e]
                by_cases h : j < t
                · rw [if_pos h, if_pos (by omega)]
                · rw [if_neg h, if_neg (by omega)]), HBt.out.setCell (p := ⟨g, t, none⟩) (Nat.le_refl _) _⟩
          · simp [intOf]; omega
        · obtain rfl : t = m := by omega
          have HEt : Hid (OwnsS wr w.heap.size (.slice (some ⟨g, 0, none⟩) t t) t (fun j => bytesOf (ltxt (box ls k j)))) := HOt.out.congr (fun j hj => by rw [if_pos hj])
          have HJ : Hid (Lib.join ((List.range t).map fun j => ltxt (box ls k j)) [32] = rtxt (row ls k)) := by
            show _ = _
            have := map_range_row (row ls k)
            rw [← HM.out] at this
            show Lib.join ((List.range t).map fun j => ltxt ((row ls k).getD j 0)) [32] = _
            rw [this]; rfl
          have HGl : Hid (w.heap.size < g) := by
            have := HO.out.lt w.heap.size rfl
            rw [HG.out]; exact this.2
          go_wp2_with fail
          refine (Join_own g t t w.heap.size (fun j => ltxt (box ls k j)) 32 _ HEt.out (by omega) (by rw [HJ.out]; have := HRt.out; omega)).mono ?_
          rw [HJ.out]
          rintro e w5 ⟨rfl, hb5⟩
          have HO5 : Hid (OwnsS w5 w.heap.size (.slice (some ⟨w.heap.size, 0, none⟩) ls.length ls.length) ls.length (fun j => bytesOf (if j < k then rtxt (row ls j) else []))) := (HO.out.same (fun q e => by
            simp only [Value.ownBlock, Option.some.injEq] at e
            subst e
            exact HBt.out.block _ HGl.out)).same (fun q e => by
            simp only [Value.ownBlock, Option.some.injEq] at e
            subst e
            exact hb5.block _ (by have h1 := HBt.out.size; have h2 := HG.out; have h3 := HGl.out; omega))
          have HB5 : Hid (Below w.heap.size w w5) := HBw.out.trans (hb5.mono HBw.out.size)
          obtain ⟨hfz, hcl⟩ := HO5.out.at HLT.out
          clear hb5
          go_wp2
          go_roundw
          case rel => exact ⟨k + 1, HLT.out, by go_num, (HO5.out.store k (bytesOf (rtxt (row ls k)))).congr (fun j _ => by
              by_cases e : j = k
              · subst e; rw [if_pos rfl, if_pos (by omega)]
              · rw [if_neg e]
                by_cases h : j < k
                · rw [if_pos h, if_pos (by omega)]
                · rw [if_neg h, if_neg (by omega)]), HB5.out.setCell (p := ⟨w.heap.size, k, none⟩) (Nat.le_refl _) _⟩
          case measure => have := HLT.out; simp [intOf]; omega
    · obtain rfl : k = ls.length := by omega
      have HEt : Hid (OwnsS wr w.heap.size (.slice (some ⟨w.heap.size, 0, none⟩) ls.length ls.length) ls.length (fun j => bytesOf (rtxt (row ls j)))) := HO.out.congr (fun j hj => by rw [if_pos hj])
      have HJ : Hid (Lib.join ((List.range ls.length).map fun j => rtxt (row ls j)) [47] = ttxt ls) := by show _ = _; rw [map_range_rows]; rfl
      go_wp2_with fail
      refine (Join_own w.heap.size ls.length ls.length w.heap.size (fun j => rtxt (row ls j)) 47 _ HEt.out (by omega) (by rw [HJ.out]; have := HTl.out; omega)).mono ?_
      rw [HJ.out]
      rintro e w5 ⟨rfl, hb5⟩
      have HB5 : Hid (Below w.heap.size w w5) := HB.out.trans (hb5.mono HB.out.size)
      clear hb5
      go_wp2
      go_ret2
      exact ⟨rfl, HB5.out⟩

set_option maxHeartbeats 2000000 in
theorem Write_err (a : Option Addr) (cap : Nat) (ls : List (List Int)) (w : World) (hs : Table w a ls) (hl : ls.length ≤ 17592186044416) (c : Int) (h : tchk ls = c) (hc : (c != 0) = true) :
    Calls Tryd.prog 5 #[.slice a ls.length cap] w fun e w' => e = .returned (.tuple #[.string (bytesOf []), .int .i64 c]) ∧ Below w.heap.size w w' := by
  have E : Hid (tchk ls = c) := h
  clear h
  go_enter Tryd.func5, Tryd.ntmps5
  go_wp2_with fail
  refine (TCheck_is _ _ _ _ _ hs hl rfl E).mono ?_
  rintro e w' ⟨rfl, n, rfl⟩
  go_wp2_with fail
  go_ret2
  exact ⟨rfl, below_drew n⟩

/-- What Write answers. -/
def WriteR (ls : List (List Int)) (c : Int) (t : List UInt8) : Prop := tchk ls = c ∧ t = if c = 0 then ttxt ls else []
theorem Write_at {ls : List (List Int)} {t : List UInt8} {c : Int} (a : Option Addr) (n cap : Nat) (w : World) (hs : Table w a ls) (hl : ls.length ≤ 17592186044416) (hn : n = ls.length) (hr : WriteR ls c t) :
    Calls Tryd.prog 5 #[.slice a n cap] w fun e w' => e = .returned (.tuple #[.string (bytesOf t), .int .i64 c]) ∧ Below w.heap.size w w' := by
  subst hn
  obtain ⟨h, rfl⟩ := hr
  by_cases hc : c = 0
  · subst hc; exact Write_ok a cap ls w hs (tchk_ok.1 h)
  · rw [if_neg hc]
    exact Write_err a cap ls w hs hl c h (bne_iff_ne.2 hc)

end Go.Proofs.YtgcagoalnhgljacDoor
