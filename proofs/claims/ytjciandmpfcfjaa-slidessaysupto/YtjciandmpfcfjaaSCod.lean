/-
  The contracts of slides.copied, slides.boxesOf, slides.checkStandard, slides.letterAt; small tables.
-/
import Derived.Test.YtjciandmpfcfjaaICpy
import Derived.Test.YtjciandmpfcfjaaUStd
import Derived.Test.YtjciandmpfcfjaaSRnd
namespace Go.Proofs.Ytjciandmpfcfjaa
open Go.RowKit

/-- Few short rows of small numbers. -/
structure Few (ls : List (List Int)) : Prop where
  len : ls.length ≤ 1000
  one : ∀ r ∈ ls, 0 < r.length ∧ r.length ≤ 1000
  num : ∀ r ∈ ls, ∀ z ∈ r, -1000 ≤ z ∧ z ≤ 1000
theorem Few.bd {ls : List (List Int)} (h : Few ls) : ∀ l ∈ ls, l.length ≤ 17592186044416 ∧ ∀ z ∈ l, -9223372036854775808 ≤ z ∧ z ≤ 9223372036854775807 := fun l hl =>
  ⟨by have := (h.one l hl).2; omega, fun z hz => by have := h.num l hl z hz; omega⟩
theorem IsTab.few' {ls : List (List Int)} (h : IsTab ls) : Few ls := by
  refine ⟨by have := h.rows; omega, fun r hr => ?_, fun r hr z hz => ?_⟩
  · obtain ⟨k, hk, rfl⟩ := mem_row hr
    have := h.width hk
    exact ⟨(h.ok k hk).one, by omega⟩
  · have := h.mem (List.mem_flatten.2 ⟨_, hr, hz⟩); omega
theorem Few.box {ls : List (List Int)} (h : Few ls) (a b : Nat) : -1000 ≤ box ls a b ∧ box ls a b ≤ 1000 := by
  by_cases c : b < (row ls a).length
  · exact h.num _ (row_mem (row_lt c)) _ (getD_mem c)
  · rw [box_out (by omega)]; omega
theorem Few.sb {ls : List (List Int)} (h : Few ls) (i j : Nat) {x : Int} (hx : -1000 ≤ x ∧ x ≤ 1000) : Few (sb ls i j x) := by
  unfold Go.Proofs.Ytjciandmpfcfjaa.sb
  refine ⟨by rw [List.length_set]; exact h.len, fun r hr => ?_, fun r hr z hz => ?_⟩
  · rcases List.mem_or_eq_of_mem_set hr with q | q
    · exact h.one r q
    · subst q
      by_cases hi : i < ls.length
      · rw [List.length_set]; exact h.one _ (row_mem hi)
      · rw [List.set_eq_of_length_le (by omega)] at hr; exact h.one _ hr
  · rcases List.mem_or_eq_of_mem_set hr with q | q
    · exact h.num r q z hz
    · subst q
      rcases List.mem_or_eq_of_mem_set hz with q | q
      · by_cases hi : i < ls.length
        · exact h.num _ (row_mem hi) z q
        · rw [row_out (by omega)] at q; simp at q
      · rw [q]; exact hx
theorem Few.tk {ls : List (List Int)} (h : Few ls) (i : Nat) : Few (tk ls i) := by
  unfold Go.Proofs.Ytjciandmpfcfjaa.tk
  split
  · exact ⟨by rw [List.length_take]; have := h.len; omega, fun r hr => h.one r (List.mem_of_mem_take hr), fun r hr => h.num r (List.mem_of_mem_take hr)⟩
  · refine ⟨by rw [List.length_set]; exact h.len, fun r hr => ?_, fun r hr z hz => ?_⟩
    · rcases List.mem_or_eq_of_mem_set hr with q | q
      · exact h.one r q
      · subst q
        by_cases hi : i < ls.length
        · have := h.one _ (row_mem hi); rw [List.length_dropLast]; omega
        · rw [row_out (by omega)] at *; simp at *
    · rcases List.mem_or_eq_of_mem_set hr with q | q
      · exact h.num r q z hz
      · subst q
        by_cases hi : i < ls.length
        · exact h.num _ (row_mem hi) z (List.dropLast_subset _ hz)
        · rw [row_out (by omega)] at hz; simp at hz

/-- What checkStandard says. -/
def scode (ls : List (List Int)) : Int := if tchk ls = 0 then (if stdB ls = true then 0 else 3) else tchk ls
theorem scode_ok {ls : List (List Int)} : scode ls = 0 ↔ Std ls.flatten.length ls ∧ ls.flatten.length ≤ 40 := by
  have hw := wrd_perm ls
  constructor
  · intro h
    unfold scode at h
    by_cases c : tchk ls = 0
    · rw [if_pos c] at h
      by_cases c2 : stdB ls = true
      · have hT := tchk_ok.1 c
        have hp : okPerm ls.flatten = true := by
          rw [← ones_perm (fun z hz => (hT.mem hz).1)]; exact c2
        unfold okPerm at hp
        have := of_decide_eq_true hp
        have hP : IsPerm ls.flatten := ⟨hT.few, fun z hz => (this.1 z hz).1, fun z hz => (this.1 z hz).2, this.2⟩
        exact ⟨⟨hT.T, perm_isPerm hw hP, hw.length_eq⟩, hT.few⟩
      · rw [if_neg c2] at h; omega
    · rw [if_neg c] at h; exact absurd h c
  · rintro ⟨h, h40⟩
    have hT : IsTab ls := h.tab.isTab h40 (fun z hz => by have := h.low z (wrd_mem.2 hz); omega)
    unfold scode
    rw [if_pos (tchk_ok.2 hT)]
    have hP := perm_isPerm hw.symm h.perm
    have : stdB ls = true := by
      show onesB (had ls.flatten) = true
      rw [ones_perm (fun z hz => hP.low z hz)]
      unfold okPerm
      exact decide_eq_true ⟨fun z hz => ⟨hP.low z hz, hP.high z hz⟩, hP.once⟩
    rw [if_pos this]
theorem Std.tabs {n : Nat} {ls : List (List Int)} (h : Std n ls) : IsTab ls := by
  have hl := h.perm.len
  rw [(wrd_perm ls).length_eq] at hl
  exact h.tab.isTab hl (fun z hz => by have := h.low z (wrd_mem.2 hz); have := h.perm.len; rw [h.len] at this; omega)
theorem Std.code {n : Nat} {ls : List (List Int)} (h : Std n ls) : scode ls = 0 := by
  have hl := h.perm.len
  have e := (wrd_perm ls).length_eq
  have hn : n = ls.flatten.length := by rw [← e, h.len]
  exact scode_ok.2 ⟨hn ▸ h, by omega⟩
theorem Std.flat {n : Nat} {ls : List (List Int)} (h : Std n ls) : ls.flatten.length = n := by rw [← (wrd_perm ls).length_eq, h.len]

set_option maxHeartbeats 4000000 in
theorem scopied_at (a : Option Addr) (n cap : Nat) (ls : List (List Int)) (w : World) (hs : Table w a ls) (hn : n = ls.length) (hl : ls.length ≤ 1000) (hr : ∀ r ∈ ls, 0 < r.length ∧ r.length ≤ 1000) :
    Calls Try.prog 50 #[.slice a n cap] w fun e w' => ∃ v, e = .returned v ∧ Tbl w' w.heap.size v ls ∧ Below w.heap.size w w' := by
  subst hn
  have HS : Hid (Table w a ls) := hs
  have HR : Hid (∀ r ∈ ls, 0 < r.length ∧ r.length ≤ 1000) := hr
  clear hs hr
  obtain ⟨i1, hi1, hy0, hy1, hy2⟩ := info_parts Try.info22
  go_enter Try.func50, Try.ntmps50
  go_wp2_with (at_make; refine wpList_make_full _ rfl _ _ 23 rfl w.heap.size 27 i1 (.slice none 0 0) 1 Try.underlying23 hi1 hy0 hy1 _ _ _ _ ls.length rfl rfl rfl rfl ?b1 ?b2 ?b3 ?_)
  case b1 => rw [hy2]; omega
  case b2 => unfold maxLen; omega
  case b3 => exact Nat.le_refl _
  intro w1 hown hgrow
  have HB1 : Hid (Below w.heap.size w w1) := (Below.refl _ _).grown hgrow (Nat.le_refl _) (fun k h => by cases h)
  have HT1 : Hid (Tbl w1 w.heap.size (.slice (some ⟨w.heap.size, 0, none⟩) ls.length ls.length) (fRows ls 0)) := by
    show Tbl _ _ _ _
    rw [fRows_zero]; exact ⟨_, tbl_made (by simpa [Value.cells] using hown)⟩
  clear hown hgrow
  go_wp2
  go_loopw [11] (fun i wr => ∃ k : Nat, k ≤ ls.length ∧ i = .int .i64 k ∧ Hid (Tbl wr w.heap.size (.slice (some ⟨w.heap.size, 0, none⟩) ls.length ls.length) (fRows ls k)) ∧ Hid (Below w.heap.size w wr)) (fun i _ => ls.length - (intOf i).toNat)
  case atStart => exact ⟨0, Nat.zero_le _, rfl, HT1, HB1⟩
  case round =>
    obtain ⟨k, hk, rfl, HT, HB⟩ := hrel
    by_cases hlt : k < ls.length
    · have hlt' : (k : Int) < (ls.length : Int) := by omega
      have HLt : Hid (k < ls.length) := hlt
      obtain ⟨b, off, ai, m, ci, rfl, HC, HM, HSk, -, hmb⟩ := HS.out.elemB hlt
      have hc := HC.out _ HB.out
      have hrp := HR.out _ (row_mem hlt)
      obtain ⟨b2, off2, hai, -, -⟩ := (HSk.out.below HB.out).cells (fun e => by have := hrp.1; rw [e] at this; simp at this)
      subst hai
      have HNw : Hid (∀ j u, ((row ls k).map (Value.int .i64))[j]? = some u → wr.cell? ((⟨b2, off2, none⟩ : Addr).add j) = some u) := src_cells (HSk.out.below HB.out)
      have HLm : Hid (((row ls k).map (Value.int .i64)).length ≤ 1000) := by rw [List.length_map]; exact hrp.2
      have HMl : Hid (m = ((row ls k).map (Value.int .i64)).length) := by rw [List.length_map]; exact HM.out
      obtain ⟨vs, hV⟩ := HT.out
      have hk2 : k < (fRows ls k).length := by rw [fRows_length (by omega)]; exact hlt
      have hcl := hV.own
      rw [hV.len, fRows_length (by omega)] at hcl
      have hcj : wr.cell? ⟨w.heap.size, k, none⟩ = some (rowv vs k) := by rw [World.ownsRow.cellAt hcl k (by omega), rowv_get (by rw [hV.len]; exact hk2)]
      have hfz := World.ownsRow.frozenAt hcl k
      have hgl := (hV.own.lt w.heap.size rfl).2
      have hrow := hV.rows k hk2
      have hre : (fRows ls k).getD k [] = [] := by have := fRows_get (ls := ls) (k := k) k; rw [if_neg (by omega)] at this; exact this
      rw [hre] at hrow
      have HRow : Hid (wr.ownsRow w.heap.size 3 1 (rowv vs k) ([] : List Value).length []) := by show World.ownsRow _ _ _ _ _ _ _; simpa using vals_of_owns hrow
      have HV : Hid (TblV wr w.heap.size (.slice (some ⟨w.heap.size, 0, none⟩) ls.length ls.length) vs (fRows ls k)) := hV
      have HK2 : Hid (k < (fRows ls k).length) := hk2
      obtain ⟨u, HU⟩ : ∃ u, Hid (u = rowv vs k) := ⟨_, rfl⟩
      rw [← HU.out] at hcj HRow
      obtain ⟨au, nu, cu, hsu⟩ : ∃ au nu cu, u = .slice au nu cu := by
        rw [HU.out]; obtain ⟨a1, c1, e1⟩ := hrow.shape; exact ⟨_, _, _, e1⟩
      subst hsu
      clear hV hcl hrow hre hk2 hrp
      go_wp2_with (at_builtin; refine append_kb elem_int rfl _ _ rfl rfl rfl HMl.out HRow.out HNw.out (ints_oneCell _ _) ?c1 ?c2 ?c3 ?_)
      case c1 => have := HLm.out; unfold maxLen; simp at this ⊢; omega
      case c2 => have := HLm.out; simp at this ⊢; omega
      case c3 => exact HB.out.size
      intro v' w2 hO' hb' hk'
      have hO2 : Owns w2 w.heap.size v' (row ls k) := by unfold Owns; simpa using hO'
      rw [HU.out] at hk'
      have hk2 := HK2.out
      have hS := HV.out.setRow hk2 hO2 hk'
      rw [fRows_set HLt.out] at hS
      have hne : (rowv vs k).ownBlock ≠ some w.heap.size := fun e => HV.out.off k hk2 _ rfl e
      have hfz2 : w2.frozen? ⟨w.heap.size, k, none⟩ = false := by rw [World.frozen?_of_block (hk'.block w.heap.size hgl hne)]; exact hfz
      have hcj2 : w2.cell? ⟨w.heap.size, k, none⟩ = some (.slice au nu cu) := by rw [World.cell?_of_block (hk'.block w.heap.size hgl hne)]; exact hcj
      have HT2 : Hid (Tbl (w2.setCell ⟨w.heap.size, k, none⟩ v') w.heap.size (.slice (some ⟨w.heap.size, 0, none⟩) ls.length ls.length) (fRows ls (k + 1))) := ⟨_, hS⟩
      have HB2 : Hid (Below w.heap.size w (w2.setCell ⟨w.heap.size, k, none⟩ v')) := (HB.out.trans hb').setCell (p := ⟨w.heap.size, k, none⟩) (Nat.le_refl _) _
      obtain ⟨av', nv', hv'⟩ := hO2.shape
      obtain ⟨nn, HNn⟩ : ∃ nn, Hid (nn = (row ls k).length) := ⟨_, rfl⟩
      rw [← HNn.out] at hv'
      subst hv'
      clear hO' hO2 hb' hk' hS hcj hfz hk2
      go_wp2
      go_roundw
      case rel => exact ⟨k + 1, by omega, by go_num, HT2, HB2⟩
      case measure => simp [intOf]; omega
    · obtain rfl : k = ls.length := by omega
      have HE : Hid (Tbl wr w.heap.size (.slice (some ⟨w.heap.size, 0, none⟩) ls.length ls.length) ls) := by have := HT.out; rw [fRows_all] at this; exact this
      go_wp2
      go_ret
      exact ⟨_, rfl, HE.out, HB.out⟩
set_option maxHeartbeats 2000000 in
theorem sboxesOf_at (a : Option Addr) (n cap : Nat) (ls : List (List Int)) (w : World) (hs : Table w a ls) (hn : n = ls.length) (hl : ls.length ≤ 1000000) (hf : ls.flatten.length ≤ 1000000) :
    Calls Try.prog 62 #[.slice a n cap] w fun e w' => e = .returned (.int .i64 (ls.flatten.length : Nat)) ∧ w' = w := by
  subst hn
  have HS : Hid (Table w a ls) := hs
  have HF : Hid (ls.flatten.length ≤ 1000000) := hf
  clear hs hf
  go_enter Try.func62, Try.ntmps62
  go_wp2
  go_loop [3, 8] (fun s q => ∃ (i m : Nat), i ≤ ls.length ∧ q = .int .i64 i ∧ s = .int .i64 m ∧ m ≤ 1000000 ∧ Hid (m = (ls.take i).flatten.length)) (fun _ q => ls.length - (intOf q).toNat)
  case atStart => exact ⟨0, 0, Nat.zero_le _, rfl, rfl, by omega, by simp [Hid]⟩
  case round =>
    obtain ⟨i, m, hi, rfl, rfl, hm, HM⟩ := hrel
    by_cases hil : i < ls.length
    · have hil' : (i : Int) < (ls.length : Int) := by omega
      obtain ⟨b, off, ai, k, ci, rfl, hc, HK, -, -, hkb⟩ := HS.out.elem hil
      have hT : m + k = (ls.take (i + 1)).flatten.length := by rw [flat_take ls i hil, List.length_append, ← HM.out, ← HK.out]
      have hmk : m + k ≤ 1000000 := by rw [hT]; have := flat_take_le ls (i + 1); have := HF.out; omega
      have HT : Hid (m + k = (ls.take (i + 1)).flatten.length) := hT
      clear hT
      go_wp2
      go_round
      case rel => exact ⟨i + 1, m + k, by omega, by go_num, by go_num, hmk, HT⟩
      case measure => simp [intOf]; omega
    · obtain rfl : i = ls.length := by omega
      have HE : Hid (m = ls.flatten.length) := by have := HM.out; rw [List.take_length] at this; exact this
      go_wp2
      go_ret
      exact ⟨ret_int (by rw [HE.out, List.length_flatten]), rfl⟩
set_option maxHeartbeats 2000000 in
theorem checkStandard_at (a : Option Addr) (n cap : Nat) (ls : List (List Int)) (w : World) (hs : Table w a ls) (hl : ls.length ≤ 17592186044416) (hn : n = ls.length) :
    Calls Try.prog 54 #[.slice a n cap] w fun e w' => e = .returned (.int .i64 (scode ls)) ∧ Below w.heap.size w w' := by
  subst hn
  have HR : Hid (StdR ls (tchk ls) (if tchk ls = 0 then stdB ls else false)) := ⟨rfl, rfl⟩
  go_enter Try.func54, Try.ntmps54
  go_wp2_with fail
  refine (IsStd_at a ls.length cap w hs hl rfl HR.out).mono ?_
  rintro e w1 ⟨rfl, hb⟩
  have HB : Hid (Below w.heap.size w w1) := hb
  clear hb
  by_cases c : tchk ls = 0
  · rw [if_pos c, c]
    by_cases c2 : stdB ls = true
    · have HE : Hid (scode ls = 0) := by show _ = _; unfold scode; rw [if_pos c, if_pos c2]
      rw [c2]
      go_wp2
      go_ret
      exact ⟨ret_int HE.out.symm, HB.out⟩
    · have c3 : stdB ls = false := by cases h : stdB ls <;> simp_all
      have HE : Hid (scode ls = 3) := by show _ = _; unfold scode; rw [if_pos c, if_neg c2]
      rw [c3]
      go_wp2
      go_ret
      exact ⟨ret_int HE.out.symm, HB.out⟩
  · rw [if_neg c]
    have HE : Hid (scode ls = tchk ls) := by show _ = _; unfold scode; rw [if_neg c]
    obtain ⟨d, HD⟩ : ∃ d, Hid (d = tchk ls) := ⟨_, rfl⟩
    have hd : (d != 0) = true := by rw [HD.out]; exact bne_iff_ne.2 c
    rw [← HD.out]
    clear c
    go_wp2
    go_ret
    exact ⟨ret_int (by rw [HE.out, HD.out]), HB.out⟩
set_option maxHeartbeats 2000000 in
theorem letterAt_at (a : Option Addr) (n cap : Nat) (ls : List (List Int)) (i j : Nat) (w : World) (hs : Table w a ls) (hn : n = ls.length) :
    Calls Try.prog 82 #[.slice a n cap, .int .i64 i, .int .i64 j] w fun e w' => e = .returned (.int .i64 (box ls i j)) ∧ w' = w := by
  subst hn
  by_cases c : i < ls.length
  · have hi' : (i : Int) < (ls.length : Int) := by omega
    obtain ⟨b, off, ai, m, ci, rfl, hc, HM, HSk, -, hmb⟩ := hs.elem c
    by_cases c2 : j < m
    · have hj' : (j : Int) < (m : Int) := by omega
      obtain ⟨b2, off2, z, rfl, HZ, hz1, hz2, hcz⟩ := HSk.out.elem (k := j) (by rw [← HM.out]; exact c2)
      have HE : Hid (box ls i j = z) := by show _ = _; rw [HZ.out]; rfl
      clear hs HZ HM HSk
      go_enter Try.func82, Try.ntmps82
      go_wp2
      go_ret
      exact ⟨ret_int HE.out.symm, rfl⟩
    · have hj' : ¬ (j : Int) < (m : Int) := by omega
      have HE : Hid (box ls i j = 0) := box_out (by rw [← HM.out]; omega)
      clear hs HM HSk
      go_enter Try.func82, Try.ntmps82
      go_wp2
      go_ret
      exact ⟨ret_int HE.out.symm, rfl⟩
  · have hi' : ¬ (i : Int) < (ls.length : Int) := by omega
    have HE : Hid (box ls i j = 0) := box_out (by rw [row_out (by omega)]; simp)
    clear hs
    go_enter Try.func82, Try.ntmps82
    go_wp2
    go_ret
    exact ⟨ret_int HE.out.symm, rfl⟩

end Go.Proofs.Ytjciandmpfcfjaa
