/-
  The contracts of insert.lengthened, insert.isLetter, insert.boxesOf.
-/
import Derived.Test.YtpbmcaoomcippadITbl
import Derived.Test.YtpbmcaoomcippadUChkB
namespace Go.Proofs.Ytpbmcaoomcippad
open Go.RowKit

set_option maxHeartbeats 2000000 in
theorem lengthened_at {ls : List (List Int)} {lo : Nat} {S : Nat → Prop} (v : Value) (i : Nat) (x : Int) (w : World) (hT : TIn w lo S v ls) (hS : InS S lo w) (hlo : lo ≤ w.heap.size) (hi : i ≤ ls.length) (hl : ls.length ≤ 1000) (hr : ∀ r ∈ ls, r.length ≤ 1000) :
    Calls Try.prog 63 #[v, .int .i64 i, .int .i64 x] w fun e w' => ∃ v', e = .returned v' ∧ TIn w' lo (Gr S w w') v' (lng ls i x) ∧ Off S w w' := by
  obtain ⟨vs, hV⟩ := hT
  obtain ⟨a, cap, hsv⟩ := hV.t.shape
  subst hsv
  have HV : Hid (TblIn w lo S (.slice a ls.length cap) vs ls) := hV
  have HS : Hid (InS S lo w) := hS
  have HLo : Hid (lo ≤ w.heap.size) := hlo
  have HLv : Hid (vs.length = ls.length) := hV.t.len
  have HR : Hid (∀ r ∈ ls, r.length ≤ 1000) := hr
  clear hV hS hlo hr
  by_cases he : i = ls.length
  · have HE : Hid (i = ls.length) := he
    have hb : ((i : Int) == (ls.length : Int)) = true := by rw [he]; simp
    clear he
    have HO1 : Hid (Owns (w.alloc (.cells #[.int .i64 x] 3)) w.heap.size (.slice (some ⟨w.heap.size, 0, none⟩) 1 1) [x]) := owns_new x
    have HB1 : Hid (Below w.heap.size w (w.alloc (.cells #[.int .i64 x] 3))) := (Below.refl _ w).alloc (Nat.le_refl _) _
    go_enter Try.func63, Try.ntmps63
    go_wp2_with (at_builtin; refine append_one elem_row (x := .slice (some ⟨w.heap.size, 0, none⟩) 1 1) rfl _ _ rfl rfl rfl ?c0 (HV.out.same (fun k hk => HB1.out.block k (HS.out k hk).2)).t.own rfl ?c1 ?c2 ?c3 ?_)
    case c0 => simp
    case c1 => have := HLv.out; unfold maxLen; omega
    case c2 => have := HLv.out; omega
    case c3 => have := HLo.out; have := HB1.out.size; omega
    intro v' w2 hO' hb' hk'
    have hO2 : w2.ownsRow lo 22 1 v' (vs ++ [Value.slice (some ⟨w.heap.size, 0, none⟩) 1 1]).length (vs ++ [Value.slice (some ⟨w.heap.size, 0, none⟩) 1 1]) := by simpa using hO'
    obtain ⟨p1, p2⟩ := HV.out.push HS.out HLo.out HB1.out HO1.out hO2 hk'
    have HP1 : Hid (TblIn w2 lo (Gr S w w2) v' (vs ++ [Value.slice (some ⟨w.heap.size, 0, none⟩) 1 1]) (ls ++ [[x]])) := p1
    have HP2 : Hid (Off S w w2) := ⟨((HB1.out.mono (Nat.zero_le _)).trans (hb'.mono (Nat.zero_le _))), p2⟩
    clear p1 p2 hO' hO2 hb' hk'
    go_wp2
    go_ret
    exact ⟨_, rfl, by unfold lng; rw [if_pos HE.out]; exact ⟨_, HP1.out⟩, HP2.out⟩
  · have HE : Hid (¬ i = ls.length) := he
    have hil : i < ls.length := by omega
    have hil' : (i : Int) < (ls.length : Int) := by omega
    have hb : ((i : Int) == (ls.length : Int)) = false := by simp; omega
    clear he
    obtain ⟨g, n, c, hsl, HN, hg1, hg2, hfz, hcells⟩ := HV.out.t.head (by omega)
    simp only [Value.slice.injEq] at hsl
    obtain ⟨rfl, -, rfl⟩ := hsl
    have hcj := hcells i hil
    have hfz := hfz i
    have hrow := HV.out.t.rows i hil
    have hlen : (ls.getD i []).length ≤ 1000 := HR.out _ (row_mem hil)
    obtain ⟨r, HRr⟩ : ∃ r, Hid (r = ls.getD i []) := ⟨_, rfl⟩
    rw [← HRr.out] at hrow hlen
    have HRow : Hid (w.ownsRow lo 3 1 (rowv vs i) (r.map (Value.int .i64)).length (r.map (Value.int .i64))) := vals_of_owns hrow
    have HLn : Hid ((r.map (Value.int .i64)).length ≤ 1000) := by rw [List.length_map]; exact hlen
    obtain ⟨u, HU⟩ : ∃ u, Hid (u = rowv vs i) := ⟨_, rfl⟩
    rw [← HU.out] at hcj HRow
    obtain ⟨au, nu, cu, hsu⟩ : ∃ au nu cu, u = .slice au nu cu := by
      rw [HU.out]; obtain ⟨a1, c1, e1⟩ := hrow.shape; exact ⟨_, _, _, e1⟩
    subst hsu
    clear hrow hlen hcells
    go_enter Try.func63, Try.ntmps63
    go_wp2_with (at_builtin; refine append_one elem_int (x := .int .i64 x) rfl _ _ rfl rfl rfl rfl HRow.out rfl ?c1 ?c2 ?c3 ?_)
    case c1 => have := HLn.out; unfold maxLen; omega
    case c2 => have := HLn.out; omega
    case c3 => exact HLo.out
    intro v' w2 hO' hb' hk'
    have hO2 : Owns w2 lo v' (r ++ [x]) := by unfold Owns; simpa using hO'
    rw [HU.out] at hk'
    obtain ⟨p1, p2⟩ := HV.out.setRow hil hO2 hk'
    have hne : (rowv vs i).ownBlock ≠ some g := fun e => HV.out.t.off i hil _ rfl e
    have hfz2 : w2.frozen? ⟨g, i, none⟩ = false := by rw [World.frozen?_of_block (hk'.block g hg2 hne)]; exact hfz
    have hcj2 : w2.cell? ⟨g, i, none⟩ = some (.slice au nu cu) := by rw [World.cell?_of_block (hk'.block g hg2 hne)]; exact hcj
    rw [HRr.out] at p1
    have HP1 : Hid (TIn (w2.setCell ⟨g, i, none⟩ v') lo (Gr S w (w2.setCell ⟨g, i, none⟩ v')) (.slice (some ⟨g, 0, none⟩) ls.length cap) (lng ls i x)) := by
      show TIn _ _ _ _ _
      unfold lng
      rw [if_neg HE.out]
      refine TIn.grow ⟨_, p1⟩ (fun k hk => ?_)
      rcases hk with q | q
      · exact Or.inl q
      · right; simpa using q
    have HP2 : Hid (Off S w (w2.setCell ⟨g, i, none⟩ v')) := ⟨(hb'.mono (Nat.zero_le _)).setCell (p := ⟨g, i, none⟩) (Nat.zero_le _) _, p2⟩
    obtain ⟨av', nv', hv'⟩ := hO2.shape
    rw [List.length_append, List.length_singleton] at hv'
    subst hv'
    clear hO' hO2 hb' hk' hcj hfz p1 p2
    go_wp2
    go_ret
    exact ⟨_, rfl, HP1.out, HP2.out⟩
set_option maxHeartbeats 1000000 in
theorem isLetter_at (x : Int) (w : World) {t : Bool} (ht : Hid (decide (1 ≤ x ∧ x ≤ 99) = t)) :
    Calls Try.prog 47 #[.int .i64 x] w fun e w' => e = .returned (.bool t) ∧ w' = w := by
  by_cases h1 : 1 ≤ x
  · by_cases h2 : x ≤ 99
    · have HT : Hid (t = true) := by rw [← ht.out]; exact decide_eq_true ⟨h1, h2⟩
      go_enter Try.func47, Try.ntmps47
      go_wp2
      go_ret
      exact ⟨by rw [HT.out]; rfl, rfl⟩
    · have HT : Hid (t = false) := by rw [← ht.out]; exact decide_eq_false (fun h => h2 h.2)
      go_enter Try.func47, Try.ntmps47
      go_wp2
      go_ret
      exact ⟨by rw [HT.out]; rfl, rfl⟩
  · have HT : Hid (t = false) := by rw [← ht.out]; exact decide_eq_false (fun h => h1 h.1)
    go_enter Try.func47, Try.ntmps47
    go_wp2
    go_ret
    exact ⟨by rw [HT.out]; rfl, rfl⟩
set_option maxHeartbeats 2000000 in
theorem boxesOf_at (a : Option Addr) (n cap : Nat) (ls : List (List Int)) (w : World) (hs : Table w a ls) (hn : n = ls.length) (hl : ls.length ≤ 1000000) (hf : ls.flatten.length ≤ 1000000) :
    Calls Try.prog 67 #[.slice a n cap] w fun e w' => e = .returned (.int .i64 (ls.flatten.length : Nat)) ∧ w' = w := by
  subst hn
  have HS : Hid (Table w a ls) := hs
  have HF : Hid (ls.flatten.length ≤ 1000000) := hf
  clear hs hf
  go_enter Try.func67, Try.ntmps67
  go_wp2
  go_loop [3, 8] (fun s q => ∃ (i m : Nat), i ≤ ls.length ∧ q = .int .i64 i ∧ s = .int .i64 m ∧ m ≤ 1000000 ∧ Hid (m = (ls.take i).flatten.length)) (fun _ q => ls.length - (intOf q).toNat)
  case atStart => exact ⟨0, 0, Nat.zero_le _, rfl, rfl, by omega, by simp [Hid]⟩
  case round =>
    obtain ⟨i, m, hi, rfl, rfl, hm, HM⟩ := hrel
    by_cases hil : i < ls.length
    · have hil' : (i : Int) < (ls.length : Int) := by omega
      obtain ⟨b, off, ai, k, ci, rfl, hc, HK, -, -, hkb⟩ := HS.out.elem hil
      have hT : m + k = (ls.take (i + 1)).flatten.length := by rw [flat_take ls i hil, List.length_append, ← HM.out, ← HK.out]
      have hmk : m + k ≤ 1000000 := by rw [hT]; have := flat_take_le ls (i + 1); have := HF.out; omega
      have HT : Hid (m + k = (ls.take (i + 1)).flatten.length) := hT
      clear hT
      go_wp2
      go_round
      case rel => exact ⟨i + 1, m + k, by omega, by go_num, by go_num, hmk, HT⟩
      case measure => simp [intOf]; omega
    · obtain rfl : i = ls.length := by omega
      have HE : Hid (m = ls.flatten.length) := by have := HM.out; rw [List.take_length] at this; exact this
      go_wp2
      go_ret
      exact ⟨ret_int (by rw [HE.out, List.length_flatten]), rfl⟩

end Go.Proofs.Ytpbmcaoomcippad
