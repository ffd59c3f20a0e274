/-
  The contract of insert.copied.
-/
import Derived.Test.YtpbmcaoomcippadILng
namespace Go.Proofs.Ytpbmcaoomcippad
open Go.RowKit

/-- 'append' of a row that lies somewhere, with all that it leaves as it was. -/
theorem append_kb {T E : TypeId} {z : Value} {bytes : Nat} (he : Elem T E z bytes) {w : World} {base n c : Nat} {v : Value} {xs news : List Value} {ad : Addr} {ops : Array Oper} {rest : List Oper} {o : Oper} {a : Act} {Q : Exit → Act → World → Prop} (hgd : o.guard = none) (s y : Operand)
    (ho : o.op = .call { callee := .builtin .append, args := #[s, y], argTypes := #[T, T] }) (hs : a.eval s = v) (hx : a.eval y = .slice (some ad) n c) (hn : n = news.length) (hown : w.ownsRow base E 1 v xs.length xs)
    (hnews : ∀ j u, news[j]? = some u → w.cell? (ad.add j) = some u) (hone : ∀ u ∈ news, u.oneCell' = true) (h63 : xs.length + news.length ≤ maxLen) (hl : (xs.length + news.length) * bytes ≤ 140737488355328) (hbase : base ≤ w.heap.size)
    (h : ∀ v' w', w'.ownsRow base E 1 v' (xs ++ news).length (xs ++ news) → Below base w w' → KeepB v v' w w' → wpList Try.prog ops Q rest (a.put o.dst v') w') :
    wpList Try.prog ops Q (o :: rest) a w := by
  subst hn
  refine wpList_plain hgd fun K hK => ?_
  obtain ⟨v', w', hrun, r1, r2, r3⟩ := run_append_kb he o.type hown ad c hnews hone h63 hl hbase
  unfold Oper.wp
  simp [execOp, ho, resolve, invoke, builtin, hs, hx, hrun, Result.andThen]
  exact hK _ _ (h v' w' r1 r2 r3)

/-- The first k rows, the others empty. -/
def fRows (ls : List (List Int)) (k : Nat) : List (List Int) := ls.take k ++ List.replicate (ls.length - k) []
theorem fRows_length {ls : List (List Int)} {k : Nat} (h : k ≤ ls.length) : (fRows ls k).length = ls.length := by simp [fRows]; omega
theorem fRows_zero (ls : List (List Int)) : fRows ls 0 = List.replicate ls.length [] := by simp [fRows]
theorem fRows_all (ls : List (List Int)) : fRows ls ls.length = ls := by simp [fRows]
theorem fRows_get {ls : List (List Int)} {k : Nat} (a : Nat) : row (fRows ls k) a = if a < k then row ls a else [] := by
  unfold fRows row
  simp only [List.getD, List.getElem?_append, List.length_take, List.getElem?_replicate, List.getElem?_take]
  by_cases h : a < k
  · rw [if_pos h]
    by_cases h2 : a < ls.length
    · rw [if_pos (by omega)]; simp [h]
    · rw [if_neg (by omega), if_neg (by omega), List.getElem?_eq_none (by omega)]; simp
  · rw [if_neg h, if_neg (by omega)]
    split <;> rfl
theorem fRows_set {ls : List (List Int)} {k : Nat} (h : k < ls.length) : (fRows ls k).set k (row ls k) = fRows ls (k + 1) := by
  refine ext_row (by rw [List.length_set, fRows_length (by omega), fRows_length (by omega)]) (fun a ha => ?_)
  rw [row_set, fRows_get, fRows_get, fRows_length (by omega)]
  by_cases e : a = k
  · rw [if_pos ⟨e, h⟩, if_pos (by omega), e]
  · rw [if_neg (fun q => e q.1)]
    by_cases h2 : a < k
    · rw [if_pos h2, if_pos (by omega)]
    · rw [if_neg h2, if_neg (by omega)]

set_option maxHeartbeats 4000000 in
theorem icopied_at (a : Option Addr) (n cap : Nat) (ls : List (List Int)) (w : World) (hs : Table w a ls) (hn : n = ls.length) (hl : ls.length ≤ 1000) (hr : ∀ r ∈ ls, 0 < r.length ∧ r.length ≤ 1000) :
    Calls Try.prog 66 #[.slice a n cap] w fun e w' => ∃ v, e = .returned v ∧ Tbl w' w.heap.size v ls ∧ Below w.heap.size w w' := by
  subst hn
  have HS : Hid (Table w a ls) := hs
  have HR : Hid (∀ r ∈ ls, 0 < r.length ∧ r.length ≤ 1000) := hr
  clear hs hr
  obtain ⟨i1, hi1, hy0, hy1, hy2⟩ := info_parts Try.info22
  go_enter Try.func66, Try.ntmps66
  go_wp2_with (at_make; refine wpList_make_full _ rfl _ _ 23 rfl w.heap.size 22 i1 (.slice none 0 0) 1 Try.underlying23 hi1 hy0 hy1 _ _ _ _ ls.length rfl rfl rfl rfl ?b1 ?b2 ?b3 ?_)
  case b1 => rw [hy2]; omega
  case b2 => unfold maxLen; omega
  case b3 => exact Nat.le_refl _
  intro w1 hown hgrow
  have HB1 : Hid (Below w.heap.size w w1) := (Below.refl _ _).grown hgrow (Nat.le_refl _) (fun k h => by cases h)
  have HT1 : Hid (Tbl w1 w.heap.size (.slice (some ⟨w.heap.size, 0, none⟩) ls.length ls.length) (fRows ls 0)) := by
    show Tbl _ _ _ _
    rw [fRows_zero]; exact ⟨_, tbl_made (by simpa [Value.cells] using hown)⟩
  clear hown hgrow
  go_wp2
  go_loopw [11] (fun i wr => ∃ k : Nat, k ≤ ls.length ∧ i = .int .i64 k ∧ Hid (Tbl wr w.heap.size (.slice (some ⟨w.heap.size, 0, none⟩) ls.length ls.length) (fRows ls k)) ∧ Hid (Below w.heap.size w wr)) (fun i _ => ls.length - (intOf i).toNat)
  case atStart => exact ⟨0, Nat.zero_le _, rfl, HT1, HB1⟩
  case round =>
    obtain ⟨k, hk, rfl, HT, HB⟩ := hrel
    by_cases hlt : k < ls.length
    · have hlt' : (k : Int) < (ls.length : Int) := by omega
      have HLt : Hid (k < ls.length) := hlt
      obtain ⟨b, off, ai, m, ci, rfl, HC, HM, HSk, -, hmb⟩ := HS.out.elemB hlt
      have hc := HC.out _ HB.out
      have hrp := HR.out _ (row_mem hlt)
      obtain ⟨b2, off2, hai, -, -⟩ := (HSk.out.below HB.out).cells (fun e => by have := hrp.1; rw [e] at this; simp at this)
      subst hai
      have HNw : Hid (∀ j u, ((row ls k).map (Value.int .i64))[j]? = some u → wr.cell? ((⟨b2, off2, none⟩ : Addr).add j) = some u) := src_cells (HSk.out.below HB.out)
      have HLm : Hid (((row ls k).map (Value.int .i64)).length ≤ 1000) := by rw [List.length_map]; exact hrp.2
      have HMl : Hid (m = ((row ls k).map (Value.int .i64)).length) := by rw [List.length_map]; exact HM.out
      obtain ⟨vs, hV⟩ := HT.out
      have hk2 : k < (fRows ls k).length := by rw [fRows_length (by omega)]; exact hlt
      have hcl := hV.own
      rw [hV.len, fRows_length (by omega)] at hcl
      have hcj : wr.cell? ⟨w.heap.size, k, none⟩ = some (rowv vs k) := by rw [World.ownsRow.cellAt hcl k (by omega), rowv_get (by rw [hV.len]; exact hk2)]
      have hfz := World.ownsRow.frozenAt hcl k
      have hgl := (hV.own.lt w.heap.size rfl).2
      have hrow := hV.rows k hk2
      have hre : (fRows ls k).getD k [] = [] := by have := fRows_get (ls := ls) (k := k) k; rw [if_neg (by omega)] at this; exact this
      rw [hre] at hrow
      have HRow : Hid (wr.ownsRow w.heap.size 3 1 (rowv vs k) ([] : List Value).length []) := by show World.ownsRow _ _ _ _ _ _ _; simpa using vals_of_owns hrow
      have HV : Hid (TblV wr w.heap.size (.slice (some ⟨w.heap.size, 0, none⟩) ls.length ls.length) vs (fRows ls k)) := hV
      have HK2 : Hid (k < (fRows ls k).length) := hk2
      obtain ⟨u, HU⟩ : ∃ u, Hid (u = rowv vs k) := ⟨_, rfl⟩
      rw [← HU.out] at hcj HRow
      obtain ⟨au, nu, cu, hsu⟩ : ∃ au nu cu, u = .slice au nu cu := by
        rw [HU.out]; obtain ⟨a1, c1, e1⟩ := hrow.shape; exact ⟨_, _, _, e1⟩
      subst hsu
      clear hV hcl hrow hre hk2 hrp
      go_wp2_with (at_builtin; refine append_kb elem_int rfl _ _ rfl rfl rfl HMl.out HRow.out HNw.out (ints_oneCell _ _) ?c1 ?c2 ?c3 ?_)
      case c1 => have := HLm.out; unfold maxLen; simp at this ⊢; omega
      case c2 => have := HLm.out; simp at this ⊢; omega
      case c3 => exact HB.out.size
      intro v' w2 hO' hb' hk'
      have hO2 : Owns w2 w.heap.size v' (row ls k) := by unfold Owns; simpa using hO'
      rw [HU.out] at hk'
      have hk2 := HK2.out
      have hS := HV.out.setRow hk2 hO2 hk'
      rw [fRows_set HLt.out] at hS
      have hne : (rowv vs k).ownBlock ≠ some w.heap.size := fun e => HV.out.off k hk2 _ rfl e
      have hfz2 : w2.frozen? ⟨w.heap.size, k, none⟩ = false := by rw [World.frozen?_of_block (hk'.block w.heap.size hgl hne)]; exact hfz
      have hcj2 : w2.cell? ⟨w.heap.size, k, none⟩ = some (.slice au nu cu) := by rw [World.cell?_of_block (hk'.block w.heap.size hgl hne)]; exact hcj
      have HT2 : Hid (Tbl (w2.setCell ⟨w.heap.size, k, none⟩ v') w.heap.size (.slice (some ⟨w.heap.size, 0, none⟩) ls.length ls.length) (fRows ls (k + 1))) := ⟨_, hS⟩
      have HB2 : Hid (Below w.heap.size w (w2.setCell ⟨w.heap.size, k, none⟩ v')) := (HB.out.trans hb').setCell (p := ⟨w.heap.size, k, none⟩) (Nat.le_refl _) _
      obtain ⟨av', nv', hv'⟩ := hO2.shape
      obtain ⟨nn, HNn⟩ : ∃ nn, Hid (nn = (row ls k).length) := ⟨_, rfl⟩
      rw [← HNn.out] at hv'
      subst hv'
      clear hO' hO2 hb' hk' hS hcj hfz hk2
      go_wp2
      go_roundw
      case rel => exact ⟨k + 1, by omega, by go_num, HT2, HB2⟩
      case measure => simp [intOf]; omega
    · obtain rfl : k = ls.length := by omega
      have HE : Hid (Tbl wr w.heap.size (.slice (some ⟨w.heap.size, 0, none⟩) ls.length ls.length) ls) := by have := HT.out; rw [fRows_all] at this; exact this
      go_wp2
      go_ret
      exact ⟨_, rfl, HE.out, HB.out⟩

end Go.Proofs.Ytpbmcaoomcippad
