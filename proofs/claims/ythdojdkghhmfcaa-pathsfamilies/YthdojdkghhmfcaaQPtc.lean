/-
  Points of the call's own: slices.Clone, append; ferlaw.Same of one text.
-/
import Derived.Test.YthdojdkghhmfcaaQPts
namespace Go.Proofs.Ythdojdkghhmfcaa
open Go.RowKit

/-- The cells of points. -/
def pcI (l : List (Int × Int)) : List Value := (l.map (fun c => [Value.int .i64 c.1, Value.int .i64 c.2])).flatten
theorem pcI_cons (c : Int × Int) (l : List (Int × Int)) : pcI (c :: l) = .int .i64 c.1 :: .int .i64 c.2 :: pcI l := rfl
theorem pcI_app (l k : List (Int × Int)) : pcI (l ++ k) = pcI l ++ pcI k := by unfold pcI; rw [List.map_append, List.flatten_append]
theorem pcI_length (l : List (Int × Int)) : (pcI l).length = l.length * 2 := by
  induction l with
  | nil => rfl
  | cons c l ih => rw [pcI_cons, List.length_cons, List.length_cons, List.length_cons, ih]; omega
theorem pcI_get : ∀ (l : List (Int × Int)) (i : Nat), i < l.length → (pcI l)[i * 2]? = some (.int .i64 (l.getD i (0, 0)).1) ∧ (pcI l)[i * 2 + 1]? = some (.int .i64 (l.getD i (0, 0)).2) := by
  intro l
  induction l with
  | nil => intro i h; simp at h
  | cons c l ih =>
    intro i hi
    rw [pcI_cons]
    cases i with
    | zero => simp
    | succ i =>
      have := ih i (by simpa using hi)
      rw [show (i + 1) * 2 = i * 2 + 1 + 1 by omega, show i * 2 + 1 + 1 + 1 = i * 2 + 1 + 1 + 1 from rfl]
      simpa using this
theorem pcI_one (l : List (Int × Int)) : ∀ u ∈ pcI l, u.oneCell' = true := by
  induction l with
  | nil => intro u hu; cases hu
  | cons c l ih =>
    intro u hu
    rw [pcI_cons] at hu
    rcases List.mem_cons.1 hu with e | hu
    · subst e; rfl
    rcases List.mem_cons.1 hu with e | hu
    · subst e; rfl
    · exact ih u hu
def OwPt (w : World) (lo : Nat) (v : Value) (l : List (Int × Int)) : Prop := w.ownsRow lo 39 2 v l.length (pcI l)
theorem OwPt.below {w w' : World} {lo : Nat} {v : Value} {l : List (Int × Int)} (h : OwPt w lo v l) (hb : Below w.heap.size w w') : OwPt w' lo v l := ownsRow_blocks h (fun k e => hb.block k (h.lt k e).2)
theorem OwPt.open {w : World} {lo : Nat} {v : Value} {l : List (Int × Int)} (h : OwPt w lo v l) : ∃ a c, v = .slice a l.length c ∧ PtI w a l ∧ l.length ≤ c := by
  rcases h.2 with ⟨hv, hn⟩ | ⟨g, cap, cur, hv, hg, hh, hn, hc, hcs, htk⟩
  · have hl : l = [] := List.length_eq_zero_iff.1 hn
    subst hl
    exact ⟨none, 0, hv, fun j hj => by simp at hj, Nat.le_refl _⟩
  · refine ⟨some ⟨g, 0, none⟩, cap, hv, fun j hj => ?_, hn⟩
    obtain ⟨g1, g2⟩ := pcI_get l j hj
    refine ⟨g, 0, rfl, lt_of_some hh, ?_, ?_⟩
    · rw [Nat.zero_add, cell_of_row w g _ _ _ _ hh]
      rw [← htk, List.getElem?_take_of_lt (by omega)] at g1
      simpa using g1
    · rw [Nat.zero_add, cell_of_row w g _ _ _ _ hh]
      rw [← htk, List.getElem?_take_of_lt (by omega)] at g2
      simpa using g2
theorem pts_cells {w : World} {ps : List (Int × Int)} {ad : Addr} (hsrc : PtI w (some ad) ps) : ∀ j u, (pcI ps)[j]? = some u → w.cell? (ad.add j) = some u := fun j u hj => by
  have hjl : j < (pcI ps).length := by
    rcases Nat.lt_or_ge j (pcI ps).length with q | q
    · exact q
    · rw [List.getElem?_eq_none q] at hj; cases hj
  rw [pcI_length] at hjl
  obtain ⟨b, off, h1, h2, h3, h4⟩ := hsrc (j / 2) (by omega)
  obtain ⟨g1, g2⟩ := pcI_get ps (j / 2) (by omega)
  simp only [Option.some.injEq] at h1
  subst h1
  rw [Addr.add_lit]
  rcases Nat.mod_two_eq_zero_or_one j with q | q
  · rw [show j = j / 2 * 2 by omega] at hj
    rw [hj] at g1
    rw [show off + j = off + j / 2 * 2 by omega, h3, g1]
  · rw [show j = j / 2 * 2 + 1 by omega] at hj
    rw [hj] at g2
    rw [show off + j = off + j / 2 * 2 + 1 by omega, h4, g2]
theorem run_append_pts {w : World} {base : Nat} {v : Value} {l ps : List (Int × Int)} {ad : Addr} {m c : Nat} (ty : TypeId) (hown : OwPt w base v l) (hm : m = ps.length) (hsrc : PtI w (some ad) ps) (h63 : l.length + ps.length ≤ 8796093022208) (hbase : base ≤ w.heap.size) :
    ∃ v' w', (Builtin.append_ #[22, 22] ty #[v, .slice (some ad) m c]).run Try.prog w = .ok v' w' ∧ OwPt w' base v' (l ++ ps) ∧ Below base w w' ∧ KeepB v v' w w' := by
  subst hm
  obtain ⟨i0, hi, hz0, hz1, hz2⟩ := info_parts infoPt
  have hM : l.length + ps.length ≤ maxLen := by unfold maxLen; omega
  have hc := pts_cells hsrc
  unfold OwPt at hown ⊢
  rw [pcI_app, List.length_append]
  rcases hown.2 with ⟨hv, h0⟩ | ⟨g, cap, cur, hv, hg, hh, hnc, hcm, hcs', htk⟩
  · obtain rfl : l = [] := List.eq_nil_of_length_eq_zero h0
    obtain ⟨v', w', hrun, r1, r2, _⟩ := run_append_own (P := Try.prog) w w.heap.size 22 ty 39 i0 (.agg #[.int .i64 0, .int .i64 0]) 2 16 Try.underlying22 hi hz0 hz1 hz2 rfl (by decide) v 0 [] (by rw [hv]; exact World.ownsRow_nil _ _ _ _) ad ps.length c (pcI ps) (pcI_length ps) hc (pcI_one ps) (by simpa using hM) (by simp at h63; omega) (Nat.le_refl _)
    have r1' : w'.ownsRow w.heap.size 39 2 v' (([] : List (Int × Int)).length + ps.length) (pcI [] ++ pcI ps) := r1
    exact ⟨v', w', hrun, ownsRow_down r1' hbase, (Below.refl base w).grown r2 hbase (fun k hk => by rw [hv] at hk; cases hk), keepB_of r2 (Or.inr rfl) (fun g hg => Or.inr (r1'.lt g hg).1)⟩
  · by_cases hroom : l.length + ps.length ≤ cap
    · rw [hv] at hown
      obtain ⟨w', hrun, r1, r2⟩ := run_append_fits (P := Try.prog) w base 22 ty 39 i0 2 Try.underlying22 hi hz1 g l.length cap (pcI l) hown ad ps.length c (pcI ps) (pcI_length ps) hc (pcI_one ps) hroom
      exact ⟨_, w', by rw [hv]; exact hrun, r1, (Below.refl base w).grown r2 hbase (fun k hk => by cases hk; exact hg), keepB_of r2 (Or.inr (by rw [hv]; rfl)) (fun g' hg' => Or.inl (by rw [hv]; exact hg'))⟩
    · have hown' := hown
      rw [hv] at hown'
      obtain ⟨v', w', hrun, r1, r2⟩ := run_append_arg_grows (P := Try.prog) w 22 ty 39 i0 (.agg #[.int .i64 0, .int .i64 0]) 2 16 Try.underlying22 hi hz0 hz1 hz2 rfl (by decide) ⟨g, 0, none⟩ l.length cap (pcI l) (pcI_length l)
        (fun j u hj => by
          have hj' : j < (pcI l).length := (List.getElem?_eq_some_iff.1 hj).1
          rw [pcI_length] at hj'
          rw [Addr.add_lit, Nat.zero_add, World.ownsRow.cellAt hown' j (by omega)]; exact hj)
        ad ps.length c (pcI ps) (pcI_length ps) hc (by omega) hM (by omega)
      exact ⟨v', w', by rw [hv]; exact hrun, ownsRow_down r1 hbase, (Below.refl base w).grown r2 hbase (fun k hk => by cases hk), keepB_of r2 (Or.inl rfl) (fun g hg => Or.inr (r1.lt g hg).1)⟩
theorem append_pts {w : World} {base : Nat} {v : Value} {l ps : List (Int × Int)} {ad : Addr} {m c : Nat} {ops : Array Oper} {rest : List Oper} {o : Oper} {a : Act} {Q : Exit → Act → World → Prop} (hgd : o.guard = none) (s z : Operand)
    (ho : o.op = .call { callee := .builtin .append, args := #[s, z], argTypes := #[22, 22] }) (hs : a.eval s = v) (hx : a.eval z = .slice (some ad) m c) (hown : OwPt w base v l) (hm : m = ps.length) (hsrc : PtI w (some ad) ps) (h63 : l.length + ps.length ≤ 8796093022208) (hbase : base ≤ w.heap.size)
    (h : ∀ v' w', OwPt w' base v' (l ++ ps) → Below base w w' → KeepB v v' w w' → wpList Try.prog ops Q rest (a.put o.dst v') w') :
    wpList Try.prog ops Q (o :: rest) a w := by
  refine wpList_plain hgd fun K hK => ?_
  obtain ⟨v', w', hrun, r1, r2, r3⟩ := run_append_pts o.type hown hm (c := c) hsrc h63 hbase
  unfold Oper.wp
  simp [execOp, ho, resolve, invoke, builtin, hs, hx, hrun, Result.andThen]
  exact hK _ _ (h v' w' r1 r2 r3)

set_option maxHeartbeats 4000000 in
theorem ClonePt_at (ad : Addr) (n cap : Nat) (ps : List (Int × Int)) (w : World) (hs : PtI w (some ad) ps) (hn : n = ps.length) (hl : ps.length ≤ 8796093022208) :
    Calls Try.prog 11 #[.slice (some ad) n cap] w fun e w' => ∃ v, e = .returned v ∧ Hid (OwPt w' w.heap.size v ps) ∧ Hid (Below w.heap.size w w') := by
  have HN : Hid (n = ps.length) := hn
  have heq : (binOp .eql 22 (.slice (some ad) n cap) (.slice none 0 0)).run Try.prog w = .ok (.bool false) w := Lib.run_eql_slice_nil w 22 39 (some ad) n cap 0 0 Try.underlying22
  have HA : Hid (Below w.heap.size w (w.alloc (.cells #[] 39))) := (Below.refl _ _).alloc (Nat.le_refl _) _
  have HW : Hid (PtI (w.alloc (.cells #[] 39)) (some ad) ps) := hs.below HA.out
  have HX : (w.alloc (.cells #[] 39)).heap[w.heap.size]? = some (.cells #[] 39 (0, 0)) := heap_alloc_last _ _
  have HO : Hid (OwPt (w.alloc (.cells #[] 39)) w.heap.size (.slice (some ⟨w.heap.size, 0, none⟩) 0 0) []) := ⟨rfl, Or.inr ⟨w.heap.size, 0, #[], rfl, Nat.le_refl _, HX, Nat.le_refl _, Nat.zero_le _, rfl, rfl⟩⟩
  clear hs hn HX
  go_enter Try.func11, Try.ntmps11
  go_wp2_with (at_builtin; refine append_pts (l := []) (ps := ps) (base := w.heap.size) rfl _ _ rfl rfl rfl ?o HN.out ?s (by simp; omega) ?b ?_)
  case o => exact HO.out
  case s => exact HW.out
  case b => simp
  intro v' w' hO hb hk
  have HO' : Hid (OwPt w' w.heap.size v' ps) := hO
  have HB' : Hid (Below w.heap.size w w') := HA.out.trans hb
  clear hO hb hk
  go_wp2
  go_ret
  exact ⟨_, rfl, HO', HB'⟩
set_option maxHeartbeats 4000000 in
theorem ClonePt_nil (w : World) : Calls Try.prog 11 #[.slice none 0 0] w fun e w' => e = .returned (.slice none 0 0) ∧ Below w.heap.size w w' := by
  have heq : (binOp .eql 22 (.slice none 0 0) (.slice none 0 0)).run Try.prog w = .ok (.bool true) w := Lib.run_eql_slice_nil w 22 39 none 0 0 0 0 Try.underlying22
  go_enter Try.func11, Try.ntmps11
  go_wp2
  go_ret
  exact ⟨rfl, Below.refl _ _⟩
theorem ClonePt_any (a : Option Addr) (n cap : Nat) (ps : List (Int × Int)) (w : World) (hs : PtI w a ps) (hn : n = ps.length) (hc : a = none → n = 0 ∧ cap = 0) (hl : ps.length ≤ 8796093022208) :
    Calls Try.prog 11 #[.slice a n cap] w fun e w' => ∃ v, e = .returned v ∧ Hid (OwPt w' w.heap.size v ps) ∧ Hid (Below w.heap.size w w') := by
  cases a with
  | some ad => exact ClonePt_at ad n cap ps w hs hn hl
  | none =>
    obtain ⟨h1, h2⟩ := hc rfl
    subst h1 h2
    have hz : ps = [] := List.length_eq_zero_iff.1 hn.symm
    subst hz
    refine (ClonePt_nil w).mono fun e w' h => ?_
    obtain ⟨rfl, hb⟩ := h
    exact ⟨_, rfl, ⟨rfl, Or.inl ⟨rfl, rfl⟩⟩, hb⟩

set_option maxHeartbeats 1000000 in
theorem SameS_at (X g n ca cb : Nat) (f : Nat → ByteArray) (w : World) (h1 : ∀ i, i < n → w.cell? ⟨X, i, none⟩ = some (.string (f i))) (h2 : ∀ i, i < n → w.cell? ⟨g, i, none⟩ = some (.string (f i))) (hn : n ≤ 1000) :
    Calls Try.prog 9 #[.slice (some ⟨X, 0, none⟩) n ca, .slice (some ⟨g, 0, none⟩) n cb] w fun e w' => e = .returned (.bool true) ∧ ∃ m, w' = w.drewN m := by
  have H1 : Hid (∀ i, i < n → w.cell? ⟨X, i, none⟩ = some (.string (f i))) := h1
  have H2 : Hid (∀ i, i < n → w.cell? ⟨g, i, none⟩ = some (.string (f i))) := h2
  clear h1 h2
  go_enter Try.func9, Try.ntmps9
  go_wp2
  go_loopw [13] (fun q wr => ∃ i : Nat, i ≤ n ∧ q = .int .i64 i ∧ Hid (∃ m, wr = w.drewN m)) (fun q _ => n - (intOf q).toNat)
  case atStart => exact ⟨0, Nat.zero_le _, rfl, 0, rfl⟩
  case round =>
    obtain ⟨i, hi, rfl, HD⟩ := hrel
    by_cases hil : i < n
    · have hil' : (i : Int) < (n : Int) := by omega
      obtain ⟨s, HSs⟩ : ∃ s, Hid (s = f i) := ⟨_, rfl⟩
      have c1 : wr.cell? ⟨X, i, none⟩ = some (.string s) := by obtain ⟨m, rfl⟩ := HD.out; rw [HSs.out]; exact H1.out i hil
      have c2 : wr.cell? ⟨g, i, none⟩ = some (.string s) := by obtain ⟨m, rfl⟩ := HD.out; rw [HSs.out]; exact H2.out i hil
      go_wp2_with fail
      go_quiet (fail)
      go_wp2
      go_roundw
      case rel => exact ⟨i + 1, by omega, by go_num, by obtain ⟨m, hm⟩ := HD.out; exact ⟨_, by rw [hm]; exact drewN_two _ _ _⟩⟩
      case measure => simp [intOf]; omega
    · obtain rfl : i = n := by omega
      go_wp2
      go_ret
      exact ⟨rfl, HD.out⟩
/-- Texts of the call's own. -/
theorem texts_use {w : World} {v : Value} {tx : List (List UInt8)} (h : w.ownsRow 0 9 1 v (tx.map strV).length (tx.map strV)) : ∃ a c, v = .slice a tx.length c ∧ (a = none → c = 0) ∧ ∀ j, j < tx.length → ∃ g, a = some ⟨g, 0, none⟩ ∧ g < w.heap.size ∧ w.cell? ⟨g, j, none⟩ = some (strV (tx.getD j [])) := by
  rcases h.2 with ⟨hv, hn⟩ | ⟨g, cap, cur, hv, hg, hh, hn, hc, hcs, htk⟩
  · rw [List.length_map] at hn
    have hl : tx = [] := List.length_eq_zero_iff.1 hn
    subst hl
    exact ⟨none, 0, hv, fun _ => rfl, fun j hj => by simp at hj⟩
  · rw [List.length_map] at hv
    refine ⟨some ⟨g, 0, none⟩, cap, hv, (fun e => by cases e), (fun j hj => ⟨g, rfl, lt_of_some hh, ?_⟩)⟩
    have h1 : (tx.map strV)[j]? = some (strV (tx.getD j [])) := by rw [List.getElem?_map, List.getElem?_eq_getElem hj]; simp [List.getD, List.getElem?_eq_getElem hj]
    rw [cell_of_row w g _ _ _ _ hh]
    rw [← htk, List.getElem?_take_of_lt (by rw [List.length_map]; omega)] at h1
    simpa using h1

end Go.Proofs.Ythdojdkghhmfcaa
