/-
  Points of the call's own: append.
  domino.Flips.
-/
import Derived.Test.YtcnmndbckjmliaaDoorNRdz
import Derived.Test.YtcnmndbckjmliaaDoorTApp
import Derived.Test.YtcnmndbckjmliaaDoorNRt
namespace Go.Proofs.YtcnmndbckjmliaaDoor
open Go.RowKit

def PtI (w : World) (a : Option Addr) (ps : List (Int × Int)) : Prop := ∀ j, j < ps.length → ∃ b off, a = some ⟨b, off, none⟩ ∧ b < w.heap.size ∧ w.cell? ⟨b, off + j * 2, none⟩ = some (.int .i64 (ps.getD j (0, 0)).1) ∧ w.cell? ⟨b, off + j * 2 + 1, none⟩ = some (.int .i64 (ps.getD j (0, 0)).2)
theorem PtI.below {w w' : World} {a : Option Addr} {ps : List (Int × Int)} (h : PtI w a ps) (hb : Below w.heap.size w w') : PtI w' a ps := fun j hj => by
  obtain ⟨b, off, h1, h2, h3, h4⟩ := h j hj
  exact ⟨b, off, h1, Nat.lt_of_lt_of_le h2 hb.size, (hb.cell (p := ⟨b, off + j * 2, none⟩) h2).trans h3, (hb.cell (p := ⟨b, off + j * 2 + 1, none⟩) h2).trans h4⟩
theorem infoPt : (Tryd.prog.info? 36).map (fun i => (i.zero, i.size, i.bytes)) = some (some (.agg #[.int .i64 0, .int .i64 0]), 2, 16) := by kernel_rfl
/-- The cells of points. -/
def pcI (l : List (Int × Int)) : List Value := (l.map (fun c => [Value.int .i64 c.1, Value.int .i64 c.2])).flatten
theorem pcI_cons (c : Int × Int) (l : List (Int × Int)) : pcI (c :: l) = .int .i64 c.1 :: .int .i64 c.2 :: pcI l := rfl
theorem pcI_app (l k : List (Int × Int)) : pcI (l ++ k) = pcI l ++ pcI k := by unfold pcI; rw [List.map_append, List.flatten_append]
theorem pcI_length (l : List (Int × Int)) : (pcI l).length = l.length * 2 := by
  induction l with
  | nil => rfl
  | cons c l ih => rw [pcI_cons, List.length_cons, List.length_cons, List.length_cons, ih]; omega
theorem pcI_get : ∀ (l : List (Int × Int)) (i : Nat), i < l.length → (pcI l)[i * 2]? = some (.int .i64 (l.getD i (0, 0)).1) ∧ (pcI l)[i * 2 + 1]? = some (.int .i64 (l.getD i (0, 0)).2) := by
  intro l
  induction l with
  | nil => intro i h; simp at h
  | cons c l ih =>
    intro i hi
    rw [pcI_cons]
    cases i with
    | zero => simp
    | succ i =>
      have := ih i (by simpa using hi)
      rw [show (i + 1) * 2 = i * 2 + 1 + 1 by omega, show i * 2 + 1 + 1 + 1 = i * 2 + 1 + 1 + 1 from rfl]
      simpa using this
theorem pcI_one (l : List (Int × Int)) : ∀ u ∈ pcI l, u.oneCell' = true := by
  induction l with
  | nil => intro u hu; cases hu
  | cons c l ih =>
    intro u hu
    rw [pcI_cons] at hu
    rcases List.mem_cons.1 hu with e | hu
    · subst e; rfl
    rcases List.mem_cons.1 hu with e | hu
    · subst e; rfl
    · exact ih u hu
def OwPt (w : World) (lo : Nat) (v : Value) (l : List (Int × Int)) : Prop := w.ownsRow lo 36 2 v l.length (pcI l)
theorem OwPt.below {w w' : World} {lo : Nat} {v : Value} {l : List (Int × Int)} (h : OwPt w lo v l) (hb : Below w.heap.size w w') : OwPt w' lo v l := ownsRow_blocks h (fun k e => hb.block k (h.lt k e).2)
theorem OwPt.open {w : World} {lo : Nat} {v : Value} {l : List (Int × Int)} (h : OwPt w lo v l) : ∃ a c, v = .slice a l.length c ∧ PtI w a l ∧ l.length ≤ c := by
  rcases h.2 with ⟨hv, hn⟩ | ⟨g, cap, cur, hv, hg, hh, hn, hc, hcs, htk⟩
  · have hl : l = [] := List.length_eq_zero_iff.1 hn
    subst hl
    exact ⟨none, 0, hv, fun j hj => by simp at hj, Nat.le_refl _⟩
  · refine ⟨some ⟨g, 0, none⟩, cap, hv, fun j hj => ?_, hn⟩
    obtain ⟨g1, g2⟩ := pcI_get l j hj
    refine ⟨g, 0, rfl, lt_someN hh, ?_, ?_⟩
    · rw [Nat.zero_add, cell_of_row w g _ _ _ _ hh]
      rw [← htk, List.getElem?_take_of_lt (by omega)] at g1
      simpa using g1
    · rw [Nat.zero_add, cell_of_row w g _ _ _ _ hh]
      rw [← htk, List.getElem?_take_of_lt (by omega)] at g2
      simpa using g2
theorem pts_cells {w : World} {ps : List (Int × Int)} {ad : Addr} (hsrc : PtI w (some ad) ps) : ∀ j u, (pcI ps)[j]? = some u → w.cell? (ad.add j) = some u := fun j u hj => by
  have hjl : j < (pcI ps).length := by
    rcases Nat.lt_or_ge j (pcI ps).length with q | q
    · exact q
    · rw [List.getElem?_eq_none q] at hj; cases hj
  rw [pcI_length] at hjl
  obtain ⟨b, off, h1, h2, h3, h4⟩ := hsrc (j / 2) (by omega)
  obtain ⟨g1, g2⟩ := pcI_get ps (j / 2) (by omega)
  simp only [Option.some.injEq] at h1
  subst h1
  rw [Addr.add_lit]
  rcases Nat.mod_two_eq_zero_or_one j with q | q
  · rw [show j = j / 2 * 2 by omega] at hj
    rw [hj] at g1
    rw [show off + j = off + j / 2 * 2 by omega, h3, g1]
  · rw [show j = j / 2 * 2 + 1 by omega] at hj
    rw [hj] at g2
    rw [show off + j = off + j / 2 * 2 + 1 by omega, h4, g2]
theorem run_append_pts {w : World} {base : Nat} {v : Value} {l ps : List (Int × Int)} {ad : Addr} {m c : Nat} (ty : TypeId) (hown : OwPt w base v l) (hm : m = ps.length) (hsrc : PtI w (some ad) ps) (h63 : l.length + ps.length ≤ 8796093022208) (hbase : base ≤ w.heap.size) :
    ∃ v' w', (Builtin.append_ #[39, 39] ty #[v, .slice (some ad) m c]).run Tryd.prog w = .ok v' w' ∧ OwPt w' base v' (l ++ ps) ∧ Below base w w' ∧ KeepB v v' w w' := by
  subst hm
  obtain ⟨i0, hi, hz0, hz1, hz2⟩ := info_parts infoPt
  have hM : l.length + ps.length ≤ maxLen := by unfold maxLen; omega
  have hc := pts_cells hsrc
  unfold OwPt at hown ⊢
  rw [pcI_app, List.length_append]
  rcases hown.2 with ⟨hv, h0⟩ | ⟨g, cap, cur, hv, hg, hh, hnc, hcm, hcs', htk⟩
  · obtain rfl : l = [] := List.eq_nil_of_length_eq_zero h0
    obtain ⟨v', w', hrun, r1, r2, _⟩ := run_append_own (P := Tryd.prog) w w.heap.size 39 ty 36 i0 (.agg #[.int .i64 0, .int .i64 0]) 2 16 Tryd.underlying39 hi hz0 hz1 hz2 rfl (by decide) v 0 [] (by rw [hv]; exact World.ownsRow_nil _ _ _ _) ad ps.length c (pcI ps) (pcI_length ps) hc (pcI_one ps) (by simpa using hM) (by simp at h63; omega) (Nat.le_refl _)
    have r1' : w'.ownsRow w.heap.size 36 2 v' (([] : List (Int × Int)).length + ps.length) (pcI [] ++ pcI ps) := r1
    exact ⟨v', w', hrun, ownsRow_down r1' hbase, (Below.refl base w).grown r2 hbase (fun k hk => by rw [hv] at hk; cases hk), keepB_of r2 (Or.inr rfl) (fun g hg => Or.inr (r1'.lt g hg).1)⟩
  · by_cases hroom : l.length + ps.length ≤ cap
    · rw [hv] at hown
      obtain ⟨w', hrun, r1, r2⟩ := run_append_fits (P := Tryd.prog) w base 39 ty 36 i0 2 Tryd.underlying39 hi hz1 g l.length cap (pcI l) hown ad ps.length c (pcI ps) (pcI_length ps) hc (pcI_one ps) hroom
      exact ⟨_, w', by rw [hv]; exact hrun, r1, (Below.refl base w).grown r2 hbase (fun k hk => by cases hk; exact hg), keepB_of r2 (Or.inr (by rw [hv]; rfl)) (fun g' hg' => Or.inl (by rw [hv]; exact hg'))⟩
    · have hown' := hown
      rw [hv] at hown'
      obtain ⟨v', w', hrun, r1, r2⟩ := run_append_arg_grows (P := Tryd.prog) w 39 ty 36 i0 (.agg #[.int .i64 0, .int .i64 0]) 2 16 Tryd.underlying39 hi hz0 hz1 hz2 rfl (by decide) ⟨g, 0, none⟩ l.length cap (pcI l) (pcI_length l)
        (fun j u hj => by
          have hj' : j < (pcI l).length := (List.getElem?_eq_some_iff.1 hj).1
          rw [pcI_length] at hj'
          rw [Addr.add_lit, Nat.zero_add, World.ownsRow.cellAt hown' j (by omega)]; exact hj)
        ad ps.length c (pcI ps) (pcI_length ps) hc (by omega) hM (by omega)
      exact ⟨v', w', by rw [hv]; exact hrun, ownsRow_down r1 hbase, (Below.refl base w).grown r2 hbase (fun k hk => by cases hk), keepB_of r2 (Or.inl rfl) (fun g hg => Or.inr (r1.lt g hg).1)⟩
theorem append_pts {w : World} {base : Nat} {v : Value} {l ps : List (Int × Int)} {ad : Addr} {m c : Nat} {ops : Array Oper} {rest : List Oper} {o : Oper} {a : Act} {Q : Exit → Act → World → Prop} (hgd : o.guard = none) (s z : Operand)
    (ho : o.op = .call { callee := .builtin .append, args := #[s, z], argTypes := #[39, 39] }) (hs : a.eval s = v) (hx : a.eval z = .slice (some ad) m c) (hown : OwPt w base v l) (hm : m = ps.length) (hsrc : PtI w (some ad) ps) (h63 : l.length + ps.length ≤ 8796093022208) (hbase : base ≤ w.heap.size)
    (h : ∀ v' w', OwPt w' base v' (l ++ ps) → Below base w w' → KeepB v v' w w' → wpList Tryd.prog ops Q rest (a.put o.dst v') w') :
    wpList Tryd.prog ops Q (o :: rest) a w := by
  refine wpList_plain hgd fun K hK => ?_
  obtain ⟨v', w', hrun, r1, r2, r3⟩ := run_append_pts o.type hown hm (c := c) hsrc h63 hbase
  unfold Oper.wp
  simp [execOp, ho, resolve, invoke, builtin, hs, hx, hrun, Result.andThen]
  exact hK _ _ (h v' w' r1 r2 r3)

theorem append_pt1 {w : World} {base : Nat} {v : Value} {l : List (Int × Int)} {x y : Int} {ops : Array Oper} {rest : List Oper} {o : Oper} {a : Act} {Q : Exit → Act → World → Prop} (hgd : o.guard = none) (s z : Operand)
    (ho : o.op = .call { callee := .builtin .append, args := #[s, z], argTypes := #[39, 39] }) (hs : a.eval s = v) (hx : a.eval z = .slice (some ⟨w.heap.size, 0, none⟩) 1 1) (hown : OwPt w base v l) (hl : l.length ≤ 1000) (hbase : base ≤ w.heap.size)
    (h : ∀ v' w', Hid (OwPt w' base v' (l ++ [(x, y)])) → Hid (Below base w w') → wpList Tryd.prog ops Q rest (a.put o.dst v') w') :
    wpList Tryd.prog ops Q (o :: rest) a (w.alloc (.cells #[.int .i64 x, .int .i64 y] 36)) := by
  have hal : Below w.heap.size w (w.alloc (.cells #[.int .i64 x, .int .i64 y] 36)) := (Below.refl _ _).alloc (Nat.le_refl _) _
  have hh : (w.alloc (.cells #[.int .i64 x, .int .i64 y] 36)).heap[w.heap.size]? = some (.cells #[.int .i64 x, .int .i64 y] 36 (0, 0)) := heap_alloc_last _ _
  refine append_pts (l := l) (ps := [(x, y)]) (base := base) hgd s z ho hs hx (hown.below hal) rfl (fun j hj => ?_) (by simp; omega) (Nat.le_trans hbase hal.size) (fun v' w' r1 r2 _ => h v' w' r1 ((hal.mono hbase).trans r2))
  obtain rfl : j = 0 := by simpa using hj
  exact ⟨w.heap.size, 0, rfl, lt_someN hh, by rw [cell_of_row _ _ _ _ _ _ hh]; rfl, by rw [cell_of_row _ _ _ _ _ _ hh]; rfl⟩

end Go.Proofs.YtcnmndbckjmliaaDoor

namespace Go.Proofs.YtcnmndbckjmliaaDoor
open Go.RowKit

/-- The blocks that may be turned. -/
def mtQ (r c : Nat) (f : Nat → UInt8) (i j : Nat) : Bool := mtB r c f (i : Int) (j : Int)
/-- What domino.Flips answers. -/
def FlP (s : List UInt8) (B : Nat) (w : World) (v : Value) (er : Int) : Prop := (er = 0 ∧ ∃ r c, Til s r c ∧ OwPt w B v (flp (mtQ r c (cef (pz s))) r c)) ∨ (er = 1 ∧ v = .slice none 0 0 ∧ ∀ r c, ¬ Til s r c)

set_option maxHeartbeats 4000000 in
set_option maxRecDepth 100000 in
theorem Flips_at (s : ByteArray) (m : Int) (w : World) (hm : w.cell? ⟨0, 0, none⟩ = some (.int .i64 m)) :
    Calls Tryd.prog 20 #[.string s] w fun e w' => ∃ v er, e = .returned (.tuple #[v, .int .i64 er]) ∧ Hid (FlP s.data.toList w.heap.size w' v er) ∧ Hid (Below w.heap.size w w') := by
  obtain ⟨Z, HZ⟩ : ∃ Z, Hid (Z = shC 0 0 fun _ => 0) := ⟨_, rfl⟩
  have hz : ∀ W : World, (zeroValue 62).run Tryd.prog W = .ok (.agg Z) W := fun W => by rw [HZ.out]; exact (zero_of_info zeroS).1 W
  have HZ6 : Hid (C66 Z) := by rw [HZ.out]; exact shC_66 _ _ _
  have HCr := hid_w (readT_at s m w hm)
  clear hm
  go_enter Tryd.func20, Tryd.ntmps20
  go_upto_region 2 with (first | (go_at_call 40; with_reducible (refine HCr.out.mono ?_); rintro e W1 ⟨v, rfl, HR, HB1⟩; obtain ⟨Y, er, rfl, HY6, HYr⟩ := HR.out.parts) | (refine wpList_store66 rfl (.tmp 4) (.tmp 12) rfl W1.heap.size Y Z rfl rfl (heap_alloc_last _ _) HY6.out HZ6.out ?_))
  try simp only [Act.put]
  obtain ⟨T, HT⟩ : ∃ T, Hid (T = W1.heap.size) := ⟨_, rfl⟩
  obtain ⟨W3, HW3⟩ : ∃ W3, Hid (W3 = (W1.alloc (.cells Z 62)).setRow W1.heap.size Y) := ⟨_, rfl⟩
  rw [← HW3.out, ← HT.out]
  have HB3 : Hid (Below w.heap.size w W3) := by
    rw [HW3.out]; exact below_setRowN (HB1.out.alloc HB1.out.size _) _ HB1.out.size _
  have HT3 : Hid (W3.heap[T]? = some (.cells Y 62 (0, 0))) := by
    show _ = _
    rw [HW3.out, HT.out]; exact setRow_heap _ _ _ _ _ _ (heap_alloc_last _ _)
  rcases HYr.out with ⟨rfl, r, c, htl, hY⟩ | ⟨rfl, hY, hno⟩
  case inr =>
    have HP : Hid (FlP s.data.toList w.heap.size W3 (.slice none 0 0) 1) := Or.inr ⟨rfl, rfl, hno⟩
    clear hno hY HYr HR
    go_wp2_with fail
    go_ret2
    exact ⟨_, 1, rfl, HP, HB3⟩
  obtain ⟨f, HF⟩ : ∃ f, Hid (f = cef (pz s.data.toList)) := ⟨_, rfl⟩
  rw [← HF.out] at hY
  have HYf : Hid (Y = shC r c f) := hY
  have HTl : Hid (Til s.data.toList r c) := htl
  have hr8 : r ≤ 8 := htl.1.2.2.1
  have hc8 : c ≤ 8 := htl.1.2.2.2.2.1
  have HTf : Hid (∀ W, Below W3.heap.size W3 W → W.heap[T]? = some (.cells (shC r c f) 62 (0, 0))) := fun W hW => by rw [hW.block T (lt_someN HT3.out), ← HYf.out]; exact HT3.out
  have s0 : W3.cell? ⟨T, 0, none⟩ = some (.int .i64 (r : Int)) := by rw [cell_of_row W3 T _ _ _ _ (HTf.out W3 (Below.refl _ _)), shC_get _ _ _ _ (by omega)]; rfl
  have HBr : Hid (Below W3.heap.size W3 W3) := Below.refl _ _
  have HO0 : Hid (OwPt W3 W3.heap.size (.slice none 0 0) (flp (mtQ r c f) 0 c)) := ⟨rfl, Or.inl ⟨rfl, rfl⟩⟩
  clear htl hY HYr HR
  go_wp2_with fail
  go_loopw [6, 19] (fun lv v wr => ∃ (i : Nat) (L : Value), i ≤ r ∧ v = .int .i64 (i : Int) ∧ L = lv ∧ Hid (OwPt wr W3.heap.size L (flp (mtQ r c f) i c)) ∧ Hid (Below W3.heap.size W3 wr)) (fun _ v _ => r - (intOf v).toNat)
  case atStart => exact ⟨0, _, Nat.zero_le _, rfl, rfl, HO0, HBr⟩
  case round =>
    clear s0 HO0 HBr
    obtain ⟨i, L, hi, rfl, rfl, HO, HB⟩ := hrel
    by_cases hlt : i < r
    · have hlt' : (i : Int) < (r : Int) := by omega
      have s1 : wr.cell? ⟨T, 1, none⟩ = some (.int .i64 (c : Int)) := by rw [cell_of_row wr T _ _ _ _ (HTf.out wr HB.out), shC_get _ _ _ _ (by omega)]; rfl
      have HOz : Hid (OwPt wr W3.heap.size L (flp (mtQ r c f) i c ++ rowP (mtQ r c f) i 0)) := by
        show OwPt _ _ _ (_ ++ [])
        rw [List.append_nil]; exact HO.out
      go_wp2_with fail
      go_loopw [6, 24] (fun lv v wr => ∃ (j : Nat) (L : Value), j ≤ c ∧ v = .int .i64 (j : Int) ∧ L = lv ∧ Hid (OwPt wr W3.heap.size L (flp (mtQ r c f) i c ++ rowP (mtQ r c f) i j)) ∧ Hid (Below W3.heap.size W3 wr)) (fun _ v _ => c - (intOf v).toNat)
      case atStart => exact ⟨0, _, Nat.zero_le _, rfl, rfl, HOz, HB⟩
      case round =>
        clear s1 HOz HO HB
        obtain ⟨j, L, hj, rfl, rfl, HO, HB⟩ := hrel
        by_cases hltj : j < c
        · have hltj' : (j : Int) < (c : Int) := by omega
          obtain ⟨b, Hb⟩ : ∃ b, Hid (mtQ r c f i j = b) := ⟨_, rfl⟩
          have HCm := hid_w (dmay_at T r c f (i : Int) (j : Int) wr (HTf.out wr HB.out) hr8 hc8 b Hb.out)
          cases b with
          | false =>
            have HO2 : Hid (OwPt wr W3.heap.size L (flp (mtQ r c f) i c ++ rowP (mtQ r c f) i (j + 1))) := by
              rw [rowP_succ, if_neg (by rw [Hb.out]; simp), List.append_nil]; exact HO.out
            go_wp2_with (go_at_call 46; with_reducible (refine HCm.out.mono ?_); rintro e v1 ⟨rfl, rfl⟩)
            go_roundw
            case rel => exact ⟨j + 1, _, by omega, by go_num, rfl, HO2, HB⟩
            case measure => simp [intOf]; omega
          | true =>
            have HLn : Hid ((flp (mtQ r c f) i c ++ rowP (mtQ r c f) i j).length ≤ 1000) := by
              have h1 := flp_length (mtQ r c f) i c
              have h2 := rowP_length (mtQ r c f) i j
              have h3 : i * c ≤ 8 * 8 := Nat.mul_le_mul (by omega) hc8
              show _ ≤ _
              rw [List.length_append]; omega
            have HRw : Hid (flp (mtQ r c f) i c ++ rowP (mtQ r c f) i (j + 1) = (flp (mtQ r c f) i c ++ rowP (mtQ r c f) i j) ++ [((j : Int), (i : Int))]) := by
              show _ = _
              rw [rowP_succ, if_pos Hb.out, List.append_assoc]
            go_wp2_with (first | (go_at_call 46; with_reducible (refine HCm.out.mono ?_); rintro e v1 ⟨rfl, rfl⟩) | (at_builtin; refine append_pt1 (base := W3.heap.size) rfl _ _ rfl rfl rfl HO.out HLn.out HB.out.size ?_; intro L2 W4 HO4 HB4))
            have HO5 : Hid (OwPt W4 W3.heap.size L2 (flp (mtQ r c f) i c ++ rowP (mtQ r c f) i (j + 1))) := by rw [HRw.out]; exact HO4.out
            have HB5 : Hid (Below W3.heap.size W3 W4) := HB.out.trans HB4.out
            go_wp2_with fail
            go_roundw
            case rel => exact ⟨j + 1, _, by omega, by go_num, rfl, HO5, HB5⟩
            case measure => simp [intOf]; omega
        · obtain rfl : j = c := by omega
          have HO2 : Hid (OwPt wr W3.heap.size L (flp (mtQ r j f) (i + 1) j)) := by
            rw [flp_succ]; exact HO.out
          go_wp2_with fail
          go_roundw
          case rel => exact ⟨i + 1, _, by omega, by go_num, rfl, HO2, HB⟩
          case measure => simp [intOf]; omega
    · obtain rfl : i = r := by omega
      have HP : Hid (FlP s.data.toList w.heap.size wr L 0) := Or.inl ⟨rfl, i, c, HTl.out, ownsRow_down (by rw [← HF.out]; exact HO.out) HB3.out.size⟩
      have HB5 : Hid (Below w.heap.size w wr) := HB3.out.trans (HB.out.mono HB3.out.size)
      go_wp2_with fail
      go_ret2
      exact ⟨_, 0, rfl, HP, HB5⟩

end Go.Proofs.YtcnmndbckjmliaaDoor
