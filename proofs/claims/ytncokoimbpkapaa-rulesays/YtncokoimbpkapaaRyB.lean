/-
  The contract of the closure in ferref.Grown: where all rows have been seen.
-/
import Derived.Test.YtncokoimbpkapaaRyA
import Derived.Test.YtncokoimbpkapaaBApp
namespace Go.Proofs.Ytncokoimbpkapaa
open Go.RowKit

theorem ownsRow_take {w : World} {lo g n cap k : Nat} {e : TypeId} {xs : List Value} (h : w.ownsRow lo e 1 (.slice (some ⟨g, 0, none⟩) n cap) n xs) (hk : k ≤ n) : w.ownsRow lo e 1 (.slice (some ⟨g, 0, none⟩) k cap) k (xs.take k) := by
  obtain ⟨h1, h2⟩ := h
  rcases h2 with ⟨h2, _⟩ | ⟨g', cap', cur, hv, hg, hh, h4, h5, h6, h7⟩
  · cases h2
  · simp only [Value.slice.injEq, Option.some.injEq, Addr.mk.injEq, and_true, true_and] at hv
    obtain ⟨rfl, rfl⟩ := hv
    refine ⟨by simp at h1 ⊢; omega, Or.inr ⟨g, cap, cur, rfl, hg, hh, by omega, h5, h6, ?_⟩⟩
    rw [← h7, List.take_take]; congr 1; omega
theorem ownsRow_cap {w : World} {lo g n cap : Nat} {e : TypeId} {xs : List Value} (h : w.ownsRow lo e 1 (.slice (some ⟨g, 0, none⟩) n cap) n xs) : n ≤ cap ∧ cap ≤ maxLen := by
  rcases h.2 with ⟨h2, _⟩ | ⟨g', cap', cur, hv, hg, hh, h4, h5, h6, h7⟩
  · cases h2
  · simp only [Value.slice.injEq, Option.some.injEq, Addr.mk.injEq, and_true, true_and] at hv
    obtain ⟨rfl, rfl⟩ := hv
    exact ⟨h4, h5⟩
/-- What is owned, opened at its last number. -/
theorem Owns.lastN {w : World} {lo : Nat} {v : Value} {l : List Nat} {x : Nat} (h : Owns w lo v (castL (l ++ [x]))) : ∃ q c, v = .slice (some ⟨q, 0, none⟩) (l.length + 1) c ∧ l.length + 1 ≤ c ∧ w.cell? ⟨q, l.length, none⟩ = some (.int .i64 (x : Int)) ∧ Owns w lo (.slice (some ⟨q, 0, none⟩) l.length c) (castL l) := by
  have hl : (castL (l ++ [x])).length = l.length + 1 := by rw [castL_len]; simp
  obtain ⟨q, c, e1, e2, e3, e4, e5⟩ := h.head (by omega)
  rw [hl] at e1
  subst e1
  have h0 := h
  unfold Owns at h0
  rw [hl] at h0
  refine ⟨q, c, rfl, (ownsRow_cap h0).1, ?_, ?_⟩
  · rw [e5 l.length (by omega), castL_at]; simp
  · have := ownsRow_take (k := l.length) h0 (by omega)
    unfold Owns
    rw [castL_len]
    rw [castL_snoc, List.map_append, List.take_append_of_le_length (by simp [castL]), List.take_of_length_le (by simp [castL])] at this
    exact this

set_option maxHeartbeats 4000000 in
set_option maxRecDepth 100000 in
/-- Something is left: nothing comes. -/
theorem Gr_none (left n : Nat) (B : Nat) (ty : TypeId) (ap ac : Option Addr) (cp cc : Nat) (pl cl : List Nat) (v : Value) (vs : List Value) (u : Value) (ls : List (List Nat)) (w : World) (hx : GrX w B ty ap cp ac cc pl cl v vs ls) (hn : n = cl.length) (hl : left ≠ 0) :
    Calls Try.prog 36 #[.int .i64 n, .int .i64 left, u, bx (B + 1), bx (B + 2), bx B, bx (B + 3)] w fun e w' => e = .returned (.tuple #[]) ∧ w' = w := by
  have c1 := cell_of_one hx.bc
  rw [← hn] at c1
  have hne : ¬ ((left : Int) = 0) := by omega
  have hne' : ((left : Int) == 0) = false := by simp; omega
  clear hx hn
  go_enter Try.func36, Try.ntmps36
  go_wp2
  all_goals (try simp only [Exit.inBlock, Exit.then])
  all_goals refine bodyPost_ret (results_none rfl _ _ _) rfl ?_
  all_goals exact ⟨rfl, rfl⟩

set_option maxHeartbeats 4000000 in
set_option maxRecDepth 100000 in
/-- Nothing is left: a row more. -/
theorem Gr_row (n : Nat) (B : Nat) (ty : TypeId) (ap ac : Option Addr) (cp cc : Nat) (pl cl : List Nat) (v : Value) (vs : List Value) (u : Value) (ls : List (List Nat)) (now : List Nat) (w : World) (hx : GrX w B ty ap cp ac cc pl cl v vs ls) (hn : n = cl.length) (hu : Owns w (B + 4) u (castL now)) (hnl : now.length ≤ 1000) (hnz : ∀ z ∈ now, z ≤ 1000) (hl : ls.length ≤ 5000000000000) :
    Calls Try.prog 36 #[.int .i64 n, .int .i64 0, u, bx (B + 1), bx (B + 2), bx B, bx (B + 3)] w fun e w' => e = .returned (.tuple #[]) ∧ EndG w B ty v (ls ++ [trimZ now]) w' := by
  have HX : Hid (GrX w B ty ap cp ac cc pl cl v vs ls) := hx
  have c1 := cell_of_one hx.bc
  rw [← hn] at c1
  obtain ⟨a, m, c, rfl, hs, hm, hnone⟩ := hu.open0 (by rw [castL_len]; omega) (fun z hz => by
    simp only [castL, List.mem_map] at hz
    obtain ⟨k, hk, rfl⟩ := hz
    have := hnz k hk
    omega)
  have HS : Hid (Shows w a (castL now)) := hs
  have HM : Hid (m = (castL now).length) := hm
  have HO0 : Hid (a = none → castL now = [] ∧ c = 0) := hnone
  have HNl : Hid ((castL now).length ≤ 1000) := by show _ ≤ _; rw [castL_len]; exact hnl
  have HLv : Hid (vs.length ≤ 5000000000000) := by show _ ≤ _; rw [hx.y.t.len, castT_len]; exact hl
  have HOn : Hid (Owns w w.heap.size (.slice none 0 0) []) := World.ownsRow_nil _ _ _ _
  have HEnd : Hid (∀ w1, Below w.heap.size w w1 → w1.cell? ⟨B + 2, 0, none⟩ = some v ∧ Hid (w1.ownsRow (B + 4) 22 1 v vs.length vs) ∧ ∀ x, (w1.alloc (.cells #[x] 22)).cell? ⟨B + 2, 0, none⟩ = some v) := fun w1 hb => by
    have hs := HX.out.size
    have e0 : w1.heap[B + 2]? = some (.cells #[v] 35 (0, 0)) := by rw [hb.block (B + 2) (by omega)]; exact HX.out.y.b0
    exact ⟨cell_of_one e0, ownsRow_blocks HX.out.y.t.own (fun k q => hb.block k (HX.out.y.t.own.lt k q).2), fun x => by rw [World.cell?_of_block (show (w1.alloc _).heap[B + 2]? = w1.heap[B + 2]? from Below.heap_alloc w1 _ (B + 2) (by have := hb.size; omega))]; exact cell_of_one e0⟩
  have HEnd2 : Hid (∀ v1 w1 v2 w2, Below w.heap.size w w1 → Owns w1 w.heap.size v1 (castL (trimZ now)) → w2.ownsRow (B + 4) 22 1 v2 (vs ++ [v1]).length (vs ++ [v1]) → Below (B + 4) w1 w2 → KeepB v v2 w1 w2 → w2.cell? ⟨B + 2, 0, none⟩ = some v ∧ w2.frozen? ⟨B + 2, 0, none⟩ = false ∧ Hid (EndG w B ty v (ls ++ [trimZ now]) (w2.setCell ⟨B + 2, 0, none⟩ v2)) ∧ ∃ a2 m2 k2, v2 = .slice a2 m2 k2) := fun v1 w1 v2 w2 h1 h2 h3 h4 h5 => by
    have hs := HX.out.size
    have e0 : w2.heap[B + 2]? = some (.cells #[v] 35 (0, 0)) := by rw [h4.block (B + 2) (by omega), h1.block (B + 2) (by omega)]; exact HX.out.y.b0
    have hb : Below (B + 2) w w2 := (h1.mono (by omega)).trans (h4.mono (by omega))
    exact ⟨cell_of_one e0, free_of_one e0, ⟨hb.setCell (Nat.le_refl _) _, _, _, by rw [castT_snoc]; exact HX.out.y.row h1 h2 h3 h4 h5⟩, by
      rcases h3.2 with ⟨q, _⟩ | ⟨g, cp, cur, q, _⟩
      · exact ⟨_, _, _, q⟩
      · exact ⟨_, _, _, q⟩⟩
  have hBz : B + 4 ≤ w.heap.size := hx.size
  clear hx hn hs hm hnone hu hl hnz hnl
  go_enter Try.func36, Try.ntmps36
  go_wp2_with (at_builtin; refine append_src rfl _ _ rfl rfl rfl HOn.out HS.out HM.out HO0.out ?c1 ?c2 ?_)
  case c1 => have := HNl.out; simp; omega
  case c2 => exact Nat.le_refl _
  intro v1 w1 hO1 hb1 _
  have HO1 : Hid (Owns w1 w.heap.size v1 (castL now)) := by show Owns _ _ _ _; simpa using hO1
  have HB1 : Hid (Below w.heap.size w w1) := hb1
  obtain ⟨d0, HOw, HAl⟩ := HEnd.out w1 hb1
  obtain ⟨a1, m1, hsh⟩ := HO1.out.shape
  have HNl2 : Hid (now.length ≤ 1000) := by have := HNl.out; rw [castL_len] at this; exact this
  clear hO1 hb1 HEnd
  go_wp2
  go_loopw [10] (fun q wr => ∃ (l' : List Nat) (aq : Option Addr) (mq cq : Nat), q = .slice aq mq cq ∧ Hid (mq = l'.length) ∧ mq ≤ 1000 ∧ Hid (Owns w1 w.heap.size (.slice aq mq cq) (castL l')) ∧ Hid (trimZ l' = trimZ now) ∧ wr = w1) (fun q _ => lenOf q)
  case atStart =>
    have hz := HNl.out
    refine ⟨now, a1, (castL now).length, m1, hsh, by show _ = _; rw [castL_len], by rw [castL_len]; exact HNl2.out, ?_, rfl, rfl⟩
    show Owns _ _ _ _
    rw [← hsh]; exact HO1.out
  case round =>
    obtain ⟨l', aq, mq, cq, rfl, HMq, hmq, HOq, HTq, hwr⟩ := hrel
    obtain rfl := hwr
    have HFin : trimZ l' = l' → Hid (Owns wr w.heap.size (.slice aq mq cq) (castL (trimZ now))) := fun e => by show Owns _ _ _ _; rw [← HTq.out, e]; exact HOq.out
    rcases Nat.eq_zero_or_pos mq with h0 | h0
    · have hl0 : l' = [] := List.eq_nil_of_length_eq_zero (by rw [← HMq.out]; exact h0)
      have HF := HFin (by rw [hl0]; rfl)
      subst h0
      clear HFin hl0 HMq HOq HTq
      go_wp2_with (at_builtin; refine append_one elem_row (x := .slice aq 0 cq) rfl _ _ rfl rfl rfl rfl HOw.out rfl ?c3 ?c4 ?c5 ?_)
      case c3 => have := HLv.out; unfold maxLen; omega
      case c4 => have := HLv.out; omega
      case c5 => exact Nat.le_trans hBz HB1.out.size
      intro v2 w2 hO2 hb2 hk2
      obtain ⟨d1, d2, d3, a2, m2, k2, rfl⟩ := HEnd2.out _ _ v2 w2 HB1.out HF.out (by simpa using hO2) hb2 hk2
      clear hO2 hb2 hk2
      go_wp2
      all_goals (try simp only [Exit.inBlock, Exit.then])
      all_goals refine bodyPost_ret (results_none rfl _ _ _) rfl ?_
      all_goals exact ⟨rfl, d3.out⟩
    · obtain ⟨l0, x, hlx⟩ : ∃ l0 x, l' = l0 ++ [x] := by
        rcases List.eq_nil_or_concat l' with q | ⟨l0, x, q⟩
        · have := HMq.out; rw [q] at this; simp at this; omega
        · exact ⟨l0, x, by rw [q]; simp⟩
      have hO := HOq.out
      rw [hlx] at hO
      obtain ⟨q, cq', e1, e2, e3, e4⟩ := hO.lastN
      obtain ⟨e, He⟩ : ∃ e, Hid (e = l0.length) := ⟨_, rfl⟩
      rw [← He.out] at e1 e2 e3 e4
      cases e1
      have HO4 : Hid (Owns wr w.heap.size (.slice (some ⟨q, 0, none⟩) e cq) (castL l0)) := e4
      have hsub : IntKind.i64.wrap (((e + 1 : Nat) : Int) - 1) = (e : Int) := by rw [IntWalk.i64_left, IntWalk.wrap64_in _ (by omega)]; omega
      have hle : (e : Int) < ((e + 1 : Nat) : Int) := by omega
      have hle2 : (e : Int) ≤ (cq : Int) := by omega
      have hgt : ((e + 1 : Nat) : Int) > 0 := by omega
      clear hO e4
      by_cases hx0 : x = 0
      · have HT2 : Hid (trimZ l0 = trimZ now) := by show _ = _; rw [← HTq.out, hlx, hx0, trimZ_zero]
        have hxe : ((x : Int) == 0) = true := by rw [hx0]; rfl
        subst hx0
        clear HFin hlx HMq HOq HTq
        go_wp2
        go_roundw
        all_goals first
          | exact ⟨l0, some ⟨q, 0, none⟩, e, cq, rfl, He, by omega, HO4, HT2, trivial⟩
          | (show e < e + 1; omega)
      · have HF := HFin (by rw [hlx]; exact trimZ_end hx0 _)
        have hxe : ((x : Int) == 0) = false := by simp; omega
        have hxn : ¬ ((x : Int) = 0) := by omega
        clear HFin hlx HMq HOq HTq
        go_wp2_with (at_builtin; refine append_one elem_row (x := .slice (some ⟨q, 0, none⟩) (e + 1) cq) rfl _ _ rfl rfl rfl rfl HOw.out rfl ?c3 ?c4 ?c5 ?_)
        case c3 => have := HLv.out; unfold maxLen; omega
        case c4 => have := HLv.out; omega
        case c5 => exact Nat.le_trans hBz HB1.out.size
        intro v2 w2 hO2 hb2 hk2
        obtain ⟨d1, d2, d3, a2, m2, k2, rfl⟩ := HEnd2.out _ _ v2 w2 HB1.out HF.out (by simpa using hO2) hb2 hk2
        clear hO2 hb2 hk2
        go_wp2
        all_goals (try simp only [Exit.inBlock, Exit.then])
        all_goals refine bodyPost_ret (results_none rfl _ _ _) rfl ?_
        all_goals exact ⟨rfl, d3.out⟩

end Go.Proofs.Ytncokoimbpkapaa
