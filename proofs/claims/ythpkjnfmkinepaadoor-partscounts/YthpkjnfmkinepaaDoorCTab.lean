/-
  A table of pointers to numbers; the contract of ferref.Partitions.
-/
import Derived.Test.YthpkjnfmkinepaaDoorABigB
import Derived.Test.YthpkjnfmkinepaaDoorABigC
import Derived.Test.YthpkjnfmkinepaaDoorCCnt
namespace Go.Proofs.YthpkjnfmkinepaaDoor
open Go.RowKit

theorem Tryd.infoP : (Tryd.prog.info? 39).map (fun i => (i.zero, i.size, i.bytes)) = some (some (.pointer none), 1, 8) := by kernel_rfl
def bp (p : Nat) : Value := .pointer (some ⟨p, 0, none⟩)
/-- The table in the making: N places, i of them taken. -/
structure PT0 (w : World) (T S N i : Nat) : Prop where
  lt : T < S
  size : w.heap.size = S + i
  row : w.ownsRow T 39 1 (.slice (some ⟨T, 0, none⟩) N N) N ((List.range N).map fun j => if j < i then bp (S + j) else .pointer none)
  num : ∀ j, j < i → w.heap[S + j]? = some (.cells #[.bool false, .slice none 0 0] 42 (0, 0))
/-- The table: place j points to the number f j. -/
structure PT (w : World) (T S N : Nat) (f : Nat → Nat) : Prop where
  lt : T < S
  size : S + N ≤ w.heap.size
  row : w.ownsRow T 39 1 (.slice (some ⟨T, 0, none⟩) N N) N ((List.range N).map fun j => bp (S + j))
  num : ∀ j, j < N → ∃ v us, IntAt w (S + N) (S + j) v us (f j)

theorem PT.cell {w : World} {T S N : Nat} {f : Nat → Nat} (h : PT w T S N f) {j : Nat} (hj : j < N) : w.cell? ⟨T, j, none⟩ = some (bp (S + j)) := by
  rw [World.ownsRow.cellAt h.row j (by omega)]
  simp [hj]
theorem PT0.cell {w : World} {T S N i : Nat} (h : PT0 w T S N i) (hi : i < N) : w.frozen? ⟨T, i, none⟩ = false ∧ w.cell? ⟨T, i, none⟩ = some (.pointer none) := by
  refine ⟨World.ownsRow.frozenAt h.row i, ?_⟩
  rw [World.ownsRow.cellAt h.row i (by omega)]
  simp [hi]
theorem PT0.step {w : World} {T S N i : Nat} (h : PT0 w T S N i) (hi : i < N) : PT0 ((w.alloc (.cells #[.bool false, .slice none 0 0] 42)).setCell ⟨T, i, none⟩ (bp w.heap.size)) T S N (i + 1) := by
  have hT : T < w.heap.size := by have := h.size; have := h.lt; omega
  have hb := Below.heap_alloc w (.cells #[.bool false, .slice none 0 0] 42)
  refine ⟨h.lt, by simp [h.size]; omega, ?_, fun j hj => ?_⟩
  · have h1 : (w.alloc (.cells #[.bool false, .slice none 0 0] 42)).ownsRow T 39 1 (.slice (some ⟨T, 0, none⟩) N N) N ((List.range N).map fun j => if j < i then bp (S + j) else .pointer none) := ownsRow_blocks h.row (fun k e => by
      obtain rfl : T = k := by simpa [Value.ownBlock] using e
      exact hb T hT)
    have h2 := (World.ownsRow.stored h1 i (bp w.heap.size)).1
    have e : (List.range N).map (fun j => if j < i + 1 then bp (S + j) else .pointer none) = ((List.range N).map fun j => if j < i then bp (S + j) else .pointer none).set i (bp w.heap.size) := by
      apply List.ext_getElem
      · simp
      · intro k h3 h4
        simp only [List.getElem_map, List.getElem_range, List.getElem_set]
        by_cases e : i = k
        · subst e; simp [h.size]
        · by_cases e2 : k < i
          · simp [e, e2, Nat.lt_succ_of_lt e2]
          · have : ¬ k < i + 1 := by omega
            simp [e, e2, this]
    rw [e]; exact h2
  · rw [heap_setCell_other _ _ _ _ (show S + j ≠ T by have := h.lt; omega)]
    by_cases e : j = i
    · subst e
      have := heap_alloc_new w (.cells #[.bool false, .slice none 0 0] 42)
      rw [h.size] at this
      exact this
    · rw [hb _ (by have := h.size; omega)]; exact h.num j (by omega)
theorem PT0.full {w : World} {T S N : Nat} (h : PT0 w T S N N) : PT w T S N (fun _ => 0) := by
  refine ⟨h.lt, by have := h.size; omega, ?_, fun j hj => ⟨.slice none 0 0, [], h.num j hj, ⟨World.ownsRow_nil _ _ _ _, num_nil, fun a n c e ha => ?_⟩⟩⟩
  · have := h.row
    rw [List.map_congr_left (g := fun j => bp (S + j)) (fun j hj => by rw [if_pos (List.mem_range.1 hj)])] at this
    exact this
  · simp at e; exact absurd e.1.symm (fun h => ha (by rw [← h]))
theorem PT.congr {w : World} {T S N : Nat} {f g : Nat → Nat} (h : PT w T S N f) (he : ∀ j, j < N → f j = g j) : PT w T S N g :=
  ⟨h.lt, h.size, h.row, fun j hj => by rw [← he j hj]; exact h.num j hj⟩
theorem PT.put {w w' : World} {T S N j x : Nat} {f : Nat → Nat} {v : Value} {us : List Nat} (h : PT w T S N f) (hj : j < N) (hp : Put w w' T (S + j)) (hr : w'.heap[S + j]? = some (.cells #[.bool false, v] 42 (0, 0))) (ho : OwnsN w' w.heap.size v us x) :
    PT w' T S N (fun i => if i = j then x else f i) := by
  have hlt := h.lt
  have hs := h.size
  have hs2 := hp.below.size
  have hz : w.heap.size ≤ w'.heap.size := by
    rcases Nat.lt_or_ge w'.heap.size w.heap.size with hh | hh
    · exfalso
      by_cases e : w.heap.size - 1 = S + j
      · have := (Array.getElem?_eq_some_iff.1 hr).1; omega
      · have h1 := hp.block (w.heap.size - 1) (by omega) e
        rw [Array.getElem?_eq_none (by omega), Array.getElem?_eq_getElem (by omega)] at h1
        cases h1
    · exact hh
  refine ⟨hlt, by omega, ownsRow_blocks h.row (fun k e => ?_), fun i hi => ?_⟩
  · obtain rfl : T = k := by simpa [Value.ownBlock] using e
    exact hp.block T (by omega) (by omega)
  · by_cases e : i = j
    · subst e
      rw [if_pos rfl]
      exact ⟨v, us, hr, ho.mono h.size⟩
    · rw [if_neg e]
      obtain ⟨v1, us1, q⟩ := h.num i hi
      refine ⟨v1, us1, ?_, ⟨q.own.own.blocks (fun k e2 => ?_), q.own.num, q.own.room⟩⟩
      · rw [hp.block _ (by omega) (by omega)]; exact q.row
      · have := q.own.own.lt e2
        exact hp.block k this.2 (by omega)
theorem PT.drew {w : World} {T S N : Nat} {f : Nat → Nat} (h : PT w T S N f) : PT w.drew T S N f :=
  ⟨h.lt, h.size, ownsRow_blocks h.row (fun _ _ => rfl), fun j hj => by
    obtain ⟨v, us, q⟩ := h.num j hj
    exact ⟨v, us, q.row, ⟨q.own.own.blocks (fun _ _ => rfl), q.own.num, q.own.room⟩⟩⟩

/-- One step of the table: number s and number t are added into number s. -/
theorem PT.add {w : World} {T S N s t : Nat} {f : Nat → Nat} (h : PT w T S N f) (hs : s < N) (ht : t < N) (hf : ∀ j, j < N → f j < 9223372036854775808) :
    Calls Tryd.prog 13 #[bp (S + s), bp (S + s), bp (S + t)] w fun e w' => e = .returned (bp (S + s)) ∧ PT w' T S N (fun i => if i = s then f s + f t else f i) ∧ Below T w w' := by
  obtain ⟨vx, xs, hx⟩ := h.num s hs
  obtain ⟨vy, ys, hy⟩ := h.num t ht
  have l1 := num_len (k := 2) hx.own.num (by have := hf s hs; omega)
  have l2 := num_len (k := 2) hy.own.num (by have := hf t ht; omega)
  refine (BAdd_at (S + s) (S + s) (S + t) (S + N) T false vx vx vy xs ys (f s) (f t) w hx hy hx.row (by have := h.lt; omega) (by omega)).mono ?_
  rintro e w' ⟨v, us, rfl, h1, h2, h3⟩
  exact ⟨rfl, h.put hs h3 h1 h2, h3.below⟩

theorem dig_len {x : Nat} (h : x < 9223372036854775808) : (dig x).length ≤ 1000000 := by
  unfold dig
  split
  · simp
  · rw [Lib.decDigits_length]
    have hu1 : 1 ≤ x := by omega
    have := Lib.numDigits_eq x hu1 (by omega)
    split at this <;> omega

theorem PT.one {w : World} {T S N : Nat} (h : PT w T S N (fun _ => 0)) (hN : 0 < N) :
    Calls Tryd.prog 12 #[bp S, .int .i64 1] w fun e w' => e = .returned (bp S) ∧ PT w' T S N (dp 0) ∧ Below T w w' := by
  obtain ⟨v, us, hx⟩ := h.num 0 hN
  refine (BSet_at S T false v 1 w hx.row (by have := h.lt; omega) (by omega)).mono ?_
  rintro e w' ⟨v, us, rfl, h1, h2, h3⟩
  exact ⟨rfl, (h.put hN h3 h1 h2).congr (fun j _ => rfl), h3.below⟩
theorem PT.text {w : World} {T S N j : Nat} {f : Nat → Nat} (h : PT w T S N f) (hj : j < N) (hf : f j < 9223372036854775808) :
    Calls Tryd.prog 14 #[bp (S + j)] w fun e w' => e = .returned (.string ⟨(Lib.decDigits (f j)).toArray⟩) ∧ Below w.heap.size w w' := by
  obtain ⟨v, us, hx⟩ := h.num j hj
  have l1 := num_len (k := 2) hx.own.num (by omega)
  exact BString_at (S + j) _ v us (f j) w hx (by omega) (dig_len hf)

set_option maxHeartbeats 8000000 in
set_option maxRecDepth 100000 in
theorem Partitions_ok (n : Nat) (w : World) (hn : n ≤ 400) :
    Calls Tryd.prog 6 #[.int .i64 (n : Int)] w fun e w' => e = .returned (.string ⟨(Lib.decDigits (dp n n)).toArray⟩) ∧ Below w.heap.size w w' := by
  obtain ⟨N, hN⟩ : ∃ N, N = n + 1 := ⟨_, rfl⟩
  have hN1 : (n : Int) + 1 = (N : Int) := by omega
  have HN : Hid (N = n + 1) := hN
  have h0N : (0 : Int) < (N : Int) := by omega
  clear hN
  obtain ⟨i0, hi, hz0, hz1, hz2⟩ := info_parts Tryd.infoP
  obtain ⟨T, HT⟩ : ∃ T, Hid (T = w.heap.size) := ⟨_, rfl⟩
  go_enter Tryd.func6, Tryd.ntmps6
  go_wp2_with (at_make; refine wpList_make_full _ rfl _ _ 38 rfl w.heap.size 39 i0 (.pointer none) 1 Tryd.underlying38 hi hz0 hz1 _ _ _ _ N rfl rfl rfl rfl ?b1 ?b2 ?b3 ?_)
  case b1 => have := HN.out; first | omega | (rw [hz2]; omega)
  case b2 => have := HN.out; first | omega | (unfold maxLen; omega)
  try (case b3 => exact Nat.le_refl _)
  intro w1 hown hgrow
  have HB1 : Hid (Below T w w1) := by rw [HT.out]; exact (Below.refl _ _).grown hgrow (Nat.le_refl _) (fun k h => by cases h)
  obtain ⟨S, HS⟩ : ∃ S, Hid (S = w1.heap.size) := ⟨_, rfl⟩
  have HP0 : Hid (PT0 w1 T S N 0) := by
    have hl := (World.ownsRow.lt hown w.heap.size (by simp [Value.ownBlock])).2
    have e : (List.range N).map (fun j => if j < 0 then bp (S + j) else Value.pointer none) = (madeCells #[Value.pointer none] N).toList := by
      rw [toList_madeCells_one, List.eq_replicate_iff]
      refine ⟨by simp, fun v hv => ?_⟩
      obtain ⟨j, _, rfl⟩ := List.mem_map.1 hv
      simp
    refine ⟨by rw [HT.out, HS.out]; exact hl, HS.out.symm, ?_, fun j hj => absurd hj (by omega)⟩
    rw [e, HT.out]
    simpa [Value.cells] using hown
  rw [← HT.out]
  clear hown hgrow
  go_wp2
  go_loopw [4] (fun i wr => ∃ p : Nat, p ≤ N ∧ i = .int .i64 (p : Int) ∧ Hid (PT0 wr T S N p) ∧ Hid (Below T w wr)) (fun i _ => N - (intOf i).toNat)
  case atStart => exact ⟨0, Nat.zero_le _, rfl, HP0, HB1⟩
  case round =>
    obtain ⟨p, hp, rfl, HP, HB⟩ := hrel
    by_cases hpn : p ≤ n
    · have hpn' : (p : Int) ≤ (n : Int) := by omega
      have hpN : (p : Int) < (N : Int) := by have := HN.out; omega
      obtain ⟨hf, hc⟩ := HP.out.cell (by have := HN.out; omega)
      have hTl : T < wr.heap.size := by have := HP.out.size; have := HP.out.lt; omega
      have hf2 : (wr.alloc (.cells #[.bool false, .slice none 0 0] 42)).frozen? ⟨T, p, none⟩ = false := by
        rw [← hf]; unfold World.frozen?; rw [Below.heap_alloc _ _ _ hTl]
      have hc2 : (wr.alloc (.cells #[.bool false, .slice none 0 0] 42)).cell? ⟨T, p, none⟩ = some (.pointer none) := by
        rw [← hc]; unfold World.cell?; rw [Below.heap_alloc _ _ _ hTl]
      have HP2 : Hid (PT0 ((wr.alloc (.cells #[.bool false, .slice none 0 0] 42)).setCell ⟨T, p, none⟩ (.pointer (some ⟨wr.heap.size, 0, none⟩))) T S N (p + 1)) := HP.out.step (by have := HN.out; omega)
      have HB2 : Hid (Below T w ((wr.alloc (.cells #[.bool false, .slice none 0 0] 42)).setCell ⟨T, p, none⟩ (.pointer (some ⟨wr.heap.size, 0, none⟩)))) := (HB.out.alloc (by omega) _).setCell (p := ⟨T, p, none⟩) (Nat.le_refl _) _
      clear hf hc hTl
      go_wp2
      go_roundw
      case rel => exact ⟨p + 1, by have := HN.out; omega, by go_num, HP2, HB2⟩
      case measure => simp [intOf]; omega
    · have hpn' : ¬ (p : Int) ≤ (n : Int) := by omega
      obtain rfl : p = N := by have := HN.out; omega
      have HF : Hid (PT wr T S p (fun _ => 0)) := HP.out.full
      have hc0 : wr.cell? ⟨T, 0, none⟩ = some (.pointer (some ⟨S, 0, none⟩)) := HF.out.cell (by omega)
      clear HP
      go_wp2_with fail
      refine (HF.out.one (by omega)).mono ?_
      rintro e w2 ⟨rfl, h1, h2⟩
      have HP2 : Hid (PT w2 T S p (dp 0)) := h1
      have HB2 : Hid (Below T w w2) := HB.out.trans h2
      clear h1 h2 hc0 HF HB hpn hpn' hp
      go_wp2
      go_loopw [5] (fun i wr => ∃ q : Nat, q ≤ n ∧ i = .int .i64 ((q : Int) + 1) ∧ Hid (PT wr T S p (dp q)) ∧ Hid (Below T w wr)) (fun i _ => n + 1 - (intOf i).toNat)
      case atStart => exact ⟨0, Nat.zero_le _, rfl, HP2, HB2⟩
      case round =>
        obtain ⟨q, hq, rfl, HP, HB⟩ := hrel
        by_cases hqn : q < n
        · obtain ⟨k, hk⟩ : ∃ k, k = q + 1 := ⟨_, rfl⟩
          have hk1 : (q : Int) + 1 = (k : Int) := by omega
          have HK : Hid (k = q + 1) := hk
          have hkn : (k : Int) ≤ (n : Int) := by omega
          have HPm : Hid (PT wr T S p (mid q k)) := HP.out.congr (fun j _ => by rw [hk, mid_start])
          have hkn2 : k ≤ n := by omega
          rw [hk1]
          clear hk hk1
          go_wp2
          go_loopw [6] (fun i wr => ∃ s : Nat, k ≤ s ∧ s ≤ p ∧ i = .int .i64 s ∧ Hid (PT wr T S p (mid q s)) ∧ Hid (Below T w wr)) (fun i _ => p - (intOf i).toNat)
          case atStart => exact ⟨k, Nat.le_refl _, by have := HN.out; omega, rfl, HPm, HB⟩
          case round =>
            obtain ⟨s, hks, hsN, rfl, HPs, HBs⟩ := hrel
            by_cases hsn : s ≤ n
            · have hsn' : (s : Int) ≤ (n : Int) := by omega
              have hsN2 : (s : Int) < (p : Int) := by have := HN.out; omega
              obtain ⟨t, ht⟩ : ∃ t, t = s - k := ⟨_, rfl⟩
              have ht1 : (s : Int) - (k : Int) = (t : Int) := by omega
              have htN : (t : Int) < (p : Int) := by omega
              have hwt : IntKind.i64.wrap (t : Int) = (t : Int) := by rw [IntKind.wrap_i64]; omega
              have hws : IntKind.i64.wrap ((s : Int) - (k : Int)) = (t : Int) := by rw [IntKind.wrap_i64]; omega
              have hcs : wr.cell? ⟨T, s, none⟩ = some (.pointer (some ⟨S + s, 0, none⟩)) := HPs.out.cell (by have := HN.out; omega)
              have hct : wr.cell? ⟨T, t, none⟩ = some (.pointer (some ⟨S + t, 0, none⟩)) := HPs.out.cell (by have := HN.out; omega)
              have HC : Hid (Calls Tryd.prog 13 #[.pointer (some ⟨S + s, 0, none⟩), .pointer (some ⟨S + s, 0, none⟩), .pointer (some ⟨S + t, 0, none⟩)] wr.drew fun e w' => e = .returned (.pointer (some ⟨S + s, 0, none⟩)) ∧ Hid (PT w' T S p (mid q (s + 1))) ∧ Hid (Below T w w')) := by
                refine (HPs.out.drew.add (s := s) (t := t) (by have := HN.out; omega) (by have := HN.out; omega) (fun j hj => mid_bd (by omega) (by have := HN.out; omega))).mono ?_
                rintro e w' ⟨rfl, h1, h2⟩
                exact ⟨rfl, h1.congr (fun j _ => by rw [ht, HK.out]; exact mid_step (by have := HK.out; omega)), HBs.out.drew.trans h2⟩
              clear ht
              go_wp2_with fail
              go_region_with (go_at_call 13; with_reducible (refine HC.out.mono ?_); rintro e W1 ⟨rfl, h1, h2⟩)
              all_goals (
                go_wp2
                go_roundw
                case rel => exact ⟨s + 1, by omega, by have := HN.out; omega, by go_num, h1, h2⟩
                case measure => have := HN.out; simp [intOf]; omega)
            · have hsn' : ¬ (s : Int) ≤ (n : Int) := by omega
              obtain rfl : s = p := by have := HN.out; omega
              have HE : Hid (PT wr T S s (dp k)) := HPs.out.congr (fun j hj => by unfold mid; rw [if_pos hj, HK.out])
              go_wp2
              go_roundw
              case rel => exact ⟨k, by omega, by go_num, HE, HBs⟩
              case measure => have := HK.out; simp [intOf]; omega
        · obtain rfl : q = n := by omega
          have hpn' : ¬ (q : Int) + 1 ≤ (q : Int) := by omega
          have hpN : (q : Int) < (p : Int) := by have := HN.out; omega
          have hcz : wr.cell? ⟨T, q, none⟩ = some (.pointer (some ⟨S + q, 0, none⟩)) := HP.out.cell (by have := HN.out; omega)
          have HX : Hid (Calls Tryd.prog 14 #[.pointer (some ⟨S + q, 0, none⟩)] wr fun e w' => e = .returned (.string ⟨(Lib.decDigits (dp q q)).toArray⟩) ∧ Below T w w') := by
            have hb := dp_le (k := q) (s := q) hn hn
            have hl := last_lt
            refine (HP.out.text (by have := HN.out; omega) (by omega)).mono ?_
            rintro e w' ⟨rfl, h2⟩
            exact ⟨rfl, HB.out.trans (h2.mono (by have := HP.out.size; have := HP.out.lt; omega))⟩
          go_wp2_with fail
          refine HX.out.mono ?_
          rintro e w5 ⟨rfl, hb5⟩
          go_wp2
          go_ret
          exact ⟨rfl, by rw [← HT.out]; exact hb5⟩

end Go.Proofs.YthpkjnfmkinepaaDoor
