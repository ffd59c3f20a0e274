/-
  The contracts of insert.rowOfGreatest, insert.taken, insert.takenFromRows.
-/
import Derived.Test.YtpbmcaoomcippadILng
import Derived.Test.YtpbmcaoomcippadIKnu
namespace Go.Proofs.Ytpbmcaoomcippad
open Go.RowKit

theorem ownsRow_take {w : World} {lo g n cap k : Nat} {e : TypeId} {xs : List Value} (h : w.ownsRow lo e 1 (.slice (some ⟨g, 0, none⟩) n cap) n xs) (hk : k ≤ n) : w.ownsRow lo e 1 (.slice (some ⟨g, 0, none⟩) k cap) k (xs.take k) := by
  obtain ⟨h1, h2⟩ := h
  rcases h2 with ⟨h2, _⟩ | ⟨g', cap', cur, hv, hg, hh, h4, h5, h6, h7⟩
  · cases h2
  · simp only [Value.slice.injEq, Option.some.injEq, Addr.mk.injEq, and_true, true_and] at hv
    obtain ⟨rfl, rfl⟩ := hv
    refine ⟨by simp at h1 ⊢; omega, Or.inr ⟨g, cap, cur, rfl, hg, hh, by omega, h5, h6, ?_⟩⟩
    rw [← h7, List.take_take]; congr 1; omega
theorem ownsRow_cap {w : World} {lo g n cap : Nat} {e : TypeId} {xs : List Value} (h : w.ownsRow lo e 1 (.slice (some ⟨g, 0, none⟩) n cap) n xs) : n ≤ cap ∧ cap ≤ maxLen := by
  rcases h.2 with ⟨h2, _⟩ | ⟨g', cap', cur, hv, hg, hh, h4, h5, h6, h7⟩
  · cases h2
  · simp only [Value.slice.injEq, Option.some.injEq, Addr.mk.injEq, and_true, true_and] at hv
    obtain ⟨rfl, rfl⟩ := hv
    exact ⟨h4, h5⟩
theorem Owns.front {w : World} {lo h m ch : Nat} {zs : List Int} (ho : Owns w lo (.slice (some ⟨h, 0, none⟩) m ch) zs) (hm : m = zs.length) (hp : 0 < m) : Owns w lo (.slice (some ⟨h, 0, none⟩) (m - 1) ch) zs.dropLast := by
  subst hm
  unfold Owns at ho ⊢
  have := ownsRow_take (k := zs.length - 1) ho (by omega)
  rw [List.length_dropLast, List.dropLast_eq_take, List.map_take]
  exact this

/-- Only a prefix of the rows. -/
theorem TblIn.take {w : World} {lo g n cap k : Nat} {S : Nat → Prop} {vs : List Value} {ls : List (List Int)} (h : TblIn w lo S (.slice (some ⟨g, 0, none⟩) n cap) vs ls) (hn : n = ls.length) (hk : k ≤ ls.length) : TblIn w lo S (.slice (some ⟨g, 0, none⟩) k cap) (vs.take k) (ls.take k) := by
  have hlen := h.t.len
  have hrv : ∀ i, i < k → rowv (vs.take k) i = rowv vs i := fun i hi => by unfold rowv; simp [List.getD, hi]
  have hrl : ∀ i, i < k → (ls.take k).getD i [] = ls.getD i [] := fun i hi => by simp [List.getD, hi]
  have hkl : (ls.take k).length = k := by rw [List.length_take]; omega
  have ho := h.t.own
  rw [hlen, ← hn] at ho
  refine ⟨⟨?_, by simp [hlen], fun i hi => ?_, fun i j hi hj hij => ?_, fun i hi => ?_⟩, fun q e => h.hd q e, fun i hi q e => ?_⟩
  · have := ownsRow_take (k := k) ho (by omega)
    rw [show (vs.take k).length = k by rw [List.length_take]; omega]; exact this
  · rw [hkl] at hi
    rw [hrv i hi, hrl i hi]; exact h.t.rows i (by omega)
  · rw [hkl] at hi hj
    rw [hrv i hi, hrv j hj]; exact h.t.apart i j (by omega) (by omega) hij
  · rw [hkl] at hi
    rw [hrv i hi]; exact fun q e1 e2 => h.t.off i (by omega) q e1 e2
  · rw [hkl] at hi
    rw [hrv i hi] at e; exact h.rs i (by omega) q e

set_option maxHeartbeats 2000000 in
theorem rowOfGreatest_at (a : Option Addr) (n cap : Nat) (ls : List (List Int)) (w : World) (hs : Table w a ls) (hn : n = ls.length) (hl : ls.length ≤ 1000) (hp : ∀ r ∈ ls, 0 < r.length ∧ r.length ≤ 1000) (h1 : ∀ z ∈ ls.flatten, 1 ≤ z ∧ z ≤ 99) :
    Calls Try.prog 68 #[.slice a n cap] w fun e w' => e = .returned (.int .i64 (top ls : Nat)) ∧ w' = w := by
  subst hn
  have HS : Hid (Table w a ls) := hs
  have HP : Hid (∀ r ∈ ls, 0 < r.length ∧ r.length ≤ 1000) := hp
  have H1 : Hid (∀ z ∈ ls.flatten, 1 ≤ z ∧ z ≤ 99) := h1
  clear hs hp h1
  go_enter Try.func68, Try.ntmps68
  go_wp2
  go_loop [3, 4, 10] (fun gv av q => ∃ (k j : Nat) (g : Int), k ≤ ls.length ∧ q = .int .i64 k ∧ gv = .int .i64 g ∧ av = .int .i64 j ∧ Hid (k = 0 → g = 0 ∧ j = 0) ∧ Hid (0 < k → j < k ∧ g = lastOf (row ls j) ∧ ∀ b, b < k → lastOf (row ls b) ≤ g ∧ (b < j → lastOf (row ls b) < g))) (fun _ _ q => ls.length - (intOf q).toNat)
  case atStart => exact ⟨0, 0, 0, Nat.zero_le _, rfl, rfl, rfl, fun _ => ⟨rfl, rfl⟩, fun h => by omega⟩
  case round =>
    obtain ⟨k, j, g, hk, rfl, rfl, rfl, HZ0, HI⟩ := hrel
    by_cases hlt : k < ls.length
    · have hlt' : (k : Int) < (ls.length : Int) := by omega
      obtain ⟨b, off, ai, m, ci, rfl, hc, HM, HSk, -, hmb⟩ := HS.out.elem hlt
      have hrp := HP.out _ (row_mem hlt)
      obtain ⟨e, He⟩ : ∃ e, Hid (m = e + 1) := ⟨m - 1, by show _ = _; have h2 : 0 < (row ls k).length := hrp.1; rw [← HM.out] at h2; omega⟩
      have hm1000 : e + 1 ≤ 1000 := by rw [← He.out, HM.out]; exact hrp.2
      have hm := He.out
      subst hm
      have hek : e < (row ls k).length := by rw [← HM.out]; omega
      obtain ⟨b2, off2, z, rfl, HZ, -, -, hcz⟩ := HSk.out.elem hek
      have HL : Hid (z = lastOf (row ls k)) := by show _ = _; rw [HZ.out]; unfold lastOf; rw [← HM.out]; simp
      have hz1 : 1 ≤ z := by rw [HZ.out]; exact (H1.out _ (box_mem hlt hek)).1
      have hsub : IntKind.i64.wrap (((e + 1 : Nat) : Int) - 1) = (e : Int) := by rw [IntWalk.i64_left, IntWalk.wrap64_in _ (by omega)]; omega
      have hle : (e : Int) < ((e + 1 : Nat) : Int) := by omega
      clear hrp hek HZ He
      by_cases hgt : z > g
      · have HG : Hid (z > g) := hgt
        go_wp2
        go_round
        case rel =>
          refine ⟨k + 1, k, z, by omega, by go_num, rfl, rfl, fun h => by omega, fun _ => ⟨by omega, HL.out, fun b hb => ?_⟩⟩
          by_cases e2 : b = k
          · subst e2; exact ⟨by rw [HL.out]; exact Int.le_refl _, fun h => by omega⟩
          · have := HI.out (by omega)
            have q := (this.2.2 b (by omega)).1
            have := HG.out
            exact ⟨by omega, fun _ => by omega⟩
        case measure => simp [intOf]; omega
      · have HG : Hid (¬ z > g) := hgt
        have hk0 : 0 < k := Nat.pos_of_ne_zero (fun h => by have := HZ0.out h; omega)
        go_wp2
        go_round
        case rel =>
          refine ⟨k + 1, j, g, by omega, by go_num, rfl, rfl, fun h => by omega, fun _ => ?_⟩
          obtain ⟨i1, i2, i3⟩ := HI.out hk0
          refine ⟨by omega, i2, fun b hb => ?_⟩
          by_cases e2 : b = k
          · subst e2; rw [← HL.out]; have := HG.out; exact ⟨by omega, fun h => by omega⟩
          · exact i3 b (by omega)
        case measure => simp [intOf]; omega
    · obtain rfl : k = ls.length := by omega
      have HE : Hid (top ls = j) := by
        show _ = _
        rcases Nat.eq_zero_or_pos ls.length with h0 | h0
        · have := HZ0.out h0
          rw [List.eq_nil_of_length_eq_zero h0]; simp [top, this.2]
        · obtain ⟨i1, i2, i3⟩ := HI.out h0
          exact (top_is h0).uniq ⟨i1, fun b hb => by rw [← i2]; exact (i3 b hb).1, fun b hb => by rw [← i2]; exact (i3 b (by omega)).2 hb⟩
      go_wp2
      go_ret
      exact ⟨ret_int (by rw [HE.out]), rfl⟩
set_option maxHeartbeats 2000000 in
theorem taken_at {ls : List (List Int)} {lo : Nat} {S : Nat → Prop} (v : Value) (i : Nat) (w : World) (hT : TIn w lo S v ls) (hi : i < ls.length) (hl : ls.length ≤ 1000) (hp : ∀ r ∈ ls, 0 < r.length ∧ r.length ≤ 1000) :
    Calls Try.prog 69 #[v, .int .i64 i] w fun e w' => ∃ v', e = .returned (.tuple #[.int .i64 (lastOf (row ls i)), v']) ∧ TIn w' lo S v' (tk ls i) ∧ Off S w w' ∧ w'.heap.size = w.heap.size := by
  obtain ⟨vs, hV⟩ := hT
  have HV : Hid (TblIn w lo S v vs ls) := hV
  obtain ⟨g, n, cap, hsv, HN, hg1, hg2, hfg, hcells⟩ := hV.t.head (by omega)
  subst hsv
  have hn := HN.out
  have hi' : (i : Int) < (n : Int) := by omega
  have hci := hcells i hi
  have hfi := hfg i
  have hrp := hp _ (row_mem hi)
  obtain ⟨h, ch, hrv, hh1, hh2, hhf, hhc⟩ := (hV.t.rows i hi).head hrp.1
  obtain ⟨e, He⟩ : ∃ e, Hid (e + 1 = (row ls i).length) := ⟨(row ls i).length - 1, by show _ = _; have h2 : 0 < (row ls i).length := hrp.1; omega⟩
  have he1 : e + 1 ≤ 1000 := by rw [He.out]; exact hrp.2
  have hrv' : rowv vs i = .slice (some ⟨h, 0, none⟩) (e + 1) ch := by rw [hrv, He.out]; rfl
  rw [hrv'] at hci
  have hrow := hV.t.rows i hi
  rw [hrv'] at hrow
  have hcape : e + 1 ≤ ch := by
    have := ownsRow_cap (n := e + 1) (xs := (row ls i).map (Value.int .i64)) (by unfold Owns at hrow; rw [show (ls.getD i []).length = e + 1 from He.out.symm] at hrow; exact hrow)
    exact this.1
  have hcapg : n ≤ cap := by
    have := hV.t.own
    rw [hV.t.len, ← hn] at this
    exact (ownsRow_cap this).1
  have hce : w.cell? ⟨h, e, none⟩ = some (.int .i64 (lastOf (row ls i))) := by
    rw [hhc e (by rw [show (ls.getD i []).length = e + 1 from He.out.symm]; omega)]
    unfold lastOf; rw [← He.out]; simp; rfl
  have hsub : IntKind.i64.wrap (((e + 1 : Nat) : Int) - 1) = (e : Int) := by rw [IntWalk.i64_left, IntWalk.wrap64_in _ (by omega)]; omega
  have hle : (e : Int) < ((e + 1 : Nat) : Int) := by omega
  have hle2 : (e : Int) ≤ (ch : Int) := by omega
  have hig : (i : Int) ≤ (cap : Int) := by omega
  -- the row cut
  have hO2 : Owns w lo (.slice (some ⟨h, 0, none⟩) e ch) (row ls i).dropLast := by
    have := hrow.front He.out (by omega)
    rw [Nat.add_sub_cancel] at this
    exact this
  have hk : KeepB (rowv vs i) (.slice (some ⟨h, 0, none⟩) e ch) w w := ⟨Nat.le_refl _, fun _ _ _ => rfl, fun q e2 => by rw [hrv']; exact Or.inl e2⟩
  obtain ⟨p1, p2⟩ := hV.setRow hi hO2 hk
  have HP1 : Hid (TblIn (w.setCell ⟨g, i, none⟩ (.slice (some ⟨h, 0, none⟩) e ch)) lo S (.slice (some ⟨g, 0, none⟩) n cap) (vs.set i (.slice (some ⟨h, 0, none⟩) e ch)) (ls.set i (row ls i).dropLast)) :=
    ⟨p1.t, hV.hd, fun j hj k ek => by
      rcases p1.rs j hj k ek with q | q
      · exact q
      · omega⟩
  have HO : Hid (Off S w (w.setCell ⟨g, i, none⟩ (.slice (some ⟨h, 0, none⟩) e ch))) := (Off.refl S w).setCell (hV.hd g rfl) _
  obtain ⟨x, HX⟩ : ∃ x, Hid (x = lastOf (row ls i)) := ⟨_, rfl⟩
  rw [← HX.out] at hce
  have HIl : Hid (i < ls.length) := hi
  clear hV hrv hrv' hrow hrp hcells hfg hhf hhc hO2 hk p1 p2 hp
  rw [← HX.out]
  by_cases he0 : e = 0
  · have HT2 : Hid (TIn (w.setCell ⟨g, i, none⟩ (.slice (some ⟨h, 0, none⟩) e ch)) lo S (.slice (some ⟨g, 0, none⟩) i cap) (tk ls i)) := by
      have := HP1.out.take (k := i) (by rw [List.length_set]; exact HN.out) (by rw [List.length_set]; exact Nat.le_of_lt HIl.out)
      rw [List.take_set_of_le (l := ls) (Nat.le_refl _)] at this
      show TIn _ _ _ _ _
      unfold tk
      rw [if_pos (by rw [← He.out]; omega)]
      exact ⟨_, this⟩
    subst he0
    go_enter Try.func69, Try.ntmps69
    go_wp2
    go_ret2
    exact ⟨_, rfl, HT2.out, HO.out, by simp⟩
  · have hb0 : ((e : Int) == 0) = false := by simp; omega
    have HT2 : Hid (TIn (w.setCell ⟨g, i, none⟩ (.slice (some ⟨h, 0, none⟩) e ch)) lo S (.slice (some ⟨g, 0, none⟩) n cap) (tk ls i)) := by
      show TIn _ _ _ _ _
      unfold tk
      rw [if_neg (by rw [← He.out]; omega)]
      exact ⟨_, HP1.out⟩
    clear he0
    go_enter Try.func69, Try.ntmps69
    go_wp2
    go_ret2
    exact ⟨_, rfl, HT2.out, HO.out, by simp⟩

end Go.Proofs.Ytpbmcaoomcippad
