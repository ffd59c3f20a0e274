/-
  The contract of ferref.Lists, its walk.
  The contract of ferref.PileSeries.
-/
import Derived.Test.YtbiakncblkjmhaaGreatDoorZLst
import Derived.Test.YtbiakncblkjmhaaGreatDoorARam
import Derived.Test.YtbiakncblkjmhaaGreatDoorDQs
import Derived.Deep.DeepCutAuto
namespace Go.Proofs.YtbiakncblkjmhaaGreatDoor
open Go.RowKit

theorem dec_len_le {x : Nat} (h : x < 10 ^ 200) : (dig x).length ≤ 1000000 := by
  have key : ∀ k x, x < 10 ^ k → (dig x).length ≤ k := by
    intro k
    induction k with
    | zero => intro x hx; have : x = 0 := by omega
              subst this; simp [dig]
    | succ k ih =>
      intro x hx
      rcases Nat.eq_zero_or_pos x with rfl | h0
      · simp [dig]
      · rw [dig_step h0, List.length_append, List.length_singleton]
        have := ih (x / 10) (by rw [Nat.div_lt_iff_lt_mul (by omega), ← Nat.pow_succ]; exact hx)
        omega
  have := key 200 x h
  omega

end Go.Proofs.YtbiakncblkjmhaaGreatDoor

namespace Go.Proofs.YtbiakncblkjmhaaGreatDoor
open Go.RowKit

theorem Tryz.infoSs : (Tryz.prog.info? 9).map (fun i => (i.zero, i.size, i.bytes)) = some (some (.string ⟨#[]⟩), 1, 16) := by kernel_rfl
theorem elem_sts : Elem 34 9 (.string ⟨#[]⟩) 16 := ⟨Tryz.underlying34, Tryz.infoSs, rfl⟩
/-- v owns texts -/
def STs (w : World) (lo : Nat) (v : Value) (n : Nat) (f : Nat → ByteArray) : Prop := w.ownsRow lo 9 1 v ((List.range n).map fun i => Value.string (f i)).length ((List.range n).map fun i => Value.string (f i))
theorem STs.use {w : World} {lo : Nat} {v : Value} {n : Nat} {f : Nat → ByteArray} (h : STs w lo v n f) (h1 : 1 ≤ n) : ∃ g cap, v = .slice (some ⟨g, 0, none⟩) n cap ∧ Hid (∀ W, Below w.heap.size w W → ∀ i, i < n → W.cell? ⟨g, i, none⟩ = some (.string (f i))) := by
  have h0 : w.ownsRow lo 9 1 v n ((List.range n).map fun i => Value.string (f i)) := by
    have h2 : w.ownsRow lo 9 1 v ((List.range n).map fun i => Value.string (f i)).length ((List.range n).map fun i => Value.string (f i)) := h
    simpa using h2
  rcases h0.2 with ⟨hv, hn⟩ | ⟨g, cap, cur, hv, hg, hh, _⟩
  · omega
  · rw [hv] at h0
    refine ⟨g, cap, hv, fun W hW i hi => ?_⟩
    have hlt : g < w.heap.size := (h0.lt g rfl).2
    rw [hW.cell (p := ⟨g, i, none⟩) hlt, World.ownsRow.cellAt h0 i (by omega)]
    simp [hi]

theorem bzMulN {W : World} {lo z p q x y : Nat} {b : Bool} {v0 : Value} (hz : W.heap[z]? = some (.cells #[.bool b, v0] 67 (0, 0))) (hl : lo ≤ z) (hx : Bz W lo p x) (hy : Bz W lo q y) (hzp : z ≠ p) (hzq : z ≠ q) (h1 : x < 10 ^ 200) (h2 : y < 10 ^ 200) :
    Calls Tryz.prog 34 #[.pointer (some ⟨z, 0, none⟩), .pointer (some ⟨p, 0, none⟩), .pointer (some ⟨q, 0, none⟩)] W fun e w' => e = .returned (.pointer (some ⟨z, 0, none⟩)) ∧ Hid (Bz w' lo z (x * y)) ∧ Hid (Put W w' lo z) := by
  have hlo : lo ≤ W.heap.size := by have := (Array.getElem?_eq_some_iff.1 hz).1; omega
  obtain ⟨⟨vx, xs, ax⟩, _⟩ := hx
  obtain ⟨⟨vy, ys, ay⟩, _⟩ := hy
  have b1 := Bz.len ax h1
  have b2 := Bz.len ay h2
  obtain ⟨cx, kx, rfl, hSx⟩ := ax.own.shows (by omega)
  obtain ⟨cy, ky, rfl, hSy⟩ := ay.own.shows (by omega)
  refine (BMulN_at z p q 0 0 lo b v0 cx cy kx ky xs ys x y W ax.cell0 ax.cell1 hSx ax.own.num ay.cell0 ay.cell1 hSy ay.own.num hz hl hzp hzq (by omega)).mono ?_
  rintro e w' ⟨v, us, rfl, r1, r2, r3⟩
  exact ⟨rfl, Bz.of r1 r2 hlo hl, r3⟩

/-- the numbers so far -/
def tS (m : Nat) : Nat := t60.getD m 0
theorem tS_lt {m : Nat} (hm : m ≤ 60) : tS m < 10 ^ 200 := Nat.lt_trans (ser_ok hm).2.1 (by decide +kernel)
theorem smD_lt {m k : Nat} (hm : m ≤ 60) (hk : k ≤ m) : smD t60 m k < 10 ^ 25 := by
  rcases Nat.eq_zero_or_pos m with rfl | h0
  · obtain rfl : k = 0 := by omega
    decide +kernel
  · exact Nat.lt_of_le_of_lt (smD_mono t60 m hk) ((ser_ok hm).2.2 h0).2.2.1
theorem sqD_lt {k d : Nat} (hk : k ≤ 60) (h0 : 0 < k) (hd : d ≤ k) : sqD k d < 10 ^ 5 := Nat.lt_of_le_of_lt (sqD_mono k hd) ((ser_ok hk).2.2 h0).2.2.2.1

/-- The memory of a round: the sum in S, the numbers that are known. -/
structure SrR (w : World) (B S : Nat) (v : Value) (ps : List Nat) (s : Nat) (wq : World) : Prop where
  sum : Bz wq B S s
  old : NumsL wq B S v ps tS
  bel : Below B w wq
theorem SrR.below {w wq w' : World} {B S : Nat} {v : Value} {ps : List Nat} {s : Nat} (h : SrR w B S v ps s wq) (hb : Below wq.heap.size wq w') (hB : B ≤ wq.heap.size) : SrR w B S v ps s w' := ⟨h.sum.below hb, h.old.below hb, h.bel.trans (hb.mono hB)⟩

set_option maxHeartbeats 8000000 in
set_option maxRecDepth 100000 in
theorem PileSeries_at (n : Nat) (w : World) (hn : n ≤ 60) :
    Calls Tryz.prog 14 #[.int .i64 (n : Int)] w fun e w' => ∃ v, e = .returned v ∧ Hid (STs w' w.heap.size v (n + 1) fun i => ⟨(Lib.decDigits (tS i)).toArray⟩) ∧ Hid (Below w.heap.size w w') := by
  obtain ⟨B, HB0⟩ : ∃ B, Hid (B = w.heap.size) := ⟨_, rfl⟩
  rw [← HB0.out]
  have HN1 : Hid (Calls Tryz.prog 32 #[.int .i64 1] w fun e w' => e = .returned (.pointer (some ⟨B, 0, none⟩)) ∧ Hid (Bz w' B B 1) ∧ Hid (Below B w w')) := by
    rw [HB0.out]; exact bzNew (x := 1) (by omega)
  have HNew : Hid (∀ (W : World) (x : Nat), x ≤ 1000000 → B ≤ W.heap.size → Calls Tryz.prog 32 #[.int .i64 (x : Int)] W fun e w' => e = .returned (.pointer (some ⟨W.heap.size, 0, none⟩)) ∧ Hid (Bz w' B W.heap.size x) ∧ Hid (Below W.heap.size W w')) := fun W x hx hB => by
    refine (bzNew (W := W) (x := x) (by omega)).mono ?_
    rintro e w' ⟨rfl, h1, h2⟩
    exact ⟨rfl, h1.out.mono hB, h2⟩
  go_enter Tryz.func14, Tryz.ntmps14
  go_wp2_with fail
  refine HN1.out.mono ?_
  rintro e w1 ⟨rfl, HR1, HB1⟩
  clear HN1
  have HsB1 : Hid (B ≤ w1.heap.size) := by have := HB1.out.size; rw [← HB0.out] at this; exact this
  have HB2 : Hid (Below B w (w1.alloc (.cells #[ptV B] 62))) := HB1.out.alloc HsB1.out _
  have HL2 : Hid (NumsL (w1.alloc (.cells #[ptV B] 62)) B (w1.heap.size + 1) (.slice (some ⟨w1.heap.size, 0, none⟩) 1 1) [B] tS) := by
    refine ⟨⟨by simp, Or.inr ⟨w1.heap.size, 1, #[ptV B], rfl, HsB1.out, heap_alloc_new _ _, Nat.le_refl _, by unfold maxLen; omega, rfl, rfl⟩⟩, fun i hi => ?_, fun i hi => ?_⟩
    · obtain rfl : i = 0 := by simpa using hi
      exact HR1.out.below ((Below.refl _ _).alloc (Nat.le_refl _) _)
    · obtain rfl : i = 0 := by simpa using hi
      have := HR1.out.lt
      show B < _
      omega
  clear HR1 HB1
  go_wp2
  go_loopw [3, 4] (fun v q wr => ∃ M : Nat, 1 ≤ M ∧ M ≤ n + 1 ∧ q = .int .i64 (M : Int) ∧ ∃ ps, Hid (ps.length = M) ∧ Hid (NumsL wr B wr.heap.size v ps tS) ∧ Hid (Below B w wr)) (fun _ q _ => n + 1 - (intOf q).toNat)
  case atStart => exact ⟨1, by omega, by omega, rfl, [B], rfl, HL2.out.up (by simp), HB2⟩
  case round =>
    clear HL2 HB2
    obtain ⟨m, hm1, hm, rfl, ps, HPl, HL, HB⟩ := hrel
    have HsB : Hid (B ≤ wr.heap.size) := by have := HB.out.size; rw [← HB0.out] at this; exact this
    by_cases hMn : m ≤ n
    · have hMn' : (m : Int) ≤ (n : Int) := by omega
      have hm60 : m ≤ 60 := by omega
      obtain ⟨S, HS9⟩ : ∃ S, Hid (S = wr.heap.size) := ⟨_, rfl⟩
      have HA : Hid (Below wr.heap.size wr (wr.alloc (.cells #[.bool false, .slice none 0 0] 67))) := (Below.refl _ _).alloc (Nat.le_refl _) _
      have HR1 : Hid (SrR w B S u3 ps (smD t60 m 0) (wr.alloc (.cells #[.bool false, .slice none 0 0] 67))) := by
        rw [HS9.out]
        exact ⟨bzZero wr B HsB.out, HL.out.below HA.out, HB.out.trans (HA.out.mono HsB.out)⟩
      have hps : 0 < ps.length := by rw [HPl.out]; omega
      obtain ⟨g, cap, hv, -⟩ := HL.out.at hps
      rw [HPl.out] at hv
      subst hv
      clear hps HL HA HB
      go_wp2_with fail
      rw [← HS9.out]
      go_loopw [6] (fun q wq => ∃ k : Nat, 1 ≤ k ∧ k ≤ m + 1 ∧ q = .int .i64 (k : Int) ∧ Hid (SrR w B S (.slice (some ⟨g, 0, none⟩) m cap) ps (smD t60 m (k - 1)) wq)) (fun q _ => m + 1 - (intOf q).toNat)
      case atStart => exact ⟨1, by omega, by omega, rfl, HR1⟩
      case round =>
        clear HR1 HsB HS9
        obtain ⟨k, hk1, hk, rfl, HR⟩ := hrel
        have HsB : Hid (B ≤ wr.heap.size) := by have := HR.out.bel.size; rw [← HB0.out] at this; exact this
        by_cases hkm : k ≤ m
        · have hkm' : (k : Int) ≤ (m : Int) := by omega
          have hk60 : k ≤ 60 := by omega
          obtain ⟨wk, hwk⟩ : ∃ wk, wk = wr := ⟨_, rfl⟩
          subst hwk
          go_wp2_with fail
          go_loopw [7, 8] (fun sv dv wr => ∃ d x : Nat, 1 ≤ d ∧ d ≤ k + 1 ∧ dv = .int .i64 (d : Int) ∧ sv = .int .i64 (x : Int) ∧ Hid (x = sqD k (d - 1)) ∧ wr = wk) (fun _ dv _ => k + 1 - (intOf dv).toNat)
          case atStart => exact ⟨1, 0, by omega, by omega, rfl, rfl, rfl, rfl⟩
          case round =>
            obtain ⟨d, x, hd1, hd, rfl, rfl, HX, hwr⟩ := hrel
            subst hwr
            have hxb : x < 100000 := by
              rw [HX.out]
              exact Nat.lt_of_lt_of_le (sqD_lt hk60 (by omega) (by omega)) (by omega)
            by_cases hdk : d ≤ k
            · have hdk' : (d : Int) ≤ (k : Int) := by omega
              have hd0 : ¬ (d : Int) = 0 := by omega
              have hdd : d * d ≤ 3600 := Nat.mul_le_mul (show d ≤ 60 by omega) (show d ≤ 60 by omega)
              obtain ⟨dd, HDD⟩ : ∃ dd, Hid (dd = d * d) := ⟨_, rfl⟩
              have hmul : (d : Int) * (d : Int) = (dd : Int) := by rw [HDD.out]; simp
              have hddb : dd ≤ 3600 := by rw [HDD.out]; exact hdd
              have hsq : sqD k d = sqD k (d - 1) + (if k % d = 0 then d * d else 0) := by
                obtain ⟨e, rfl⟩ : ∃ e, d = e + 1 := ⟨d - 1, by omega⟩
                rfl
              by_cases hr : k % d = 0
              · have hp1 : ((k : Int) % (d : Int) == 0) = true := by rw [beq_iff_eq]; exact_mod_cast hr
                have hp2 : (Int.tmod (k : Int) (d : Int) == 0) = true := by rw [beq_iff_eq, Int.tmod_eq_emod_of_nonneg (by omega)]; exact_mod_cast hr
                obtain ⟨x2, HX2⟩ : ∃ x2, Hid (x2 = sqD k d) := ⟨_, rfl⟩
                have hx2 : (x : Int) + (dd : Int) = (x2 : Int) := by rw [HX2.out, hsq, if_pos hr, ← HX.out, ← HDD.out]; omega
                clear hsq hr hdd
                go_wp2
                go_roundw
                case rel => exact ⟨d + 1, x2, by omega, by omega, by go_num, by first | rfl | (congr 1; omega), by rw [Nat.add_sub_cancel]; exact HX2, trivial⟩
                case measure => simp [intOf]; omega
              · have hp1 : ((k : Int) % (d : Int) == 0) = false := by rw [beq_eq_false_iff_ne]; exact_mod_cast hr
                have hp2 : (Int.tmod (k : Int) (d : Int) == 0) = false := by rw [beq_eq_false_iff_ne, Int.tmod_eq_emod_of_nonneg (by omega)]; exact_mod_cast hr
                have HX2 : Hid (x = sqD k d) := by show _ = _; rw [hsq, if_neg hr, ← HX.out]; rfl
                clear hsq hr hdd
                go_wp2
                go_roundw
                case rel => exact ⟨d + 1, x, by omega, by omega, by go_num, rfl, by rw [Nat.add_sub_cancel]; exact HX2, trivial⟩
                case measure => simp [intOf]; omega
            · obtain rfl : d = k + 1 := by omega
              have hdk' : ¬ ((k + 1 : Nat) : Int) ≤ (k : Int) := by omega
              have HXk : Hid (x = sqD k k) := by have := HX.out; rw [Nat.add_sub_cancel] at this; exact this
              obtain ⟨q, HQ⟩ : ∃ q : Nat, Hid (q = m - k) := ⟨_, rfl⟩
              have hq : (m : Int) - (k : Int) = (q : Int) := by rw [HQ.out]; omega
              have hqm : (q : Int) < (m : Int) := by rw [HQ.out]; omega
              have hqw : IntKind.i64.wrap ((m : Int) - (k : Int)) = (q : Int) := by rw [IntWalk.i64_left, IntWalk.wrap64_in _ (by omega), hq]
              have hq0 : (0 : Int) ≤ (q : Int) := by omega
              have hqps : q < ps.length := by rw [HPl.out, HQ.out]; omega
              obtain ⟨pk, Hpk⟩ : ∃ pk, Hid (pk = ps.getD q 0) := ⟨_, rfl⟩
              have HCe : Hid (∀ W v s0, SrR w B S v ps s0 W → v = .slice (some ⟨g, 0, none⟩) m cap → W.cell? ⟨g, q, none⟩ = some (.pointer (some ⟨pk, 0, none⟩)) ∧ Bz W B pk (tS q) ∧ pk < S) := fun W v s0 h hv => by
                obtain ⟨g2, c2, e2, hc2⟩ := h.old.at hqps
                rw [hv, HPl.out] at e2
                simp only [Value.slice.injEq, Option.some.injEq, Addr.mk.injEq, and_true, true_and] at e2
                rw [e2.1, Hpk.out]
                exact ⟨hc2, h.old.num q hqps, h.old.top q hqps⟩
              obtain ⟨s0, HS0⟩ : ∃ s0, Hid (s0 = smD t60 m (k - 1)) := ⟨_, rfl⟩
              have HR0 : Hid (SrR w B S (.slice (some ⟨g, 0, none⟩) m cap) ps s0 wr) := by rw [HS0.out]; exact HR.out
              have HSl : Hid (S < wr.heap.size) := HR0.out.sum.lt
              have hx5 : x < 100000 := hxb
              have HT : Hid (x * tS q < 10 ^ 200 ∧ s0 < 10 ^ 200 ∧ s0 + x * tS q = smD t60 m k) := by
                have e : smD t60 m k = smD t60 m (k - 1) + sqD k k * t60.getD (m - k) 0 := by
                  obtain ⟨e, rfl⟩ : ∃ e, k = e + 1 := ⟨k - 1, by omega⟩
                  rfl
                have h1 := smD_lt hm60 hkm
                have h2 : (10 : Nat) ^ 25 ≤ 10 ^ 200 := by decide +kernel
                rw [HXk.out, HS0.out, HQ.out]
                unfold tS
                refine ⟨by omega, by omega, e.symm⟩
              -- the sum, the numbers, a fresh place X and the number x in P
              have HA0 : Below wr.heap.size wr (wr.alloc (.cells #[.bool false, .slice none 0 0] 67)) := (Below.refl _ _).alloc (Nat.le_refl _) _
              have HSt1 : Hid (∀ W X P, (SrR w B S (.slice (some ⟨g, 0, none⟩) m cap) ps s0 W ∧ W.heap[X]? = some (.cells #[.bool false, .slice none 0 0] 67 (0, 0)) ∧ Bz W B P x ∧ X ≠ P ∧ S < X ∧ B ≤ W.heap.size) → Calls Tryz.prog 34 #[.pointer (some ⟨X, 0, none⟩), .pointer (some ⟨P, 0, none⟩), .pointer (some ⟨pk, 0, none⟩)] W fun e w' => e = .returned (.pointer (some ⟨X, 0, none⟩)) ∧ w'.cell? ⟨g, q, none⟩ = some (.pointer (some ⟨pk, 0, none⟩)) ∧ Hid (SrR w B S (.slice (some ⟨g, 0, none⟩) m cap) ps s0 w' ∧ Bz w' B X (x * tS q) ∧ S < X)) := fun W X P ⟨h1, h2, h3, h4, h5, h6⟩ => by
                obtain ⟨c1, c2, c3⟩ := HCe.out W _ _ h1 rfl
                have hBS := h1.sum.low
                refine (bzMulN h2 (show B ≤ X by omega) h3 c2 h4 (by omega) (Nat.lt_trans hx5 (by decide +kernel)) (tS_lt (by rw [HQ.out]; omega))).mono ?_
                rintro e w' ⟨rfl, r1, r2⟩
                have hR : SrR w B S (.slice (some ⟨g, 0, none⟩) m cap) ps s0 w' := ⟨h1.sum.put r2.out h2 (by omega), h1.old.put r2.out h2 (by omega), h1.bel.trans r2.out.below⟩
                exact ⟨rfl, (HCe.out w' _ _ hR rfl).1, hR, r1.out, h5⟩
              have HSt2 : Hid (∀ W X, (SrR w B S (.slice (some ⟨g, 0, none⟩) m cap) ps s0 W ∧ Bz W B X (x * tS q) ∧ S < X) → Calls Tryz.prog 33 #[.pointer (some ⟨S, 0, none⟩), .pointer (some ⟨S, 0, none⟩), .pointer (some ⟨X, 0, none⟩)] W fun e w' => e = .returned (.pointer (some ⟨S, 0, none⟩)) ∧ w'.cell? ⟨g, q, none⟩ = some (.pointer (some ⟨pk, 0, none⟩)) ∧ Hid (SrR w B S (.slice (some ⟨g, 0, none⟩) m cap) ps (smD t60 m k) w')) := fun W X ⟨h1, h2, h3⟩ => by
                refine (bzAdd h1.sum h2 HT.out.2.1 HT.out.1).mono ?_
                rintro e w' ⟨rfl, r1, r2⟩
                obtain ⟨c, hc⟩ := h1.sum.row
                have hR : SrR w B S (.slice (some ⟨g, 0, none⟩) m cap) ps (smD t60 m k) w' := ⟨by have := r1.out; rw [HT.out.2.2] at this; exact this, h1.old.put r2.out hc (Nat.le_refl _), h1.bel.trans r2.out.below⟩
                exact ⟨rfl, (HCe.out w' _ _ hR rfl).1, hR⟩
              have HNa : Hid (Calls Tryz.prog 32 #[.int .i64 (x : Int)] (wr.alloc (.cells #[.bool false, .slice none 0 0] 67)).drew fun e w' => ∃ P, e = .returned (.pointer (some ⟨P, 0, none⟩)) ∧ w'.cell? ⟨g, q, none⟩ = some (.pointer (some ⟨pk, 0, none⟩)) ∧ Hid (SrR w B S (.slice (some ⟨g, 0, none⟩) m cap) ps s0 w' ∧ w'.heap[wr.heap.size]? = some (.cells #[.bool false, .slice none 0 0] 67 (0, 0)) ∧ Bz w' B P x ∧ wr.heap.size ≠ P ∧ S < wr.heap.size ∧ B ≤ w'.heap.size)) := by
                have hsz : (wr.alloc (.cells #[.bool false, .slice none 0 0] 67)).drew.heap.size = wr.heap.size + 1 := by simp
                have hb1 : Below wr.heap.size wr (wr.alloc (.cells #[.bool false, .slice none 0 0] 67)).drew := below_drewN HA0 1
                refine (HNew.out _ x (by omega) (by rw [hsz]; have := HsB.out; omega)).mono ?_
                rintro e w' ⟨rfl, r1, r2⟩
                have hb2 : Below wr.heap.size wr w' := hb1.trans (r2.out.mono (by rw [hsz]; omega))
                have hR := HR0.out.below hb2 HsB.out
                have hrow : w'.heap[wr.heap.size]? = some (.cells #[.bool false, .slice none 0 0] 67 (0, 0)) := by
                  rw [r2.out.block _ (by rw [hsz]; omega)]
                  exact heap_alloc_new wr _
                exact ⟨_, rfl, (HCe.out w' _ _ hR rfl).1, hR, hrow, r1.out, by rw [hsz]; omega, HSl.out, by have := hb2.size; have := HsB.out; omega⟩
              have HNb : Hid (Calls Tryz.prog 32 #[.int .i64 (x : Int)] wr.drew fun e w' => ∃ P, e = .returned (.pointer (some ⟨P, 0, none⟩)) ∧ w'.cell? ⟨g, q, none⟩ = some (.pointer (some ⟨pk, 0, none⟩)) ∧ Hid (SrR w B S (.slice (some ⟨g, 0, none⟩) m cap) ps s0 (w'.alloc (.cells #[.bool false, .slice none 0 0] 67)) ∧ (w'.alloc (.cells #[.bool false, .slice none 0 0] 67)).heap[w'.heap.size]? = some (.cells #[.bool false, .slice none 0 0] 67 (0, 0)) ∧ Bz (w'.alloc (.cells #[.bool false, .slice none 0 0] 67)) B P x ∧ w'.heap.size ≠ P ∧ S < w'.heap.size ∧ B ≤ (w'.alloc (.cells #[.bool false, .slice none 0 0] 67)).heap.size)) := by
                have hsz : wr.drew.heap.size = wr.heap.size := rfl
                have hb1 : Below wr.heap.size wr wr.drew := below_drewN (Below.refl _ _) 1
                refine (HNew.out _ x (by omega) (by rw [hsz]; exact HsB.out)).mono ?_
                rintro e w' ⟨rfl, r1, r2⟩
                have hb2 : Below wr.heap.size wr w' := hb1.trans (r2.out.mono (by rw [hsz]; omega))
                have hA : Below w'.heap.size w' (w'.alloc (.cells #[.bool false, .slice none 0 0] 67)) := (Below.refl _ _).alloc (Nat.le_refl _) _
                have hR := HR0.out.below hb2 HsB.out
                have hlt := r1.out.lt
                have hs := hb2.size
                exact ⟨_, rfl, (HCe.out w' _ _ hR rfl).1, hR.below hA (by have := HsB.out; omega), heap_alloc_new w' _, r1.out.below hA, by omega, by have := HSl.out; omega, by have := HsB.out; simp; omega⟩
              obtain ⟨z1, -, -⟩ := HCe.out wr _ _ HR0.out rfl
              clear HR HX HXk hxb HA0 hqps hq
              go_upto_region 15 with fail
              go_region_held3 (fun W => W.cell? ⟨g, q, none⟩ = some (.pointer (some ⟨pk, 0, none⟩))) (go_keep) (first
                | (go_at_call 32; with_reducible (refine HNa.out.mono ?_); rintro e w2 ⟨P, rfl, q1, HX2⟩)
                | (go_at_call 32; with_reducible (refine HNb.out.mono ?_); rintro e w2 ⟨P, rfl, q1, HX2⟩)
                | (go_at_call 34; with_reducible (refine (HSt1.out _ _ _ HX2.out).mono ?_); rintro e w3 ⟨rfl, q2, HX3⟩)
                | (go_at_call 33; with_reducible (refine (HSt2.out _ _ HX3.out).mono ?_); rintro e w4 ⟨rfl, q3, HX4⟩))
              all_goals go_wp2
              all_goals go_roundw
              all_goals first
                | exact ⟨k + 1, by omega, by omega, by go_num, by rw [Nat.add_sub_cancel]; exact HX4⟩
                | (simp [intOf]; omega)
        · obtain rfl : k = m + 1 := by omega
          have hkm' : ¬ ((m + 1 : Nat) : Int) ≤ (m : Int) := by omega
          have HR2 : Hid (SrR w B S (.slice (some ⟨g, 0, none⟩) m cap) ps (smD t60 m m) wr) := by have := HR.out; rw [Nat.add_sub_cancel] at this; exact this
          have HsB : Hid (B ≤ wr.heap.size) := by have := HR2.out.bel.size; rw [← HB0.out] at this; exact this
          have HC1 := HNew.out wr m (by omega) HsB.out
          clear HR
          go_wp2_with fail
          refine HC1.mono ?_
          rintro e w2 ⟨rfl, HX2, HB2⟩
          clear HC1
          have HR3 : Hid (SrR w B S (.slice (some ⟨g, 0, none⟩) m cap) ps (smD t60 m m) w2) := HR2.out.below HB2.out HsB.out
          have h4 := (ser_ok hm60).2.2 hm1
          have HC2 := bzQuo HR3.out.sum HX2.out (Nat.lt_trans h4.2.2.1 (by decide +kernel)) (lt_200 (by omega)) h4.2.1 hm1
          rw [h4.1] at HC2
          clear HR2 HB2 h4 HX2 HsB
          go_wp2_with fail
          refine HC2.mono ?_
          rintro e w3 ⟨rfl, HX3, HP3⟩
          clear HC2
          have HR4 : Hid (SrR w B S (.slice (some ⟨g, 0, none⟩) m cap) ps (tS m) w3) := by
            obtain ⟨c, hc⟩ := HR3.out.sum.row
            exact ⟨HX3.out, HR3.out.old.put HP3.out hc (Nat.le_refl _), HR3.out.bel.trans HP3.out.below⟩
          have HsB : Hid (B ≤ w3.heap.size) := by have := HR4.out.bel.size; rw [← HB0.out] at this; exact this
          have HOw : Hid (w3.ownsRow B 62 1 (.slice (some ⟨g, 0, none⟩) m cap) (ps.map ptV).length (ps.map ptV)) := by rw [List.length_map]; exact HR4.out.old.own
          clear HR3 HX3 HP3
          go_wp2_with (at_builtin; refine append_one elem_bp (N := w3.heap.size) (x := .pointer (some ⟨S, 0, none⟩)) rfl _ _ rfl rfl rfl rfl HOw.out rfl ?c1 ?c2 ?c3 ?_)
          case c1 => have h9 := HPl.out; unfold maxLen; simp; omega
          case c2 => have h9 := HPl.out; simp; omega
          case c3 => exact HsB.out
          intro v' w8 hO8 hb8 hk8
          have HB8 : Hid (Below B w w8) := HR4.out.bel.trans hb8
          have HkB : Hid (∀ b c fr, b < w3.heap.size → w3.heap[b]? = some (.cells c 124 fr) ∨ w3.heap[b]? = some (.cells c 67 fr) → w8.heap[b]? = w3.heap[b]?) := fun b c fr hb hbt => by
            refine hk8.block b hb (fun e => ?_)
            rcases HOw.out.2 with ⟨e1, _⟩ | ⟨g2, c2, cur, e1, _, hh, _⟩
            · cases e1
            · rw [e1] at e
              have hg2 : g2 = b := by simpa [Value.ownBlock] using e
              subst hg2
              rcases hbt with hbt | hbt <;> (rw [hh] at hbt; simp at hbt)
          have hkeep : ∀ p x, Bz w3 B p x → Bz w8 B p x := fun p x hp => by
            have hlt := hp.lt
            obtain ⟨⟨v2, us, h1⟩, h2⟩ := hp
            refine ⟨⟨v2, us, by rw [HkB.out p _ _ hlt (Or.inr h1.row)]; exact h1.row, ⟨h1.own.own.blocks fun b hb => ?_, h1.own.num, h1.own.room⟩⟩, h2⟩
            rcases h1.own.own.2 with ⟨e1, _⟩ | ⟨g2, c2, cur, e1, _, hh, _⟩
            · rw [e1] at hb; cases hb
            · rw [e1] at hb
              have hg2 : g2 = b := by simpa [Value.ownBlock] using hb
              subst hg2
              exact HkB.out g2 _ _ (Array.getElem?_eq_some_iff.1 hh).1 (Or.inl hh)
          have HL8 : Hid (NumsL w8 B w8.heap.size v' (ps ++ [S]) tS) := by
            have hsz := hk8.size
            have hlt := HR4.out.sum.lt
            refine ⟨?_, fun i hi => ?_, fun i hi => ?_⟩
            · have h1 := hO8
              rw [List.length_append, List.map_append]
              simpa [ptV] using h1
            · rw [List.length_append, List.length_singleton, HPl.out] at hi
              by_cases e : i = m
              · subst e
                have : (ps ++ [S]).getD i 0 = S := by rw [← HPl.out]; simp [List.getD]
                rw [this]; exact hkeep _ _ HR4.out.sum
              · have hi2 : i < ps.length := by rw [HPl.out]; omega
                have : (ps ++ [S]).getD i 0 = ps.getD i 0 := by simp [List.getD, List.getElem?_append_left hi2]
                rw [this]; exact hkeep _ _ (HR4.out.old.num i hi2)
            · rw [List.length_append, List.length_singleton, HPl.out] at hi
              by_cases e : i = m
              · subst e
                have : (ps ++ [S]).getD i 0 = S := by rw [← HPl.out]; simp [List.getD]
                rw [this]; omega
              · have hi2 : i < ps.length := by rw [HPl.out]; omega
                have : (ps ++ [S]).getD i 0 = ps.getD i 0 := by simp [List.getD, List.getElem?_append_left hi2]
                rw [this]; have h3 := HR4.out.old.top i hi2; omega
          have HPl8 : Hid ((ps ++ [S]).length = m + 1) := by show _ = _; rw [List.length_append, HPl.out]; rfl
          clear hkeep hO8 hb8 hk8
          go_wp2
          go_roundw
          case rel => exact ⟨m + 1, by omega, by omega, by go_num, ps ++ [S], HPl8, HL8, HB8⟩
          case measure => simp [intOf]; omega
    · obtain rfl : m = n + 1 := by omega
      have hMn' : ¬ ((n + 1 : Nat) : Int) ≤ (n : Int) := by omega
      obtain ⟨g, cap, hv, -⟩ := HL.out.at (i := 0) (by rw [HPl.out]; omega)
      rw [HPl.out] at hv
      subst hv
      obtain ⟨wz, hwz⟩ : ∃ wz, wz = wr := ⟨_, rfl⟩
      subst hwz
      obtain ⟨N, HN⟩ : ∃ N, Hid (N = n + 1) := ⟨_, rfl⟩
      have hN61 : N ≤ 61 := by rw [HN.out]; omega
      rw [← HN.out] at HPl HL hMn' ⊢
      have hMn2 : ¬ (N : Int) ≤ (n : Int) := hMn'
      have HS0 : Hid (STs wz wz.heap.size (.slice none 0 0) 0 fun i => ⟨(Lib.decDigits (tS i)).toArray⟩) := World.ownsRow_nil _ _ _ _
      go_wp2_with fail
      go_loopw [9, 10] (fun ov iv wq => ∃ i : Nat, i ≤ N ∧ iv = .int .i64 (i : Int) ∧ Hid (STs wq wz.heap.size ov i fun i => ⟨(Lib.decDigits (tS i)).toArray⟩) ∧ Hid (Below wz.heap.size wz wq)) (fun _ iv _ => N - (intOf iv).toNat)
      case atStart => exact ⟨0, Nat.zero_le _, rfl, HS0, Below.refl _ _⟩
      case round =>
        clear HS0
        obtain ⟨i, hi, rfl, HT, HBq⟩ := hrel
        by_cases hiN : i < N
        · have hiN' : (i : Int) < (N : Int) := by omega
          have hips : i < ps.length := by rw [HPl.out]; exact hiN
          have hLq := HL.out.below HBq.out
          obtain ⟨g2, c2, e2, hc2⟩ := hLq.at hips
          rw [HPl.out] at e2
          simp only [Value.slice.injEq, Option.some.injEq, Addr.mk.injEq, and_true, true_and] at e2
          obtain ⟨pi, Hpi⟩ : ∃ pi, Hid (pi = ps.getD i 0) := ⟨_, rfl⟩
          have hz := hLq.num i hips
          rw [← e2.1, ← Hpi.out] at hc2
          rw [← Hpi.out] at hz
          unfold ptV at hc2
          have hi60 : i ≤ 60 := by omega
          have HF := hid_w (bzStr hz (tS_lt hi60) (dec_len_le (tS_lt hi60)))
          obtain ⟨t, HTt⟩ : ∃ t : ByteArray, Hid (t = ⟨(Lib.decDigits (tS i)).toArray⟩) := ⟨_, rfl⟩
          rw [← HTt.out] at HF
          have HBs : Hid (wz.heap.size ≤ wr.heap.size) := HBq.out.size
          clear hz hLq e2 hips
          go_wp2_with fail
          refine HF.out.mono ?_
          rintro e w4 ⟨rfl, HB4⟩
          have HT4 : Hid (STs w4 wz.heap.size u9 i fun i => ⟨(Lib.decDigits (tS i)).toArray⟩) := ownsRow_blocks HT.out (fun q e => HB4.out.block q (HT.out.lt q e).2)
          clear HF hc2
          go_wp2_with (at_builtin; refine append_one elem_sts (x := .string t) rfl _ _ rfl rfl rfl rfl HT4.out rfl ?c3 ?c4 ?c5 ?_)
          case c3 => first | (unfold maxLen; omega) | (simp; unfold maxLen; omega)
          case c4 => first | omega | (simp; omega)
          case c5 => exact Nat.le_trans HBs.out HB4.out.size
          intro v' w5 hO5 hb5 _
          have HT5 : Hid (STs w5 wz.heap.size v' (i + 1) fun i => ⟨(Lib.decDigits (tS i)).toArray⟩) := by
            show World.ownsRow _ _ _ _ _ _ _
            have e : (List.range (i + 1)).map (fun i => Value.string ⟨(Lib.decDigits (tS i)).toArray⟩) = (List.range i).map (fun i => Value.string ⟨(Lib.decDigits (tS i)).toArray⟩) ++ [.string t] := by
              rw [List.range_succ, List.map_append, HTt.out]; rfl
            rw [e]; simpa using hO5
          have HB5 : Hid (Below wz.heap.size wz w5) := (HBq.out.trans (HB4.out.mono HBs.out)).trans hb5
          clear hO5 hb5
          go_wp2
          go_roundw
          case rel => exact ⟨i + 1, by omega, by go_num, HT5, HB5⟩
          case measure => simp [intOf]; omega
        · obtain rfl : N = i := by omega
          have hiN' : ¬ (N : Int) < (N : Int) := by omega
          have HTe : Hid (STs wr B u9 N fun i => ⟨(Lib.decDigits (tS i)).toArray⟩) := ownsRow_down HT.out HsB.out
          have HBe : Hid (Below B w wr) := HB.out.trans (HBq.out.mono HsB.out)
          go_wp2
          go_ret
          exact ⟨u9, rfl, by rw [← HN.out]; exact HTe, HBe⟩
end Go.Proofs.YtbiakncblkjmhaaGreatDoor
