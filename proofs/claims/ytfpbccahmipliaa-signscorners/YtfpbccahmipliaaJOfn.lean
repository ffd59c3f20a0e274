/-
  The contract of ferref.OfCorners where it refuses; what SignsCorners calls, each callee in the form that it wants.
-/
import Derived.Test.YtfpbccahmipliaaJOft
import Derived.Test.YtfpbccahmipliaaJLtb
import Derived.Test.YtfpbccahmipliaaJRco
namespace Go.Proofs.Ytfpbccahmipliaa
open Go.RowKit

structure OcB (ls : List (List Int)) : Prop where
  n2 : 2 ≤ ls.length
  n8 : ls.length ≤ 8
  len : ∀ i, i < ls.length → (row ls i).length = ls.length
  num : ∀ i, i < ls.length → ∀ j, j < ls.length → 0 ≤ box ls i j ∧ box ls i j ≤ 7

set_option maxHeartbeats 4000000 in
theorem OfCorners_no (a : Option Addr) (n cap : Nat) (ls : List (List Int)) (w : World) (hs : Table w a ls) (hn : n = ls.length) (hl : ls.length ≤ 17592186044416) (hno : ¬ OcB ls) :
    Calls Try.prog 18 #[.slice a n cap] w fun e w' => e = .returned (.slice none 0 0) ∧ w' = w := by
  subst hn
  have HS : Hid (Table w a ls) := hs
  have HNo : Hid (¬ OcB ls) := hno
  clear hs hno
  by_cases h2 : ls.length < 2
  · have h2' : (ls.length : Int) < 2 := by omega
    go_enter Try.func18, Try.ntmps18
    go_wp2
    go_ret
    exact ⟨rfl, rfl⟩
  have h2' : ¬ (ls.length : Int) < 2 := by omega
  by_cases h8 : 8 < ls.length
  · have h8' : (8 : Int) < (ls.length : Int) := by omega
    go_enter Try.func18, Try.ntmps18
    go_wp2
    go_ret
    exact ⟨rfl, rfl⟩
  have h8' : ¬ (8 : Int) < (ls.length : Int) := by omega
  go_enter Try.func18, Try.ntmps18
  go_wp2
  go_loopw [3] (fun q wr => ∃ i : Nat, i ≤ ls.length ∧ q = .int .i64 i ∧ Hid (∀ k, k < i → (row ls k).length = ls.length ∧ ∀ j, j < ls.length → 0 ≤ box ls k j ∧ box ls k j ≤ 7) ∧ w = wr) (fun q _ => ls.length - (intOf q).toNat)
  case atStart => exact ⟨0, Nat.zero_le _, rfl, fun k h => absurd h (by omega), rfl⟩
  case round =>
    obtain ⟨i, hi, rfl, HI, rfl⟩ := hrel
    by_cases hil : i < ls.length
    · have hil' : (i : Int) < (ls.length : Int) := by omega
      obtain ⟨b1, off1, a1, m1, c1, rfl, hc1, HM1, HS1, -, hmb⟩ := HS.out.elemR hil
      by_cases e : m1 = ls.length
      · subst e
        have hne : ((ls.length : Int) != (ls.length : Int)) = false := by simp
        go_wp2
        go_loopw [4] (fun q wr => ∃ j : Nat, j ≤ ls.length ∧ q = .int .i64 j ∧ Hid (∀ k, k < j → 0 ≤ box ls i k ∧ box ls i k ≤ 7) ∧ w = wr) (fun q _ => ls.length - (intOf q).toNat)
        case atStart => exact ⟨0, Nat.zero_le _, rfl, fun k h => absurd h (by omega), rfl⟩
        case round =>
          obtain ⟨j, hj, rfl, HJ, rfl⟩ := hrel
          by_cases hjl : j < ls.length
          · have hjl' : (j : Int) < (ls.length : Int) := by omega
            obtain ⟨b3, o3, z, e3, HZ, hz1, hz2, cz⟩ := HS1.out.elem (k := j) (by rw [← HM1.out]; exact hjl)
            subst e3
            by_cases g1 : z < 0
            · go_wp2
              go_ret
              exact ⟨rfl, rfl⟩
            · by_cases g2 : 7 < z
              · go_wp2
                go_ret
                exact ⟨rfl, rfl⟩
              · go_wp2
                go_roundw
                case rel => exact ⟨j + 1, by omega, by go_num, fun k hk => by
                  by_cases e : k = j
                  · subst e
                    have e9 : box ls i k = z := HZ.out.symm
                    rw [e9]; omega
                  · exact HJ.out k (by omega), trivial⟩
                case measure => simp [intOf]; omega
          · obtain rfl : j = ls.length := by omega
            go_wp2
            go_roundw
            case rel => exact ⟨i + 1, by omega, by go_num, fun k hk => by
              by_cases e : k = i
              · subst e; exact ⟨HM1.out.symm, HJ.out⟩
              · exact HI.out k (by omega), trivial⟩
            case measure => simp [intOf]; omega
      · have hne : ((m1 : Int) != (ls.length : Int)) = true := by rw [bne_iff_ne]; omega
        clear e
        go_wp2
        go_ret
        exact ⟨rfl, rfl⟩
    · obtain rfl : i = ls.length := by omega
      exact absurd ⟨by omega, by omega, fun k hk => (HI.out k hk).1, fun k hk => (HI.out k hk).2⟩ HNo.out

theorem fc_oc {ls : List (List Int)} (h : FcOk ls) : OcB ls := by
  obtain ⟨n, P, p, e⟩ := h
  have e1 : ls.length = n + 1 := by rw [e, tz_len]
  have h1 := p.n1
  have h7 := p.n7
  refine ⟨by omega, by omega, fun i hi => ?_, fun i hi j hj => ?_⟩
  · rw [e1] at hi ⊢
    rw [e, tz_row hi, tab_length]
  · rw [e1] at hi hj
    rw [e, tz_box hi hj]
    exact p.kc.bound7 (by omega) (by omega)
theorem oc_dif {ls : List (List Int)} {n : Nat} (h : OcB ls) (hn : ls.length = n + 1) {i j : Nat} (hi : i < n) (hj : j < n) : wdif (box ls) i j = dif (box ls) i j :=
  wdif_small (fun i hi j hj => h.num i (by omega) j (by omega)) hi hj
/-- as the reference tells it -/
theorem fc_dif {ls : List (List Int)} {n : Nat} (h : OcB ls) (hn : ls.length = n + 1) : FcOk ls ↔ Sg n (dif (box ls)) ∧ tz (n + 1) (n + 1) (cor (dif (box ls))) = ls := by
  have e : ∀ i, i < n → ∀ j, j < n → wdif (box ls) i j = dif (box ls) i j := fun i hi j hj => oc_dif h hn hi hj
  constructor
  · intro f
    obtain ⟨h1, h2⟩ := fc_fn hn f
    refine ⟨h1.congr e, ?_⟩
    rw [← tz_congr (fun i hi j hj => cor_congr e (show i ≤ n by omega) (show j ≤ n by omega))]
    exact h2
  · rintro ⟨h1, h2⟩
    exact ⟨n, _, h1, h2.symm⟩

/-- tables of one's own, opened -/
theorem OfCorners_use (a : Option Addr) (N n cap : Nat) (ls : List (List Int)) (w : World) (hs : Table w a ls) (hN : N = n + 1) (hn : N = ls.length) (h : OcB ls) :
    Calls Try.prog 18 #[.slice a N cap] w fun e w' => ∃ g k, e = .returned (.slice (some ⟨g, 0, none⟩) n k) ∧ Hid (TableX w' (some ⟨g, 0, none⟩) (tz n n (dif (box ls)))) ∧ Hid (Below w.heap.size w w') := by
  have e : ls = tz N N (box ls) := by rw [hn]; exact tz_of h.len
  have h2 := h.n2
  have h8 := h.n8
  have hb : ∀ i, i ≤ n → ∀ j, j ≤ n → 0 ≤ box ls i j ∧ box ls i j ≤ 7 := fun i hi j hj => h.num i (by omega) j (by omega)
  have ht : Table w a (tz N N (box ls)) := (fun ms e => e ▸ hs : ∀ ms, ls = ms → Table w a ms) _ e
  refine (OfCorners_ok a n N N cap (box ls) w ht rfl hN (by omega) (by omega) hb).mono ?_
  rintro e w' ⟨v, rfl, HT, HB⟩
  obtain ⟨g, k, hs', cs, rfl, HR⟩ := HT.out.rey (by omega) (by omega)
  refine ⟨g, k, rfl, HR.tableX (by omega) (fun i hi j hj => ?_), HB⟩
  have h1 := hb (i + 1) (by omega) (j + 1) (by omega)
  have h2 := hb i (by omega) (j + 1) (by omega)
  have h3 := hb (i + 1) (by omega) j (by omega)
  have h4 := hb i (by omega) j (by omega)
  unfold dif
  omega
theorem OfTriangle_use (a : Option Addr) (n cap : Nat) (ls : List (List Int)) (w : World) (hs : Table w a ls) (hn : n = ls.length) (n1 : 1 ≤ n) (n7 : n ≤ 7) :
    Calls Try.prog 21 #[.slice a n cap] w fun e w' => ∃ g k, e = .returned (.slice (some ⟨g, 0, none⟩) n k) ∧ Hid (Table w' (some ⟨g, 0, none⟩) (tz n n (otr ls))) ∧ Hid (Below w.heap.size w w') := by
  refine (OfTriangle_at a n cap ls w hs hn n1 n7).mono ?_
  rintro e w' ⟨v, rfl, HT, HB⟩
  obtain ⟨g, k, hs', cs, rfl, HR⟩ := HT.out.rey n1 n1
  exact ⟨g, k, rfl, HR.table (by omega) (fun i _ j _ => by have := otr_bd ls i j; omega), HB⟩
theorem Corners_use (a : Option Addr) (n cap N : Nat) (P : Nat → Nat → Int) (w : World) (hs : TableX w a (tz n n P)) (p : Sg n P) (hN : N = n + 1) :
    Calls Try.prog 11 #[.slice a n cap] w fun e w' => ∃ g k, e = .returned (.slice (some ⟨g, 0, none⟩) N k) ∧ Hid (Table w' (some ⟨g, 0, none⟩) (tz N N (cor P))) ∧ Hid (Below w.heap.size w w') := by
  subst hN
  refine (Corners_at a n n cap P w hs rfl p).mono ?_
  rintro e w' ⟨v, rfl, HT, HB⟩
  obtain ⟨g, k, hs', cs, rfl, HR⟩ := HT.out.rey (by omega) (by omega)
  exact ⟨g, k, rfl, HR.table (by have := p.n7; omega) (fun i hi j hj => by have := p.kc.bound7 (i := i) (j := j) (by omega) (by omega); omega), HB⟩
theorem RTriangle_use (a : Option Addr) (n ca : Nat) (A : Nat → Nat → Int) (w : World) (hs : Table w a (tz n n A)) (p : Sg n A) :
    Calls Try.prog 16 #[.slice a n ca] w fun e w' => ∃ ay cy, e = .returned (.slice ay n cy) ∧ Hid (Table w' ay (tri n A)) ∧ Hid (Below w.heap.size w w') := by
  refine (RTriangle_at a n n ca A w hs rfl p).mono ?_
  rintro e w' ⟨v, rfl, HT, HB⟩
  obtain ⟨ay, ny, cy, rfl, hTy, HNy⟩ := HT.out.table (tri_wf (by have := p.n7; omega))
  have hny : ny = n := by rw [HNy.out, tri_len]
  subst hny
  exact ⟨ay, cy, rfl, hTy, HB⟩
theorem Corner_use (a : Option Addr) (n ca N : Nat) (A : Nat → Nat → Int) (w : World) (hs : Table w a (tz n n A)) (p : Sg n A) (hN : N = n + 1) :
    Calls Try.prog 14 #[.slice a n ca] w fun e w' => ∃ g k, e = .returned (.tuple #[.slice (some ⟨g, 0, none⟩) N k, .int .i64 0]) ∧ Hid (Table w' (some ⟨g, 0, none⟩) (tz N N (cor A))) ∧ Hid (Below w.heap.size w w') := by
  subst hN
  refine (Corner_ok a n n ca A w hs rfl p).mono ?_
  rintro e w' ⟨g, gs, rfl, _, HR, HB⟩
  exact ⟨g, _, rfl, HR.out.table (by have := p.n7; omega) (fun i hi j hj => by have := p.kc.bound7 (i := i) (j := j) (by omega) (by omega); omega), HB⟩
set_option maxHeartbeats 1000000 in
theorem table_same (a b : Option Addr) (ca cb n : Nat) (w : World) (ls : List (List Int)) (hs : Table w a ls) (ht : Table w b ls) (hn : n = ls.length) (hl : ls.length ≤ 17592186044416) :
    Calls Try.prog 12 #[.slice a n ca, .int .i64 0, .slice b n cb, .int .i64 0] w fun e w' => e = .returned (.bool true) ∧ Hid (Below w.heap.size w w') := by
  have HR : Hid (Calls Try.prog 19 #[.slice a n ca, .slice b n cb] w fun e w' => e = .returned (.bool true) ∧ ∃ n, w' = w.drewN n) := RowsL_r _ _ _ _ _ _ ls _ hs ht hn hn hl
  clear hs ht hn hl
  go_enter Try.func12, Try.ntmps12
  go_wp2_with (go_at_call 19; refine HR.out.mono ?_; rintro e w1 ⟨rfl, hd⟩)
  go_ret
  obtain ⟨d, rfl⟩ := hd
  exact ⟨rfl, below_drewN (Below.refl _ _) d⟩
theorem Rows_any (a b : Option Addr) (n m ca cb : Nat) (ls ms : List (List Int)) (w : World) (t : Bool) (hs : Table w a ls) (ht : Table w b ms) (hn : n = ls.length) (hm : m = ms.length) (hl : ls.length ≤ 17592186044416) (Ht : Hid (t = true ↔ ls = ms)) :
    Calls Try.prog 19 #[.slice a n ca, .slice b m cb] w fun e w' => e = .returned (.bool t) ∧ Hid (Below w.heap.size w w') := by
  refine (RowsL_b _ _ _ _ _ _ _ _ _ t hs ht hn hm hl Ht).mono ?_
  rintro e w' ⟨rfl, d, rfl⟩
  exact ⟨rfl, below_drewN (Below.refl _ _) d⟩
theorem FromCorner_yes (a : Option Addr) (N n ca : Nat) (ls : List (List Int)) (w : World) (hs : Table w a ls) (hN : N = n + 1) (hn : N = ls.length) (h : FcOk ls) :
    Calls Try.prog 17 #[.slice a N ca] w fun e w' => ∃ g, e = .returned (.tuple #[.slice (some ⟨g, 0, none⟩) n n, .int .i64 0]) ∧ Hid (Table w' (some ⟨g, 0, none⟩) (tz n n (dif (box ls)))) ∧ Hid (Below w.heap.size w w') := by
  have h8 := (fc_oc h).n8
  refine (FromCorner_at a N ca ls w hs hn (by omega)).mono ?_
  rintro e w' ⟨HB, q | q⟩
  · obtain ⟨_, m, g, gs, rfl, Hm, _, HR⟩ := q
    have hm : m = n := by have := Hm.out; omega
    subst hm
    refine ⟨g, rfl, ?_, HB⟩
    have := HR.out.table (by omega) (fun i _ j _ => wdif_wf _ i j)
    rw [tz_congr (fun i hi j hj => oc_dif (fc_oc h) (by rw [← hn, hN]) hi hj)] at this
    exact this
  · exact absurd h q.1
theorem FromCorner_not (a : Option Addr) (N ca : Nat) (ls : List (List Int)) (w : World) (hs : Table w a ls) (hn : N = ls.length) (hl : ls.length ≤ 17592186044416) (h : ¬ FcOk ls) :
    Calls Try.prog 17 #[.slice a N ca] w fun e w' => e = .returned (.tuple #[.slice none 0 0, .int .i64 1]) ∧ Hid (Below w.heap.size w w') := by
  refine (FromCorner_at a N ca ls w hs hn hl).mono ?_
  rintro e w' ⟨HB, q | q⟩
  · exact absurd q.1 h
  · exact ⟨q.2, HB⟩
theorem FromTriangle_yes (a : Option Addr) (n ca : Nat) (ls : List (List Int)) (w : World) (hs : Table w a ls) (hn : n = ls.length) (h : FtOk ls) :
    Calls Try.prog 20 #[.slice a n ca] w fun e w' => ∃ g, e = .returned (.tuple #[.slice (some ⟨g, 0, none⟩) n n, .int .i64 0]) ∧ Hid (Table w' (some ⟨g, 0, none⟩) (tz n n (otr ls))) ∧ Hid (Below w.heap.size w w') := by
  have h1 := ((ft_iff ls).1 h).1
  have h7 := h1.n7
  obtain ⟨P, p, e⟩ := h
  rw [← hn] at p e
  have e1 : ∀ i, i < n → ∀ j, j < n → wtr ls i j = otr ls i j := fun i hi j hj => by rw [e, wtr_tri p hi hj, otr_tri p hi hj]
  refine (FromTriangle_at a n ca ls w hs hn (by omega)).mono ?_
  rintro e w' ⟨HB, q | q⟩
  · obtain ⟨_, g, gs, rfl, _, HR⟩ := q
    refine ⟨g, rfl, ?_, HB⟩
    have := HR.out.table (by omega) (fun i hi j hj => by rw [hn] at hi hj; exact wtr_low h1 i hi j hj)
    rw [tz_congr e1] at this
    exact this
  · exact absurd ⟨P, by rw [← hn]; exact p, by rw [← hn]; assumption⟩ q.1
theorem FromTriangle_not (a : Option Addr) (n ca : Nat) (ls : List (List Int)) (w : World) (hs : Table w a ls) (hn : n = ls.length) (hl : ls.length ≤ 17592186044416) (h : ¬ FtOk ls) :
    Calls Try.prog 20 #[.slice a n ca] w fun e w' => e = .returned (.tuple #[.slice none 0 0, .int .i64 1]) ∧ Hid (Below w.heap.size w w') := by
  refine (FromTriangle_at a n ca ls w hs hn hl).mono ?_
  rintro e w' ⟨HB, q | q⟩
  · exact absurd q.1 h
  · exact ⟨q.2, HB⟩
theorem Signs_sq (a : Option Addr) (n c : Nat) (P : Nat → Nat → Int) (w : World) (t : Bool) (hs : Table w a (tz n n P)) (hn : n ≤ 1000) (Ht : Hid (t = true ↔ Sg n P)) :
    Calls Try.prog 9 #[.slice a n c] w fun e w' => e = .returned (.bool t) ∧ Hid (Below w.heap.size w w') :=
  Signs_at a n c _ w t hs (by rw [tz_len]) (by rw [tz_len]; omega) (Ht.out.trans sg_list.symm)

end Go.Proofs.Ytfpbccahmipliaa
