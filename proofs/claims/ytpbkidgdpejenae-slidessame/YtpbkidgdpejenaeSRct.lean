/-
  The contracts of slides.Rectify, slides.Slide.
-/
import Derived.Test.YtpbkidgdpejenaeSRcf
import Derived.Test.YtpbkidgdpejenaeSRep
namespace Go.Proofs.Ytpbkidgdpejenae
open Go.RowKit

theorem IsSk.fews {ls : List (List Int)} (h : IsSk ls) : Few ls := by
  have hlen : ls.length ≤ 40 := Nat.le_trans (len_le_flat (fun a ha => (h.ok a ha).one)) h.few
  refine ⟨by omega, fun r hr => ?_, fun r hr z hz => ?_⟩
  · obtain ⟨k, hk, rfl⟩ := mem_row hr
    have := row_le_flat hk
    have := h.few
    exact ⟨(h.ok k hk).one, by omega⟩
  · obtain ⟨k, hk, rfl⟩ := mem_row hr
    obtain ⟨b, hb, rfl⟩ := List.mem_iff_getElem.1 hz
    have e : (row ls k)[b] = box ls k b := by unfold box; simp [List.getD, List.getElem?_eq_getElem hb]
    rw [e]
    by_cases c : b < hol (row ls k)
    · have := hol_zero (row ls k) b c
      unfold box; omega
    · have := (h.ok k hk).low b (by omega) hb
      unfold box; omega
/-- What is left when no hole is. -/
def recT (ls : List (List Int)) : List (List Int) := insW [] (sword (H ls) ls)
theorem recT_is {ls : List (List Int)} (h : IsSk ls) : recS (byRow 0 (hsF ls ls.length)).reverse ls = recT ls :=
  rec_is (hsF_lat h.sk) h.sk (fun a => (hsF_count h.sk a).symm)
theorem hs_bd {ls : List (List Int)} (h : IsSk ls) : ∀ z ∈ hsF ls ls.length, 1 ≤ z ∧ z ≤ 40 := fun z hz => by
  obtain ⟨j, h1, h2, h3, h4⟩ := hsF_tab h.sk ls.length
  rw [h2] at hz
  obtain ⟨a, ha, rfl⟩ := tab_mem hz
  have := h4 a ha
  have := hol_le (row ls a)
  have := row_le_flat (ls := ls) (a := a) (by omega)
  have := h.few
  unfold H at *
  omega
theorem hs_sum {ls : List (List Int)} (h : IsSk ls) : (byRow 0 (hsF ls ls.length)).length ≤ 40 := by
  have gen : ∀ (l : List Nat) (N : Nat), (∀ a ∈ l, a < N) → l.length = S N (fun a => l.count a) := by
    intro l N
    induction l with
    | nil => intro _; exact (show 0 = S N (fun _ => 0) from (S_zero N).symm)
    | cons x l ih =>
      intro hx
      have h1 := ih (fun a ha => hx a (by simp [ha]))
      have h2 : S N (fun a => (x :: l).count a) = S N (fun a => l.count a + ind (a = x)) := S_congr (fun a _ => by
        rw [List.count_cons]
        by_cases e : x = a
        · subst e; simp [ind]
        · have e2 : ¬ a = x := fun q => e q.symm
          simp [ind, e, e2])
      rw [h2, S_add, S_just (p := fun a => a = x) (hx x (by simp)) rfl (fun i _ q => q), List.length_cons, h1]
  have hin : ∀ a ∈ byRow 0 (hsF ls ls.length), a < ls.length := fun a ha => by
    have := List.count_pos_iff.2 ha
    rw [hsF_count h.sk] at this
    refine Nat.lt_of_not_le (fun c => ?_)
    unfold H at this
    rw [row_out c] at this
    simp [hol] at this
  rw [gen _ _ hin, S_congr (g := fun a => hol (row ls a)) (fun a _ => hsF_count h.sk a)]
  have h1 : S ls.length (fun a => hol (row ls a)) ≤ S ls.length (fun a => (row ls a).length) := S_le (fun a _ => hol_le _)
  rw [← flat_sum] at h1
  have := h.few
  omega
theorem byRow_take (l : List Int) {k : Nat} (hk : k < l.length) : byRow 0 (l.take (k + 1)) = byRow 0 (l.take k) ++ List.replicate (l.getD k 0).toNat k := by
  rw [take_snoc l k hk, byRow_snoc, List.length_take, show min k l.length = k by omega]
theorem byRow_take_len (l : List Int) (k : Nat) : (byRow 0 (l.take k)).length ≤ (byRow 0 l).length := by
  have gen : ∀ (u v : List Int) (i : Nat), (byRow i u).length ≤ (byRow i (u ++ v)).length := by
    intro u v
    induction u with
    | nil => intro i; simp [byRow]
    | cons x u ih => intro i; simp only [List.cons_append, byRow, List.length_append]; have := ih (i + 1); omega
  have := gen (l.take k) (l.drop k) 0
  rw [List.take_append_drop] at this; exact this

set_option maxHeartbeats 8000000 in
theorem Rectify_ok (a : Option Addr) (n cap : Nat) (ls : List (List Int)) (w : World) (hs : TableX w a ls) (hn : n = ls.length) (hl : ls.length ≤ 17592186044416) (hc : schk ls = 0) :
    Calls Try.prog 20 #[.slice a n cap] w fun e w' => ∃ v, e = .returned (.tuple #[v, .int .i64 0]) ∧ Tbl w' w.heap.size v (recT ls) ∧ Below w.heap.size w w' := by
  subst hn
  have hI := schk_ok.1 hc
  have HS : Hid (TableX w a ls) := hs
  have HI : Hid (IsSk ls) := hI
  have HC : Hid (schk ls = 0) := hc
  have HF : Hid (Few ls) := hI.fews
  have hl2 : ls.length ≤ 1000 := hI.fews.len
  obtain ⟨R, HR⟩ : ∃ R, Hid (R = hsF ls ls.length) := ⟨_, rfl⟩
  have HRb : Hid (∀ z ∈ R, 1 ≤ z ∧ z ≤ 40) := by rw [HR.out]; exact hs_bd hI
  have HRl : Hid (R.length ≤ 1000) := by rw [HR.out]; have := hsF_len ls ls.length; show _ ≤ _; omega
  have HRs : Hid ((byRow 0 R).length ≤ 40) := by rw [HR.out]; exact hs_sum hI
  clear hs hc hI
  go_enter Try.func20, Try.ntmps20
  go_wp2_with fail
  refine (SkCheck_is a _ cap ls w HS.out hl rfl HC).mono ?_
  rintro e w1 ⟨rfl, d1, hw1⟩
  have HB1 : Hid (Below w.heap.size w w1) := by rw [hw1]; exact below_drewN (Below.refl _ _) d1
  clear hw1
  go_wp2_with fail
  refine (shapeOfHoles_at a _ cap ls w1 (HS.out.below HB1.out).table rfl hl2).mono ?_
  rintro e w2 ⟨v2, rfl, hO2, hb2⟩
  rw [← HR.out] at hO2
  have HB2 : Hid (Below w.heap.size w w2) := HB1.out.trans (hb2.mono HB1.out.size)
  obtain ⟨a2, n2, c2, rfl, hS2, hn2, -⟩ := hO2.opened (by have := HRl.out; omega) (small_wf (fun z hz => by have := HRb.out z hz; omega))
  have HS2 : Hid (Shows w2 a2 R) := hS2
  have HN2 : Hid (n2 = R.length) := hn2
  have hn2b : n2 ≤ 1000 := by rw [hn2]; exact HRl.out
  clear hO2 hb2 hS2 hn2
  go_wp2
  go_loopw [5, 16] (fun v iv wr => ∃ k : Nat, k ≤ n2 ∧ iv = .int .i64 k ∧ Hid (Owns wr w2.heap.size v ((byRow 0 (R.take k)).map (fun k : Nat => (k : Int)))) ∧ Hid (Below w2.heap.size w2 wr)) (fun _ iv _ => n2 - (intOf iv).toNat)
  case atStart => exact ⟨0, Nat.zero_le _, rfl, World.ownsRow_nil _ _ _ _, Below.refl _ _⟩
  case round =>
    obtain ⟨k, hk, rfl, HO, HB⟩ := hrel
    by_cases hlt : k < n2
    · have hlt' : (k : Int) < (n2 : Int) := by omega
      have HKl : Hid (k < R.length) := by rw [← HN2.out]; exact hlt
      obtain ⟨b, off, z, rfl, HZ, -, -, hcz⟩ := (HS2.out.below HB.out).elem HKl.out
      have hzb : 1 ≤ z ∧ z ≤ 40 := by rw [HZ.out]; exact HRb.out _ (getD_mem HKl.out)
      obtain ⟨c, HCc⟩ : ∃ c : Nat, Hid (z = (c : Int)) := ⟨z.toNat, by show _ = _; omega⟩
      have hzc := HCc.out
      subst hzc
      have hc1 : 0 < c := by omega
      have hc2 : c < 41 := by omega
      have HNx : Hid (byRow 0 (R.take (k + 1)) = byRow 0 (R.take k) ++ List.replicate c k) := by
        show _ = _
        rw [byRow_take R HKl.out, ← HZ.out]; simp
      have HLn : Hid ((byRow 0 (R.take k)).length ≤ 40) := Nat.le_trans (byRow_take_len R k) HRs.out
      clear hzb
      go_wp2_with fail
      refine (Repeat_at _ _ (k : Int) c _ (shows_lit wr [(k : Int)] _ rfl (by simp) (by simp; omega)) hc1 hc2).mono ?_
      rintro e w3 ⟨v3, rfl, hO3, hb3⟩
      have hbl : Below wr.heap.size wr w3 := ((Below.refl _ _).alloc (Nat.le_refl _) _).trans (hb3.mono (by simp))
      have HO3 : Hid (Owns w3 w2.heap.size _ ((byRow 0 (R.take k)).map (fun k : Nat => (k : Int)))) := HO.out.below hbl
      have HB3 : Hid (Below w2.heap.size w2 w3) := HB.out.trans (hbl.mono HB.out.size)
      obtain ⟨a3, n3, c3, rfl, hS3, hn3, -⟩ := hO3.opened (by simp; omega) (fun z hz => by rw [(List.mem_replicate.1 hz).2]; omega)
      have HS3 : Hid (Shows w3 a3 (List.replicate c (k : Int))) := hS3
      have HN3 : Hid (n3 = (List.replicate c (k : Int)).length) := hn3
      have HNn : Hid (a3 = none → List.replicate c (k : Int) = [] ∧ c3 = 0) := fun q => by
        obtain ⟨b', off', e', _⟩ := hS3.cells (fun q2 => by have := congrArg List.length q2; simp at this; omega)
        rw [q] at e'; cases e'
      clear hO3 hb3 hbl hS3 hn3
      go_wp2_with (at_builtin; refine append_src rfl _ _ rfl rfl rfl HO3.out HS3.out HN3.out HNn.out ?c1 ?c2 ?_)
      case c1 => have := HLn.out; simp; omega
      case c2 => exact HB3.out.size
      intro v' w4 hO4 hb4 _
      have HO4 : Hid (Owns w4 w2.heap.size v' ((byRow 0 (R.take (k + 1))).map (fun k : Nat => (k : Int)))) := by
        show Owns _ _ _ _
        rw [HNx.out, List.map_append, List.map_replicate]; exact hO4
      have HB4 : Hid (Below w2.heap.size w2 w4) := HB3.out.trans hb4
      clear hO4 hb4
      go_wp2
      go_roundw
      case rel => exact ⟨k + 1, by omega, by go_num, HO4, HB4⟩
      case measure => simp [intOf]; omega
    · obtain rfl : k = n2 := by omega
      have hlt' : ¬ (k : Int) < (k : Int) := by omega
      have hO := HO.out
      rw [List.take_of_length_le (by rw [HN2.out]; exact Nat.le_refl _)] at hO
      have HBw : Hid (Below w.heap.size w wr) := HB2.out.trans (HB.out.mono HB2.out.size)
      obtain ⟨a5, n5, c5, hv5, hS5, hn5, -⟩ := hO.opened (by rw [List.length_map]; have := HRs.out; omega) (fun z hz => by
        obtain ⟨y, hy, rfl⟩ := List.mem_map.1 hz
        have := List.count_pos_iff.2 hy
        rw [HR.out, hsF_count HI.out.sk] at this
        have : y < ls.length := Nat.lt_of_not_le (fun q => by unfold H at this; rw [row_out q] at this; simp [hol] at this)
        omega)
      subst hv5
      have HS5 : Hid (Shows wr a5 ((byRow 0 R).map (fun k : Nat => (k : Int)))) := hS5
      have HN5 : Hid (n5 = (byRow 0 R).length) := by show _ = _; rw [hn5, List.length_map]
      have HE : Hid (recS (byRow 0 R).reverse ls = recT ls) := by rw [HR.out]; exact recT_is HI.out
      have HLt : Hid (Lat (byRow 0 R) ∧ ∀ a, H ls a = (byRow 0 R).count a) := by rw [HR.out]; exact ⟨hsF_lat HI.out.sk, fun a => (hsF_count HI.out.sk a).symm⟩
      clear hO hS5 hn5 HO
      go_wp2_with fail
      refine (rectified_at a a5 _ n5 cap c5 ls (byRow 0 R) wr (HS.out.below HBw.out).table HS5.out rfl HN5.out (by have := HRs.out; omega) HF.out HI.out.sk HLt.out.2 HLt.out.1).mono ?_
      rintro e w6 ⟨v6, rfl, hT6, hb6⟩
      rw [HE.out] at hT6
      have HB6 : Hid (Below w.heap.size w w6) := HBw.out.trans (hb6.mono HBw.out.size)
      have HT6 : Hid (Tbl w6 w.heap.size v6 (recT ls)) := hT6.mono HBw.out.size
      obtain ⟨a6, n6, c6, hv6⟩ : ∃ a6 n6 c6, v6 = .slice a6 n6 c6 := by obtain ⟨q, hq⟩ := hT6; obtain ⟨x, y, e⟩ := hq.shape; exact ⟨_, _, _, e⟩
      subst hv6
      clear hT6 hb6
      go_wp2
      go_ret2
      exact ⟨_, rfl, HT6.out, HB6.out⟩
set_option maxHeartbeats 2000000 in
theorem Rectify_err (a : Option Addr) (n cap : Nat) (ls : List (List Int)) (w : World) (hs : TableX w a ls) (hn : n = ls.length) (hl : ls.length ≤ 17592186044416) (hc : schk ls ≠ 0) :
    Calls Try.prog 20 #[.slice a n cap] w fun e w' => e = .returned (.tuple #[.slice none 0 0, .int .i64 (schk ls)]) ∧ Below w.heap.size w w' := by
  subst hn
  have HS : Hid (TableX w a ls) := hs
  obtain ⟨c, HC⟩ : ∃ c, Hid (schk ls = c) := ⟨_, rfl⟩
  have hc0 : (c != 0) = true := by rw [← HC.out]; exact bne_iff_ne.2 hc
  rw [HC.out]
  clear hs hc
  go_enter Try.func20, Try.ntmps20
  go_wp2_with fail
  refine (SkCheck_is a _ cap ls w HS.out hl rfl HC).mono ?_
  rintro e w1 ⟨rfl, d1, hw1⟩
  have HB1 : Hid (Below w.heap.size w w1) := by rw [hw1]; exact below_drewN (Below.refl _ _) d1
  clear hw1
  go_wp2
  go_ret2
  exact ⟨rfl, HB1.out⟩
theorem Rectify_at (a : Option Addr) (n cap : Nat) (ls : List (List Int)) (w : World) (hs : TableX w a ls) (hn : n = ls.length) (hl : ls.length ≤ 17592186044416) :
    Calls Try.prog 20 #[.slice a n cap] w fun e w' => ∃ v, e = .returned (.tuple #[v, .int .i64 (schk ls)]) ∧ Tbl w' w.heap.size v (if schk ls = 0 then recT ls else []) ∧ Below w.heap.size w w' := by
  by_cases c : schk ls = 0
  · refine (Rectify_ok a n cap ls w hs hn hl c).mono ?_
    rintro e w' ⟨v, rfl, h1, h2⟩
    exact ⟨v, by rw [c], by rw [if_pos c]; exact h1, h2⟩
  · refine (Rectify_err a n cap ls w hs hn hl c).mono ?_
    rintro e w' ⟨rfl, h2⟩
    exact ⟨_, rfl, by rw [if_neg c]; exact Tbl.nil _ _, h2⟩
def slC (ls : List (List Int)) (r : Int) : Int := if schk ls ≠ 0 then schk ls else if 0 ≤ r ∧ r < (ls.length : Int) ∧ H ls (r.toNat + 1) < H ls r.toNat then 0 else 5
set_option maxHeartbeats 8000000 in
theorem Slide_at {cc : Int} {Qq : List (List Int)} (a : Option Addr) (n cap : Nat) (ls : List (List Int)) (r : Int) (w : World) (hs : TableX w a ls) (hn : n = ls.length) (hl : ls.length ≤ 17592186044416) (E1 : Hid (slC ls r = cc)) (E2 : Hid (Qq = if slC ls r = 0 then (slR ls r.toNat).1 else [])) :
    Calls Try.prog 19 #[.slice a n cap, .int .i64 r] w fun e w' => ∃ (v : Value) (i : Int), e = .returned (.tuple #[v, .int .i64 i, .int .i64 cc]) ∧ Tbl w' w.heap.size v Qq ∧ Below w.heap.size w w' := by
  subst hn
  have HS : Hid (TableX w a ls) := hs
  clear hs
  by_cases hc : schk ls = 0
  · have HC : Hid (schk ls = 0) := hc
    have HI : Hid (IsSk ls) := schk_ok.1 hc
    have HF : Hid (Few ls) := HI.out.fews
    have hl2 : ls.length ≤ 1000 := HF.out.len
    have HQ : Hid (slC ls r = if 0 ≤ r ∧ r < (ls.length : Int) ∧ H ls (r.toNat + 1) < H ls r.toNat then 0 else 5) := by show _ = _; unfold slC; rw [if_neg (by rw [hc]; simp)]
    clear hc
    by_cases hr : 0 ≤ r ∧ r < (ls.length : Int)
    · obtain ⟨i, HIi⟩ : ∃ i : Nat, Hid (r = (i : Int)) := ⟨r.toNat, by show _ = _; omega⟩
      have e1 := HIi.out
      subst e1
      have HIl : Hid (i < ls.length) := by show _ < _; omega
      have g1 : ¬ (i : Int) < 0 := by omega
      have g2 : ¬ (i : Int) ≥ (ls.length : Int) := by omega
      have g3 : (i : Int) < (ls.length : Int) := by omega
      by_cases hk : H ls (i + 1) < H ls i
      · have HK : Hid (decide (H ls (i + 1) < H ls i) = true) := decide_eq_true hk
        have HK2 : Hid (H ls (i + 1) < H ls i) := hk
        have HE0 : slC ls (i : Int) = 0 := by rw [HQ.out, if_pos ⟨hr.1, hr.2, by simpa using hk⟩]
        have HE : Hid (cc = 0 ∧ Qq = (slR ls i).1) := by rw [← E1.out, E2.out, HE0]; exact ⟨rfl, by simp⟩
        clear HE0
        clear hr hk
        go_enter Try.func19, Try.ntmps19
        go_wp2_with fail
        refine (SkCheck_is a _ cap ls w HS.out hl rfl HC).mono ?_
        rintro e w1 ⟨rfl, d1, hw1⟩
        have HB1 : Hid (Below w.heap.size w w1) := by rw [hw1]; exact below_drewN (Below.refl _ _) d1
        clear hw1
        go_wp2_with fail
        refine (endsInCorner_is a _ cap ls i w1 (HS.out.below HB1.out).table rfl hl2 HIl.out HK).mono ?_
        rintro e w2 ⟨rfl, hw2⟩
        obtain rfl : w1 = w2 := hw2.symm
        clear hw2
        go_wp2_with fail
        refine (scopied_at a _ cap ls w1 (HS.out.below HB1.out).table rfl HF.out.len HF.out.one).mono ?_
        rintro e w3 ⟨v3, rfl, hT3, hb3⟩
        have HB3 : Hid (Below w.heap.size w w3) := HB1.out.trans (hb3.mono HB1.out.size)
        obtain ⟨vs, hI3⟩ := TIn.of_tbl (hT3.mono HB1.out.size)
        obtain ⟨va, vc, hv⟩ := hI3.t.shape
        subst hv
        have HI3 : Hid (TblIn w3 w.heap.size (fun k => w.heap.size ≤ k ∧ k < w3.heap.size) (.slice va ls.length vc) vs ls) := hI3
        clear hT3 hb3 hI3
        go_wp2_with fail
        refine (sslid_at _ _ _ _ i w3 HI3.out HF.out HI.out.sk HK2.out).mono ?_
        rintro e w4 ⟨v4, rfl, hT4, hO4, hz4, hF4⟩
        have HB4 : Hid (Below w.heap.size w w4) := HB3.out.trans (hO4.below HB3.out.size (fun q hq => hq.1))
        have HT4 : Hid (Tbl w4 w.heap.size v4 (slR ls i).1) := hT4.tbl
        obtain ⟨a4, n4, c4, hv4⟩ : ∃ a4 n4 c4, v4 = .slice a4 n4 c4 := by obtain ⟨q, hq⟩ := hT4; obtain ⟨x, y, e⟩ := hq.t.shape; exact ⟨_, _, _, e⟩
        subst hv4
        clear hT4 hO4 hz4 hF4
        go_wp2
        go_ret3
        exact ⟨_, _, by rw [HE.out.1]; rfl, by rw [HE.out.2]; exact HT4.out, HB4.out⟩
      · have HK : Hid (decide (H ls (i + 1) < H ls i) = false) := decide_eq_false hk
        have HE0 : slC ls (i : Int) = 5 := by rw [HQ.out, if_neg (fun q => hk (by simpa using q.2.2))]
        have HE : Hid (cc = 5 ∧ Qq = []) := by rw [← E1.out, E2.out, HE0]; exact ⟨rfl, by simp⟩
        clear HE0
        clear hr hk
        go_enter Try.func19, Try.ntmps19
        go_wp2_with fail
        refine (SkCheck_is a _ cap ls w HS.out hl rfl HC).mono ?_
        rintro e w1 ⟨rfl, d1, hw1⟩
        have HB1 : Hid (Below w.heap.size w w1) := by rw [hw1]; exact below_drewN (Below.refl _ _) d1
        clear hw1
        go_wp2_with fail
        refine (endsInCorner_is a _ cap ls i w1 (HS.out.below HB1.out).table rfl hl2 HIl.out HK).mono ?_
        rintro e w2 ⟨rfl, hw2⟩
        obtain rfl : w1 = w2 := hw2.symm
        clear hw2
        go_wp2
        go_ret3
        exact ⟨_, _, by rw [HE.out.1]; rfl, by rw [HE.out.2]; exact Tbl.nil _ _, HB1.out⟩
    · have HE0 : slC ls r = 5 := by rw [HQ.out, if_neg (fun q => hr ⟨q.1, q.2.1⟩)]
      have HE : Hid (cc = 5 ∧ Qq = []) := by rw [← E1.out, E2.out, HE0]; exact ⟨rfl, by simp⟩
      clear HE0
      by_cases g0 : r < 0
      all_goals
        try (have g1 : r ≥ (ls.length : Int) := by omega)
        clear hr
        go_enter Try.func19, Try.ntmps19
        go_wp2_with fail
        refine (SkCheck_is a _ cap ls w HS.out hl rfl HC).mono ?_
        rintro e w1 ⟨rfl, d1, hw1⟩
        have HB1 : Hid (Below w.heap.size w w1) := by rw [hw1]; exact below_drewN (Below.refl _ _) d1
        clear hw1
        go_wp2
        go_ret3
        exact ⟨_, _, by rw [HE.out.1]; rfl, by rw [HE.out.2]; exact Tbl.nil _ _, HB1.out⟩
  · obtain ⟨c, HC⟩ : ∃ c, Hid (schk ls = c) := ⟨_, rfl⟩
    have hc0 : (c != 0) = true := by rw [← HC.out]; exact bne_iff_ne.2 hc
    have HE0 : slC ls r = c := by unfold slC; rw [if_pos hc, HC.out]
    have HE : Hid (cc = c ∧ Qq = []) := by rw [← E1.out, E2.out, HE0]; exact ⟨rfl, by rw [if_neg (by rw [← HC.out]; exact hc)]⟩
    clear HE0
    clear hc
    go_enter Try.func19, Try.ntmps19
    go_wp2_with fail
    refine (SkCheck_is a _ cap ls w HS.out hl rfl HC).mono ?_
    rintro e w1 ⟨rfl, d1, hw1⟩
    have HB1 : Hid (Below w.heap.size w w1) := by rw [hw1]; exact below_drewN (Below.refl _ _) d1
    clear hw1
    go_wp2
    go_ret3
    exact ⟨_, _, by rw [HE.out.1]; rfl, by rw [HE.out.2]; exact Tbl.nil _ _, HB1.out⟩

end Go.Proofs.Ytpbkidgdpejenae
