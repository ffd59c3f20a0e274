/-
  The walk of the law PermsFolds: for every two slices that can be read it returns true; nothing old has turned.
-/
import Derived.Test.YtnjbkiegeielhabMLaw
import Derived.Test.YtnjbkiegeielhabFFld
import Derived.Test.YtnjbkiegeielhabFUnf
import Derived.Test.YtnjbkiegeielhabFFrc
import Derived.Test.YtnjbkiegeielhabFCyc
import Derived.Test.YtnjbkiegeielhabCInv
import Derived.Test.YtnjbkiegeielhabCRef
namespace Go.Proofs.Ytnjbkiegeielhab
open Go.RowKit

/-- A list of small numbers. -/
def SmF (l : List Int) : Prop := l.length ≤ 1600 ∧ ∀ z ∈ l, 0 ≤ z ∧ z ≤ 1000
theorem SmF.len {l : List Int} (h : SmF l) : l.length ≤ 17592186044416 := by have := h.1; omega
theorem SmF.wf {l : List Int} (h : SmF l) : ∀ z ∈ l, -9223372036854775808 ≤ z ∧ z ≤ 9223372036854775807 := small_wf h.2
theorem SmF.perm {l : List Int} (h : IsPerm l) : SmF l := ⟨by have := h.len; omega, fun z hz => by have := h.low z hz; have := h.high z hz; have := h.len; omega⟩
theorem SmF.word {l : List Int} (h : lchk l = 0) : SmF l := by
  obtain ⟨h1, h2⟩ := lchk_ok.1 h
  exact ⟨by omega, fun z hz => by have := h2 z hz; omega⟩
theorem RLetters_is {c : Int} (a : Option Addr) (n cap : Nat) (zs : List Int) (w : World) (hs : Shows w a zs) (hn : n = zs.length) (E : Hid (lchk zs = c)) :
    Calls Try.prog 28 #[.slice a n cap] w fun e w' => e = .returned (.int .i64 c) ∧ w' = w := by
  have := RLetters_any a n cap zs w hs hn; rw [E.out] at this; exact this
/-- The rows of the cycles are small. -/
theorem rows_small {p : List Int} (hp : IsPerm p) {bs : List (List Int)} (h : Blocks p bs) : (∀ l ∈ bs, l.length ≤ 17592186044416 ∧ ∀ z ∈ l, -9223372036854775808 ≤ z ∧ z ≤ 9223372036854775807) ∧ bs.length ≤ 1000000 ∧ bs.flatten.length ≤ 1000000 := by
  have h40 := hp.len
  obtain ⟨h1, _⟩ := h.perm hp
  have key : ∀ (cs : List (List Int)), (∀ b ∈ cs, b ≠ []) → cs.length ≤ cs.flatten.length := by
    intro cs
    induction cs with
    | nil => intro _; simp
    | cons c cs ih =>
      intro hc
      have h2 := ih (fun b hb => hc b (List.mem_cons_of_mem _ hb))
      have h3 : 0 < c.length := List.length_pos_iff.2 (hc c List.mem_cons_self)
      simp only [List.flatten_cons, List.length_append, List.length_cons]; omega
  have h2 := key bs (fun b hb => (h.each b hb).ne)
  refine ⟨fun l hl => ⟨?_, fun z hz => ?_⟩, by omega, by omega⟩
  · have h3 := (List.sublist_flatten_of_mem hl).length_le
    omega
  · have := (h.each l hl).bounds hp hz; omega

set_option maxHeartbeats 4000000 in
set_option maxRecDepth 100000 in
theorem folds_00 (a b : Option Addr) (ca cb : Nat) (ws ps : List Int) (w : World) (hp : Shows w a ws) (hq : Shows w b ps) (hca : ws.length ≤ ca) (E : Hid (lchk ws = 0)) (HFo : Hid (FoldR ws 0 (fold ws.length ws))) (HUn : Hid (UnfoldR ws 0 (unfold ws.length ws))) (HFs : Hid (SmF (fold ws.length ws))) (HUs : Hid (SmF (unfold ws.length ws))) (h40 : ws.length ≤ 40) (HLt : Hid (∀ z ∈ ws, 1 ≤ z ∧ z ≤ 99)) (F : Hid (pchk ps = 0)) (HP : Hid (IsPerm ps)) (cs : List (List Int)) (HCS : Hid (Blocks ps cs)) (HRo : Hid (RndR ps 0 cs.flatten)) (HUr : Hid (UnrR ps 0 (unrL ps))) (HRs : Hid (SmF cs.flatten)) (HVs : Hid (SmF (unrL ps))) :
    Calls Try.prog 5 #[.slice a ws.length ca, .slice b ps.length cb] w fun e w' => e = .returned (.bool true) ∧ Below w.heap.size w w' := by
  go_enter Try.func5, Try.ntmps5
  go_wp2_with fail
  refine (RLetters_is _ _ _ _ _ hp rfl E).mono ?_
  rintro e w1 ⟨rfl, hw1⟩
  obtain rfl : w = w1 := hw1.symm
  go_wp2_with fail
  refine (RPerm_is _ _ _ _ _ hq rfl F).mono ?_
  rintro e w2 ⟨rfl, hw2⟩
  obtain rfl : w = w2 := hw2.symm
  go_wp2_with fail
  refine (Folded_ok _ _ _ _ _ hp rfl E.out).mono ?_
  rintro e w3 ⟨v, rfl, hown, hb⟩
  have HB3 : Hid (Below w.heap.size w w3) := hb
  replace hp := hp.below hb
  replace hq := hq.below hb
  obtain ⟨a3, n3, c3, rfl, S3, hn3, hc3⟩ := hown.opened HFs.out.len HFs.out.wf
  have HN3 : Hid (n3 = (fold ws.length ws).length) := hn3
  have HC3 : Hid (n3 ≤ c3) := hc3
  clear hown hn3 hc3
  clear hb
  go_wp2_with fail
  refine (Unfolded_ok ws.length _ _ ws _ rfl hp hca h40 HLt.out).mono ?_
  rintro e w4 ⟨v, rfl, hown, hb⟩
  have HB4 : Hid (Below w.heap.size w w4) := HB3.out.trans (hb.mono HB3.out.size)
  replace hp := hp.below hb
  replace hq := hq.below hb
  replace S3 := S3.below hb
  obtain ⟨a4, n4, c4, rfl, S4, hn4, hc4⟩ := hown.opened HUs.out.len HUs.out.wf
  have HN4 : Hid (n4 = (unfold ws.length ws).length) := hn4
  have HC4 : Hid (n4 ≤ c4) := hc4
  clear hown hn4 hc4
  clear hb
  go_wp2_with fail
  refine (Cycles_ok _ _ ps _ hq HP.out cs HCS.out).mono ?_
  rintro e w5 ⟨vt, rfl, hT, hb⟩
  have HB5 : Hid (Below w.heap.size w w5) := HB4.out.trans (hb.mono HB4.out.size)
  replace hp := hp.below hb
  replace hq := hq.below hb
  replace S3 := S3.below hb
  replace S4 := S4.below hb
  clear hb
  obtain ⟨at5, ct5, rfl, hTb⟩ := hT.table (rows_small HP.out HCS.out).1
  have HTb : Hid (Table w5 at5 cs) := hTb
  clear hT hTb
  go_wp2_with fail
  refine (Joined_ok _ _ cs _ HTb.out (rows_small HP.out HCS.out).2.1 (rows_small HP.out HCS.out).2.2).mono ?_
  rintro e w6 ⟨v, rfl, hown, hb⟩
  have HB6 : Hid (Below w.heap.size w w6) := HB5.out.trans (hb.mono HB5.out.size)
  replace hp := hp.below hb
  replace hq := hq.below hb
  replace S3 := S3.below hb
  replace S4 := S4.below hb
  obtain ⟨a6, n6, c6, rfl, S6, hn6, hc6⟩ := hown.opened HRs.out.len HRs.out.wf
  have HN6 : Hid (n6 = cs.flatten.length) := hn6
  have HC6 : Hid (n6 ≤ c6) := hc6
  clear hown hn6 hc6
  clear hb
  clear HTb
  go_wp2_with fail
  refine (FromCycles_ok _ _ ps _ hq HP.out).mono ?_
  rintro e w7 ⟨v, rfl, hown, hb⟩
  have HB7 : Hid (Below w.heap.size w w7) := HB6.out.trans (hb.mono HB6.out.size)
  replace hp := hp.below hb
  replace hq := hq.below hb
  replace S3 := S3.below hb
  replace S4 := S4.below hb
  replace S6 := S6.below hb
  obtain ⟨a7, n7, c7, rfl, S7, hn7, hc7⟩ := hown.opened HVs.out.len HVs.out.wf
  have HN7 : Hid (n7 = (unrL ps).length) := hn7
  have HC7 : Hid (n7 ≤ c7) := hc7
  clear hown hn7 hc7
  clear hb
  go_wp2_with fail
  refine (Fold_at _ _ _ _ hp rfl HFo.out).mono ?_
  rintro e w8 ⟨v, rfl, hown, hb⟩
  have HB8 : Hid (Below w.heap.size w w8) := HB7.out.trans (hb.mono HB7.out.size)
  replace hp := hp.below hb
  replace hq := hq.below hb
  replace S3 := S3.below hb
  replace S4 := S4.below hb
  replace S6 := S6.below hb
  replace S7 := S7.below hb
  obtain ⟨a8, n8, c8, rfl, S8, hn8, hc8⟩ := hown.opened HFs.out.len HFs.out.wf
  have HN8 : Hid (n8 = (fold ws.length ws).length) := hn8
  have HC8 : Hid (n8 ≤ c8) := hc8
  clear hown hn8 hc8
  clear hb
  go_wp2_with fail
  refine (Unfold_at _ _ _ _ hp rfl HUn.out).mono ?_
  rintro e w9 ⟨v, rfl, hown, hb⟩
  have HB9 : Hid (Below w.heap.size w w9) := HB8.out.trans (hb.mono HB8.out.size)
  replace hp := hp.below hb
  replace hq := hq.below hb
  replace S3 := S3.below hb
  replace S4 := S4.below hb
  replace S6 := S6.below hb
  replace S7 := S7.below hb
  replace S8 := S8.below hb
  obtain ⟨a9, n9, c9, rfl, S9, hn9, hc9⟩ := hown.opened HUs.out.len HUs.out.wf
  have HN9 : Hid (n9 = (unfold ws.length ws).length) := hn9
  have HC9 : Hid (n9 ≤ c9) := hc9
  clear hown hn9 hc9
  clear hb
  go_wp2_with fail
  refine (Rounds_at _ _ _ _ hq rfl HRo.out).mono ?_
  rintro e w10 ⟨v, rfl, hown, hb⟩
  have HB10 : Hid (Below w.heap.size w w10) := HB9.out.trans (hb.mono HB9.out.size)
  replace hp := hp.below hb
  replace hq := hq.below hb
  replace S3 := S3.below hb
  replace S4 := S4.below hb
  replace S6 := S6.below hb
  replace S7 := S7.below hb
  replace S8 := S8.below hb
  replace S9 := S9.below hb
  obtain ⟨a10, n10, c10, rfl, S10, hn10, hc10⟩ := hown.opened HRs.out.len HRs.out.wf
  have HN10 : Hid (n10 = cs.flatten.length) := hn10
  have HC10 : Hid (n10 ≤ c10) := hc10
  clear hown hn10 hc10
  clear hb
  go_wp2_with fail
  refine (Unrounds_at _ _ _ _ hq rfl HUr.out).mono ?_
  rintro e w11 ⟨v, rfl, hown, hb⟩
  have HB11 : Hid (Below w.heap.size w w11) := HB10.out.trans (hb.mono HB10.out.size)
  replace hp := hp.below hb
  replace hq := hq.below hb
  replace S3 := S3.below hb
  replace S4 := S4.below hb
  replace S6 := S6.below hb
  replace S7 := S7.below hb
  replace S8 := S8.below hb
  replace S9 := S9.below hb
  replace S10 := S10.below hb
  obtain ⟨a11, n11, c11, rfl, S11, hn11, hc11⟩ := hown.opened HVs.out.len HVs.out.wf
  have HN11 : Hid (n11 = (unrL ps).length) := hn11
  have HC11 : Hid (n11 ≤ c11) := hc11
  clear hown hn11 hc11
  clear hb
  go_wp2_with fail
  refine (Letters_is _ _ _ _ _ hp rfl E).mono ?_
  rintro e w12 ⟨rfl, hw12⟩
  obtain rfl : w11 = w12 := hw12.symm
  go_wp2_with fail
  refine (list_ok _ _ _ _ _ _ _ (fold ws.length ws) S8 S3 HN8 HN3).mono ?_
  rintro e w13 ⟨rfl, hd⟩
  have hb : Below w11.heap.size w11 w13 := by
    obtain ⟨n, rfl⟩ := hd
    exact below_drewN (Below.refl _ _) n
  have HB13 : Hid (Below w.heap.size w w13) := HB11.out.trans (hb.mono HB11.out.size)
  replace hp := hp.below hb
  replace hq := hq.below hb
  replace S3 := S3.below hb
  replace S4 := S4.below hb
  replace S6 := S6.below hb
  replace S7 := S7.below hb
  replace S8 := S8.below hb
  replace S9 := S9.below hb
  replace S10 := S10.below hb
  replace S11 := S11.below hb
  clear hb hd
  clear S8 S3
  go_wp2_with fail
  refine (list_ok _ _ _ _ _ _ _ (unfold ws.length ws) S9 S4 HN9 HN4).mono ?_
  rintro e w14 ⟨rfl, hd⟩
  have hb : Below w13.heap.size w13 w14 := by
    obtain ⟨n, rfl⟩ := hd
    exact below_drewN (Below.refl _ _) n
  have HB14 : Hid (Below w.heap.size w w14) := HB13.out.trans (hb.mono HB13.out.size)
  replace hp := hp.below hb
  replace hq := hq.below hb
  replace S4 := S4.below hb
  replace S6 := S6.below hb
  replace S7 := S7.below hb
  replace S9 := S9.below hb
  replace S10 := S10.below hb
  replace S11 := S11.below hb
  clear hb hd
  clear S9 S4
  go_wp2_with fail
  refine (list_ok _ _ _ _ _ _ _ cs.flatten S10 S6 HN10 HN6).mono ?_
  rintro e w15 ⟨rfl, hd⟩
  have hb : Below w14.heap.size w14 w15 := by
    obtain ⟨n, rfl⟩ := hd
    exact below_drewN (Below.refl _ _) n
  have HB15 : Hid (Below w.heap.size w w15) := HB14.out.trans (hb.mono HB14.out.size)
  replace hp := hp.below hb
  replace hq := hq.below hb
  replace S6 := S6.below hb
  replace S7 := S7.below hb
  replace S10 := S10.below hb
  replace S11 := S11.below hb
  clear hb hd
  clear S10 S6
  go_wp2_with fail
  refine (list_ok _ _ _ _ _ _ _ (unrL ps) S11 S7 HN11 HN7).mono ?_
  rintro e w16 ⟨rfl, hd⟩
  have hb : Below w15.heap.size w15 w16 := by
    obtain ⟨n, rfl⟩ := hd
    exact below_drewN (Below.refl _ _) n
  have HB16 : Hid (Below w.heap.size w w16) := HB15.out.trans (hb.mono HB15.out.size)
  replace hp := hp.below hb
  replace hq := hq.below hb
  replace S7 := S7.below hb
  replace S11 := S11.below hb
  clear hb hd
  clear S11 S7
  go_wp2_with fail
  go_ret
  exact ⟨rfl, HB16.out⟩

set_option maxHeartbeats 4000000 in
set_option maxRecDepth 100000 in
theorem folds_0f (a b : Option Addr) (ca cb : Nat) (ws ps : List Int) (w : World) (hp : Shows w a ws) (hq : Shows w b ps) (hca : ws.length ≤ ca) (E : Hid (lchk ws = 0)) (HFo : Hid (FoldR ws 0 (fold ws.length ws))) (HUn : Hid (UnfoldR ws 0 (unfold ws.length ws))) (HFs : Hid (SmF (fold ws.length ws))) (HUs : Hid (SmF (unfold ws.length ws))) (h40 : ws.length ≤ 40) (HLt : Hid (∀ z ∈ ws, 1 ≤ z ∧ z ≤ 99)) (cf : Int) (hcf : (cf != 0) = true) (hcf2 : (cf == 0) = false) (F : Hid (pchk ps = cf)) (HRo : Hid (RndR ps cf [])) (HUr : Hid (UnrR ps cf [])) :
    Calls Try.prog 5 #[.slice a ws.length ca, .slice b ps.length cb] w fun e w' => e = .returned (.bool true) ∧ Below w.heap.size w w' := by
  go_enter Try.func5, Try.ntmps5
  go_wp2_with fail
  refine (RLetters_is _ _ _ _ _ hp rfl E).mono ?_
  rintro e w1 ⟨rfl, hw1⟩
  obtain rfl : w = w1 := hw1.symm
  go_wp2_with fail
  refine (RPerm_is _ _ _ _ _ hq rfl F).mono ?_
  rintro e w2 ⟨rfl, hw2⟩
  obtain rfl : w = w2 := hw2.symm
  go_wp2_with fail
  refine (Folded_ok _ _ _ _ _ hp rfl E.out).mono ?_
  rintro e w3 ⟨v, rfl, hown, hb⟩
  have HB3 : Hid (Below w.heap.size w w3) := hb
  replace hp := hp.below hb
  replace hq := hq.below hb
  obtain ⟨a3, n3, c3, rfl, S3, hn3, hc3⟩ := hown.opened HFs.out.len HFs.out.wf
  have HN3 : Hid (n3 = (fold ws.length ws).length) := hn3
  have HC3 : Hid (n3 ≤ c3) := hc3
  clear hown hn3 hc3
  clear hb
  go_wp2_with fail
  refine (Unfolded_ok ws.length _ _ ws _ rfl hp hca h40 HLt.out).mono ?_
  rintro e w4 ⟨v, rfl, hown, hb⟩
  have HB4 : Hid (Below w.heap.size w w4) := HB3.out.trans (hb.mono HB3.out.size)
  replace hp := hp.below hb
  replace hq := hq.below hb
  replace S3 := S3.below hb
  obtain ⟨a4, n4, c4, rfl, S4, hn4, hc4⟩ := hown.opened HUs.out.len HUs.out.wf
  have HN4 : Hid (n4 = (unfold ws.length ws).length) := hn4
  have HC4 : Hid (n4 ≤ c4) := hc4
  clear hown hn4 hc4
  clear hb
  go_wp2_with fail
  refine (Fold_at _ _ _ _ hp rfl HFo.out).mono ?_
  rintro e w5 ⟨v, rfl, hown, hb⟩
  have HB5 : Hid (Below w.heap.size w w5) := HB4.out.trans (hb.mono HB4.out.size)
  replace hp := hp.below hb
  replace hq := hq.below hb
  replace S3 := S3.below hb
  replace S4 := S4.below hb
  obtain ⟨a5, n5, c5, rfl, S5, hn5, hc5⟩ := hown.opened HFs.out.len HFs.out.wf
  have HN5 : Hid (n5 = (fold ws.length ws).length) := hn5
  have HC5 : Hid (n5 ≤ c5) := hc5
  clear hown hn5 hc5
  clear hb
  go_wp2_with fail
  refine (Unfold_at _ _ _ _ hp rfl HUn.out).mono ?_
  rintro e w6 ⟨v, rfl, hown, hb⟩
  have HB6 : Hid (Below w.heap.size w w6) := HB5.out.trans (hb.mono HB5.out.size)
  replace hp := hp.below hb
  replace hq := hq.below hb
  replace S3 := S3.below hb
  replace S4 := S4.below hb
  replace S5 := S5.below hb
  obtain ⟨a6, n6, c6, rfl, S6, hn6, hc6⟩ := hown.opened HUs.out.len HUs.out.wf
  have HN6 : Hid (n6 = (unfold ws.length ws).length) := hn6
  have HC6 : Hid (n6 ≤ c6) := hc6
  clear hown hn6 hc6
  clear hb
  go_wp2_with fail
  refine (Rounds_at _ _ _ _ hq rfl HRo.out).mono ?_
  rintro e w7 ⟨v, rfl, hown, hb⟩
  have HB7 : Hid (Below w.heap.size w w7) := HB6.out.trans (hb.mono HB6.out.size)
  replace hp := hp.below hb
  replace hq := hq.below hb
  replace S3 := S3.below hb
  replace S4 := S4.below hb
  replace S5 := S5.below hb
  replace S6 := S6.below hb
  obtain ⟨a7, n7, c7, rfl, S7, hn7, hc7⟩ := hown.opened (by decide) (by decide)
  have HN7 : Hid (n7 = [].length) := hn7
  have HC7 : Hid (n7 ≤ c7) := hc7
  clear hown hn7 hc7
  clear hb
  have hz7 := HN7.out
  simp only [List.length_nil] at hz7
  subst hz7
  go_wp2_with fail
  refine (Unrounds_at _ _ _ _ hq rfl HUr.out).mono ?_
  rintro e w8 ⟨v, rfl, hown, hb⟩
  have HB8 : Hid (Below w.heap.size w w8) := HB7.out.trans (hb.mono HB7.out.size)
  replace hp := hp.below hb
  replace hq := hq.below hb
  replace S3 := S3.below hb
  replace S4 := S4.below hb
  replace S5 := S5.below hb
  replace S6 := S6.below hb
  obtain ⟨a8, n8, c8, rfl, S8, hn8, hc8⟩ := hown.opened (by decide) (by decide)
  have HN8 : Hid (n8 = [].length) := hn8
  have HC8 : Hid (n8 ≤ c8) := hc8
  clear hown hn8 hc8
  clear hb
  have hz8 := HN8.out
  simp only [List.length_nil] at hz8
  subst hz8
  go_wp2_with fail
  refine (Letters_is _ _ _ _ _ hp rfl E).mono ?_
  rintro e w9 ⟨rfl, hw9⟩
  obtain rfl : w8 = w9 := hw9.symm
  go_wp2_with fail
  refine (list_ok _ _ _ _ _ _ _ (fold ws.length ws) S5 S3 HN5 HN3).mono ?_
  rintro e w10 ⟨rfl, hd⟩
  have hb : Below w8.heap.size w8 w10 := by
    obtain ⟨n, rfl⟩ := hd
    exact below_drewN (Below.refl _ _) n
  have HB10 : Hid (Below w.heap.size w w10) := HB8.out.trans (hb.mono HB8.out.size)
  replace hp := hp.below hb
  replace hq := hq.below hb
  replace S3 := S3.below hb
  replace S4 := S4.below hb
  replace S5 := S5.below hb
  replace S6 := S6.below hb
  clear hb hd
  clear S5 S3
  go_wp2_with fail
  refine (list_ok _ _ _ _ _ _ _ (unfold ws.length ws) S6 S4 HN6 HN4).mono ?_
  rintro e w11 ⟨rfl, hd⟩
  have hb : Below w10.heap.size w10 w11 := by
    obtain ⟨n, rfl⟩ := hd
    exact below_drewN (Below.refl _ _) n
  have HB11 : Hid (Below w.heap.size w w11) := HB10.out.trans (hb.mono HB10.out.size)
  replace hp := hp.below hb
  replace hq := hq.below hb
  replace S4 := S4.below hb
  replace S6 := S6.below hb
  clear hb hd
  clear S6 S4
  go_wp2_with fail
  refine (list_err _ _ _ _ _ _ cf hcf).mono ?_
  rintro e w12 ⟨rfl, hd⟩
  have hb : Below w11.heap.size w11 w12 := by
    obtain ⟨n, rfl⟩ := hd
    exact below_drewN (Below.refl _ _) n
  have HB12 : Hid (Below w.heap.size w w12) := HB11.out.trans (hb.mono HB11.out.size)
  replace hp := hp.below hb
  replace hq := hq.below hb
  clear hb hd
  go_wp2_with fail
  refine (list_err _ _ _ _ _ _ cf hcf).mono ?_
  rintro e w13 ⟨rfl, hd⟩
  have hb : Below w12.heap.size w12 w13 := by
    obtain ⟨n, rfl⟩ := hd
    exact below_drewN (Below.refl _ _) n
  have HB13 : Hid (Below w.heap.size w w13) := HB12.out.trans (hb.mono HB12.out.size)
  replace hp := hp.below hb
  replace hq := hq.below hb
  clear hb hd
  go_wp2_with fail
  go_ret
  exact ⟨rfl, HB13.out⟩

set_option maxHeartbeats 4000000 in
set_option maxRecDepth 100000 in
theorem folds_e0 (a b : Option Addr) (ca cb : Nat) (ws ps : List Int) (w : World) (hp : Shows w a ws) (hq : Shows w b ps) (ce : Int) (hce : (ce != 0) = true) (hce2 : (ce == 0) = false) (E : Hid (lchk ws = ce)) (HFo : Hid (FoldR ws ce [])) (HUn : Hid (UnfoldR ws ce [])) (F : Hid (pchk ps = 0)) (HP : Hid (IsPerm ps)) (cs : List (List Int)) (HCS : Hid (Blocks ps cs)) (HRo : Hid (RndR ps 0 cs.flatten)) (HUr : Hid (UnrR ps 0 (unrL ps))) (HRs : Hid (SmF cs.flatten)) (HVs : Hid (SmF (unrL ps))) :
    Calls Try.prog 5 #[.slice a ws.length ca, .slice b ps.length cb] w fun e w' => e = .returned (.bool true) ∧ Below w.heap.size w w' := by
  go_enter Try.func5, Try.ntmps5
  go_wp2_with fail
  refine (RLetters_is _ _ _ _ _ hp rfl E).mono ?_
  rintro e w1 ⟨rfl, hw1⟩
  obtain rfl : w = w1 := hw1.symm
  go_wp2_with fail
  refine (RPerm_is _ _ _ _ _ hq rfl F).mono ?_
  rintro e w2 ⟨rfl, hw2⟩
  obtain rfl : w = w2 := hw2.symm
  go_wp2_with fail
  refine (Cycles_ok _ _ ps _ hq HP.out cs HCS.out).mono ?_
  rintro e w3 ⟨vt, rfl, hT, hb⟩
  have HB3 : Hid (Below w.heap.size w w3) := hb
  replace hp := hp.below hb
  replace hq := hq.below hb
  clear hb
  obtain ⟨at3, ct3, rfl, hTb⟩ := hT.table (rows_small HP.out HCS.out).1
  have HTb : Hid (Table w3 at3 cs) := hTb
  clear hT hTb
  go_wp2_with fail
  refine (Joined_ok _ _ cs _ HTb.out (rows_small HP.out HCS.out).2.1 (rows_small HP.out HCS.out).2.2).mono ?_
  rintro e w4 ⟨v, rfl, hown, hb⟩
  have HB4 : Hid (Below w.heap.size w w4) := HB3.out.trans (hb.mono HB3.out.size)
  replace hp := hp.below hb
  replace hq := hq.below hb
  obtain ⟨a4, n4, c4, rfl, S4, hn4, hc4⟩ := hown.opened HRs.out.len HRs.out.wf
  have HN4 : Hid (n4 = cs.flatten.length) := hn4
  have HC4 : Hid (n4 ≤ c4) := hc4
  clear hown hn4 hc4
  clear hb
  clear HTb
  go_wp2_with fail
  refine (FromCycles_ok _ _ ps _ hq HP.out).mono ?_
  rintro e w5 ⟨v, rfl, hown, hb⟩
  have HB5 : Hid (Below w.heap.size w w5) := HB4.out.trans (hb.mono HB4.out.size)
  replace hp := hp.below hb
  replace hq := hq.below hb
  replace S4 := S4.below hb
  obtain ⟨a5, n5, c5, rfl, S5, hn5, hc5⟩ := hown.opened HVs.out.len HVs.out.wf
  have HN5 : Hid (n5 = (unrL ps).length) := hn5
  have HC5 : Hid (n5 ≤ c5) := hc5
  clear hown hn5 hc5
  clear hb
  go_wp2_with fail
  refine (Fold_at _ _ _ _ hp rfl HFo.out).mono ?_
  rintro e w6 ⟨v, rfl, hown, hb⟩
  have HB6 : Hid (Below w.heap.size w w6) := HB5.out.trans (hb.mono HB5.out.size)
  replace hp := hp.below hb
  replace hq := hq.below hb
  replace S4 := S4.below hb
  replace S5 := S5.below hb
  obtain ⟨a6, n6, c6, rfl, S6, hn6, hc6⟩ := hown.opened (by decide) (by decide)
  have HN6 : Hid (n6 = [].length) := hn6
  have HC6 : Hid (n6 ≤ c6) := hc6
  clear hown hn6 hc6
  clear hb
  have hz6 := HN6.out
  simp only [List.length_nil] at hz6
  subst hz6
  go_wp2_with fail
  refine (Unfold_at _ _ _ _ hp rfl HUn.out).mono ?_
  rintro e w7 ⟨v, rfl, hown, hb⟩
  have HB7 : Hid (Below w.heap.size w w7) := HB6.out.trans (hb.mono HB6.out.size)
  replace hp := hp.below hb
  replace hq := hq.below hb
  replace S4 := S4.below hb
  replace S5 := S5.below hb
  obtain ⟨a7, n7, c7, rfl, S7, hn7, hc7⟩ := hown.opened (by decide) (by decide)
  have HN7 : Hid (n7 = [].length) := hn7
  have HC7 : Hid (n7 ≤ c7) := hc7
  clear hown hn7 hc7
  clear hb
  have hz7 := HN7.out
  simp only [List.length_nil] at hz7
  subst hz7
  go_wp2_with fail
  refine (Rounds_at _ _ _ _ hq rfl HRo.out).mono ?_
  rintro e w8 ⟨v, rfl, hown, hb⟩
  have HB8 : Hid (Below w.heap.size w w8) := HB7.out.trans (hb.mono HB7.out.size)
  replace hp := hp.below hb
  replace hq := hq.below hb
  replace S4 := S4.below hb
  replace S5 := S5.below hb
  obtain ⟨a8, n8, c8, rfl, S8, hn8, hc8⟩ := hown.opened HRs.out.len HRs.out.wf
  have HN8 : Hid (n8 = cs.flatten.length) := hn8
  have HC8 : Hid (n8 ≤ c8) := hc8
  clear hown hn8 hc8
  clear hb
  go_wp2_with fail
  refine (Unrounds_at _ _ _ _ hq rfl HUr.out).mono ?_
  rintro e w9 ⟨v, rfl, hown, hb⟩
  have HB9 : Hid (Below w.heap.size w w9) := HB8.out.trans (hb.mono HB8.out.size)
  replace hp := hp.below hb
  replace hq := hq.below hb
  replace S4 := S4.below hb
  replace S5 := S5.below hb
  replace S8 := S8.below hb
  obtain ⟨a9, n9, c9, rfl, S9, hn9, hc9⟩ := hown.opened HVs.out.len HVs.out.wf
  have HN9 : Hid (n9 = (unrL ps).length) := hn9
  have HC9 : Hid (n9 ≤ c9) := hc9
  clear hown hn9 hc9
  clear hb
  have hee : (ce == ce) = true := by simp
  go_wp2_with fail
  refine (Letters_is _ _ _ _ _ hp rfl E).mono ?_
  rintro e w10 ⟨rfl, hw10⟩
  obtain rfl : w9 = w10 := hw10.symm
  go_wp2_with fail
  refine (list_err _ _ _ _ _ _ ce hce).mono ?_
  rintro e w11 ⟨rfl, hd⟩
  have hb : Below w9.heap.size w9 w11 := by
    obtain ⟨n, rfl⟩ := hd
    exact below_drewN (Below.refl _ _) n
  have HB11 : Hid (Below w.heap.size w w11) := HB9.out.trans (hb.mono HB9.out.size)
  replace hp := hp.below hb
  replace hq := hq.below hb
  replace S4 := S4.below hb
  replace S5 := S5.below hb
  replace S8 := S8.below hb
  replace S9 := S9.below hb
  clear hb hd
  go_wp2_with fail
  refine (list_err _ _ _ _ _ _ ce hce).mono ?_
  rintro e w12 ⟨rfl, hd⟩
  have hb : Below w11.heap.size w11 w12 := by
    obtain ⟨n, rfl⟩ := hd
    exact below_drewN (Below.refl _ _) n
  have HB12 : Hid (Below w.heap.size w w12) := HB11.out.trans (hb.mono HB11.out.size)
  replace hp := hp.below hb
  replace hq := hq.below hb
  replace S4 := S4.below hb
  replace S5 := S5.below hb
  replace S8 := S8.below hb
  replace S9 := S9.below hb
  clear hb hd
  go_wp2_with fail
  refine (list_ok _ _ _ _ _ _ _ cs.flatten S8 S4 HN8 HN4).mono ?_
  rintro e w13 ⟨rfl, hd⟩
  have hb : Below w12.heap.size w12 w13 := by
    obtain ⟨n, rfl⟩ := hd
    exact below_drewN (Below.refl _ _) n
  have HB13 : Hid (Below w.heap.size w w13) := HB12.out.trans (hb.mono HB12.out.size)
  replace hp := hp.below hb
  replace hq := hq.below hb
  replace S4 := S4.below hb
  replace S5 := S5.below hb
  replace S8 := S8.below hb
  replace S9 := S9.below hb
  clear hb hd
  clear S8 S4
  go_wp2_with fail
  refine (list_ok _ _ _ _ _ _ _ (unrL ps) S9 S5 HN9 HN5).mono ?_
  rintro e w14 ⟨rfl, hd⟩
  have hb : Below w13.heap.size w13 w14 := by
    obtain ⟨n, rfl⟩ := hd
    exact below_drewN (Below.refl _ _) n
  have HB14 : Hid (Below w.heap.size w w14) := HB13.out.trans (hb.mono HB13.out.size)
  replace hp := hp.below hb
  replace hq := hq.below hb
  replace S5 := S5.below hb
  replace S9 := S9.below hb
  clear hb hd
  clear S9 S5
  go_wp2_with fail
  go_ret
  exact ⟨rfl, HB14.out⟩

set_option maxHeartbeats 4000000 in
set_option maxRecDepth 100000 in
theorem folds_ef (a b : Option Addr) (ca cb : Nat) (ws ps : List Int) (w : World) (hp : Shows w a ws) (hq : Shows w b ps) (ce : Int) (hce : (ce != 0) = true) (hce2 : (ce == 0) = false) (E : Hid (lchk ws = ce)) (HFo : Hid (FoldR ws ce [])) (HUn : Hid (UnfoldR ws ce [])) (cf : Int) (hcf : (cf != 0) = true) (hcf2 : (cf == 0) = false) (F : Hid (pchk ps = cf)) (HRo : Hid (RndR ps cf [])) (HUr : Hid (UnrR ps cf [])) :
    Calls Try.prog 5 #[.slice a ws.length ca, .slice b ps.length cb] w fun e w' => e = .returned (.bool true) ∧ Below w.heap.size w w' := by
  go_enter Try.func5, Try.ntmps5
  go_wp2_with fail
  refine (RLetters_is _ _ _ _ _ hp rfl E).mono ?_
  rintro e w1 ⟨rfl, hw1⟩
  obtain rfl : w = w1 := hw1.symm
  go_wp2_with fail
  refine (RPerm_is _ _ _ _ _ hq rfl F).mono ?_
  rintro e w2 ⟨rfl, hw2⟩
  obtain rfl : w = w2 := hw2.symm
  go_wp2_with fail
  refine (Fold_at _ _ _ _ hp rfl HFo.out).mono ?_
  rintro e w3 ⟨v, rfl, hown, hb⟩
  have HB3 : Hid (Below w.heap.size w w3) := hb
  replace hp := hp.below hb
  replace hq := hq.below hb
  obtain ⟨a3, n3, c3, rfl, S3, hn3, hc3⟩ := hown.opened (by decide) (by decide)
  have HN3 : Hid (n3 = [].length) := hn3
  have HC3 : Hid (n3 ≤ c3) := hc3
  clear hown hn3 hc3
  clear hb
  have hz3 := HN3.out
  simp only [List.length_nil] at hz3
  subst hz3
  go_wp2_with fail
  refine (Unfold_at _ _ _ _ hp rfl HUn.out).mono ?_
  rintro e w4 ⟨v, rfl, hown, hb⟩
  have HB4 : Hid (Below w.heap.size w w4) := HB3.out.trans (hb.mono HB3.out.size)
  replace hp := hp.below hb
  replace hq := hq.below hb
  obtain ⟨a4, n4, c4, rfl, S4, hn4, hc4⟩ := hown.opened (by decide) (by decide)
  have HN4 : Hid (n4 = [].length) := hn4
  have HC4 : Hid (n4 ≤ c4) := hc4
  clear hown hn4 hc4
  clear hb
  have hz4 := HN4.out
  simp only [List.length_nil] at hz4
  subst hz4
  go_wp2_with fail
  refine (Rounds_at _ _ _ _ hq rfl HRo.out).mono ?_
  rintro e w5 ⟨v, rfl, hown, hb⟩
  have HB5 : Hid (Below w.heap.size w w5) := HB4.out.trans (hb.mono HB4.out.size)
  replace hp := hp.below hb
  replace hq := hq.below hb
  obtain ⟨a5, n5, c5, rfl, S5, hn5, hc5⟩ := hown.opened (by decide) (by decide)
  have HN5 : Hid (n5 = [].length) := hn5
  have HC5 : Hid (n5 ≤ c5) := hc5
  clear hown hn5 hc5
  clear hb
  have hz5 := HN5.out
  simp only [List.length_nil] at hz5
  subst hz5
  go_wp2_with fail
  refine (Unrounds_at _ _ _ _ hq rfl HUr.out).mono ?_
  rintro e w6 ⟨v, rfl, hown, hb⟩
  have HB6 : Hid (Below w.heap.size w w6) := HB5.out.trans (hb.mono HB5.out.size)
  replace hp := hp.below hb
  replace hq := hq.below hb
  obtain ⟨a6, n6, c6, rfl, S6, hn6, hc6⟩ := hown.opened (by decide) (by decide)
  have HN6 : Hid (n6 = [].length) := hn6
  have HC6 : Hid (n6 ≤ c6) := hc6
  clear hown hn6 hc6
  clear hb
  have hz6 := HN6.out
  simp only [List.length_nil] at hz6
  subst hz6
  have hee : (ce == ce) = true := by simp
  go_wp2_with fail
  refine (Letters_is _ _ _ _ _ hp rfl E).mono ?_
  rintro e w7 ⟨rfl, hw7⟩
  obtain rfl : w6 = w7 := hw7.symm
  go_wp2_with fail
  refine (list_err _ _ _ _ _ _ ce hce).mono ?_
  rintro e w8 ⟨rfl, hd⟩
  have hb : Below w6.heap.size w6 w8 := by
    obtain ⟨n, rfl⟩ := hd
    exact below_drewN (Below.refl _ _) n
  have HB8 : Hid (Below w.heap.size w w8) := HB6.out.trans (hb.mono HB6.out.size)
  replace hp := hp.below hb
  replace hq := hq.below hb
  clear hb hd
  go_wp2_with fail
  refine (list_err _ _ _ _ _ _ ce hce).mono ?_
  rintro e w9 ⟨rfl, hd⟩
  have hb : Below w8.heap.size w8 w9 := by
    obtain ⟨n, rfl⟩ := hd
    exact below_drewN (Below.refl _ _) n
  have HB9 : Hid (Below w.heap.size w w9) := HB8.out.trans (hb.mono HB8.out.size)
  replace hp := hp.below hb
  replace hq := hq.below hb
  clear hb hd
  go_wp2_with fail
  refine (list_err _ _ _ _ _ _ cf hcf).mono ?_
  rintro e w10 ⟨rfl, hd⟩
  have hb : Below w9.heap.size w9 w10 := by
    obtain ⟨n, rfl⟩ := hd
    exact below_drewN (Below.refl _ _) n
  have HB10 : Hid (Below w.heap.size w w10) := HB9.out.trans (hb.mono HB9.out.size)
  replace hp := hp.below hb
  replace hq := hq.below hb
  clear hb hd
  go_wp2_with fail
  refine (list_err _ _ _ _ _ _ cf hcf).mono ?_
  rintro e w11 ⟨rfl, hd⟩
  have hb : Below w10.heap.size w10 w11 := by
    obtain ⟨n, rfl⟩ := hd
    exact below_drewN (Below.refl _ _) n
  have HB11 : Hid (Below w.heap.size w w11) := HB10.out.trans (hb.mono HB10.out.size)
  replace hp := hp.below hb
  replace hq := hq.below hb
  clear hb hd
  go_wp2_with fail
  go_ret
  exact ⟨rfl, HB11.out⟩

/-- Folds, of every two slices that can be read. -/
theorem folds_any (a b : Option Addr) (ca cb : Nat) (ws ps : List Int) (w : World) (hp : Shows w a ws) (hq : Shows w b ps) (hca : ws.length ≤ ca) :
    Calls Try.prog 5 #[.slice a ws.length ca, .slice b ps.length cb] w fun e w' => e = .returned (.bool true) ∧ Below w.heap.size w w' := by
  by_cases h0 : lchk ws = 0
  · obtain ⟨h40, hlt⟩ := lchk_ok.1 h0
    have hF : FoldR ws 0 (fold ws.length ws) := ⟨h0, by rw [if_pos rfl]⟩
    have hU : UnfoldR ws 0 (unfold ws.length ws) := ⟨h0, by rw [if_pos rfl]⟩
    by_cases h1 : pchk ps = 0
    · have hpp := pchk_ok.1 h1
      obtain ⟨cs, hcs⟩ := blocks_ex hpp
      exact folds_00 a b ca cb ws ps w hp hq hca h0 hF hU (SmF.word (fold_ok h0)) (SmF.word (unfold_ok h0)) h40 hlt h1 hpp cs hcs ⟨h1, fun _ => ⟨cs, hcs, rfl⟩, fun h => absurd rfl h⟩ ⟨h1, by rw [if_pos rfl]⟩ (SmF.perm (hcs.perm hpp).2) (SmF.perm (unrL_perm hpp))
    · exact folds_0f a b ca cb ws ps w hp hq hca h0 hF hU (SmF.word (fold_ok h0)) (SmF.word (unfold_ok h0)) h40 hlt _ (bne_iff_ne.2 h1) (beq_eq_false_iff_ne.2 h1) rfl ⟨rfl, fun h => absurd h h1, fun _ => rfl⟩ ⟨rfl, by rw [if_neg h1]⟩
  · have hF : FoldR ws (lchk ws) [] := ⟨rfl, by rw [if_neg h0]⟩
    have hU : UnfoldR ws (lchk ws) [] := ⟨rfl, by rw [if_neg h0]⟩
    by_cases h1 : pchk ps = 0
    · have hpp := pchk_ok.1 h1
      obtain ⟨cs, hcs⟩ := blocks_ex hpp
      exact folds_e0 a b ca cb ws ps w hp hq _ (bne_iff_ne.2 h0) (beq_eq_false_iff_ne.2 h0) rfl hF hU h1 hpp cs hcs ⟨h1, fun _ => ⟨cs, hcs, rfl⟩, fun h => absurd rfl h⟩ ⟨h1, by rw [if_pos rfl]⟩ (SmF.perm (hcs.perm hpp).2) (SmF.perm (unrL_perm hpp))
    · exact folds_ef a b ca cb ws ps w hp hq _ (bne_iff_ne.2 h0) (beq_eq_false_iff_ne.2 h0) rfl hF hU _ (bne_iff_ne.2 h1) (beq_eq_false_iff_ne.2 h1) rfl ⟨rfl, fun h => absurd h h1, fun _ => rfl⟩ ⟨rfl, by rw [if_neg h1]⟩

#print axioms folds_any
end Go.Proofs.Ytnjbkiegeielhab
