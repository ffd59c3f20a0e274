/-
  The contracts of slides.shapeOfHoles, slides.rectified.
-/
import Derived.Test.YtpbkidgdpejenaeSSlf
namespace Go.Proofs.Ytpbkidgdpejenae
open Go.RowKit

/-- The holes of the first rows, those without any left out. -/
def hsF (ls : List (List Int)) : Nat → List Int
  | 0 => []
  | k + 1 => hsF ls k ++ (if 0 < H ls k then [(H ls k : Int)] else [])
theorem hsF_len (ls : List (List Int)) : ∀ k, (hsF ls k).length ≤ k := by
  intro k
  induction k with
  | zero => exact Nat.le_refl _
  | succ k ih => simp only [hsF, List.length_append]; split <;> simp <;> omega
theorem hsF_tab {h : Nat → Nat} {ls : List (List Int)} (k : Sk non h ls) : ∀ n, ∃ j, j ≤ n ∧ hsF ls n = tab j (fun a => (h a : Int)) ∧ (j = n ∨ h j = 0) ∧ ∀ a, a < j → 0 < h a := by
  have hH : ∀ a, H ls a = h a := fun a => k.hol a
  intro n
  induction n with
  | zero => exact ⟨0, Nat.le_refl _, rfl, Or.inl rfl, fun a ha => by omega⟩
  | succ n ih =>
    obtain ⟨j, h1, h2, h3, h4⟩ := ih
    simp only [hsF, hH]
    by_cases c : 0 < h n
    · have hj : j = n := by
        rcases h3 with q | q
        · exact q
        · have := k.mono (a := j) (c := n) h1; omega
      subst hj
      exact ⟨j + 1, Nat.le_refl _, by rw [if_pos c, h2, tab_succ], Or.inl rfl, fun a ha => by
        by_cases e : a = j
        · rw [e]; exact c
        · exact h4 a (by omega)⟩
    · refine ⟨j, by omega, by rw [if_neg c, List.append_nil, h2], ?_, h4⟩
      rcases h3 with q | q
      · right; rw [q]; omega
      · exact Or.inr q
theorem hsF_count {h : Nat → Nat} {ls : List (List Int)} (k : Sk non h ls) (a : Nat) : (byRow 0 (hsF ls ls.length)).count a = h a := by
  obtain ⟨j, h1, h2, h3, h4⟩ := hsF_tab k ls.length
  have := byRow_count (hsF ls ls.length) 0 a
  rw [Nat.zero_add] at this
  rw [this, h2]
  by_cases c : a < j
  · rw [tab_getD _ _ _ c]; simp
  · rw [tab_out _ _ _ (by omega)]
    rcases h3 with q | q
    · have := k.hl a; rw [row_out (by omega)] at this; simp at this; simp [this]
    · have := k.mono (a := j) (c := a) (by omega); simp; omega
theorem hsF_lat {h : Nat → Nat} {ls : List (List Int)} (k : Sk non h ls) : Lat (byRow 0 (hsF ls ls.length)) :=
  lat_sorted (byRow_sorted _ _) (fun a => by rw [hsF_count k, hsF_count k]; exact k.hm a)
theorem byRow_snoc (l : List Int) (x : Int) : byRow 0 (l ++ [x]) = byRow 0 l ++ List.replicate x.toNat l.length := by
  have gen : ∀ (l : List Int) (i : Nat), byRow i (l ++ [x]) = byRow i l ++ List.replicate x.toNat (i + l.length) := by
    intro l
    induction l with
    | nil => intro i; simp [byRow]
    | cons y l ih => intro i; simp only [List.cons_append, byRow, ih, List.append_assoc, List.length_cons]; congr 3; omega
  have := gen l 0
  simpa using this
theorem recS_snoc : ∀ (l : List Nat) (i : Nat) (s : List (List Int)), recS (l ++ [i]) s = (slR (recS l s) i).1 := by
  intro l
  induction l with
  | nil => intro i s; rfl
  | cons j l ih => intro i s; show recS (l ++ [i]) (slR s j).1 = _; rw [ih]; rfl

set_option maxHeartbeats 4000000 in
theorem shapeOfHoles_at (a : Option Addr) (n cap : Nat) (ls : List (List Int)) (w : World) (hs : Table w a ls) (hn : n = ls.length) (hl : ls.length ≤ 1000) :
    Calls Try.prog 56 #[.slice a n cap] w fun e w' => ∃ v, e = .returned v ∧ Owns w' w.heap.size v (hsF ls ls.length) ∧ Below w.heap.size w w' := by
  subst hn
  have HS : Hid (Table w a ls) := hs
  clear hs
  go_enter Try.func56, Try.ntmps56
  go_wp2
  go_loopw [3, 9] (fun v iv wr => ∃ k : Nat, k ≤ ls.length ∧ iv = .int .i64 k ∧ Hid (Owns wr w.heap.size v (hsF ls k)) ∧ Hid (Below w.heap.size w wr)) (fun _ iv _ => ls.length - (intOf iv).toNat)
  case atStart => exact ⟨0, Nat.zero_le _, rfl, World.ownsRow_nil _ _ _ _, Below.refl _ _⟩
  case round =>
    obtain ⟨k, hk, rfl, HO, HB⟩ := hrel
    by_cases hlt : k < ls.length
    · have hlt' : (k : Int) < (ls.length : Int) := by omega
      obtain ⟨b, off, ai, m, ci, rfl, HC, HM, HSk, -, hmb⟩ := HS.out.elemB hlt
      have hc := HC.out _ HB.out
      obtain ⟨p, HP⟩ : ∃ p, Hid (hol (row ls k) = p) := ⟨_, rfl⟩
      have hpb : p ≤ 17592186044416 := by rw [← HP.out]; have := hol_le (row ls k); have := HSk.out.len; omega
      go_wp2_with fail
      refine (holesOf_is _ _ _ (row ls k) wr (HSk.out.below HB.out) HM.out HP).mono ?_
      rintro e w1 ⟨rfl, hw1⟩
      obtain rfl : wr = w1 := hw1.symm
      clear hw1
      by_cases c : 0 < p
      · have g1 : (p : Int) > 0 := by omega
        have HN : Hid (hsF ls (k + 1) = hsF ls k ++ [(p : Int)]) := by
          show _ = _
          simp only [hsF]; unfold H; rw [HP.out, if_pos c]
        have HLn : Hid ((hsF ls k).length ≤ 1000) := by have := hsF_len ls k; show _ ≤ _; omega
        go_wp2_with (at_builtin; refine append_int (x := (p : Int)) rfl _ _ rfl rfl HO.out rfl ?c1 ?c2 ?_)
        case c1 => have := HLn.out; omega
        case c2 => exact HB.out.size
        intro v' w2 hO' hb'
        have HO2 : Hid (Owns w2 w.heap.size v' (hsF ls (k + 1))) := by rw [HN.out]; exact hO'
        have HB2 : Hid (Below w.heap.size w w2) := HB.out.trans hb'
        clear hO' hb'
        go_wp2
        go_roundw
        case rel => exact ⟨k + 1, by omega, by go_num, HO2, HB2⟩
        case measure => simp [intOf]; omega
      · have g1 : decide ((p : Int) > 0) = false := by simp; omega
        have g2 : decide (0 < p) = false := by simp; omega
        have HN : Hid (hsF ls (k + 1) = hsF ls k) := by
          show _ = _
          simp only [hsF]; unfold H; rw [HP.out, if_neg c, List.append_nil]
        have HO2 := HO.out
        rw [← HN.out] at HO2
        go_wp2
        go_roundw
        case rel => exact ⟨k + 1, by omega, by go_num, HO2, HB⟩
        case measure => simp [intOf]; omega
    · obtain rfl : k = ls.length := by omega
      have hlt' : ¬ (ls.length : Int) < (ls.length : Int) := by omega
      go_wp2
      go_ret
      exact ⟨_, rfl, HO.out, HB.out⟩
/-- On the way: as many rows are left as p says. -/
structure Rcf (rows : List Nat) (ls : List (List Int)) (p : Nat) (ms : List (List Int)) : Prop where
  sk : Sk non (fun a => (rows.take p).count a) ms
  few : Few ms
  is : recS (rows.take p).reverse ms = recS rows.reverse ls
theorem Rcf.step {rows : List Nat} {ls : List (List Int)} {p : Nat} {ms : List (List Int)} (h : Rcf rows ls (p + 1) ms) (hL : Lat rows) (hp : p < rows.length) {i : Nat} (hi : rows.getD p 0 = i) (hF : Few (slR ms i).1) :
    (rows.take (p + 1)).count (i + 1) < (rows.take (p + 1)).count i ∧ Rcf rows ls p (slR ms i).1 := by
  have e : rows.take (p + 1) = rows.take p ++ [i] := by
    rw [List.take_succ_eq_append_getElem hp, ← hi]; simp [List.getD, List.getElem?_eq_getElem hp]
  have hc : (rows.take (p + 1)).count (i + 1) < (rows.take (p + 1)).count i := by
    have := hL p i
    rw [e, List.count_append, List.count_append, List.count_singleton_self]
    have : List.count (i + 1) [i] = 0 := by simp
    omega
  refine ⟨hc, ?_⟩
  have k := (slR_ok h.sk hc).1
  have hh : (fun a => (rows.take p).count a) = less (fun a => (rows.take (p + 1)).count a) i := by
    funext a
    show (rows.take p).count a = if a = i then (rows.take (p + 1)).count i - 1 else (rows.take (p + 1)).count a
    by_cases q : a = i
    · rw [if_pos q, e, q, List.count_append, List.count_singleton_self]; omega
    · rw [if_neg q, e, List.count_append]
      have : List.count a [i] = 0 := by rw [List.count_eq_zero]; simp; exact q
      omega
  refine ⟨by rw [hh]; exact k, hF, ?_⟩
  rw [← h.is, e, List.reverse_append]
  rfl

set_option maxHeartbeats 4000000 in
theorem rectified_at {h : Nat → Nat} (a b : Option Addr) (n m ca cb : Nat) (ls : List (List Int)) (rows : List Nat) (w : World) (hs : Table w a ls) (ht : Shows w b (rows.map (fun k : Nat => (k : Int)))) (hn : n = ls.length) (hm : m = rows.length) (hm40 : rows.length ≤ 1000) (hF : Few ls) (hK : Sk non h ls) (hc : ∀ a, h a = rows.count a) (hL : Lat rows) :
    Calls Try.prog 58 #[.slice a n ca, .slice b m cb] w fun e w' => ∃ v, e = .returned v ∧ Tbl w' w.heap.size v (recS rows.reverse ls) ∧ Below w.heap.size w w' := by
  subst hn; subst hm
  have HS : Hid (Table w a ls) := hs
  have HT : Hid (Shows w b (rows.map (fun k : Nat => (k : Int)))) := ht
  have HF : Hid (Few ls) := hF
  have HL : Hid (Lat rows) := hL
  have HR0 : Hid (Rcf rows ls rows.length ls) := by
    refine ⟨?_, hF, by rw [List.take_length]⟩
    have : (fun a => (rows.take rows.length).count a) = h := funext (fun a => by rw [List.take_length, hc])
    rw [this]; exact hK
  clear hs ht hF hK hc hL
  go_enter Try.func58, Try.ntmps58
  go_wp2_with fail
  refine (scopied_at a ls.length ca ls w HS.out rfl HF.out.len HF.out.one).mono ?_
  rintro e w1 ⟨v1, rfl, hT1, hb1⟩
  have HB1 : Hid (Below w.heap.size w w1) := hb1
  have HT1 : Hid (TIn w1 w.heap.size (fun k => w.heap.size ≤ k ∧ k < w1.heap.size) v1 ls) := TIn.of_tbl hT1
  obtain ⟨va, vn, vc, hv⟩ : ∃ va vn vc, v1 = .slice va vn vc := by obtain ⟨q, hq⟩ := hT1; obtain ⟨x, y, e⟩ := hq.shape; exact ⟨_, _, _, e⟩
  subst hv
  clear hT1 hb1
  have hsub : IntKind.i64.wrap ((rows.length : Int) - 1) = (rows.length : Int) - 1 := by rw [IntWalk.i64_left, IntWalk.wrap64_in _ (by omega)]
  go_wp2
  go_loopw [5, 6] (fun tv iv wr => ∃ (p tn : Nat) (ta : Option Addr) (tc : Nat) (ms : List (List Int)), p ≤ rows.length ∧ iv = .int .i64 ((p : Int) - 1) ∧ tv = .slice ta tn tc ∧ Hid (Rcf rows ls p ms) ∧
    Hid (TIn wr w.heap.size (fun k => w.heap.size ≤ k ∧ k < w1.heap.size) (.slice ta tn tc) ms) ∧ Hid (Below w.heap.size w wr ∧ wr.heap.size = w1.heap.size)) (fun _ iv _ => ((intOf iv) + 1).toNat)
  case atStart => exact ⟨rows.length, _, _, _, ls, Nat.le_refl _, rfl, rfl, HR0, HT1, ⟨HB1.out, rfl⟩⟩
  case round =>
    obtain ⟨p, tn, ta, tc, ms, hp, rfl, rfl, HR, HTt, HB⟩ := hrel
    cases p with
    | zero =>
      have hm : ((0 : Nat) : Int) - 1 = -1 := by omega
      rw [hm]
      have hge : ¬ (-1 : Int) ≥ 0 := by omega
      have HE : Hid (recS rows.reverse ls = ms) := by show _ = _; rw [← HR.out.is]; rfl
      clear hm
      go_wp2
      go_ret
      exact ⟨_, rfl, by rw [HE.out]; exact HTt.out.tbl, HB.out.1⟩
    | succ p =>
      have hm : ((p + 1 : Nat) : Int) - 1 = (p : Int) := by omega
      rw [hm]
      have hge : (p : Int) ≥ 0 := by omega
      have hpl : (p : Int) < (rows.length : Int) := by omega
      have HPl : Hid (p < (rows.map (fun k : Nat => (k : Int))).length) := by show _ < _; rw [List.length_map]; omega
      obtain ⟨b2, off2, z, rfl, HZ, -, -, hcz⟩ := (HT.out.below HB.out.1).elem HPl.out
      obtain ⟨i, HI⟩ : ∃ i, Hid (rows.getD p 0 = i) := ⟨_, rfl⟩
      have hzi : z = (i : Int) := by
        rw [HZ.out, ← HI.out]
        simp [List.getD, List.getElem?_eq_getElem (show p < rows.length by omega)]
      subst hzi
      have hps : IntKind.i64.wrap ((p : Int) - 1) = (p : Int) - 1 := by rw [IntWalk.i64_left, IntWalk.wrap64_in _ (by omega)]
      have hcn : (rows.take (p + 1)).count (i + 1) < (rows.take (p + 1)).count i := by
        have e : rows.take (p + 1) = rows.take p ++ [i] := by
          rw [List.take_succ_eq_append_getElem (by omega), ← HI.out]; simp [List.getD, List.getElem?_eq_getElem (show p < rows.length by omega)]
        have := HL.out p i
        rw [e, List.count_append, List.count_append, List.count_singleton_self]
        have : List.count (i + 1) [i] = 0 := by simp
        omega
      have HCn : Hid ((rows.take (p + 1)).count (i + 1) < (rows.take (p + 1)).count i) := hcn
      obtain ⟨ts, hTs⟩ := HTt.out
      have HTs : Hid (TblIn wr w.heap.size (fun k => w.heap.size ≤ k ∧ k < w1.heap.size) (.slice ta tn tc) ts ms) := hTs
      have HPlt : Hid (p < rows.length) := by show _ < _; omega
      clear hm hTs hcn
      go_wp2_with fail
      refine (sslid_at _ _ _ _ i wr HTs.out HR.out.few HR.out.sk HCn.out).mono ?_
      rintro e w2 ⟨v2, rfl, hT2, hO2, hz2, hF2⟩
      have HR2 : Hid (Rcf rows ls p (slR ms i).1) := (HR.out.step HL.out HPlt.out HI.out hF2).2
      have HT2 : Hid (TIn w2 w.heap.size (fun k => w.heap.size ≤ k ∧ k < w1.heap.size) v2 (slR ms i).1) := hT2
      have HB2 : Hid (Below w.heap.size w w2 ∧ w2.heap.size = w1.heap.size) := ⟨HB.out.1.trans (hO2.below HB.out.1.size (fun q hq => hq.1)), by rw [hz2]; exact HB.out.2⟩
      obtain ⟨a2, n2, c2, hv2⟩ : ∃ a2 n2 c2, v2 = .slice a2 n2 c2 := by obtain ⟨q, hq⟩ := hT2; obtain ⟨x, y, e⟩ := hq.t.shape; exact ⟨_, _, _, e⟩
      subst hv2
      clear hT2 hO2 hz2 hF2
      go_wp2
      go_roundw
      case rel => exact ⟨p, _, _, _, _, by omega, rfl, rfl, HR2, HT2, HB2⟩
      case measure => simp [intOf]

end Go.Proofs.Ytpbkidgdpejenae
