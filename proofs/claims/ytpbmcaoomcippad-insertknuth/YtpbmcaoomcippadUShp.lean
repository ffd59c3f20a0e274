/-
  The contracts of fill.Shape, fill.Word, fill.Content, fill.IsStandard.
-/
import Derived.Test.YtpbmcaoomcippadUChkB
import Derived.Test.YtpbmcaoomcippadLMathB
import Derived.Test.YtpbmcaoomcippadPChk
namespace Go.Proofs.Ytpbmcaoomcippad
open Go.RowKit

/-- What a function of one tableau answers. -/
def TabL (F : List (List Int) → List Int) (ls : List (List Int)) (c : Int) (q : List Int) : Prop := tchk ls = c ∧ q = if c = 0 then F ls else []
theorem TabL.ok {F : List (List Int) → List Int} {ls : List (List Int)} (h : IsTab ls) : TabL F ls 0 (F ls) := ⟨tchk_ok.2 h, rfl⟩
theorem TabL.err {F : List (List Int) → List Int} {ls : List (List Int)} {c : Int} (h : tchk ls = c) (h0 : c ≠ 0) : TabL F ls c [] := ⟨h, by rw [if_neg h0]⟩

def shapeL (ls : List (List Int)) : List Int := tab ls.length (fun j => ((row ls j).length : Nat))
theorem below_drew {w : World} (n : Nat) : Below w.heap.size w (w.drewN n) := below_drewN (Below.refl _ _) n

theorem tab_len {ls : List (List Int)} (h : IsTab ls) : ls.length ≤ 17592186044416 := by have := h.rows; omega

set_option maxHeartbeats 2000000 in
theorem Shape_ok (a : Option Addr) (cap : Nat) (ls : List (List Int)) (w : World) (hs : Table w a ls) (hp : IsTab ls) :
    Calls Try.prog 64 #[.slice a ls.length cap] w fun e w' => ∃ v, e = .returned (.tuple #[v, .int .i64 0]) ∧ Owns w' w.heap.size v (shapeL ls) ∧ Below w.heap.size w w' := by
  have E : Hid (tchk ls = 0) := tchk_ok.2 hp
  have h40 := hp.rows
  have HL : Hid (ls.length ≤ 17592186044416) := tab_len hp
  have HS : Hid (Table w a ls) := hs
  clear hp hs
  obtain ⟨i0, hi, hz0, hz1, hz2⟩ := info_parts Try.info3
  go_enter Try.func64, Try.ntmps64
  go_wp2_with fail
  refine (TCheck_is _ _ _ _ _ HS.out HL.out rfl E).mono ?_
  rintro e w0 ⟨rfl, n, rfl⟩
  have HB0 : Hid (Below w.heap.size w (w.drewN n)) := below_drew n
  go_wp2_with (at_make; refine wpList_make_full _ rfl _ _ 22 rfl w.heap.size 3 i0 (.int .i64 0) 1 Try.underlying22 hi hz0 hz1 _ _ _ _ ls.length rfl rfl rfl rfl ?b1 ?b2 ?b3 ?_)
  case b1 => rw [hz2]; omega
  case b2 => unfold maxLen; omega
  case b3 => exact HB0.out.size
  intro w1 hown hgrow
  have HB1 : Hid (Below w.heap.size w w1) := HB0.out.grown hgrow HB0.out.size (fun k h => by cases h)
  have HO1 : Hid (Owns w1 w.heap.size (.slice (some ⟨w.heap.size, 0, none⟩) ls.length ls.length) (tab ls.length (fun j => if j < 0 then ((row ls j).length : Nat) else 0))) := (owns_made hown).tabCongr (fun j _ => by simp)
  clear hown hgrow
  go_wp2
  go_loopw [18] (fun i wr => ∃ k : Nat, k ≤ ls.length ∧ i = .int .i64 k ∧ Hid (Owns wr w.heap.size (.slice (some ⟨w.heap.size, 0, none⟩) ls.length ls.length) (tab ls.length (fun j => if j < k then ((row ls j).length : Nat) else 0))) ∧ Hid (Below w.heap.size w wr)) (fun i _ => ls.length - (intOf i).toNat)
  case atStart => exact ⟨0, Nat.zero_le _, rfl, HO1, HB1⟩
  case round =>
    obtain ⟨k, hk, rfl, HO, HB⟩ := hrel
    by_cases hlt : k < ls.length
    · have hlt' : (k : Int) < (ls.length : Int) := by omega
      obtain ⟨b, off, ai, m, ci, rfl, hc, HM, -, -, hmb⟩ := (HS.out.below HB.out).elem hlt
      obtain ⟨hfz, hcz⟩ := HO.out.tabAt hlt
      go_wp2
      go_roundw
      case rel => exact ⟨k + 1, by omega, by go_num, (HO.out.tabStore k (m : Int)).tabCongr (fun j _ => by
                    unfold upd
                    by_cases e : j = k
                    · subst e; rw [if_pos rfl, if_pos (by omega), HM.out]
                    · rw [if_neg e]
                      show (if j < k then (((row ls j).length : Nat) : Int) else 0) = if j < k + 1 then (((row ls j).length : Nat) : Int) else 0
                      by_cases h : j < k
                      · rw [if_pos h, if_pos (by omega)]
                      · rw [if_neg h, if_neg (by omega)]), HB.out.setCell (Nat.le_refl _) _⟩
      case measure => simp [intOf]; omega
    · obtain rfl : k = ls.length := by omega
      go_wp2
      go_ret2
      exact ⟨_, rfl, HO.out.tabCongr (fun j hj => by rw [if_pos hj]), HB.out⟩

set_option maxHeartbeats 2000000 in
theorem Shape_err (a : Option Addr) (cap : Nat) (ls : List (List Int)) (w : World) (hs : Table w a ls) (hl : ls.length ≤ 17592186044416) (c : Int) (h : tchk ls = c) (hc : (c != 0) = true) :
    Calls Try.prog 64 #[.slice a ls.length cap] w fun e w' => e = .returned (.tuple #[.slice none 0 0, .int .i64 c]) ∧ Below w.heap.size w w' := by
  have E : Hid (tchk ls = c) := h
  clear h
  go_enter Try.func64, Try.ntmps64
  go_wp2_with fail
  refine (TCheck_is _ _ _ _ _ hs hl rfl E).mono ?_
  rintro e w' ⟨rfl, n, rfl⟩
  go_wp2_with fail
  go_ret2
  exact ⟨rfl, below_drew n⟩

theorem Shape_at {ls : List (List Int)} {q : List Int} {c : Int} (a : Option Addr) (n cap : Nat) (w : World) (hs : Table w a ls) (hl : ls.length ≤ 17592186044416) (hn : n = ls.length) (hr : TabL shapeL ls c q) :
    Calls Try.prog 64 #[.slice a n cap] w fun e w' => ∃ v, e = .returned (.tuple #[v, .int .i64 c]) ∧ Owns w' w.heap.size v q ∧ Below w.heap.size w w' := by
  subst hn
  obtain ⟨h, rfl⟩ := hr
  by_cases hc : c = 0
  · subst hc; exact Shape_ok a cap ls w hs (tchk_ok.1 h)
  · rw [if_neg hc]
    exact (Shape_err a cap ls w hs hl c h (bne_iff_ne.2 hc)).mono fun e w' ⟨he, hw⟩ => ⟨_, he, World.ownsRow_nil _ _ _ _, hw⟩

-- The word.
def wordL (ls : List (List Int)) : List Int := ls.reverse.flatten
theorem word_drop (ls : List (List Int)) (k : Nat) (hk : k < ls.length) : (ls.drop k).reverse.flatten = (ls.drop (k + 1)).reverse.flatten ++ row ls k := by
  rw [List.drop_eq_getElem_cons hk, List.reverse_cons, List.flatten_append]
  simp [row, List.getD, List.getElem?_eq_getElem hk]
theorem flat_rev_len (ls : List (List Int)) : ls.reverse.flatten.length = ls.flatten.length := by
  induction ls with
  | nil => rfl
  | cons r ls ih => rw [List.reverse_cons, List.flatten_append, List.length_append, ih]; simp; omega
theorem word_drop_le (ls : List (List Int)) (k : Nat) : (ls.drop k).reverse.flatten.length ≤ ls.flatten.length := by
  rw [flat_rev_len]
  conv => rhs; rw [← List.take_append_drop k ls]
  rw [List.flatten_append, List.length_append]; omega

end Go.Proofs.Ytpbmcaoomcippad
