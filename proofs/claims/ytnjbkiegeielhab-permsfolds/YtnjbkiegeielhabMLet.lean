/-
  The contract of perms.Letters; copy within a slice of the call's own.
-/
import Derived.Test.YtnjbkiegeielhabBApp
import Derived.Test.YtnjbkiegeielhabMMath
import Derived.Deep.RegionLaw
namespace Go.Proofs.Ytnjbkiegeielhab
open Go.RowKit

/-- A word: letters from 1 to 99. -/
def okW (zs : List Int) : Bool := zs.all fun z => decide (1 ≤ z) && decide (z ≤ 99)
def lchk (zs : List Int) : Int := if 40 < zs.length then 2 else if okW zs = true then 0 else 1

theorem okW_iff {zs : List Int} : okW zs = true ↔ ∀ z ∈ zs, 1 ≤ z ∧ z ≤ 99 := by simp [okW]
theorem lchk_ok {zs : List Int} : lchk zs = 0 ↔ zs.length ≤ 40 ∧ ∀ z ∈ zs, 1 ≤ z ∧ z ≤ 99 := by
  unfold lchk
  by_cases h : 40 < zs.length
  · rw [if_pos h]; constructor
    · intro h; omega
    · rintro ⟨h1, _⟩; omega
  · rw [if_neg h, ← okW_iff]
    by_cases h2 : okW zs = true
    · rw [if_pos h2]; simp [h2]; omega
    · rw [if_neg h2]; constructor
      · intro h; omega
      · rintro ⟨_, h3⟩; exact absurd h3 h2

theorem okW_bad {zs : List Int} {k : Nat} (hk : k < zs.length) (h : zs.getD k 0 < 1 ∨ 99 < zs.getD k 0) : okW zs = false := by
  cases e : okW zs with
  | false => rfl
  | true => have := okW_iff.1 e _ (getD_mem hk); omega

set_option maxHeartbeats 1000000 in
theorem Letters_any (a : Option Addr) (cap : Nat) (zs : List Int) (w : World) (hs : Shows w a zs) :
    Calls Try.prog 38 #[.slice a zs.length cap] w fun e w' => e = .returned (.int .i64 (lchk zs)) ∧ w' = w := by
  have hl := hs.len
  by_cases h40 : 40 < zs.length
  · have hb : decide ((zs.length : Int) > 40) = true := by simp; omega
    have H : Hid (lchk zs = 2) := by show _ = _; unfold lchk; rw [if_pos h40]
    clear h40
    go_enter Try.func38, Try.ntmps38
    go_wp2
    go_ret
    exact ⟨ret_int H.out.symm, rfl⟩
  · have hb : decide ((zs.length : Int) > 40) = false := by simp; omega
    have H : Hid (lchk zs = if okW zs = true then 0 else 1) := by show _ = _; unfold lchk; rw [if_neg h40]
    have h40' : zs.length ≤ 40 := by omega
    clear h40
    go_enter Try.func38, Try.ntmps38
    go_wp2
    go_loop [10] (fun i => ∃ k : Nat, k ≤ zs.length ∧ i = .int .i64 k ∧ Hid (∀ i, i < k → 1 ≤ zs.getD i 0 ∧ zs.getD i 0 ≤ 99)) (fun i => zs.length - (intOf i).toNat)
    case atStart => exact ⟨0, Nat.zero_le _, rfl, fun j hj => by omega⟩
    case round =>
      obtain ⟨k, hk, rfl, HR⟩ := hrel
      by_cases hlt : k < zs.length
      · have hlt' : (k : Int) < (zs.length : Int) := by omega
        obtain ⟨b, off, z, rfl, HZ, hz1, hz2, hc⟩ := hs.elem hlt
        by_cases h1 : z < 1
        · have hb1 : decide (z < 1) = true := by simpa using h1
          have HE : Hid (okW zs = false) := okW_bad hlt (Or.inl (by rw [← HZ.out]; exact h1))
          go_wp2
          go_ret
          exact ⟨ret_int (by rw [H.out, HE.out]; rfl), rfl⟩
        · have hb1 : decide (z < 1) = false := by simpa using h1
          by_cases h2 : 99 < z
          · have hb2 : decide (z > 99) = true := by simpa using h2
            have HE : Hid (okW zs = false) := okW_bad hlt (Or.inr (by rw [← HZ.out]; exact h2))
            go_wp2
            go_ret
            exact ⟨ret_int (by rw [H.out, HE.out]; rfl), rfl⟩
          · have hb2 : decide (z > 99) = false := by simpa using h2
            have HE : Hid (1 ≤ z ∧ z ≤ 99) := ⟨by omega, by omega⟩
            go_wp2
            go_round
            case rel => exact ⟨k + 1, by omega, by go_num, fun j hj => by
                          by_cases hj' : j < k
                          · exact HR.out j hj'
                          · obtain rfl : j = k := by omega
                            rw [← HZ.out]; exact HE.out⟩
            case measure => simp [intOf]; omega
      · go_wp2
        go_ret
        refine ⟨ret_int ?_, rfl⟩
        have : okW zs = true := okW_iff.2 (fun z hz => by
          obtain ⟨j, hj, rfl⟩ := List.mem_iff_getElem.1 hz
          have := HR.out j (by omega)
          simpa [List.getD, List.getElem?_eq_getElem hj] using this)
        rw [H.out, if_pos this]

theorem Letters_is {c : Int} (a : Option Addr) (n cap : Nat) (zs : List Int) (w : World) (hs : Shows w a zs) (hn : n = zs.length) (E : Hid (lchk zs = c)) :
    Calls Try.prog 38 #[.slice a n cap] w fun e w' => e = .returned (.int .i64 c) ∧ w' = w := by
  subst hn; have := Letters_any a cap zs w hs; rw [E.out] at this; exact this

theorem splice_app {α : Type} (M R : List α) (off : Nat) (cs : List α) (h : off + cs.length ≤ M.length) : splice (M ++ R) off cs = splice M off cs ++ R := by
  unfold splice
  rw [List.take_append_of_le_length (by omega), List.drop_append_of_le_length (by omega)]
  simp
theorem splice_map {α β : Type} (f : α → β) (M : List α) (off : Nat) (cs : List α) : splice (M.map f) off (cs.map f) = (splice M off cs).map f := by
  unfold splice; simp [List.map_take, List.map_drop]

/-- 'copy' from one part of an owned row to another, as one step of a region that draws its order. -/
theorem step_copy_in {ops : Array Oper} {o : Oper} {a : Act} {w : World} {K : Act → World → Prop} {Q : Exit → Act → World → Prop} {E : Prop} {base g N cap : Nat} {zs : List Int} (hgd : o.guard = none) (d s : Operand)
    (ho : o.op = .call { callee := .builtin .copy, args := #[d, s], argTypes := #[22, 22] }) (off so dLen dCap sLen sCap k : Nat) (hd : a.eval d = .slice (some ⟨g, off, none⟩) dLen dCap) (hs : a.eval s = .slice (some ⟨g, so, none⟩) sLen sCap)
    (hk : k = Nat.min sLen dLen) (h1 : off + k ≤ zs.length) (h2 : so + k ≤ zs.length) (hown : Owns w base (.slice (some ⟨g, 0, none⟩) N cap) zs) (hN : N = zs.length)
    (h : ∀ w', Owns w' base (.slice (some ⟨g, 0, none⟩) N cap) (splice zs off ((zs.drop so).take k)) → Below base w w' → K (a.put o.dst (.int .i64 k)) w') :
    if Region.wanted o (yielded ops a.tmps) = true then Oper.wp Try.prog o a w K Q else E := by
  subst hN
  obtain ⟨hg, cur, hh, hcs, hnc, hcm, htk⟩ := hown.block rfl
  have hlen : cur.toList.length = cap := by simpa using hcs
  have hkl : ((zs.drop so).take k).length = k := by simp; omega
  refine step_copy_splice hgd d s 22 22 ho 3 Try.underlying22 Try.sz3 (some ⟨g, off, none⟩) (some ⟨g, so, none⟩) dLen dCap sLen sCap hd hs g off cur.toList 3 (by simpa using hh) (((zs.drop so).take k).map (Value.int .i64))
    (by rw [List.length_map, hkl, hk]) (fun _ => ⟨rfl, _, rfl, fun j v hj => ?_⟩) (by rw [List.length_map, hkl]; omega) (ints_oneCell _ _) base w (Below.refl _ _) hg (fun w' hw' hb' => ?_)
  · have hj' : j < k := by have := (List.getElem?_eq_some_iff.1 hj).1; rw [List.length_map, hkl] at this; exact this
    have hO : w.ownsRow base 3 1 (.slice (some ⟨g, 0, none⟩) zs.length cap) zs.length (zs.map (Value.int .i64)) := hown
    rw [Addr.add_lit, World.ownsRow.cellAt hO (so + j) (by omega), ← hj]
    simp [hj']
  · rw [List.length_map, hkl]
    refine h w' ?_ hb'
    have hl2 : (splice zs off ((zs.drop so).take k)).length = zs.length := length_splice _ _ _ (by rw [hkl]; omega)
    refine ⟨by simp, Or.inr ⟨g, cap, _, by rw [hl2], hg, hw'.out, ?_⟩⟩
    refine ⟨by rw [hl2]; omega, hcm, ?_, ?_⟩
    · show (splice cur.toList off _).length = _
      rw [length_splice _ _ _ (by rw [List.length_map, hkl]; omega)]; omega
    · rw [hl2, Nat.mul_one]
      show (splice cur.toList off _).take zs.length = _
      have e : cur.toList = zs.map (Value.int .i64) ++ cur.toList.drop zs.length := by rw [← htk, List.take_append_drop]
      rw [e, splice_app _ _ _ _ (by rw [List.length_map, List.length_map, hkl]; omega), splice_map, List.take_append_of_le_length (by rw [List.length_map, hl2]; exact Nat.le_refl _), List.take_of_length_le (by rw [List.length_map, hl2]; exact Nat.le_refl _)]

#print axioms step_copy_in
end Go.Proofs.Ytnjbkiegeielhab
