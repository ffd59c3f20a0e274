/-
  The contract of rule.check.
-/
import Derived.Test.YtncokoimbpkapaaRvC
import Derived.Test.YtncokoimbpkapaaICnj
import Derived.Test.YtncokoimbpkapaaCRow
namespace Go.Proofs.Ytncokoimbpkapaa
open Go.RowKit

/-- The first fault of several lists. -/
def firstBad : List (List Int) → Int
  | [] => 0
  | z :: r => if ptC z ≠ 0 then ptC z else firstBad r
theorem firstBad_take {ls : List (List Int)} (h : ∀ k, k < ls.length → ptC (ls.getD k []) = 0) : firstBad ls = 0 := by
  induction ls with
  | nil => rfl
  | cons z r ih =>
    have h0 := h 0 (by simp)
    have : ptC z = 0 := h0
    simp only [firstBad, this]
    simp only [ne_eq, not_true_eq_false, if_false]
    exact ih (fun k hk => h (k + 1) (by simpa using hk))
theorem firstBad_at {ls : List (List Int)} {k : Nat} (hk : k < ls.length) (h : ∀ j, j < k → ptC (ls.getD j []) = 0) (hb : ptC (ls.getD k []) ≠ 0) : firstBad ls = ptC (ls.getD k []) := by
  induction ls generalizing k with
  | nil => simp at hk
  | cons z r ih =>
    cases k with
    | zero => have hb' : ptC z ≠ 0 := hb
              simp only [firstBad, if_pos hb']; rfl
    | succ k =>
      have h0 : ptC z = 0 := h 0 (by omega)
      simp only [firstBad, h0]
      simp only [ne_eq, not_true_eq_false, if_false]
      exact ih (by simpa using hk) (fun j hj => h (j + 1) (by omega)) hb
def natL (z : List Int) : List Nat := z.map Int.toNat
theorem natL_cast {z : List Int} (h : ∀ x ∈ z, 0 ≤ x) : castL (natL z) = z := by
  unfold castL natL
  rw [List.map_map]
  refine (List.map_congr_left fun x hx => ?_).trans (List.map_id z)
  have := h x hx
  simp; omega
/-- Has one of them more than 16? -/
def bigB (ls : List (List Int)) : Bool := ls.any fun z => decide (16 < (natL z).sum)
def chkL (ls : List (List Int)) : Int := if firstBad ls ≠ 0 then firstBad ls else if bigB ls then 2 else 0
theorem pt_zero {z : List Int} (h : ptC z = 0) : (∀ x ∈ z, 1 ≤ x) ∧ (natL z).sum ≤ 40 := by
  unfold ptC at h
  by_cases h1 : ptGoB 1 0 z = true
  · rw [if_pos h1] at h
    by_cases h2 : ptRoom 40 z < 0
    · rw [if_pos h2] at h; omega
    · have hg := ptGoB_iff.1 h1
      have hp : ∀ x ∈ z, 1 ≤ x := fun x hx => by
        obtain ⟨j, hj, rfl⟩ := List.getElem_of_mem hx
        have := (hg j hj).1
        simpa [List.getD, hj] using this
      refine ⟨hp, ?_⟩
      have key : ∀ (l : List Int) (r : Int), (∀ x ∈ l, 1 ≤ x) → 0 ≤ ptRoom r l → ((natL l).sum : Int) ≤ r := by
        intro l
        induction l with
        | nil => intro r _ h; simpa [natL, ptRoom] using h
        | cons a l ih =>
          intro r hp h
          rw [ptRoom] at h
          split at h
          · omega
          · have h3 := ih (r - a) (fun x hx => hp x (by simp [hx])) h
            have h4 := hp a (by simp)
            have e : (natL (a :: l)).sum = a.toNat + (natL l).sum := by simp [natL]
            rw [e]; omega
      have := key z 40 hp (by omega)
      omega
  · rw [if_neg h1] at h; omega

set_option maxHeartbeats 4000000 in
theorem ucheck_at (a : Option Addr) (n ca : Nat) (ls : List (List Int)) (w : World) (hs : Table w a ls) (hn : n = ls.length) (hl : ls.length ≤ 1000) :
    Calls Try.prog 9 #[.slice a n ca] w fun e w' => e = .returned (.int .i64 (chkL ls)) ∧ w' = w := by
  subst hn
  have HS : Hid (Table w a ls) := hs
  clear hs
  go_enter Try.func9, Try.ntmps9
  go_wp2
  go_loopw [10] (fun i wr => ∃ k : Nat, k ≤ ls.length ∧ i = .int .i64 k ∧ Hid (∀ j, j < k → ptC (ls.getD j []) = 0) ∧ wr = w) (fun i _ => ls.length - (intOf i).toNat)
  case atStart => exact ⟨0, Nat.zero_le _, rfl, fun j hj => by omega, rfl⟩
  case round =>
    obtain ⟨k, hk, rfl, HR, hwr⟩ := hrel
    obtain rfl := hwr
    by_cases hlt : k < ls.length
    · have hlt' : (k : Int) < (ls.length : Int) := by omega
      obtain ⟨b, off, ai, ni, ci, rfl, hc, HNi, hsh, _, _⟩ := HS.out.elemR hlt
      obtain ⟨z, HZ⟩ : ∃ z, Hid (z = ls.getD k []) := ⟨_, rfl⟩
      have HPC : Hid (Calls Try.prog 25 #[.slice ai ni ci] wr fun e w' => e = .returned (.int .i64 (ptC z)) ∧ w' = wr) := by
        rw [HZ.out, HNi.out]; exact PaCheck_any ai ci _ wr hsh.out
      obtain ⟨p, HPp⟩ : ∃ p, Hid (p = ptC z) := ⟨_, rfl⟩
      rw [← HPp.out] at HPC
      clear hsh
      by_cases h0 : p = 0
      · subst h0
        have HR2 : Hid (∀ j, j < k + 1 → ptC (ls.getD j []) = 0) := fun j hj => by
          by_cases e : j = k
          · rw [e, ← HZ.out, ← HPp.out]
          · exact HR.out j (by omega)
        go_wp2_with fail
        refine HPC.out.mono ?_
        rintro e w1 ⟨rfl, hw1⟩
        obtain rfl := hw1
        go_wp2
        go_roundw
        case rel => exact ⟨k + 1, by omega, by go_num, HR2, trivial⟩
        case measure => simp [intOf]; omega
      · have HCH : Hid (chkL ls = p) := by
          have h1 : ptC (ls.getD k []) = p := by rw [← HZ.out, ← HPp.out]
          have := firstBad_at hlt HR.out (by rw [h1]; exact h0)
          show _ = _
          unfold chkL
          rw [this, h1, if_pos h0]
        have hb0 : (p != 0) = true := by simpa using h0
        go_wp2_with fail
        refine HPC.out.mono ?_
        rintro e w1 ⟨rfl, hw1⟩
        obtain rfl := hw1
        go_wp2
        go_ret
        exact ⟨by rw [HCH.out]; rfl, rfl⟩
    · obtain rfl : k = ls.length := by omega
      have hlt' : ¬ ((ls.length : Int) < (ls.length : Int)) := by omega
      go_wp2
      go_loopw [22] (fun i wr' => ∃ k : Nat, k ≤ ls.length ∧ i = .int .i64 k ∧ Hid (∀ j, j < k → (natL (ls.getD j [])).sum ≤ 16) ∧ wr' = wr) (fun i _ => ls.length - (intOf i).toNat)
      case atStart => exact ⟨0, Nat.zero_le _, rfl, fun j hj => by omega, rfl⟩
      case round =>
        obtain ⟨k, hk, rfl, HQ, hwr⟩ := hrel
        obtain rfl := hwr
        by_cases hlt : k < ls.length
        · have hlt' : (k : Int) < (ls.length : Int) := by omega
          obtain ⟨b, off, ai, ni, ci, rfl, hc, HNi, hsh, _, _⟩ := HS.out.elemR hlt
          have hpz := pt_zero (HR.out k hlt)
          obtain ⟨l, HL⟩ : ∃ l, Hid (l = natL (ls.getD k [])) := ⟨_, rfl⟩
          have hcl : castL l = ls.getD k [] := by rw [HL.out]; exact natL_cast (fun x hx => by have := hpz.1 x hx; omega)
          obtain ⟨S, HSS⟩ : ∃ S, Hid (S = l.sum) := ⟨_, rfl⟩
          have hS40 : S ≤ 40 := by rw [HSS.out, HL.out]; exact hpz.2
          rw [← hcl] at hsh HNi
          have HSZ : Hid (Calls Try.prog 26 #[.slice ai ni ci] wr fun e w' => e = .returned (.int .i64 (S : Int)) ∧ w' = wr) := by
            rw [HSS.out]; exact usize_at ai ni ci l wr hsh.out (by rw [HNi.out, castL_len]) (by rw [← HSS.out]; omega)
          clear hsh
          by_cases h16 : S ≤ 16
          · have h16' : ¬ ((S : Int) > 16) := by omega
            have HQ2 : Hid (∀ j, j < k + 1 → (natL (ls.getD j [])).sum ≤ 16) := fun j hj => by
              by_cases e : j = k
              · rw [e, ← HL.out, ← HSS.out]; exact h16
              · exact HQ.out j (by omega)
            go_wp2_with fail
            refine HSZ.out.mono ?_
            rintro e w1 ⟨rfl, hw1⟩
            obtain rfl := hw1
            go_wp2
            go_roundw
            case rel => exact ⟨k + 1, by omega, by go_num, HQ2, trivial⟩
            case measure => simp [intOf]; omega
          · have h16' : (S : Int) > 16 := by omega
            have HCH : Hid (chkL ls = 2) := by
              show _ = _
              unfold chkL
              rw [firstBad_take HR.out]
              have : bigB ls = true := List.any_eq_true.2 ⟨ls.getD k [], by simp [List.getD, hlt], decide_eq_true (by rw [← HL.out, ← HSS.out]; omega)⟩
              rw [this]; rfl
            go_wp2_with fail
            refine HSZ.out.mono ?_
            rintro e w1 ⟨rfl, hw1⟩
            obtain rfl := hw1
            go_wp2
            go_ret
            exact ⟨by rw [HCH.out]; rfl, rfl⟩
        · obtain rfl : k = ls.length := by omega
          have hlt' : ¬ ((ls.length : Int) < (ls.length : Int)) := by omega
          have HCH : Hid (chkL ls = 0) := by
            show _ = _
            unfold chkL
            rw [firstBad_take HR.out]
            have : bigB ls = false := by
              cases e : bigB ls with
              | false => rfl
              | true =>
                obtain ⟨z, hz, hb⟩ := List.any_eq_true.1 e
                obtain ⟨j, hj, rfl⟩ := List.getElem_of_mem hz
                have := HQ.out j hj
                have e2 : ls.getD j [] = ls[j] := by simp [List.getD, hj]
                rw [e2] at this
                simp at hb; omega
            rw [this]; rfl
          go_wp2
          go_ret
          exact ⟨by rw [HCH.out]; rfl, rfl⟩

end Go.Proofs.Ytncokoimbpkapaa
