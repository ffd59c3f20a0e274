/-
  Codes from the last one back; the contract of ferref.OfCode.
-/
import Derived.Test.YtnjbkiegeielhabCInv
import Derived.Test.YtnjbkiegeielhabGFrc
namespace Go.Proofs.Ytnjbkiegeielhab
open Go.RowKit

/-- A number makes room for c + 1. -/
def room1 (c z : Int) : Int := if c < z then z + 1 else z
def ofC : List Int → Option (List Int)
  | [] => some []
  | c :: cs => match ofC cs with
    | none => none
    | some r => if 0 ≤ c ∧ c ≤ r.length then some ((c + 1) :: r.map (room1 c)) else none

theorem ofC_bounds : ∀ (cs r : List Int), ofC cs = some r → r.length = cs.length ∧ ∀ z ∈ r, 1 ≤ z ∧ z ≤ r.length := by
  intro cs
  induction cs with
  | nil => intro r h; simp only [ofC, Option.some.injEq] at h; subst h; exact ⟨rfl, fun z h => by simp at h⟩
  | cons c cs ih =>
    intro r h
    rw [ofC] at h
    cases hr : ofC cs with
    | none => rw [hr] at h; simp at h
    | some q =>
      rw [hr] at h
      simp only at h
      split at h
      · rename_i hc
        simp only [Option.some.injEq] at h
        subst h
        obtain ⟨h1, h2⟩ := ih q hr
        refine ⟨by simp [h1], fun z hz => ?_⟩
        simp only [List.length_cons, List.length_map]
        rcases List.mem_cons.1 hz with e | e
        · omega
        · obtain ⟨y, hy, rfl⟩ := List.mem_map.1 e
          have := h2 y hy
          unfold room1; split <;> omega
      · cases h

/-- The numbers of a code out of those that are left. -/
theorem fromC_ofC : ∀ (cs left : List Int), left.length = cs.length → fromC left cs = (ofC cs).map (fun r => r.map (fun z => left.getD (z.toNat - 1) 0)) := by
  intro cs
  induction cs with
  | nil => intro left _; rfl
  | cons c cs ih =>
    intro left hl
    rw [fromC, ofC]
    simp only [List.length_cons] at hl
    by_cases hc : 0 ≤ c ∧ c < left.length
    · rw [if_pos hc, ih _ (by simp; omega)]
      cases hr : ofC cs with
      | none => rfl
      | some r =>
        obtain ⟨h1, h2⟩ := ofC_bounds cs r hr
        have hc2 : 0 ≤ c ∧ c ≤ r.length := by omega
        simp only [Option.map_some]
        rw [if_pos hc2]
        simp only [Option.map_some, List.map_cons, List.map_map]
        rw [show (c + 1).toNat - 1 = c.toNat by omega]
        congr 2
        apply List.map_congr_left
        intro z hz
        have hzb := h2 z hz
        show (left.take c.toNat ++ left.drop (c.toNat + 1)).getD (z.toNat - 1) 0 = left.getD ((room1 c z).toNat - 1) 0
        have htl : (left.take c.toNat).length = c.toNat := by simp; omega
        unfold room1
        by_cases hcz : c < z
        · rw [if_pos hcz, List.getD_eq_getElem?_getD, List.getD_eq_getElem?_getD, List.getElem?_append_right (by omega), htl, List.getElem?_drop]
          congr 2; omega
        · rw [if_neg hcz, List.getD_eq_getElem?_getD, List.getD_eq_getElem?_getD, List.getElem?_append_left (by omega), List.getElem?_take]
          rw [if_pos (by omega)]
    · rw [if_neg hc]
      cases hr : ofC cs with
      | none => rfl
      | some r =>
        obtain ⟨h1, h2⟩ := ofC_bounds cs r hr
        simp only
        rw [if_neg (by omega)]; rfl

theorem fromC_order (cs : List Int) : fromC (orderL cs.length) cs = ofC cs := by
  rw [fromC_ofC cs (orderL cs.length) (tab_length _ _)]
  cases hr : ofC cs with
  | none => rfl
  | some r =>
    obtain ⟨h1, h2⟩ := ofC_bounds cs r hr
    simp only [Option.map_some]
    congr 1
    have : ∀ z ∈ r, (orderL cs.length).getD (z.toNat - 1) 0 = z := by
      intro z hz
      have := h2 z hz
      unfold orderL
      rw [tab_getD _ _ _ (by omega)]; omega
    rw [List.map_congr_left this]; simp

theorem owns_lit {w : World} (x : Int) : Owns (w.alloc (.cells #[.int .i64 x] 3)) w.heap.size (.slice (some ⟨w.heap.size, 0, none⟩) 1 1) [x] := by
  refine ⟨by simp, Or.inr ⟨w.heap.size, 1, #[.int .i64 x], rfl, Nat.le_refl _, ?_, Nat.le_refl _, by unfold maxLen; omega, rfl, rfl⟩⟩
  show (w.heap.push (.cells #[.int .i64 x] 3 (0, 0)))[w.heap.size]? = _
  simp

/-- The first m make room. -/
def roomTo (c : Int) (r : List Int) (m : Nat) : Nat → Int := fun j => if j < m then room1 c (r.getD j 0) else r.getD j 0

set_option maxHeartbeats 4000000 in
theorem OfCode_any (a : Option Addr) (n cap : Nat) (cs : List Int) (w : World) (hs : Shows w a cs) (hn : n = cs.length) :
    Calls Try.prog 20 #[.slice a n cap] w fun e w' => ∃ v, e = .returned (.tuple #[v, .int .i64 (fcC cs)]) ∧ Owns w' w.heap.size v (fcL cs) ∧ Below w.heap.size w w' := by
  subst hn
  have hl := hs.len
  by_cases h40 : 40 < cs.length
  · have hb : decide ((cs.length : Int) > 40) = true := by simp; omega
    have HC : Hid (fcC cs = 2) := by show _ = _; unfold fcC; rw [if_pos h40]
    have HL : Hid (fcL cs = []) := by show _ = _; unfold fcL; rw [if_pos h40]
    clear h40
    go_enter Try.func20, Try.ntmps20
    go_wp2
    go_ret2
    exact ⟨.slice none 0 0, by rw [HC.out]; rfl, by rw [HL.out]; exact World.ownsRow_nil _ _ _ _, Below.refl _ _⟩
  · have hb : decide ((cs.length : Int) > 40) = false := by simp; omega
    have HC : Hid (fcC cs = match ofC cs with | none => 1 | some _ => 0) := by show _ = _; unfold fcC; rw [if_neg h40, fromC_order]; cases ofC cs <;> rfl
    have HL : Hid (fcL cs = match ofC cs with | none => [] | some p => p) := by show _ = _; unfold fcL; rw [if_neg h40, fromC_order]; cases ofC cs <;> rfl
    have h40' : cs.length ≤ 40 := by omega
    clear h40
    go_enter Try.func20, Try.ntmps20
    go_wp2
    go_loopw [4, 5] (fun v i wr => ∃ (k : Nat) (iv : Int) (r : List Int), k ≤ cs.length ∧ i = .int .i64 iv ∧ Hid (iv = (k : Int) - 1) ∧ Hid (ofC (cs.drop k) = some r) ∧ Hid (Owns wr w.heap.size v r) ∧ Hid (Below w.heap.size w wr)) (fun _ i _ => (intOf i + 1).toNat)
    case atStart => exact ⟨cs.length, (cs.length : Int) - 1, [], Nat.le_refl _, by go_num, rfl, by show _ = _; rw [List.drop_length]; rfl, World.ownsRow_nil _ _ _ _, Below.refl _ _⟩
    case round =>
      obtain ⟨k, iv, r, hk, rfl, HI, HOf, HO, HB⟩ := hrel
      by_cases hk0 : 0 < k
      · obtain ⟨j, rfl⟩ : ∃ j, k = j + 1 := ⟨k - 1, by omega⟩
        obtain rfl : iv = (j : Int) := by have := HI.out; omega
        have hge : (0 : Int) ≤ (j : Int) := by omega
        have hjl : j < cs.length := by omega
        have hjl' : (j : Int) < (cs.length : Int) := by omega
        have HJL : Hid (j < cs.length) := hjl
        obtain ⟨b, off, c, rfl, HZ, -, -, hc⟩ := (hs.below HB.out).elem hjl
        obtain ⟨hb1, hb2⟩ := ofC_bounds _ _ HOf.out
        have HRB : Hid (∀ z ∈ r, 1 ≤ z ∧ z ≤ r.length) := hb2
        have hrl : r.length ≤ 40 := by rw [hb1]; simp; omega
        have HCons : Hid (cs.drop j = c :: cs.drop (j + 1)) := by show _ = _; rw [HZ.out]; exact drop_cons cs j hjl
        obtain ⟨al, cl, hvl⟩ := HO.out.shape
        subst hvl
        clear hb1 hb2
        have HBad : Hid (¬ (0 ≤ c ∧ c ≤ r.length) → ofC cs = none) := fun hbad => by
          have h1 : ofC (cs.drop j) = none := by rw [HCons.out, ofC, HOf.out]; simp only; rw [if_neg hbad]
          have key : ∀ d, d ≤ j → ofC (cs.drop (j - d)) = none := by
            intro d
            induction d with
            | zero => intro _; exact h1
            | succ d ih =>
              intro hd
              have h2 := ih (by omega)
              rw [drop_cons cs (j - (d + 1)) (by omega), show j - (d + 1) + 1 = j - d by omega, ofC, h2]
          have := key j (Nat.le_refl _)
          rw [Nat.sub_self, List.drop_zero] at this
          exact this
        by_cases h1 : c < 0
        · have hd1 : decide (c < 0) = true := by simpa using h1
          have HN : Hid (ofC cs = none) := HBad.out (by omega)
          have HC1 : Hid (fcC cs = 1) := by show _ = _; rw [HC.out, HN.out]
          have HL1 : Hid (fcL cs = []) := by show _ = _; rw [HL.out, HN.out]
          go_wp2
          go_ret2
          exact ⟨.slice none 0 0, by rw [HC1.out]; rfl, by rw [HL1.out]; exact World.ownsRow_nil _ _ _ _, HB.out⟩
        · have hd1 : decide (c < 0) = false := by simpa using h1
          by_cases h2 : (r.length : Int) < c
          · have hd2 : decide (c > (r.length : Int)) = true := by simpa using h2
            have HN : Hid (ofC cs = none) := HBad.out (by omega)
            have HC1 : Hid (fcC cs = 1) := by show _ = _; rw [HC.out, HN.out]
            have HL1 : Hid (fcL cs = []) := by show _ = _; rw [HL.out, HN.out]
            go_wp2
            go_ret2
            exact ⟨.slice none 0 0, by rw [HC1.out]; rfl, by rw [HL1.out]; exact World.ownsRow_nil _ _ _ _, HB.out⟩
          · have hd2 : decide (c > (r.length : Int)) = false := by simpa using h2
            have hc0 : 0 ≤ c ∧ c ≤ 40 := by omega
            have HNew : Hid (ofC (cs.drop j) = some ((c + 1) :: r.map (room1 c))) := by show _ = _; rw [HCons.out, ofC, HOf.out]; simp only; rw [if_pos (by omega)]
            have HTb : Hid (tab r.length (roomTo c r 0) = r) := ext_getD (by rw [tab_length]) (fun i hi => by rw [tab_length] at hi; rw [tab_getD _ _ _ hi]; simp [roomTo])
            have HTe : Hid (tab r.length (roomTo c r r.length) = r.map (room1 c)) := ext_getD (by rw [tab_length, List.length_map]) (fun i hi => by
              rw [tab_length] at hi
              rw [tab_getD _ _ _ hi]
              unfold roomTo; rw [if_pos hi]
              simp [List.getD, List.getElem?_eq_getElem hi])
            have HO1 : Hid (Owns wr w.heap.size (.slice al r.length cl) (tab r.length (roomTo c r 0))) := by rw [HTb.out]; exact HO
            clear h1 h2
            go_wp2
            go_loopw [6] (fun i wq => ∃ m : Nat, m ≤ r.length ∧ i = .int .i64 m ∧ Hid (Owns wq w.heap.size (.slice al r.length cl) (tab r.length (roomTo c r m))) ∧ Hid (Below w.heap.size w wq)) (fun i _ => r.length - (intOf i).toNat)
            case atStart => exact ⟨0, Nat.zero_le _, rfl, HO1, HB⟩
            case round =>
              obtain ⟨m, hm, rfl, HO2, HB2⟩ := hrel
              obtain ⟨b3, off3, c3, hbb, HZ3, -, -, hc3⟩ := (hs.below HB2.out).elem HJL.out
              simp only [Option.some.injEq, Addr.mk.injEq, and_true] at hbb
              obtain ⟨rfl, rfl⟩ := hbb
              obtain rfl : c = c3 := by rw [HZ3.out, HZ.out]
              have hjl2 : (j : Int) < (cs.length : Int) := by have := HJL.out; omega
              by_cases hml : m < r.length
              · have hml' : (m : Int) < (r.length : Int) := by omega
                obtain ⟨g, cl', hv, hgB, -, -, -⟩ := HO2.out.head (by rw [tab_length]; omega)
                rw [tab_length] at hv
                simp only [Value.slice.injEq] at hv
                obtain ⟨rfl, -, rfl⟩ := hv
                obtain ⟨hfz, hcz⟩ := HO2.out.tabAt hml
                have hzb := HRB.out _ (getD_mem hml)
                obtain ⟨z, HZz⟩ : ∃ z, Hid (z = r.getD m 0) := ⟨_, rfl⟩
                have hz1 : roomTo c r m m = z := by unfold roomTo; rw [if_neg (by omega), HZz.out]
                rw [hz1] at hcz
                rw [← HZz.out] at hzb
                have HZ1 : Hid (roomTo c r m m = z) := hz1
                clear hz1
                by_cases hzc : c < z
                · have hb3 : decide (z > c) = true := by simpa using hzc
                  have HSt : Hid (∀ i, i < r.length → upd (roomTo c r m) m (z + 1) i = roomTo c r (m + 1) i) := fun i _ => by
                    unfold upd roomTo
                    by_cases e : i = m
                    · subst e; rw [if_pos rfl, if_pos (by omega), ← HZz.out]; unfold room1; rw [if_pos hzc]
                    · rw [if_neg e]
                      by_cases h : i < m
                      · rw [if_pos h, if_pos (by omega)]
                      · rw [if_neg h, if_neg (by omega)]
                  have hfz2 : (wr.drewN 1).frozen? ⟨g, m, none⟩ = false := hfz
                  clear hzc
                  go_wp2_with fail
                  go_quiet (fail)
                  have HO3 : Hid (Owns (wr.drewN nq) w.heap.size (.slice (some ⟨g, 0, none⟩) r.length cl) (tab r.length (roomTo c r m))) := HO2.out.below (below_drewN (Below.refl _ _) nq)
                  have HB3 : Hid (Below w.heap.size w (wr.drewN nq)) := HB2.out.trans (below_drewN (Below.refl _ _) nq)
                  obtain ⟨hfz3, hcz3⟩ := HO3.out.tabAt hml
                  rw [HZ1.out] at hcz3
                  go_wp2
                  go_roundw
                  case rel => exact ⟨m + 1, by omega, by go_num, (HO3.out.tabStore m (z + 1)).tabCongr HSt.out, HB3.out.setCell hgB _⟩
                  case measure => simp [intOf]; omega
                · have hb3 : decide (z > c) = false := by simpa using hzc
                  have HSt : Hid (∀ i, i < r.length → roomTo c r m i = roomTo c r (m + 1) i) := fun i _ => by
                    unfold roomTo
                    by_cases e : i = m
                    · subst e; rw [if_neg (by omega), if_pos (by omega), ← HZz.out]; unfold room1; rw [if_neg hzc]
                    · by_cases h : i < m
                      · rw [if_pos h, if_pos (by omega)]
                      · rw [if_neg h, if_neg (by omega)]
                  clear hzc
                  go_wp2_with fail
                  go_quiet (fail)
                  go_wp2
                  go_roundw
                  case rel => exact ⟨m + 1, by omega, by go_num, (HO2.out.below (below_drewN (Below.refl _ _) _)).tabCongr HSt.out, HB2.out.trans (below_drewN (Below.refl _ _) _)⟩
                  case measure => simp [intOf]; omega
              · obtain rfl : m = r.length := by omega
                have HO3 : Hid (Owns wr w.heap.size (.slice al r.length cl) (r.map (room1 c))) := by rw [← HTe.out]; exact HO2
                have HRw : Hid (∀ z ∈ r.map (room1 c), -9223372036854775808 ≤ z ∧ z ≤ 9223372036854775807) := fun z hz => by
                  obtain ⟨y, hy, rfl⟩ := List.mem_map.1 hz
                  have := HRB.out y hy
                  unfold room1; split <;> omega
                obtain ⟨a4, n4, c4, hv4, S4, hn4, hnone4⟩ := HO3.out.src (by rw [List.length_map]; omega) HRw.out
                simp only [Value.slice.injEq] at hv4
                obtain ⟨rfl, rfl, rfl⟩ := hv4
                have HOl : Hid (Owns (wr.alloc (.cells #[.int .i64 (c + 1)] 3)) w.heap.size (.slice (some ⟨wr.heap.size, 0, none⟩) 1 1) [c + 1]) := (owns_lit (c + 1)).mono HB2.out.size
                have S5 : Shows (wr.alloc (.cells #[.int .i64 (c + 1)] 3)) al (r.map (room1 c)) := S4.below ((Below.refl _ _).alloc (Nat.le_refl _) _)
                have HB5 : Hid (Below w.heap.size w (wr.alloc (.cells #[.int .i64 (c + 1)] 3))) := HB2.out.alloc HB2.out.size _
                go_wp2_with (at_builtin; refine append_src rfl _ _ rfl rfl rfl HOl.out S5 hn4.out hnone4.out ?c1 ?c2 ?_)
                case c1 => rw [List.length_map]; simp; omega
                case c2 => exact HB5.out.size
                intro v6 w6 hO6 hb6 _
                have HO6 : Hid (Owns w6 w.heap.size v6 ((c + 1) :: r.map (room1 c))) := hO6
                have HB6 : Hid (Below w.heap.size w w6) := HB5.out.trans hb6
                clear hO6 hb6
                go_wp2
                go_roundw
                case rel => exact ⟨j, (j : Int) - 1, _, by have := HJL.out; omega, by go_num, rfl, HNew, HO6, HB6⟩
                case measure => simp [intOf] <;> omega
      · obtain rfl : k = 0 := by omega
        obtain rfl : iv = -1 := by have := HI.out; omega
        have HN : Hid (ofC cs = some r) := by have := HOf.out; rw [List.drop_zero] at this; exact this
        have HC1 : Hid (fcC cs = 0) := by show _ = _; rw [HC.out, HN.out]
        have HL1 : Hid (fcL cs = r) := by show _ = _; rw [HL.out, HN.out]
        go_wp2
        go_ret2
        exact ⟨u4, by rw [HC1.out]; rfl, by rw [HL1.out]; exact HO.out, HB.out⟩

end Go.Proofs.Ytnjbkiegeielhab
