/-
  The contract of ferref.Hooked: the hooks, box by box.
-/
import Derived.Test.YtheebpjkjclgbaaLCnj
import Derived.Test.YtheebpjkjclgbaaKStp
namespace Go.Proofs.Ytheebpjkjclgbaa
open Go.RowKit

/-- Is a box in the hook at row i and column j? -/
def inHk (i j : Nat) (p : Int × Int) : Bool := (p.1 == (i : Int) && decide ((j : Int) ≤ p.2)) || (p.2 == (j : Int) && decide ((i : Int) < p.1))
def cntH (i j : Nat) (ps : List (Int × Int)) : Nat := ps.countP (inHk i j)
theorem cntH_snoc (i j : Nat) (ps : List (Int × Int)) (p : Int × Int) : cntH i j (ps ++ [p]) = cntH i j ps + if inHk i j p = true then 1 else 0 := by
  unfold cntH; rw [List.countP_append]; by_cases h : inHk i j p = true <;> simp [h]
theorem cntH_app (i j : Nat) (ps qs : List (Int × Int)) : cntH i j (ps ++ qs) = cntH i j ps + cntH i j qs := by unfold cntH; exact List.countP_append
theorem cntH_row (i j r : Nat) : ∀ m, cntH i j (rowOf r m) = if r = i then m - j else if i < r ∧ j < m then 1 else 0
  | 0 => by simp [rowOf, cntH]
  | m + 1 => by
    rw [rowOf_succ, cntH_snoc, cntH_row i j r m]
    unfold inHk
    by_cases h1 : r = i
    · subst h1
      rw [if_pos rfl, if_pos rfl]
      by_cases h2 : j ≤ m
      · rw [if_pos (by simp; omega)]; omega
      · rw [if_neg (by simp; omega)]; omega
    · rw [if_neg h1, if_neg h1]
      by_cases h2 : i < r
      · by_cases h3 : j = m
        · subst h3
          rw [if_neg (by omega), if_pos (by simp; omega), if_pos (by omega)]
        · rw [if_neg (show ¬ ((((r : Int), (m : Int)).1 == (i : Int) && decide ((j : Int) ≤ ((r : Int), (m : Int)).2)) || (((r : Int), (m : Int)).2 == (j : Int) && decide ((i : Int) < ((r : Int), (m : Int)).1))) = true by simp; omega)]
          by_cases h4 : j < m
          · rw [if_pos ⟨h2, h4⟩, if_pos ⟨h2, by omega⟩]
          · rw [if_neg (by omega), if_neg (by omega)]
      · rw [if_neg (by omega), if_neg (by simp; omega), if_neg (by omega)]
theorem cntH_to {zs : List Int} (h : IsPt zs) {i j : Nat} (hj : j < pF zs i) : ∀ k, k ≤ zs.length → cntH i j (boxesTo zs k) = if k ≤ i then 0 else (pF zs i - j) + (min (htF zs j) k - 1 - i)
  | 0, _ => by simp [boxesTo, cntH]
  | k + 1, hk => by
    have h1 := (htF_iff h i j).2 hj
    have h2 := htF_iff h k j
    rw [boxesTo, cntH_app, cntH_to h hj k (by omega), cntH_row]
    rw [show (zs.getD k 0).toNat = pF zs k from rfl]
    by_cases c1 : k < i
    · rw [if_pos (by omega), if_neg (by omega), if_neg (by omega), if_pos (by omega)]
    · by_cases c2 : k = i
      · subst c2
        rw [if_pos (Nat.le_refl _), if_pos rfl, if_neg (by omega)]; omega
      · rw [if_neg (by omega), if_neg c2, if_neg (show ¬ k + 1 ≤ i by omega)]
        by_cases c3 : j < pF zs k
        · have := h2.2 c3
          rw [if_pos ⟨by omega, c3⟩]; omega
        · have : ¬ k < htF zs j := fun q => c3 (h2.1 q)
          rw [if_neg (by omega)]; omega
theorem cntH_all {zs : List Int} (h : IsPt zs) {i j : Nat} (hi : i < zs.length) (hj : j < pF zs i) : cntH i j (boxes zs) = hkN zs i j := by
  have h1 := (htF_iff h i j).2 hj
  have h2 := htF_le h j
  unfold boxes
  rw [cntH_to h hj zs.length (Nat.le_refl _), if_neg (by omega)]
  unfold hkN; omega
theorem hkW_take {zs : List Int} {i j : Nat} (hj : j < pF zs i) : (hkW zs i).take (j + 1) = (hkW zs i).take j ++ [(hkN zs i j : Int)] := by
  rw [take_snoc _ _ (by rw [hkW_len]; exact hj), hkW_at hj]

set_option maxHeartbeats 8000000 in
set_option maxRecDepth 100000 in
theorem Hooked_at (a : Option Addr) (n cap : Nat) (zs : List Int) (w : World) (hs : Shows w a zs) (hn : n = zs.length) (hp : IsPt zs) :
    Calls Try.prog 20 #[.slice a n cap] w fun e w' => ∃ v, e = .returned v ∧ Tbl w' w.heap.size v ((List.range n).map (hkW zs)) ∧ Below w.heap.size w w' := by
  have hn40 : n ≤ 40 := by rw [hn]; exact hp.len
  have HBx : Hid (Calls Try.prog 36 #[.slice a n cap] w fun e w' => ∃ av L cv, e = .returned (.slice av L cv) ∧ Hid (L = (boxes zs).length) ∧ Hid (Shows2 w' av (boxes zs)) ∧ Hid (Below w.heap.size w w')) := by
    have := Boxes_any a cap zs w hs (fun z hz => by have := hp.range z hz; omega) hp.len
    rw [← hn] at this
    refine this.mono ?_
    rintro e w' ⟨v, rfl, h1, h2⟩
    obtain ⟨av, cv, rfl, h3⟩ := h1.shows
    exact ⟨av, _, cv, rfl, rfl, h3, h2⟩
  have HS : Hid (Shows w a zs) := hs
  have HP : Hid (IsPt zs) := hp
  have HN : Hid (n = zs.length) := hn
  have hbl := boxes_len hp
  clear hs hp hn
  go_enter Try.func20, Try.ntmps20
  go_wp2_with fail
  refine HBx.out.mono ?_
  rintro e w1 ⟨av, L, cv, rfl, HL, HX, HB1⟩
  have hLb : L ≤ 1600 := by rw [HL.out]; exact hbl
  clear HBx hbl
  go_wp2
  go_loopw [4, 5] (fun v iv wr => ∃ i : Nat, i ≤ n ∧ iv = .int .i64 i ∧ Hid (Tbl wr w1.heap.size v ((List.range i).map (hkW zs))) ∧ Hid (Below w1.heap.size w1 wr)) (fun _ iv _ => n - (intOf iv).toNat)
  case atStart => exact ⟨0, Nat.zero_le _, rfl, Tbl.nil _ _, Below.refl _ _⟩
  case round =>
    obtain ⟨i, hi, rfl, HT, HBi⟩ := hrel
    obtain ⟨wi, hwi⟩ : ∃ wi, wi = wr := ⟨_, rfl⟩
    subst hwi
    by_cases hlt : i < n
    · have hlt' : (i : Int) < (n : Int) := by omega
      have hil : i < zs.length := by rw [← HN.out]; exact hlt
      obtain ⟨m, HM⟩ : ∃ m, Hid (m = pF zs i) := ⟨_, rfl⟩
      have hm40 : m ≤ 40 := by rw [HM.out]; exact pF_le HP.out i
      have HSi : Hid (∀ W, Below w1.heap.size w1 W → ∃ b o, a = some ⟨b, o, none⟩ ∧ W.cell? ⟨b, o + i, none⟩ = some (.int .i64 (m : Int))) := fun W hW => by
        obtain ⟨b, o, z, e, HZ, -, -, hc⟩ := (HS.out.below (HB1.out.trans (hW.mono HB1.out.size))).elem (k := i) hil
        refine ⟨b, o, e, ?_⟩
        rw [hc, HZ.out, pF_cast HP.out, HM.out]
      obtain ⟨vs, hV⟩ := HT.out
      have HV0 : Hid (TblV wi w1.heap.size u4 vs ((List.range i).map (hkW zs))) := hV
      have HLv : Hid (vs.length ≤ 40) := by show _ ≤ _; rw [hV.len]; simp; omega
      clear hV
      go_wp2
      go_loopw [6, 7] (fun v jv wr => ∃ j : Nat, j ≤ m ∧ jv = .int .i64 j ∧ Hid (Owns wr wi.heap.size v ((hkW zs i).take j)) ∧ Hid (Below wi.heap.size wi wr)) (fun _ jv _ => m - (intOf jv).toNat)
      case atStart => exact ⟨0, Nat.zero_le _, rfl, World.ownsRow_nil _ _ _ _, Below.refl _ _⟩
      case round =>
        obtain ⟨j, hj, rfl, HO, HBj⟩ := hrel
        obtain ⟨wj, hwj⟩ : ∃ wj, wj = wr := ⟨_, rfl⟩
        subst hwj
        have HBj1 : Hid (Below w1.heap.size w1 wj) := HBi.out.trans (HBj.out.mono HBi.out.size)
        obtain ⟨b, o, ha, hci⟩ := HSi.out wj HBj1.out
        subst ha
        by_cases hjm : j < m
        · have hjm' : (j : Int) < (m : Int) := by omega
          have hjp : j < pF zs i := by rw [← HM.out]; exact hjm
          have HXj := hid_w (HX.out.below HBj1.out)
          go_wp2
          go_loopw [8, 9] (fun cv tv wr => ∃ t c : Nat, t ≤ L ∧ c ≤ t ∧ tv = .int .i64 t ∧ cv = .int .i64 (c : Int) ∧ Hid (c = cntH i j ((boxes zs).take t)) ∧ wr = wj) (fun _ tv _ => L - (intOf tv).toNat)
          case atStart => exact ⟨0, 0, Nat.zero_le _, Nat.le_refl _, rfl, rfl, rfl, rfl⟩
          case round =>
            obtain ⟨t, c, ht, hct, rfl, rfl, HC, hwr⟩ := hrel
            obtain rfl : wj = wr := hwr.symm
            clear hwr
            by_cases htl : t < L
            · have htl' : (t : Int) < (L : Int) := by omega
              obtain ⟨g, x, y, e1, HXY, hc1, hc2⟩ := HXj.out.elem (k := t) (by rw [← HL.out]; exact htl)
              subst e1
              have HN2 : Hid (cntH i j ((boxes zs).take (t + 1)) = c + if inHk i j (x, y) = true then 1 else 0) := by
                show _ = _
                rw [take_snoc2 _ _ (by rw [← HL.out]; exact htl), cntH_snoc, HXY.out, HC.out]
              by_cases d1 : x = (i : Int)
              · have b1 : (x == (i : Int)) = true := by simp [d1]
                by_cases d2 : (j : Int) ≤ y
                · have d2' : y ≥ (j : Int) := d2
                  have HE : Hid (c + 1 = cntH i j ((boxes zs).take (t + 1))) := by
                    show _ = _
                    rw [HN2.out, if_pos (by unfold inHk; simp [d1, d2])]
                  clear d1 d2
                  go_wp2
                  exact ⟨⟨t + 1, c + 1, by omega, by omega, by go_num, by go_num, HE, trivial⟩, by simp [intOf]; omega⟩
                · have d2' : ¬ y ≥ (j : Int) := by omega
                  have b2 : (y == (j : Int)) = false := by rw [beq_eq_false_iff_ne]; omega
                  have HE : Hid (c = cntH i j ((boxes zs).take (t + 1))) := by
                    show _ = _
                    rw [HN2.out, if_neg (by unfold inHk; simp [d2]; omega)]; rfl
                  clear d1 d2
                  go_wp2
                  exact ⟨⟨t + 1, c, by omega, by omega, by go_num, rfl, HE, trivial⟩, by simp [intOf]; omega⟩
              · have b1 : (x == (i : Int)) = false := by simp [d1]
                by_cases d2 : y = (j : Int)
                · have b2 : (y == (j : Int)) = true := by simp [d2]
                  by_cases d3 : (i : Int) < x
                  · have d3' : x > (i : Int) := d3
                    have HE : Hid (c + 1 = cntH i j ((boxes zs).take (t + 1))) := by
                      show _ = _
                      rw [HN2.out, if_pos (by unfold inHk; simp [d2, d3])]
                    clear d1 d2 d3
                    go_wp2
                    exact ⟨⟨t + 1, c + 1, by omega, by omega, by go_num, by go_num, HE, trivial⟩, by simp [intOf]; omega⟩
                  · have d3' : ¬ x > (i : Int) := d3
                    have HE : Hid (c = cntH i j ((boxes zs).take (t + 1))) := by
                      show _ = _
                      rw [HN2.out, if_neg (by unfold inHk; simp [d1, d3])]; rfl
                    clear d1 d2 d3
                    go_wp2
                    exact ⟨⟨t + 1, c, by omega, by omega, by go_num, rfl, HE, trivial⟩, by simp [intOf]; omega⟩
                · have b2 : (y == (j : Int)) = false := by simp [d2]
                  have HE : Hid (c = cntH i j ((boxes zs).take (t + 1))) := by
                    show _ = _
                    rw [HN2.out, if_neg (by unfold inHk; simp [d1, d2])]; rfl
                  clear d1 d2
                  go_wp2
                  exact ⟨⟨t + 1, c, by omega, by omega, by go_num, rfl, HE, trivial⟩, by simp [intOf]; omega⟩
            · obtain rfl : t = L := by omega
              have htl' : ¬ ((t : Int) < (t : Int)) := by omega
              have HCe : Hid (c = hkN zs i j) := by
                show _ = _
                rw [HC.out, HL.out, List.take_length, cntH_all HP.out hil hjp]
              have hsz := HBj.out.size
              go_wp2_with (at_builtin; refine append_int (x := (c : Int)) rfl _ _ rfl rfl HO.out rfl ?c1 ?c2 ?_)
              try any_goals exact hsz
              case c1 => have h9 := hkW_len zs i; simp; omega
              intro v' w2 hown hb2
              have HO2 : Hid (Owns w2 wi.heap.size v' ((hkW zs i).take (j + 1))) := by
                rw [hkW_take hjp, ← HCe.out]; exact hown
              have HB2 : Hid (Below wi.heap.size wi w2) := HBj.out.trans hb2
              clear hown hb2
              go_wp2
              first
              | exact ⟨⟨j + 1, by omega, by go_num, HO2, HB2⟩, by simp [intOf]; omega⟩
              | (go_roundw
                 case rel => exact ⟨j + 1, by omega, by go_num, HO2, HB2⟩
                 case measure => simp [intOf] <;> omega)
        · obtain rfl : j = m := by omega
          have hjm' : ¬ ((j : Int) < (j : Int)) := by omega
          have HOr : Hid (Owns wj wi.heap.size u6 (hkW zs i)) := by
            have := HO.out
            rw [List.take_of_length_le (by rw [hkW_len, ← HM.out]; omega)] at this
            exact this
          have HV2 : Hid (TblV wj w1.heap.size u4 vs ((List.range i).map (hkW zs))) := HV0.out.same (fun q _ hq => HBj.out.block q hq)
          obtain ⟨ra, rc, hrv⟩ := HOr.out.shape
          rw [hrv] at HOr
          obtain ⟨va, vc, hvv⟩ : ∃ va vc, u4 = .slice va vs.length vc := by
            rcases HV2.out.own.2 with ⟨q, h0⟩ | ⟨g, cp, cur, q, _⟩
            · exact ⟨none, 0, by rw [q, h0]⟩
            · exact ⟨_, _, q⟩
          subst hrv
          subst hvv
          go_wp2_with (at_builtin; refine append_one elem_row (x := .slice ra (hkW zs i).length rc) rfl _ _ rfl rfl rfl rfl HV2.out.own rfl ?c3 ?c4 ?c5 ?_)
          case c3 => have := HLv.out; unfold maxLen; omega
          case c4 => have := HLv.out; omega
          case c5 => exact HBj1.out.size
          intro v' w3 hO3 hb3 hk3
          have HT3 : Hid (Tbl w3 w1.heap.size v' ((List.range (i + 1)).map (hkW zs))) := by
            rw [List.range_succ, List.map_append]
            exact Tbl.push HV0.out HV2.out (Nat.le_refl _) HBi.out.size HOr.out (by simpa using hO3) hk3
          have HB3 : Hid (Below w1.heap.size w1 w3) := HBj1.out.trans hb3
          clear hO3 hb3 hk3
          go_wp2
          first
          | exact ⟨⟨i + 1, by omega, by go_num, HT3, HB3⟩, by simp [intOf]; omega⟩
          | (go_roundw
             case rel => exact ⟨i + 1, by omega, by go_num, HT3, HB3⟩
             case measure => simp [intOf] <;> omega)
    · obtain rfl : i = n := by omega
      have hlt' : ¬ ((i : Int) < (i : Int)) := by omega
      go_wp2
      go_ret
      exact ⟨_, rfl, HT.out.mono HB1.out.size, HB1.out.trans (HBi.out.mono HB1.out.size)⟩

end Go.Proofs.Ytheebpjkjclgbaa
