/-
  The contracts of insert.lengthsFrom, insert.Longest.
-/
import Derived.Test.YtpbmcaoomcippadIGrl
import Derived.Test.YtpbmcaoomcippadILet
import Derived.Test.YtpbmcaoomcippadUShp
namespace Go.Proofs.Ytpbmcaoomcippad
open Go.RowKit

/-- How long from place i on. -/
def lv (zs : List Int) (i : Nat) : Nat := (lls zs).getD i 0
theorem lv_step {zs : List Int} {i : Nat} (hi : i < zs.length) : lv zs i = acc (zs.getD i 0) (zs.drop (i + 1)) ((lls zs).drop (i + 1)) 1 := by
  unfold lv
  have e : (lls zs).drop i = lls (zs.drop i) := lls_drop zs i
  have e2 : zs.drop i = zs.getD i 0 :: zs.drop (i + 1) := drop_cons zs i hi
  have h1 : (lls zs).getD i 0 = ((lls zs).drop i).getD 0 0 := by simp [List.getD, List.getElem?_drop]
  rw [h1, e, e2, lls_drop]
  simp [lls]
theorem lv_le {zs : List Int} {i : Nat} (hi : i < zs.length) : 1 ≤ lv zs i ∧ lv zs i ≤ zs.length := by
  refine lls_le zs _ ?_
  unfold lv
  have : i < (lls zs).length := by rw [lls_length]; exact hi
  simp [List.getD, List.getElem?_eq_getElem this]
theorem acc_cons {zs : List Int} {j : Nat} (hj : j < zs.length) (x : Int) (a : Nat) : acc x (zs.drop j) ((lls zs).drop j) a = acc x (zs.drop (j + 1)) ((lls zs).drop (j + 1)) (if x ≤ zs.getD j 0 then max a (lv zs j + 1) else a) := by
  have e1 : zs.drop j = zs.getD j 0 :: zs.drop (j + 1) := drop_cons zs j hj
  have hl : j < (lls zs).length := by rw [lls_length]; exact hj
  have e2 : (lls zs).drop j = lv zs j :: (lls zs).drop (j + 1) := by
    rw [List.drop_eq_getElem_cons hl]; unfold lv; simp [List.getD, List.getElem?_eq_getElem hl]
  rw [e1, e2]; rfl

set_option maxHeartbeats 8000000 in
set_option maxRecDepth 100000 in
theorem lengthsFrom_at (a : Option Addr) (n cap : Nat) (zs : List Int) (w : World) (hs : Shows w a zs) (hn : n = zs.length) (hl : zs.length ≤ 40) :
    Calls Try.prog 57 #[.slice a n cap] w fun e w' => ∃ v, e = .returned v ∧ Owns w' w.heap.size v (tab zs.length (fun j => (lv zs j : Nat))) ∧ Below w.heap.size w w' := by
  subst hn
  have HS : Hid (Shows w a zs) := hs
  clear hs
  obtain ⟨i0, hi, hz0, hz1, hz2⟩ := info_parts Try.info3
  have hsub : IntKind.i64.wrap ((zs.length : Int) - 1) = (zs.length : Int) - 1 := by rw [IntWalk.i64_left, IntWalk.wrap64_in _ (by omega)]
  go_enter Try.func57, Try.ntmps57
  go_wp2_with (at_make; refine wpList_make_full _ rfl _ _ 22 rfl w.heap.size 3 i0 (.int .i64 0) 1 Try.underlying22 hi hz0 hz1 _ _ _ _ zs.length rfl rfl rfl rfl ?b1 ?b2 ?b3 ?_)
  case b1 => rw [hz2]; omega
  case b2 => unfold maxLen; omega
  case b3 => exact Nat.le_refl _
  intro w1 hown hgrow
  have HB1 : Hid (Below w.heap.size w w1) := (Below.refl _ _).grown hgrow (Nat.le_refl _) (fun k h => by cases h)
  have HO1 : Hid (Owns w1 w.heap.size (.slice (some ⟨w.heap.size, 0, none⟩) zs.length zs.length) (tab zs.length (fun j => if zs.length ≤ j then (lv zs j : Nat) else 0))) := (owns_made hown).tabCongr (fun j hj => by rw [if_neg (by omega)])
  clear hown hgrow
  go_wp2
  go_loopw [4] (fun iv wr => ∃ q : Nat, q ≤ zs.length ∧ iv = .int .i64 ((q : Int) - 1) ∧ Hid (Owns wr w.heap.size (.slice (some ⟨w.heap.size, 0, none⟩) zs.length zs.length) (tab zs.length (fun j => if q ≤ j then (lv zs j : Nat) else 0))) ∧ Hid (Below w.heap.size w wr)) (fun iv _ => ((intOf iv) + 1).toNat)
  case atStart => exact ⟨zs.length, Nat.le_refl _, rfl, HO1, HB1⟩
  case round =>
    obtain ⟨q, hq, rfl, HO, HB⟩ := hrel
    by_cases hq0 : 0 < q
    · obtain ⟨i, rfl⟩ : ∃ i, q = i + 1 := ⟨q - 1, by omega⟩
      have hqi : ((i + 1 : Nat) : Int) - 1 = (i : Int) := by omega
      rw [hqi]
      have hge : (i : Int) ≥ 0 := by omega
      have hil : i < zs.length := by omega
      have hil' : (i : Int) < (zs.length : Int) := by omega
      obtain ⟨b, off, x, rfl, HX, -, -, hcx⟩ := (HS.out.below HB.out).elem hil
      have hcxB : Hid (∀ W, Below w.heap.size w W → W.cell? ⟨b, off + i, none⟩ = some (.int .i64 x)) := fun W hW => by
        obtain ⟨b', off', x', hab, HX', -, -, hc'⟩ := (HS.out.below hW).elem hil
        simp only [Option.some.injEq, Addr.mk.injEq, and_true] at hab
        obtain ⟨rfl, rfl⟩ := hab
        rw [hc', HX'.out, HX.out]
      obtain ⟨hfz, hcz⟩ := HO.out.tabAt hil
      have HOs : Hid (Owns (wr.setCell ⟨w.heap.size, i, none⟩ (.int .i64 1)) w.heap.size (.slice (some ⟨w.heap.size, 0, none⟩) zs.length zs.length) (tab zs.length (fun j => if j = i then ((1 : Nat) : Int) else if i + 1 ≤ j then (lv zs j : Nat) else 0))) := (HO.out.tabStore i 1).tabCongr (fun j _ => by unfold upd; rfl)
      have HBs : Hid (Below w.heap.size w (wr.setCell ⟨w.heap.size, i, none⟩ (.int .i64 1))) := HB.out.setCell (p := ⟨w.heap.size, i, none⟩) (Nat.le_refl _) _
      have HT : Hid (acc x (zs.drop (i + 1)) ((lls zs).drop (i + 1)) 1 = lv zs i) := by show _ = _; rw [lv_step hil, HX.out]
      have hi1 : IntKind.i64.wrap ((i : Int) + 1) = ((i + 1 : Nat) : Int) := by rw [IntWalk.i64_left, IntWalk.wrap64_in _ (by omega)]; omega
      have him : IntKind.i64.wrap ((i : Int) - 1) = (i : Int) - 1 := by rw [IntWalk.i64_left, IntWalk.wrap64_in _ (by omega)]
      rw [if_neg (by omega)] at hcz
      clear hqi
      go_wp2
      go_loopw [5] (fun jv wr => ∃ (j y : Nat), i + 1 ≤ j ∧ j ≤ zs.length ∧ jv = .int .i64 j ∧ 1 ≤ y ∧ y ≤ 40 ∧ Hid (acc x (zs.drop j) ((lls zs).drop j) y = lv zs i) ∧ Hid (Owns wr w.heap.size (.slice (some ⟨w.heap.size, 0, none⟩) zs.length zs.length) (tab zs.length (fun t => if t = i then (y : Int) else if i + 1 ≤ t then (lv zs t : Nat) else 0))) ∧ Hid (Below w.heap.size w wr)) (fun jv _ => zs.length - (intOf jv).toNat)
      case atStart => exact ⟨i + 1, 1, Nat.le_refl _, by omega, by go_num, Nat.le_refl _, by omega, HT, HOs, HBs⟩
      case round =>
        obtain ⟨j, y, hij, hjl, rfl, hy1, hy40, HA, HOj, HBj⟩ := hrel
        by_cases hlt : j < zs.length
        · have hlt' : (j : Int) < (zs.length : Int) := by omega
          have hcx2 := hcxB.out wr HBj.out
          obtain ⟨b', off', z, hab, HZ, -, -, hcz⟩ := (HS.out.below HBj.out).elem hlt
          simp only [Option.some.injEq, Addr.mk.injEq, and_true] at hab
          obtain ⟨rfl, rfl⟩ := hab
          obtain ⟨hfi, hci⟩ := HOj.out.tabAt hil
          obtain ⟨-, hcj⟩ := HOj.out.tabAt hlt
          rw [if_pos rfl] at hci
          rw [if_neg (by omega), if_pos hij] at hcj
          obtain ⟨m, HM⟩ : ∃ m, Hid (m = lv zs j) := ⟨_, rfl⟩
          rw [← HM.out] at hcj
          have hmb : 1 ≤ m ∧ m ≤ 40 := by rw [HM.out]; have := lv_le hlt; omega
          have HAn : Hid (acc x (zs.drop j) ((lls zs).drop j) y = acc x (zs.drop (j + 1)) ((lls zs).drop (j + 1)) (if x ≤ z then max y (m + 1) else y)) := by
            show _ = _; rw [acc_cons hlt, HZ.out, HM.out]
          have hj1 : IntKind.i64.wrap ((j : Int) + 1) = ((j + 1 : Nat) : Int) := by rw [IntWalk.i64_left, IntWalk.wrap64_in _ (by omega)]; omega
          have hm1 : IntKind.i64.wrap ((m : Int) + 1) = ((m + 1 : Nat) : Int) := by rw [IntWalk.i64_left, IntWalk.wrap64_in _ (by omega)]; omega
          by_cases hxz : x ≤ z
          · have hg : decide (z ≥ x) = true := by simpa using hxz
            have hg' : z ≥ x := hxz
            by_cases hmx : y < m + 1
            · have hmx' : (y : Int) < ((m + 1 : Nat) : Int) := by omega
              have HA2 : Hid (acc x (zs.drop (j + 1)) ((lls zs).drop (j + 1)) (m + 1) = lv zs i) := by
                have := HAn.out; rw [if_pos hxz, show max y (m + 1) = (m + 1) by omega] at this; rw [← this]; exact HA.out
              have HO2 : Hid (∀ d, Owns ((wr.drewN d).setCell ⟨w.heap.size, i, none⟩ (.int .i64 ((m + 1) : Nat))) w.heap.size (.slice (some ⟨w.heap.size, 0, none⟩) zs.length zs.length) (tab zs.length (fun t => if t = i then (((m + 1) : Nat) : Int) else if i + 1 ≤ t then (lv zs t : Nat) else 0))) := fun d =>
                ((HOj.out.below (below_drewN (Below.refl _ _) d)).tabStore i (((m + 1) : Nat) : Int)).tabCongr (fun t _ => by
                  unfold upd
                  by_cases e : t = i
                  · rw [if_pos e, if_pos e]
                  · rw [if_neg e, if_neg e]; show (if t = i then (y : Int) else _) = _; rw [if_neg e])
              have HB2 : Hid (∀ d, Below w.heap.size w ((wr.drewN d).setCell ⟨w.heap.size, i, none⟩ (.int .i64 ((m + 1) : Nat)))) := fun d => (below_drewN HBj.out d).setCell (p := ⟨w.heap.size, i, none⟩) (Nat.le_refl _) _
              go_wp2_with fail
              go_quiet (fail)
              go_wp2_with fail
              go_region
              all_goals (
                go_wp2
                go_roundw
                case rel => exact ⟨j + 1, (m + 1), by omega, by omega, by go_num, by omega, by have := lv_le hil; have h1 := acc_ge x (zs.drop (j + 1)) ((lls zs).drop (j + 1)) ((m + 1)); rw [HA2.out] at h1; omega, HA2, HO2.out _, HB2.out _⟩
                case measure => simp [intOf]; omega)
            · have hmx' : ¬ (y : Int) < ((m + 1 : Nat) : Int) := by omega
              have HA2 : Hid (acc x (zs.drop (j + 1)) ((lls zs).drop (j + 1)) y = lv zs i) := by
                have := HAn.out; rw [if_pos hxz, show max y (m + 1) = y by omega] at this; rw [← this]; exact HA.out
              have HO2 : Hid (∀ d, Owns ((wr.drewN d).setCell ⟨w.heap.size, i, none⟩ (.int .i64 (y : Nat))) w.heap.size (.slice (some ⟨w.heap.size, 0, none⟩) zs.length zs.length) (tab zs.length (fun t => if t = i then ((y : Nat) : Int) else if i + 1 ≤ t then (lv zs t : Nat) else 0))) := fun d =>
                ((HOj.out.below (below_drewN (Below.refl _ _) d)).tabStore i ((y : Nat) : Int)).tabCongr (fun t _ => by
                  unfold upd
                  by_cases e : t = i
                  · rw [if_pos e, if_pos e]
                  · rw [if_neg e, if_neg e]; show (if t = i then (y : Int) else _) = _; rw [if_neg e])
              have HB2 : Hid (∀ d, Below w.heap.size w ((wr.drewN d).setCell ⟨w.heap.size, i, none⟩ (.int .i64 (y : Nat)))) := fun d => (below_drewN HBj.out d).setCell (p := ⟨w.heap.size, i, none⟩) (Nat.le_refl _) _
              go_wp2_with fail
              go_quiet (fail)
              go_wp2_with fail
              go_region
              all_goals (
                go_wp2
                go_roundw
                case rel => exact ⟨j + 1, y, by omega, by omega, by go_num, by omega, by have := lv_le hil; have h1 := acc_ge x (zs.drop (j + 1)) ((lls zs).drop (j + 1)) (y); rw [HA2.out] at h1; omega, HA2, HO2.out _, HB2.out _⟩
                case measure => simp [intOf]; omega)
          · have hg : decide (z ≥ x) = false := by simpa using hxz
            have HA2 : Hid (acc x (zs.drop (j + 1)) ((lls zs).drop (j + 1)) y = lv zs i) := by
              have := HAn.out; rw [if_neg hxz] at this; rw [← this]; exact HA.out
            go_wp2_with fail
            go_quiet (fail)
            go_wp2
            go_roundw
            case rel => exact ⟨j + 1, y, by omega, by omega, by go_num, hy1, hy40, HA2, HOj.out.below (below_drewN (Below.refl _ _) _), below_drewN HBj.out _⟩
            case measure => simp [intOf]; omega
        · obtain rfl : j = zs.length := by omega
          have hlt' : ¬ (zs.length : Int) < (zs.length : Int) := by omega
          have HY : Hid (y = lv zs i) := by
            have := HA.out
            rw [List.drop_length, acc_nil] at this; exact this
          have HOn : Hid (Owns wr w.heap.size (.slice (some ⟨w.heap.size, 0, none⟩) zs.length zs.length) (tab zs.length (fun t => if i ≤ t then (lv zs t : Nat) else 0))) := HOj.out.tabCongr (fun t _ => by
            by_cases e : t = i
            · subst e; rw [if_pos rfl, if_pos (Nat.le_refl _), HY.out]
            · rw [if_neg e]
              by_cases e2 : i + 1 ≤ t
              · rw [if_pos e2, if_pos (by omega)]
              · rw [if_neg e2, if_neg (by omega)])
          go_wp2
          go_roundw
          case rel => exact ⟨i, by omega, rfl, HOn, HBj⟩
          case measure => simp [intOf]
    · obtain rfl : q = 0 := by omega
      have hqi : ((0 : Nat) : Int) - 1 = -1 := by omega
      rw [hqi]
      have hge : ¬ (-1 : Int) ≥ 0 := by omega
      clear hqi
      go_wp2
      go_ret
      exact ⟨_, rfl, HO.out.tabCongr (fun j _ => by rw [if_pos (Nat.zero_le _)]), HB.out⟩
/-- There is a way on. -/
def Way (zs : List Int) (k r : Nat) (least : Int) : Prop := r = 0 ∨ ∃ j, k ≤ j ∧ j < zs.length ∧ least ≤ zs.getD j 0 ∧ lv zs j = r
theorem way_take {zs : List Int} {k : Nat} (hk : k < zs.length) : Way zs (k + 1) (lv zs k - 1) (zs.getD k 0) := by
  have h1 := lv_step hk
  rcases acc_get (zs.getD k 0) (zs.drop (k + 1)) ((lls zs).drop (k + 1)) 1 (by rw [List.length_drop, List.length_drop, lls_length]) with h | ⟨t, t1, t2, t3⟩
  · left; rw [h1, h]
  · right
    rw [List.length_drop] at t1
    refine ⟨k + 1 + t, by omega, by omega, ?_, ?_⟩
    · simpa [List.getD, List.getElem?_drop] using t2
    · rw [h1, t3]
      unfold lv
      simp [List.getD, List.getElem?_drop]
theorem way_pass {zs : List Int} {k r : Nat} {least : Int} (h : Way zs k r least) (hn : ¬ (least ≤ zs.getD k 0 ∧ lv zs k = r)) : Way zs (k + 1) r least := by
  rcases h with h | ⟨j, h1, h2, h3, h4⟩
  · exact Or.inl h
  · right
    refine ⟨j, ?_, h2, h3, h4⟩
    rcases Nat.lt_or_ge k j with q | q
    · omega
    · obtain rfl : j = k := by omega
      exact absurd ⟨h3, h4⟩ hn
theorem way_start {zs : List Int} (h : ∀ z ∈ zs, 1 ≤ z) : Way zs 0 (mxL (lls zs)) 1 := by
  rcases mxL_get (lls zs) with q | ⟨k, k1, k2⟩
  · exact Or.inl q
  · rw [lls_length] at k1
    exact Or.inr ⟨k, Nat.zero_le _, k1, h _ (getD_mem k1), k2⟩
theorem way_end {zs : List Int} {r : Nat} {least : Int} (h : Way zs zs.length r least) : r = 0 := by
  rcases h with h | ⟨j, h1, h2, _⟩
  · exact h
  · omega
theorem Plc.take {w : List Int} {i : Nat} {ps : List Nat} {least : Int} (h : Plc w i ps least) (hl : least ≤ w.getD i 0) : Plc w (i + 1) (ps ++ [i]) (w.getD i 0) := by
  refine ⟨fun p hp => ?_, ?_, fun p hp => ?_⟩
  · rw [List.mem_append] at hp
    rcases hp with hp | hp
    · have := h.lt p hp; omega
    · simp at hp; omega
  · rw [List.pairwise_append]
    exact ⟨h.up, List.pairwise_singleton _ _, fun p hp q hq => by
      simp at hq; subst hq
      have h1 := h.lt p hp
      have h2 := h.le p hp
      exact ⟨h1, by omega⟩⟩
  · rw [List.mem_append] at hp
    rcases hp with hp | hp
    · have := h.le p hp; omega
    · simp at hp; subst hp; exact Int.le_refl _
theorem Plc.pass {w : List Int} {i : Nat} {ps : List Nat} {least : Int} (h : Plc w i ps least) : Plc w (i + 1) ps least := ⟨fun p hp => by have := h.lt p hp; omega, h.up, h.le⟩
/-- Places as the program tells them. -/
def plcL (ps : List Nat) : List Int := ps.map (fun p : Nat => (p : Int) + 1)
set_option maxHeartbeats 8000000 in
set_option maxRecDepth 100000 in
theorem Longest_ok (a : Option Addr) (n cap : Nat) (zs : List Int) (w : World) (hs : Shows w a zs) (hn : n = zs.length) (hc : lchk zs = 0) :
    Calls Try.prog 25 #[.slice a n cap] w fun e w' => ∃ v ps, e = .returned (.tuple #[v, .int .i64 0]) ∧ Owns w' w.heap.size v (plcL ps) ∧ Below w.heap.size w w' ∧ ps.length = mxL (lls zs) ∧ (∀ p ∈ ps, p < zs.length) ∧ ps.Pairwise (fun a b => a < b ∧ zs.getD a 0 ≤ zs.getD b 0) := by
  subst hn
  have HS : Hid (Shows w a zs) := hs
  have HC : Hid (lchk zs = 0) := hc
  obtain ⟨hl, hle⟩ := lchk_ok.1 hc
  have HLe : Hid (∀ z ∈ zs, 1 ≤ z ∧ z ≤ 99) := hle
  have HW0 : Hid (Way zs 0 (mxL (lls zs)) 1) := way_start (fun z hz => (hle z hz).1)
  have HTb : Hid (∀ z ∈ tab zs.length (fun j => (lv zs j : Nat)), 0 ≤ z ∧ z ≤ 1000) := fun z hz => by
    obtain ⟨j, hj, rfl⟩ := tab_mem hz
    have := lv_le hj; omega
  clear hs hc hle
  go_enter Try.func25, Try.ntmps25
  go_wp2_with fail
  refine (Letters_is a _ cap zs w HS.out rfl HC).mono ?_
  rintro e w0 ⟨rfl, hw0⟩
  obtain rfl : w = w0 := hw0.symm
  clear hw0
  go_wp2_with fail
  refine (lengthsFrom_at a _ cap zs w HS.out rfl hl).mono ?_
  rintro e w1 ⟨v1, rfl, hO1, hb1⟩
  have HB1 : Hid (Below w.heap.size w w1) := hb1
  obtain ⟨a1, n1, c1, rfl, hS1, hn1, -⟩ := hO1.opened (by rw [tab_length]; omega) (small_wf HTb.out)
  have HS1 : Hid (Shows w1 a1 (tab zs.length (fun j => (lv zs j : Nat)))) := hS1
  rw [tab_length] at hn1
  subst hn1
  clear hO1 hb1 hS1
  go_wp2
  go_loop [6, 22] (fun s iv => ∃ (k x : Nat), k ≤ zs.length ∧ iv = .int .i64 k ∧ s = .int .i64 x ∧ x ≤ 40 ∧ Hid (x = mxL ((lls zs).take k))) (fun _ iv => zs.length - (intOf iv).toNat)
  case atStart => exact ⟨0, 0, Nat.zero_le _, rfl, rfl, by omega, rfl⟩
  case round =>
    obtain ⟨k, x, hk, rfl, rfl, hx, HX⟩ := hrel
    by_cases hlt : k < zs.length
    · have hlt' : (k : Int) < (zs.length : Int) := by omega
      obtain ⟨b, off, z, rfl, HZ, -, -, hcz⟩ := HS1.out.elem (k := k) (by rw [tab_length]; exact hlt)
      obtain ⟨m, HM⟩ : ∃ m, Hid (m = lv zs k) := ⟨_, rfl⟩
      have hzm : z = (m : Int) := by rw [HZ.out, tab_getD _ _ _ hlt, HM.out]
      subst hzm
      have hmb : m ≤ 40 := by rw [HM.out]; have := lv_le hlt; omega
      have HN : Hid (max x m = mxL ((lls zs).take (k + 1))) := by
        show _ = _
        have hl2 : k < (lls zs).length := by rw [lls_length]; exact hlt
        rw [List.take_succ_eq_append_getElem hl2, mxL_snoc, HX.out, HM.out]
        unfold lv
        simp [List.getD, List.getElem?_eq_getElem hl2]
      by_cases hxm : x < m
      · have hxm' : (x : Int) < (m : Int) := by omega
        have HN2 : Hid (m = mxL ((lls zs).take (k + 1))) := by rw [← HN.out]; show m = max x m; omega
        go_wp2
        go_round
        case rel => exact ⟨k + 1, m, by omega, by go_num, rfl, hmb, HN2⟩
        case measure => simp [intOf]; omega
      · have hxm' : ¬ (x : Int) < (m : Int) := by omega
        have HN2 : Hid (x = mxL ((lls zs).take (k + 1))) := by rw [← HN.out]; show x = max x m; omega
        go_wp2
        go_round
        case rel => exact ⟨k + 1, x, by omega, by go_num, rfl, hx, HN2⟩
        case measure => simp [intOf]; omega
    · obtain rfl : k = zs.length := by omega
      have hlt' : ¬ (zs.length : Int) < (zs.length : Int) := by omega
      have HX2 : Hid (x = mxL (lls zs)) := by
        have := HX.out
        rw [List.take_of_length_le (by rw [lls_length]; exact Nat.le_refl _)] at this; exact this
      go_wp2
      go_loopw [6, 7, 10, 32] (fun s lv' v iv wr => ∃ (k r : Nat) (least : Int) (ps : List Nat), k ≤ zs.length ∧ iv = .int .i64 k ∧ s = .int .i64 r ∧ lv' = .int .i64 least ∧ r ≤ 40 ∧ Hid (Owns wr w1.heap.size v (plcL ps)) ∧ Hid (Plc zs k ps least) ∧ Hid (Way zs k r least) ∧ Hid (ps.length + r = mxL (lls zs) ∧ ps.length ≤ k) ∧ Hid (Below w1.heap.size w1 wr)) (fun _ _ _ iv _ => zs.length - (intOf iv).toNat)
      case atStart => exact ⟨0, x, 1, [], Nat.zero_le _, rfl, rfl, rfl, hx, World.ownsRow_nil _ _ _ _, ⟨by simp, List.Pairwise.nil, by simp⟩, by rw [HX2.out]; exact HW0, ⟨by rw [HX2.out]; simp, by simp⟩, Below.refl _ _⟩
      case round =>
        obtain ⟨k, r, least, ps, hk, rfl, rfl, rfl, hr, HO, HP, HWy, HL, HB⟩ := hrel
        have HBw : Hid (Below w.heap.size w wr) := HB1.out.trans (HB.out.mono HB1.out.size)
        by_cases hlt : k < zs.length
        · have hlt' : (k : Int) < (zs.length : Int) := by omega
          obtain ⟨b, off, z, rfl, HZ, -, -, hcz⟩ := (HS.out.below HBw.out).elem hlt
          obtain ⟨b2, off2, y, rfl, HY, -, -, hcy⟩ := (HS1.out.below HB.out).elem (k := k) (by rw [tab_length]; exact hlt)
          obtain ⟨m, HM⟩ : ∃ m, Hid (m = lv zs k) := ⟨_, rfl⟩
          have hym : y = (m : Int) := by rw [HY.out, tab_getD _ _ _ hlt, HM.out]
          subst hym
          have hmb : 1 ≤ m ∧ m ≤ 40 := by rw [HM.out]; have := lv_le hlt; omega
          have hk1 : IntKind.i64.wrap ((k : Int) + 1) = (k : Int) + 1 := by rw [IntWalk.i64_left, IntWalk.wrap64_in _ (by omega)]
          have HPn : Hid (¬ (least ≤ z ∧ m = r) → Way zs (k + 1) r least) := fun h => way_pass HWy.out (fun q => h ⟨by rw [HZ.out]; exact q.1, by rw [HM.out]; exact q.2⟩)
          by_cases hz : z ≥ least
          · have hzb : decide (z ≥ least) = true := by simpa using hz
            by_cases hm : m = r
            · subst hm
              have hmm : ((m : Int) == (m : Int)) = true := by simp
              have hm1 : IntKind.i64.wrap ((m : Int) - 1) = ((m - 1 : Nat) : Int) := by rw [IntWalk.i64_left, IntWalk.wrap64_in _ (by omega)]; omega
              have HW2 : Hid (Way zs (k + 1) (m - 1) z) := by rw [HM.out, HZ.out]; exact way_take hlt
              have HP2 : Hid (Plc zs (k + 1) (ps ++ [k]) z) := by rw [HZ.out]; exact HP.out.take (by rw [← HZ.out]; exact hz)
              have HL2 : Hid ((ps ++ [k]).length + (m - 1) = mxL (lls zs) ∧ (ps ++ [k]).length ≤ k + 1) := by
                have := HL.out; show _ ∧ _; rw [List.length_append, List.length_singleton]; omega
              have HLn : Hid ((plcL ps).length ≤ 1000) := by have := HL.out.2; show _ ≤ _; unfold plcL; rw [List.length_map]; omega
              have HPe : Hid (plcL (ps ++ [k]) = plcL ps ++ [(k : Int) + 1]) := by show _ = _; unfold plcL; simp
              go_wp2_with (at_builtin; refine append_int (x := (k : Int) + 1) rfl _ _ rfl rfl HO.out rfl ?c1 ?c2 ?_)
              case c1 => have := HLn.out; omega
              case c2 => exact HB.out.size
              intro v' w2 hO' hb'
              have HO2 : Hid (Owns w2 w1.heap.size v' (plcL (ps ++ [k]))) := by rw [HPe.out]; exact hO'
              have HB2 : Hid (Below w1.heap.size w1 w2) := HB.out.trans hb'
              clear hO' hb'
              go_wp2
              go_roundw
              case rel => exact ⟨k + 1, m - 1, z, ps ++ [k], by omega, by go_num, rfl, rfl, by omega, HO2, HP2, HW2, HL2, HB2⟩
              case measure => simp [intOf]; omega
            · have hmm : ((m : Int) == (r : Int)) = false := beq_false_of_ne (by omega)
              have HW2 : Hid (Way zs (k + 1) r least) := HPn.out (fun q => hm q.2)
              have HL2 : Hid (ps.length + r = mxL (lls zs) ∧ ps.length ≤ k + 1) := by have := HL.out; show _ ∧ _; omega
              go_wp2
              go_roundw
              case rel => exact ⟨k + 1, r, least, ps, by omega, by go_num, rfl, rfl, hr, HO, HP.out.pass, HW2, HL2, HB⟩
              case measure => simp [intOf]; omega
          · have hzb : decide (z ≥ least) = false := by simpa using hz
            have HW2 : Hid (Way zs (k + 1) r least) := HPn.out (fun q => hz q.1)
            have HL2 : Hid (ps.length + r = mxL (lls zs) ∧ ps.length ≤ k + 1) := by have := HL.out; show _ ∧ _; omega
            go_wp2
            go_roundw
            case rel => exact ⟨k + 1, r, least, ps, by omega, by go_num, rfl, rfl, hr, HO, HP.out.pass, HW2, HL2, HB⟩
            case measure => simp [intOf]; omega
        · obtain rfl : k = zs.length := by omega
          have hlt' : ¬ (zs.length : Int) < (zs.length : Int) := by omega
          have HR : Hid (ps.length = mxL (lls zs)) := by have h1 := way_end HWy.out; have h2 := HL.out.1; show _ = _; omega
          go_wp2
          go_ret2
          exact ⟨_, rfl, ps, HO.out.mono HB1.out.size, HBw.out, HR.out, HP.out.lt, HP.out.up⟩
set_option maxHeartbeats 2000000 in
theorem Longest_err {c : Int} (a : Option Addr) (n cap : Nat) (zs : List Int) (w : World) (hs : Shows w a zs) (hn : n = zs.length) (E : Hid (lchk zs = c)) (hc : (c != 0) = true) :
    Calls Try.prog 25 #[.slice a n cap] w fun e w' => e = .returned (.tuple #[.slice none 0 0, .int .i64 c]) ∧ w' = w := by
  subst hn
  go_enter Try.func25, Try.ntmps25
  go_wp2_with fail
  refine (Letters_is a _ cap zs w hs rfl E).mono ?_
  rintro e w0 ⟨rfl, hw0⟩
  obtain rfl : w = w0 := hw0.symm
  clear hw0
  go_wp2
  go_ret2
  exact ⟨rfl, rfl⟩

end Go.Proofs.Ytpbmcaoomcippad
