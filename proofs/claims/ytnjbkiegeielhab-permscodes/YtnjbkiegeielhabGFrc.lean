/-
  The contract of perms.FromCode.
-/
import Derived.Test.YtnjbkiegeielhabGMath
namespace Go.Proofs.Ytnjbkiegeielhab
open Go.RowKit

def fcC (cs : List Int) : Int := if 40 < cs.length then 2 else match fromC (orderL cs.length) cs with | none => 1 | some _ => 0
def fcL (cs : List Int) : List Int := if 40 < cs.length then [] else match fromC (orderL cs.length) cs with | none => [] | some p => p

theorem fromC_step {left cs : List Int} {k : Nat} (hk : k < cs.length) : fromC left (cs.drop k) = if 0 ≤ cs.getD k 0 ∧ cs.getD k 0 < left.length then (fromC (left.take (cs.getD k 0).toNat ++ left.drop ((cs.getD k 0).toNat + 1)) (cs.drop (k + 1))).map (fun r => left.getD (cs.getD k 0).toNat 0 :: r) else none := by
  rw [drop_cons cs k hk, fromC]

/-- What was placed, then nothing. -/
def placed (ps : List Int) : Nat → Int := fun j => ps.getD j 0

set_option maxHeartbeats 4000000 in
theorem FromCode_any (a : Option Addr) (cap : Nat) (cs : List Int) (w : World) (hs : Shows w a cs) :
    Calls Try.prog 19 #[.slice a cs.length cap] w fun e w' => ∃ v, e = .returned (.tuple #[v, .int .i64 (fcC cs)]) ∧ Owns w' w.heap.size v (fcL cs) ∧ Below w.heap.size w w' := by
  have hl := hs.len
  by_cases h40 : 40 < cs.length
  · have hb : decide ((cs.length : Int) > 40) = true := by simp; omega
    have HC : Hid (fcC cs = 2) := by show _ = _; unfold fcC; rw [if_pos h40]
    have HL : Hid (fcL cs = []) := by show _ = _; unfold fcL; rw [if_pos h40]
    clear h40
    go_enter Try.func19, Try.ntmps19
    go_wp2
    go_ret2
    exact ⟨.slice none 0 0, by rw [HC.out]; rfl, by rw [HL.out]; exact World.ownsRow_nil _ _ _ _, Below.refl _ _⟩
  · have hb : decide ((cs.length : Int) > 40) = false := by simp; omega
    have HC : Hid (fcC cs = match fromC (orderL cs.length) cs with | none => 1 | some _ => 0) := by show _ = _; unfold fcC; rw [if_neg h40]
    have HL : Hid (fcL cs = match fromC (orderL cs.length) cs with | none => [] | some p => p) := by show _ = _; unfold fcL; rw [if_neg h40]
    have h40' : cs.length ≤ 40 := by omega
    obtain ⟨N, hN⟩ : ∃ N, N = cs.length := ⟨_, rfl⟩
    obtain ⟨i0, hi, hz0, hz1, hz2⟩ := info_parts Try.info3
    clear h40 hN
    go_enter Try.func19, Try.ntmps19
    go_wp2_with fail
    refine (inOrder_ok cs.length _ h40').mono ?_
    rintro e w1 ⟨v, rfl, hown, hb1⟩
    have HB1 : Hid (Below w.heap.size w w1) := hb1
    have HO1 : Hid (Owns w1 w.heap.size v (orderL cs.length)) := hown
    clear hown hb1
    go_wp2_with (at_make; refine wpList_make_full _ rfl _ _ 22 rfl w.heap.size 3 i0 (.int .i64 0) 1 Try.underlying22 hi hz0 hz1 _ _ _ _ cs.length rfl rfl rfl rfl ?b1 ?b2 ?b3 ?_)
    case b1 => rw [hz2]; omega
    case b2 => unfold maxLen; omega
    case b3 => exact HB1.out.size
    intro w2 hown hgrow
    have HB2 : Hid (Below w.heap.size w w2) := HB1.out.grown hgrow HB1.out.size (fun k h => by cases h)
    have HO2 : Hid (Owns w2 w.heap.size v (orderL cs.length)) := World.ownsRow.kept HO1.out hgrow (by
      cases v.ownBlock with
      | none => exact Or.inl rfl
      | some g => exact Or.inr (by simp))
    obtain ⟨gp, hgp⟩ : ∃ gp, gp = w1.heap.size := ⟨_, rfl⟩
    have HGP : Hid (w.heap.size ≤ gp) := by show _ ≤ _; rw [hgp]; exact HB1.out.size
    have HNE : Hid (v.ownBlock ≠ some gp) := fun e => by have := (HO1.out.lt e).2; omega
    have HOP : Hid (Owns w2 w.heap.size (.slice (some ⟨gp, 0, none⟩) cs.length cs.length) (tab cs.length (placed []))) := by rw [hgp]; exact (owns_made hown).tabCongr (fun j _ => by simp [placed])
    rw [← hgp]
    clear hown hgrow hgp HO1
    go_wp2
    go_loopw [4, 19] (fun v i wr => ∃ (k : Nat) (ls ps : List Int), k ≤ cs.length ∧ i = .int .i64 k ∧ Hid (ls.length + k = cs.length) ∧ Hid (ps.length = k) ∧ Hid (fromC (orderL cs.length) cs = (fromC ls (cs.drop k)).map (fun r => ps ++ r)) ∧ Hid (∀ z ∈ ls, 0 ≤ z ∧ z ≤ 1000) ∧ Hid (v.ownBlock ≠ some gp) ∧ Hid (Owns wr w.heap.size v ls) ∧ Hid (Owns wr w.heap.size (.slice (some ⟨gp, 0, none⟩) cs.length cs.length) (tab cs.length (placed ps))) ∧ Hid (Below w.heap.size w wr)) (fun _ i _ => cs.length - (intOf i).toNat)
    case atStart => exact ⟨0, orderL cs.length, [], Nat.zero_le _, rfl, by show _ = _; simp [orderL, tab_length], rfl, by show _ = _; simp, fun z hz => by
                      obtain ⟨j, hj, rfl⟩ := tab_mem hz
                      omega, HNE, HO2, HOP, HB2⟩
    case round =>
      obtain ⟨k, ls, ps, hk, rfl, HLL, HPL, HF, HSm, HNe, HO, HOp, HB⟩ := hrel
      by_cases hlt : k < cs.length
      · have hlt' : (k : Int) < (cs.length : Int) := by omega
        obtain ⟨b, off, c, rfl, HZ, -, -, hc⟩ := (hs.below HB.out).elem hlt
        obtain ⟨al, cl, hvl⟩ := HO.out.shape
        subst hvl
        have HST : Hid _ := fromC_step (left := ls) hlt
        rw [← HZ.out] at HST
        by_cases h1 : c < 0
        · have hb1 : decide (c < 0) = true := by simpa using h1
          have HN : Hid (fromC (orderL cs.length) cs = none) := by show _ = _; rw [HF.out, HST.out, if_neg (by omega)]; rfl
          have HC1 : Hid (fcC cs = 1) := by show _ = _; rw [HC.out, HN.out]
          have HL1 : Hid (fcL cs = []) := by show _ = _; rw [HL.out, HN.out]
          go_wp2
          go_ret2
          exact ⟨.slice none 0 0, by rw [HC1.out]; rfl, by rw [HL1.out]; exact World.ownsRow_nil _ _ _ _, HB.out⟩
        · have hb1 : decide (c < 0) = false := by simpa using h1
          by_cases h2 : (ls.length : Int) ≤ c
          · have hb2 : decide (c ≥ (ls.length : Int)) = true := by simpa using h2
            have HN : Hid (fromC (orderL cs.length) cs = none) := by show _ = _; rw [HF.out, HST.out, if_neg (by omega)]; rfl
            have HC1 : Hid (fcC cs = 1) := by show _ = _; rw [HC.out, HN.out]
            have HL1 : Hid (fcL cs = []) := by show _ = _; rw [HL.out, HN.out]
            go_wp2
            go_ret2
            exact ⟨.slice none 0 0, by rw [HC1.out]; rfl, by rw [HL1.out]; exact World.ownsRow_nil _ _ _ _, HB.out⟩
          · have hb2 : decide (c ≥ (ls.length : Int)) = false := by simpa using h2
            obtain ⟨C, rfl⟩ : ∃ C : Nat, c = (C : Int) := ⟨c.toNat, by omega⟩
            have hCl : C < ls.length := by omega
            have hCl' : (C : Int) < (ls.length : Int) := by omega
            rw [if_pos ⟨by omega, by omega⟩, Int.toNat_natCast] at HST
            obtain ⟨g, cl', hv, hgB, hglt, -, hcl⟩ := HO.out.head (by omega)
            simp only [Value.slice.injEq] at hv
            obtain ⟨rfl, -, rfl⟩ := hv
            have hcC := hcl C hCl
            obtain ⟨y, HY⟩ : ∃ y, Hid (y = ls.getD C 0) := ⟨_, rfl⟩
            rw [← HY.out] at hcC
            rw [← HY.out] at HST
            obtain ⟨hfz, hcz⟩ := HOp.out.tabAt hlt
            obtain ⟨u, HU⟩ : ∃ u, Hid (u = placed ps k) := ⟨_, rfl⟩
            rw [← HU.out] at hcz
            have HGne : Hid (g ≠ gp) := fun e => HNe.out (by rw [e]; rfl)
            have hls40 : ls.length ≤ 40 := by have := HLL.out; omega
            -- behind the store
            have HOp3 : Hid (Owns (wr.setCell ⟨gp, k, none⟩ (.int .i64 y)) w.heap.size (.slice (some ⟨gp, 0, none⟩) cs.length cs.length) (tab cs.length (placed (ps ++ [y])))) := (HOp.out.tabStore k y).tabCongr (fun j hj => by
              unfold upd placed
              have hpl := HPL.out
              by_cases e : j = k
              · rw [if_pos e, e, List.getD_eq_getElem?_getD, List.getElem?_append_right (by omega), hpl]; simp
              · rw [if_neg e]
                rcases Nat.lt_or_ge j k with h | h
                · rw [List.getD_eq_getElem?_getD, List.getD_eq_getElem?_getD, List.getElem?_append_left (by omega)]
                · rw [List.getD_eq_getElem?_getD, List.getD_eq_getElem?_getD, List.getElem?_eq_none (by omega), List.getElem?_eq_none (by simp; omega)])
            have HO3 : Hid (Owns (wr.setCell ⟨gp, k, none⟩ (.int .i64 y)) w.heap.size (.slice (some ⟨g, 0, none⟩) ls.length cl) ls) := HOp.out.but (tab_length _ _).symm k y _ _ _ HO.out HNe.out
            have HB3 : Hid (Below w.heap.size w (wr.setCell ⟨gp, k, none⟩ (.int .i64 y))) := HB.out.setCell HGP.out _
            have HBs : Hid (w.heap.size ≤ (wr.setCell ⟨gp, k, none⟩ (.int .i64 y)).heap.size) := HB3.out.size
            clear hcl
            go_wp2_with fail
            refine (Delete_own g ls.length cl C w.heap.size ls _ HO3.out rfl hCl hls40 HBs.out (small_wf HSm.out)).mono ?_
            rintro e w4 ⟨rfl, hO4, hb4, hu4⟩
            have HO4 : Hid (Owns w4 w.heap.size (.slice (some ⟨g, 0, none⟩) (ls.length - 1) cl) (ls.take C ++ ls.drop (C + 1))) := hO4
            have HOp4 : Hid (Owns w4 w.heap.size (.slice (some ⟨gp, 0, none⟩) cs.length cs.length) (tab cs.length (placed (ps ++ [y])))) := hu4 _ _ _ HOp3.out (by
              show some gp ≠ some g
              intro e; exact HGne.out (by cases e; rfl))
            have HB4 : Hid (Below w.heap.size w w4) := HB3.out.trans hb4
            clear hO4 hb4 hu4
            go_wp2
            go_roundw
            case rel => exact ⟨k + 1, ls.take C ++ ls.drop (C + 1), ps ++ [y], by omega, by go_num, by have := HLL.out; show _ = _; simp; omega, by have := HPL.out; show _ = _; simp; omega, by
                          show _ = _
                          rw [HF.out, HST.out, Option.map_map]
                          congr 1
                          funext r; simp [Function.comp], fun z hz => by
                          rcases List.mem_append.1 hz with h | h
                          · exact HSm.out z (List.mem_of_mem_take h)
                          · exact HSm.out z (List.mem_of_mem_drop h), HNe, HO4, HOp4, HB4⟩
            case measure => simp [intOf]; omega
      · obtain rfl : k = cs.length := by omega
        have HN : Hid (fromC (orderL cs.length) cs = some ps) := by
          show _ = _; rw [HF.out, List.drop_length]
          cases ls <;> simp [fromC]
        have HC1 : Hid (fcC cs = 0) := by show _ = _; rw [HC.out, HN.out]
        have HL1 : Hid (fcL cs = ps) := by show _ = _; rw [HL.out, HN.out]
        go_wp2
        go_ret2
        refine ⟨.slice (some ⟨gp, 0, none⟩) cs.length cs.length, by rw [HC1.out]; rfl, ?_, HB.out⟩
        rw [HL1.out]
        have e : tab cs.length (placed ps) = ps := ext_getD (by rw [tab_length, HPL.out]) (fun j hj => by rw [tab_length] at hj; rw [tab_getD _ _ _ hj]; rfl)
        have := HOp.out
        rw [e] at this; exact this

theorem FromCode_at (a : Option Addr) (m cap : Nat) (cs q : List Int) (c : Int) (w : World) (hs : Shows w a cs) (hm : m = cs.length) (hc : fcC cs = c) (hq : fcL cs = q) :
    Calls Try.prog 19 #[.slice a m cap] w fun e w' => ∃ v, e = .returned (.tuple #[v, .int .i64 c]) ∧ Owns w' w.heap.size v q ∧ Below w.heap.size w w' := by
  subst hm; subst hc; subst hq; exact FromCode_any a cap cs w hs

/-- FromCode answers a permutation with that code. -/
theorem fc_ok {cs : List Int} (h : fcC cs = 0) : IsPerm (fcL cs) ∧ codeL (fcL cs) = cs := by
  unfold fcC at h
  unfold fcL
  by_cases h40 : 40 < cs.length
  · rw [if_pos h40] at h; omega
  · rw [if_neg h40] at h
    rw [if_neg h40]
    cases hf : fromC (orderL cs.length) cs with
    | none => rw [hf] at h; simp at h
    | some p =>
      obtain ⟨h1, h2⟩ := fromC_ok cs (orderL cs.length) p (order_rising _) (tab_length _ _).symm hf
      obtain ⟨h3, h4⟩ := order_perm (by omega) h1
      exact ⟨h4, by rw [← codeN_codeL]; exact h2⟩
theorem fc_code {zs : List Int} (hp : IsPerm zs) : fcC (codeL zs) = 0 ∧ fcL (codeL zs) = zs := by
  have h := fromC_code zs (orderL zs.length) (order_rising _) (perm_order hp)
  rw [codeN_codeL] at h
  have hl := hp.len
  unfold fcC fcL
  rw [codeL_length, if_neg (by omega), if_neg (by omega), h]
  exact ⟨rfl, rfl⟩

end Go.Proofs.Ytnjbkiegeielhab
