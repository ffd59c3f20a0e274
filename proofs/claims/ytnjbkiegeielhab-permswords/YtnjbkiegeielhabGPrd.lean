/-
  The contracts of perms.Word and perms.Product.
-/
import Derived.Test.YtnjbkiegeielhabGMath
namespace Go.Proofs.Ytnjbkiegeielhab
open Go.RowKit

set_option maxHeartbeats 4000000 in
theorem Word_ok (a : Option Addr) (cap : Nat) (zs : List Int) (w : World) (hs : Shows w a zs) (hp : IsPerm zs) :
    Calls Try.prog 22 #[.slice a zs.length cap] w fun e w' => ∃ v ws, e = .returned (.tuple #[v, .int .i64 0]) ∧ WrdR zs ws ∧ Owns w' w.heap.size v ws ∧ Below w.heap.size w w' := by
  have E : Hid (pchk zs = 0) := pchk_ok.2 hp
  have HP : Hid (IsPerm zs) := hp
  have h40 := hp.len
  clear hp
  go_enter Try.func22, Try.ntmps22
  go_wp2_with fail
  refine (Check_is _ _ _ _ _ hs rfl E).mono ?_
  rintro e w0 ⟨rfl, hb0⟩
  have HB0 : Hid (Below w.heap.size w w0) := hb0
  have hs0 := hs.below hb0
  clear hb0
  go_wp2_with fail
  refine (copied_any _ _ _ _ hs0).mono ?_
  rintro e w1 ⟨v, rfl, hown, hb1⟩
  have HB1 : Hid (Below w.heap.size w w1) := HB0.out.trans (hb1.mono HB0.out.size)
  rcases Nat.eq_zero_or_pos zs.length with h0 | h0
  · -- nothing
    obtain rfl : zs = [] := List.eq_nil_of_length_eq_zero h0
    obtain ⟨a1, n1, c1, rfl, S1, hn1, -⟩ := hown.opened (by decide) (by decide)
    simp only [List.length_nil] at hn1
    subst hn1
    clear hown hb1
    go_wp2_with fail
    refine (firstDescent_any _ _ _ [] 0 _ S1 rfl (by decide) ⟨fun i h1 h2 => by omega, fun _ i h1 h2 => by simp at h2, fun h => by omega⟩).mono ?_
    rintro e w2 ⟨rfl, n2, rfl⟩
    go_wp2_with fail
    go_loopw [6, 7] (fun v i wr => v = .slice none 0 0 ∧ i = .int .i64 ((0 : Nat) : Int) ∧ Hid (Below w.heap.size w wr)) (fun _ _ _ => 0)
    case atStart => exact ⟨rfl, rfl, HB1.out.trans (below_drewN (Below.refl _ _) n2)⟩
    case round =>
      obtain ⟨rfl, rfl, HB⟩ := hrel
      go_wp2
      go_ret2
      exact ⟨_, [], rfl, ⟨rfl, rfl, fun i h => by simp at h⟩, World.ownsRow_nil _ _ _ _, HB.out⟩
  · obtain ⟨g, c1, rfl, hgB, hglt, -, -⟩ := hown.head h0
    have HG : Hid (w.heap.size ≤ g ∧ g < w1.heap.size) := ⟨by have := HB0.out.size; omega, hglt⟩
    have HO1 : Hid (Owns w1 w.heap.size (.slice (some ⟨g, 0, none⟩) zs.length c1) zs) := hown.mono HB0.out.size
    obtain ⟨d0, hd0⟩ := FD_ex zs
    have HD0 : Hid (FD zs d0) := hd0
    obtain ⟨a1, cc1, hv1, S1⟩ := hown.shows (by omega) (fun z hz => by have := HP.out.low z hz; have := HP.out.high z hz; omega)
    simp only [Value.slice.injEq] at hv1
    obtain ⟨rfl, _, rfl⟩ := hv1
    clear hown hb1 hd0 hgB hglt
    go_wp2_with fail
    refine (firstDescent_any _ _ _ zs d0 _ S1 rfl h40 HD0.out).mono ?_
    rintro e w2 ⟨rfl, n2, rfl⟩
    have HO2 : Hid (Owns (w1.drewN n2) w.heap.size (.slice (some ⟨g, 0, none⟩) zs.length c1) zs) := HO1.out.below (below_drewN (Below.refl _ _) n2)
    have HB2 : Hid (Below w1.heap.size w1 (w1.drewN n2)) := below_drewN (Below.refl _ _) n2
    clear S1
    go_wp2_with fail
    go_loopw [6, 7] (fun v i wr => ∃ (d : Nat) (rs ws : List Int), i = .int .i64 d ∧ d ≤ 40 ∧ Hid (IsPerm rs ∧ rs.length = zs.length) ∧ Hid (FD rs d) ∧ Hid (play ws rs = zs) ∧ Hid (wrongs rs + ws.length = wrongs zs) ∧ Hid (∀ i ∈ ws, 1 ≤ i ∧ i < zs.length) ∧ Hid (lenOf v = ws.length) ∧ Hid (Owns wr w.heap.size (.slice (some ⟨g, 0, none⟩) zs.length c1) rs) ∧ Hid (Owns wr w1.heap.size v ws) ∧ Hid (Below w.heap.size w wr) ∧ w1.heap.size ≤ wr.heap.size) (fun v _ _ => wrongs zs - lenOf v)
    case atStart => exact ⟨d0, zs, [], rfl, by
                      rcases Nat.eq_zero_or_pos d0 with h | h
                      · omega
                      · have := (HD0.out.2.2 h).1; omega, ⟨HP.out, rfl⟩, HD0, rfl, by show _ = _; simp, fun i h => by simp at h, rfl, HO2, World.ownsRow_nil _ _ _ _, HB1.out.trans (HB2.out.mono HB1.out.size), HB2.out.size⟩
    case round =>
      obtain ⟨d, rs, ws, rfl, hd40, HR, HD, HPl, HW, HWs, HLn, HO, HOw, HB, hsz⟩ := hrel
      rcases Nat.eq_zero_or_pos d with hd0 | hd0
      · subst hd0
        have HE : Hid (rs = orderL zs.length) := by
          have := sorted_order HR.out.1 (HD.out.2.1 rfl)
          rw [HR.out.2] at this; exact this
        have HW0 : Hid (wrongs rs = 0) := by
          -- no descent, no pair
          have key : ∀ l : List Int, l.Pairwise (· < ·) → wrongs l = 0 := by
            intro l
            induction l with
            | nil => intro _; rfl
            | cons y l ih =>
              intro h
              rw [List.pairwise_cons] at h
              rw [wrongs, ih h.2]
              have : l.countP (fun z => decide (z < y)) = 0 := by rw [List.countP_eq_zero]; intro z hz; have := h.1 z hz; simp; omega
              omega
          show _ = _
          rw [HE.out]; exact key _ (order_rising _)
        go_wp2
        go_ret2
        exact ⟨_, ws, rfl, ⟨by rw [← HE.out]; exact HPl.out, by have := HW.out; have := HW0.out; omega, HWs.out⟩, HOw.out.mono (by have := HG.out; omega), HB.out⟩
      · have hdp : decide ((d : Int) > 0) = true := by simp; omega
        obtain ⟨k, rfl⟩ : ∃ k, d = k + 1 := ⟨d - 1, by omega⟩
        have hdd := HD.out.2.2 (by omega)
        rw [show k + 1 - 1 = k by omega] at hdd
        have hkl : k + 1 < zs.length := by have := HR.out.2; omega
        have HKR : Hid (k + 1 < rs.length) := hdd.1
        have HDD : Hid (rs.getD (k + 1) 0 < rs.getD k 0) := hdd.2
        clear hdd
        go_wp2_with fail
        refine (swap_own g zs.length c1 w.heap.size k rs _ HO.out (by rw [HR.out.2]; rfl) hkl h40).mono ?_
        rintro e w3 ⟨rfl, hO3, hb3, hu3⟩
        have HO3 : Hid (Owns w3 w.heap.size (.slice (some ⟨g, 0, none⟩) zs.length c1) (swapAt k rs)) := hO3
        have HB3 : Hid (Below w.heap.size w w3) := HB.out.trans hb3
        have HOw3 : Hid (Owns w3 w1.heap.size u6 ws) := hu3 _ _ _ HOw.out (fun e => by have := (HOw.out.lt e).1; have := HG.out; omega)
        have hsz3 : w1.heap.size ≤ w3.heap.size := Nat.le_trans hsz hb3.size
        have hwl : ws.length ≤ 1600 := by have := HW.out; have := wrongs_small h40; omega
        clear hO3 hb3 hu3
        go_wp2_with (at_builtin; refine append_int (x := ((k + 1 : Nat) : Int)) rfl _ _ rfl rfl HOw3.out rfl ?c1 ?c2 ?_)
        case c1 => omega
        case c2 => exact hsz3
        intro v' w4 hO4 hb4
        have HO4 : Hid (Owns w4 w1.heap.size v' (ws ++ [((k + 1 : Nat) : Int)])) := hO4
        have HO5 : Hid (Owns w4 w.heap.size (.slice (some ⟨g, 0, none⟩) zs.length c1) (swapAt k rs)) := HO3.out.belowB HG.out.2 hb4
        have HB4 : Hid (Below w.heap.size w w4) := HB3.out.trans (hb4.mono (by have := HG.out; omega))
        have HL4 : Hid (lenOf v' = (ws ++ [((k + 1 : Nat) : Int)]).length) := by
          obtain ⟨a2, c2, h2⟩ := HO4.out.shape
          show _ = _; rw [h2]; rfl
        have hsz4 : w1.heap.size ≤ w4.heap.size := Nat.le_trans hsz3 hb4.size
        clear hO4 hb4
        obtain ⟨d5, hd5⟩ := FD_ex (swapAt k rs)
        have HD5 : Hid (FD (swapAt k rs) d5) := hd5
        have HP5 : Hid (IsPerm (swapAt k rs) ∧ (swapAt k rs).length = zs.length) := ⟨swapAt_perm HR.out.1 HKR.out, by rw [swapAt_len]; exact HR.out.2⟩
        obtain ⟨a5, cc5, hv5, S5⟩ := HO5.out.shows (by rw [HP5.out.2]; omega) (fun z hz => by have := HP5.out.1.low z hz; have := HP5.out.1.high z hz; have := HP5.out.2; omega)
        simp only [Value.slice.injEq] at hv5
        obtain ⟨rfl, hxx, rfl⟩ := hv5
        clear hxx
        have hd540 : d5 ≤ 40 := by
          rcases Nat.eq_zero_or_pos d5 with h | h
          · omega
          · have := (HD5.out.2.2 h).1; have := HP5.out.2; omega
        clear hd5
        go_wp2_with fail
        refine (firstDescent_any _ _ _ (swapAt k rs) d5 _ S5 (by rw [HP5.out.2]) (by rw [HP5.out.2]; exact h40) HD5.out).mono ?_
        rintro e w6 ⟨rfl, n6, rfl⟩
        go_wp2
        go_roundw
        case rel => exact ⟨d5, swapAt k rs, ws ++ [((k + 1 : Nat) : Int)], rfl, hd540, HP5, HD5, by
                      show _ = _
                      rw [play_snoc, Int.toNat_natCast, show k + 1 - 1 = k by omega, swapAt_swapAt HKR.out]; exact HPl.out, by
                      have h1 := wrongs_swapAt HKR.out HDD.out
                      have h2 := HW.out
                      show _ = _
                      rw [List.length_append]; simp; omega, fun i hi => by
                      rcases List.mem_append.1 hi with h | h
                      · exact HWs.out i h
                      · simp at h; omega, HL4, HO5.out.below (below_drewN (Below.refl _ _) _), HO4.out.below (below_drewN (Below.refl _ _) _), HB4.out.trans (below_drewN (Below.refl _ _) _), hsz4⟩
        case measure =>
          have h1 := wrongs_swapAt HKR.out HDD.out
          have h2 := HW.out
          have h3 := HL4.out
          have h4 := HLn.out
          rw [List.length_append] at h3
          simp only [List.length_cons, List.length_nil] at h3
          omega

end Go.Proofs.Ytnjbkiegeielhab
