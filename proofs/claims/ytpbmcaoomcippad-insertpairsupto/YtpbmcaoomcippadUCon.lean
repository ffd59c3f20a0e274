/-
  The contracts of fill.Content, fill.IsStandard.
-/
import Derived.Test.YtpbmcaoomcippadUShp
namespace Go.Proofs.Ytpbmcaoomcippad
open Go.RowKit

def contL (ls : List (List Int)) : List Int := had ls.flatten

theorem flat_box (ls : List (List Int)) (i j : Nat) (hj : j < (row ls i).length) : (ls.take i).flatten ++ (row ls i).take (j + 1) = ((ls.take i).flatten ++ (row ls i).take j) ++ [box ls i j] := by
  rw [take_snoc _ _ hj, List.append_assoc]; rfl
theorem had_push (l : List Int) (z : Int) (p : Nat) (hz : 1 ≤ z) (hp : p = max (mx l) z.toNat) : tab p (upd (cnt l) (z - 1).toNat (cnt l (z - 1).toNat + 1)) = had (l ++ [z]) := by
  unfold had
  refine tab_eq (by rw [mx_snoc]; exact hp) (fun j _ => ?_)
  rw [cnt_snoc]
  unfold upd
  by_cases e : j = (z - 1).toNat
  · rw [if_pos e, if_pos (by omega), e]
  · rw [if_neg e, if_neg (by omega)]; omega
theorem tab_grow (l : List Int) (p : Nat) (hp : mx l ≤ p) : tab p (cnt l) ++ [0] = tab (p + 1) (cnt l) := by
  rw [tab_succ, cnt_high hp]

theorem flat_box_len {ls : List (List Int)} (h : IsTab ls) {i j : Nat} (hi : i < ls.length) : ((ls.take i).flatten ++ (row ls i).take j).length ≤ 40 := by
  have h1 := flat_take_le ls (i + 1)
  rw [flat_take ls i hi, List.length_append] at h1
  have := h.few
  rw [List.length_append, List.length_take]; omega
theorem flat_box_mx {ls : List (List Int)} (h : IsTab ls) {i j : Nat} (hi : i < ls.length) : mx ((ls.take i).flatten ++ (row ls i).take j) ≤ 99 := by
  refine mx_le (fun z hz => ?_)
  rw [List.mem_append] at hz
  have : z ∈ ls.flatten := by
    rcases hz with hz | hz
    · obtain ⟨r, hr, hz⟩ := List.mem_flatten.1 hz
      exact List.mem_flatten.2 ⟨r, List.mem_of_mem_take hr, hz⟩
    · exact List.mem_flatten.2 ⟨row ls i, row_mem hi, List.mem_of_mem_take hz⟩
  exact (h.mem this).2

set_option maxHeartbeats 4000000 in
theorem Content_ok (a : Option Addr) (cap : Nat) (ls : List (List Int)) (w : World) (hs : Table w a ls) (hp : IsTab ls) :
    Calls Try.prog 65 #[.slice a ls.length cap] w fun e w' => ∃ v, e = .returned (.tuple #[v, .int .i64 0]) ∧ Owns w' w.heap.size v (contL ls) ∧ Below w.heap.size w w' := by
  have E : Hid (tchk ls = 0) := tchk_ok.2 hp
  have h40 := hp.rows
  have HL : Hid (ls.length ≤ 17592186044416) := tab_len hp
  have HT : Hid (IsTab ls) := hp
  have HS : Hid (Table w a ls) := hs
  clear hp hs
  go_enter Try.func65, Try.ntmps65
  go_wp2_with fail
  refine (TCheck_is _ _ _ _ _ HS.out HL.out rfl E).mono ?_
  rintro e w0 ⟨rfl, n, rfl⟩
  have HB0 : Hid (Below w.heap.size w (w.drewN n)) := below_drew n
  go_wp2
  go_loopw [5, 17] (fun v i wr => ∃ k : Nat, k ≤ ls.length ∧ i = .int .i64 k ∧ Hid (Owns wr w.heap.size v (had (ls.take k).flatten)) ∧ Hid (Below w.heap.size w wr)) (fun _ i _ => ls.length - (intOf i).toNat)
  case atStart => exact ⟨0, Nat.zero_le _, rfl, World.ownsRow_nil _ _ _ _, HB0⟩
  case round =>
    obtain ⟨k, hk, rfl, HO, HB⟩ := hrel
    by_cases hlt : k < ls.length
    · have hlt' : (k : Int) < (ls.length : Int) := by omega
      obtain ⟨b, off, ai, m, ci, rfl, HC, HM, HSk, -, hmb⟩ := HS.out.elemB hlt
      have hc := HC.out _ HB.out
      have HW : Hid (m ≤ 40) := by show _ ≤ _; rw [HM.out]; exact HT.out.width hlt
      have HO0 : Hid (Owns wr w.heap.size u5 (had ((ls.take k).flatten ++ (row ls k).take 0))) := by show Owns _ _ _ _; rw [List.take_zero, List.append_nil]; exact HO.out
      have HLT : Hid (k < ls.length) := hlt
      clear HO
      go_wp2
      go_loopw [5, 23] (fun v j wq => ∃ t : Nat, t ≤ m ∧ j = .int .i64 t ∧ Hid (Owns wq w.heap.size v (had ((ls.take k).flatten ++ (row ls k).take t))) ∧ Hid (Below w.heap.size w wq)) (fun _ j _ => m - (intOf j).toNat)
      case atStart => exact ⟨0, Nat.zero_le _, rfl, HO0, HB⟩
      case round =>
        obtain ⟨t, ht, rfl, HO, HB2⟩ := hrel
        clear hc HO0 HB
        by_cases htl : t < m
        · have htl' : (t : Int) < (m : Int) := by omega
          have htr : Hid (t < (row ls k).length) := by show _ < _; rw [← HM.out]; exact htl
          obtain ⟨b2, off2, z, rfl, HZ, -, -, hcz⟩ := (HSk.out.below HB2.out).elem htr.out
          have HZ' : Hid (z = box ls k t) := HZ.out
          have hzb : 1 ≤ z ∧ z ≤ 99 := by rw [HZ'.out]; exact HT.out.letters HLT.out htr.out
          obtain ⟨hz1, hz2⟩ := hzb
          obtain ⟨l, hl⟩ : ∃ l, l = (ls.take k).flatten ++ (row ls k).take t := ⟨_, rfl⟩
          have HN : Hid ((ls.take k).flatten ++ (row ls k).take (t + 1) = l ++ [z]) := by show _ = _; rw [flat_box ls k t htr.out, hl, HZ'.out]
          have HLn : Hid (l.length ≤ 40) := by show _ ≤ _; rw [hl]; exact flat_box_len HT.out HLT.out
          have HMx : Hid (mx l ≤ 99) := by show _ ≤ _; rw [hl]; exact flat_box_mx HT.out HLT.out
          have HO1 : Hid (Owns wr w.heap.size u5 (tab (mx l) (cnt l))) := by rw [hl]; exact HO.out
          clear HO hl HZ
          obtain ⟨av, cv, hsh⟩ := HO1.out.shape
          rw [tab_length] at hsh
          subst hsh
          go_wp2
          go_loopw [5] (fun v wq2 => ∃ (p : Nat) (av : Option Addr) (cv : Nat), v = .slice av p cv ∧ mx l ≤ p ∧ (p ≤ mx l ∨ (p : Int) ≤ z) ∧ p ≤ 99 ∧ Hid (Owns wq2 w.heap.size (.slice av p cv) (tab p (cnt l))) ∧ Hid (Below w.heap.size w wq2)) (fun v _ => 99 - lenOf v)
          case atStart => exact ⟨mx l, av, cv, rfl, Nat.le_refl _, Or.inl (Nat.le_refl _), HMx.out, HO1, HB2⟩
          case round =>
            obtain ⟨p, ap, cp, rfl, hp1, hp2, hp3, HOp, HBp⟩ := hrel
            have HP1 : Hid (mx l ≤ p) := hp1
            have HP2 : Hid (p ≤ mx l ∨ (p : Int) ≤ z) := hp2
            clear hp1 hp2
            by_cases hpz : (p : Int) < z
            · go_wp2_with (at_builtin; refine append_int (x := 0) rfl _ _ rfl rfl HOp.out rfl ?c1 ?c2 ?_)
              case c1 => rw [tab_length]; omega
              case c2 => exact HBp.out.size
              intro v' w2 hO' hb'
              rw [tab_grow l p HP1.out] at hO'
              obtain ⟨av2, cv2, hsh2⟩ := hO'.shape
              rw [tab_length] at hsh2
              subst hsh2
              have HO3 : Hid (Owns w2 w.heap.size (.slice av2 (p + 1) cv2) (tab (p + 1) (cnt l))) := hO'
              have HB3 : Hid (Below w.heap.size w w2) := HBp.out.trans hb'
              clear hO' hb'
              go_wp2
              go_roundw
              case rel => exact ⟨p + 1, av2, cv2, rfl, by have := HP1.out; omega, Or.inr (by omega), by omega, HO3, HB3⟩
              case measure => simp [lenOf]; omega
            · have HE : Hid (p = max (mx l) z.toNat) := by have h1 := HP1.out; have h2 := HP2.out; show _ = _; omega
              have hp0 : 0 < p := by omega
              obtain ⟨g, cg, hv, hg1, -, -, -⟩ := HOp.out.head (by rw [tab_length]; exact hp0)
              rw [tab_length] at hv
              simp only [Value.slice.injEq, true_and] at hv
              obtain ⟨rfl, rfl⟩ := hv
              obtain ⟨J, hJ⟩ : ∃ J : Nat, J = (z - 1).toNat := ⟨_, rfl⟩
              obtain rfl : z = (J : Int) + 1 := by omega
              have hJp : J < p := by omega
              have hJp' : (J : Int) < (p : Int) := by omega
              obtain ⟨hfz, hcc⟩ := HOp.out.tabAt hJp
              have hcb := cnt_bd l J
              obtain ⟨u, HU⟩ : ∃ u, Hid (u = cnt l J) := ⟨_, rfl⟩
              rw [← HU.out] at hcc hcb
              obtain ⟨hc0, hc1⟩ := hcb
              have hc2 : u ≤ 40 := by have := HLn.out; omega
              have HX : Hid (tab p (upd (cnt l) J (u + 1)) = had (l ++ [(J : Int) + 1])) := by
                show _ = _
                have := had_push l ((J : Int) + 1) p (by omega) HE.out
                rw [show ((J : Int) + 1 - 1).toNat = J by omega] at this
                rw [HU.out]; exact this
              have HG : Hid (w.heap.size ≤ g) := hg1
              clear hg1 hJ
              go_wp2
              go_roundw
              case rel => exact ⟨t + 1, by omega, by go_num, by
                            show Owns _ _ _ _
                            rw [HN.out, ← HX.out]; exact HOp.out.tabStore J (u + 1), HBp.out.setCell HG.out _⟩
              case measure => simp [intOf]; omega
        · obtain rfl : t = m := by omega
          have HE : Hid (Owns wr w.heap.size u5 (had (ls.take (k + 1)).flatten)) := by
            show Owns _ _ _ _
            rw [flat_take ls k HLT.out]
            have := HO.out
            rw [HM.out, List.take_length] at this; exact this
          go_wp2
          go_roundw
          case rel => exact ⟨k + 1, HLT.out, by go_num, HE, HB2⟩
          case measure => have := HLT.out; simp [intOf]; omega
    · obtain rfl : k = ls.length := by omega
      have HE : Hid (Owns wr w.heap.size u5 (contL ls)) := by have := HO.out; rw [List.take_length] at this; exact this
      go_wp2
      go_ret2
      exact ⟨_, rfl, HE.out, HB.out⟩

end Go.Proofs.Ytpbmcaoomcippad
