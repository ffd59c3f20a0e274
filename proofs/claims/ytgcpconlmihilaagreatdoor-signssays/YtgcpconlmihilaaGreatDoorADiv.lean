/-
  ferrersbig.div, the long one.
-/
import Derived.Test.YtgcpconlmihilaaGreatDoorADva
import Derived.Test.YtgcpconlmihilaaGreatDoorAKnw
import Derived.Deep.CutBlock
namespace Go.Proofs.YtgcpconlmihilaaGreatDoor
open Go.RowKit

set_option maxHeartbeats 4000000 in
theorem right_zero (a : Option Addr) (ca s : Nat) (w : World) (hs : s < 32) :
    Calls Tryz.prog 90 #[.slice a 0 ca, .int .u64 (s : Int)] w fun e w' => e = .returned (.slice none 0 0) ∧ w' = w := by
  have hd0 : (s : Int).tdiv 32 = 0 := by rw [show (s : Int).tdiv 32 = ((s / 32 : Nat) : Int) from rfl]; omega
  have hm0 : (s : Int).tmod 32 = (s : Int) := by rw [show (s : Int).tmod 32 = ((s % 32 : Nat) : Int) from rfl]; omega
  go_enter Tryz.func90, Tryz.ntmps90
  go_wp2
  go_ret
  exact ⟨rfl, rfl⟩
/-- What is left, put back to the right. -/
theorem right_any (a : Option Addr) (ca n s : Nat) (xs : List Nat) (x : Nat) (w : World) (ha : ShowsW w a ca xs) (hn : n = xs.length) (hx : Num xs x) (hs : s < 32) :
    Calls Tryz.prog 90 #[.slice a n ca, .int .u64 (s : Int)] w fun e w' => ∃ v us, e = .returned v ∧ OwnsN w' w.heap.size v us (x / 2 ^ s) ∧ us.length ≤ n ∧ Below w.heap.size w w' := by
  rcases Nat.eq_zero_or_pos n with h | h
  · subst h
    refine (right_zero a ca s w hs).mono ?_
    rintro e w' ⟨rfl, rfl⟩
    have h0 : x = 0 := (num_zero hx).1 (List.eq_nil_of_length_eq_zero hn.symm)
    exact ⟨_, [], rfl, by rw [h0, Nat.zero_div]; exact ownsN_nil _ _, Nat.zero_le _, Below.refl _ _⟩
  · exact right_at a ca n s xs x w ha hn h hx hs

theorem start_lt {us vs : List Nat} {n m M X V : Nat} (hu : Num us X) (hl : us.length ≤ n + 1) (hv : Num vs V) (hm : m = vs.length) (ht : 2147483648 ≤ vs.getD (m - 1) 0) (hmn : m ≤ n) (hm2 : 2 ≤ m) (hM : M = n + 1 - m) : X < V * 4294967296 ^ (M + 1) := by
  have h1 : X < 4294967296 ^ (n + 1) := by
    rw [← hu.eq]
    exact Nat.lt_of_lt_of_le (val_lt _ hu.wd) (Nat.pow_le_pow_right (by omega) hl)
  have e := val_top (l := vs) (m := m - 1) (by omega)
  rw [hv.eq] at e
  have h2 : 4294967296 ^ (m - 1) * 1 ≤ V := by
    rw [e]
    exact Nat.le_trans (Nat.mul_le_mul_left _ (by omega)) (Nat.le_add_left _ _)
  have h3 := Nat.mul_le_mul_right (4294967296 ^ (M + 1)) h2
  rw [Nat.mul_one, ← Nat.pow_add, show m - 1 + (M + 1) = n + 1 by omega] at h3
  exact Nat.lt_of_lt_of_le h1 h3

set_option maxHeartbeats 16000000 in
set_option maxRecDepth 100000 in
theorem div_long (a b : Option Addr) (ca cb n m : Nat) (xs ys : List Nat) (x y : Nat) (w : World) (ha : ShowsW w a ca xs) (hb : ShowsW w b cb ys) (hn : n = xs.length) (hm : m = ys.length) (hx : Num xs x) (hy : Num ys y) (hge : y ≤ x) (h2 : 2 < n) (hm2 : 2 ≤ m) (hf : n ≤ 400000) :
    Calls Tryz.prog 62 #[.slice a n ca, .slice b m cb] w (DivR w x y n) := by
  have hy0 : 0 < y := num_nonzero hy hm (by omega)
  have h2' : ¬ (n : Int) ≤ 2 := by omega
  have hm0 : ¬ (m : Int) = 0 := by omega
  have hm1 : ¬ (m : Int) = 1 := by omega
  have hmn : m ≤ n := by
    rcases Nat.lt_or_ge n m with h | h
    · have := num_len_lt hx hy (by omega); omega
    · exact h
  obtain ⟨c, hc, hc0⟩ := cmN_ge hge
  have hcn : ¬ c < 0 := by omega
  have HC : Hid (Calls Tryz.prog 86 #[.slice a n ca, .slice b m cb] w fun e w' => e = .returned (.int .i64 c) ∧ ∃ d, w' = w.drewN d) := by
    refine (bcmp_at a b ca cb n m xs ys x y w ha hb hn hm hx hy).mono ?_
    rintro e w' ⟨rfl, hd⟩
    exact ⟨by rw [hc], hd⟩
  have htop : ys.getD (m - 1) 0 ≠ 0 := fun e => by
    have e1 := val_top (l := ys) (m := m - 1) (by omega)
    rw [e, Nat.mul_zero, Nat.add_zero, hy.eq] at e1
    have h3 := num_len hy (k := m - 1) (by rw [e1]; exact val_take_lt hy.wd (m - 1))
    clear e1
    omega
  have HLn : Hid (∀ d, Calls Tryz.prog 88 #[.slice b m cb] (w.drewN d) fun e w' => ∃ k L1 : Nat, e = .returned (.int .i64 ((L1 : Int) + 1)) ∧ w' = w.drewN d ∧ k < 32 ∧ L1 ≤ 40000000 ∧ Hid ((L1 : Int).tmod 32 = (k : Int)) ∧ Hid (2 ^ k ≤ ys.getD (m - 1) 0 ∧ ys.getD (m - 1) 0 < 2 ^ (k + 1))) := fun d => by
    refine (length_at b cb m ys (w.drewN d) (hb.below (below_drewN (Below.refl _ _) d)) hm (by omega) htop).mono ?_
    rintro e w' ⟨k, rfl, rfl, hk, t1, t2⟩
    obtain ⟨L1, hL1⟩ : ∃ L1, L1 = (m - 1) * 32 + k := ⟨_, rfl⟩
    have e1 : ((m : Int) - 1) * 32 + ((k : Int) + 1) = (L1 : Int) + 1 := by clear t1 t2; omega
    have e2 : (L1 : Int).tmod 32 = ((L1 % 32 : Nat) : Int) := rfl
    have e3 : ((L1 % 32 : Nat) : Int) = (k : Int) := by clear t1 t2 e2; omega
    rw [e1]
    exact ⟨k, L1, rfl, rfl, hk, by clear t1 t2 e2; omega, e2.trans e3, t1, t2⟩
  have HLb : Hid (∀ (d k s : Nat), k < 32 → s = 31 - k → Hid (2 ^ k ≤ ys.getD (m - 1) 0 ∧ ys.getD (m - 1) 0 < 2 ^ (k + 1)) → Calls Tryz.prog 89 #[.slice b m cb, .int .u64 (s : Int)] (w.drewN d) fun e w' => ∃ av cv vs, e = .returned (.slice av m cv) ∧ Hid (ShowsW w' av cv vs) ∧ Hid (m = vs.length) ∧ Hid (Num vs (y * 2 ^ s)) ∧ Hid (2147483648 ≤ vs.getD (m - 1) 0) ∧ Hid (Below w.heap.size w w')) := fun d k s hk hs ht => by
    have hB : Below w.heap.size w (w.drewN d) := below_drewN (Below.refl _ _) d
    refine (left_at b cb m s ys y (w.drewN d) (hb.below hB) hm (by omega) hy (by omega) (by omega)).mono ?_
    rintro e w' ⟨v, us, rfl, h3, h4, h5⟩
    have hN := h3.num
    obtain ⟨l1, l2⟩ := left_top (m := m - 1) (k := k) (s := s) hy (by omega) ht.out.1 ht.out.2 hk hs hN
    obtain ⟨av, cv, rfl, hS⟩ := h3.shows (by omega)
    exact ⟨av, cv, us, by rw [l1, show m - 1 + 1 = m by omega], hS, by show _ = _; omega, h3.num, l2, hB.trans h5⟩
  have HLa : Hid (∀ (W : World) (s : Nat), s < 32 → Below w.heap.size w W → Calls Tryz.prog 89 #[.slice a n ca, .int .u64 (s : Int)] W fun e w' => ∃ ad cv us l, e = .returned (.slice (some ad) l cv) ∧ l ≤ n + 1 ∧ Hid (l = us.length) ∧ Hid (∀ j v, (us.map wv)[j]? = some v → w'.cell? (ad.add j) = some v) ∧ Hid (Num us (x * 2 ^ s)) ∧ Hid (Below W.heap.size W w')) := fun W s hs hW => by
    refine (left_at a ca n s xs x W (ha.below hW) hn (by omega) hx hs (by omega)).mono ?_
    rintro e w' ⟨v, us, rfl, h3, h4, h5⟩
    obtain ⟨av, cv, rfl, hS⟩ := h3.shows (by omega)
    have hl : 0 < us.length := num_pos_len h3.num rfl (Nat.mul_pos (by omega) (Nat.pow_pos (by omega)))
    obtain ⟨_, bb, off, rfl, _, hcl⟩ := hS.cells (fun e => by have := hS.nil e; have := hS.len; omega)
    refine ⟨_, cv, us, us.length, rfl, h4, rfl, fun j v hj => ?_, h3.num, h5⟩
    obtain ⟨hj', rfl⟩ := List.getElem?_eq_some_iff.1 hj
    rw [List.length_map] at hj'
    rw [Addr.add_lit, hcl j hj']
    simp [List.getD, List.getElem?_eq_getElem hj']
  obtain ⟨N, HN⟩ : ∃ N, Hid (N = n + 2) := ⟨n + 2, rfl⟩
  have hN1 : (n : Int) + 2 = (N : Int) := by have := HN.out; omega
  have hN9 : N ≤ 400002 := by have := HN.out; omega
  obtain ⟨M, HM⟩ : ∃ M, Hid (M = n + 1 - m) := ⟨n + 1 - m, rfl⟩
  have hM1 : (N : Int) - (m : Int) - 1 = (M : Int) := by have := HM.out; have := HN.out; omega
  have hM9 : M ≤ 400002 := by have := HM.out; omega
  have HX : Hid (Num xs x ∧ n = xs.length) := ⟨hx, hn⟩
  have HY : Hid (0 < y) := hy0
  clear ha hb hn hm hx hy hc hc0 htop hy0
  obtain ⟨i0, hi, hz0, hz1, hz2⟩ := info_parts Tryz.infoW
  have HI : Hid ((Tryz.prog.info? 89).map (·.size) = some 1) := by rw [hi]; show _ = _; simp [hz1]
  go_enter Tryz.func62, Tryz.ntmps62
  go_wp2_with fail
  refine HC.out.mono ?_
  rintro e w1 ⟨rfl, d, rfl⟩
  go_wp2_with fail
  refine (HLn.out d).mono ?_
  rintro e w1 ⟨k, L1, rfl, rfl, hk, hL1, HK, HT⟩
  obtain ⟨s, Hs⟩ : ∃ s, Hid (s = 31 - k) := ⟨31 - k, rfl⟩
  have hs32 : s < 32 := by have := Hs.out; omega
  have hs1 : (32 : Int) - (k : Int) - 1 = (s : Int) := by have := Hs.out; omega
  have hLL : (L1 : Int) + 1 - 1 = (L1 : Int) := by omega
  have hK := HK.out
  go_wp2_with fail
  refine (HLb.out d k s hk Hs.out HT).mono ?_
  rintro e w2 ⟨av, cv, vs, rfl, HSv, HVl, HVn, HVt, HB2⟩
  clear HC HLn HLb hK hLL hs1
  go_wp2_with (at_make; refine wpList_make_full _ rfl _ _ 44 rfl w2.heap.size 89 i0 (.int .u32 0) 1 Tryz.underlying44 hi hz0 hz1 _ _ _ _ N rfl rfl rfl rfl ?b1 ?b2 ?b3 ?_)
  case b1 => first | omega | (rw [hz2]; omega)
  case b2 => first | omega | (unfold maxLen; omega)
  try (case b3 => exact Nat.le_refl _)
  intro w3 hown hgrow
  have HB3 : Hid (Below w2.heap.size w2 w3) := (Below.refl _ _).grown hgrow (Nat.le_refl _) (fun k h => by cases h)
  have HO3 : Hid (OwnsW w3 w2.heap.size (.slice (some ⟨w2.heap.size, 0, none⟩) N N) (List.replicate N 0)) := ownsW_made (by simpa [Value.cells] using hown)
  have HBw : Hid (Below w.heap.size w w3) := HB2.out.trans (HB3.out.mono HB2.out.size)
  have HG1 : Hid (w2.heap.size < w3.heap.size) := (HO3.out.lt rfl).2
  have HG0 : Hid (w.heap.size ≤ w2.heap.size) := HB2.out.size
  clear hown hgrow
  generalize HGe : w2.heap.size = G at *
  have HGw : Hid (w2.heap.size = G) := HGe
  clear HGe
  go_wp2_with fail
  refine (HLa.out w3 s hs32 HBw.out).mono ?_
  rintro e w4 ⟨ad, cl, us, l, rfl, hl, HUl, HUc, HUn, HB4⟩
  have HO4 : Hid (OwnsW w4 G (.slice (some ⟨G, 0, none⟩) N N) (List.replicate N 0)) := HO3.out.below HB4.out
  have HR4 : Hid (w4.heap[G]? = some (.cells ((List.replicate N 0).map wv).toArray 89 (0, 0))) := (HO4.out.row (by simp)).1
  have HBg : Hid (Below G w2 w4) := HB3.out.trans (HB4.out.mono (Nat.le_of_lt HG1.out))
  have HCl : Hid ((us.map wv).length = Nat.min l N) := by
    show _ = _
    have h1 := HUl.out; have h2 := HN.out
    rw [List.length_map, ← h1]
    exact (Nat.min_eq_left (by omega)).symm
  have HCf : Hid (0 + (us.map wv).length ≤ ((List.replicate N 0).map wv).length) := by
    show _ ≤ _
    have h1 := HUl.out; have h2 := HN.out
    rw [List.length_map, List.length_map, List.length_replicate]; omega
  clear HLa
  obtain ⟨w5, hrun, HR5, HB5⟩ : ∃ w5, Sem.run Tryz.prog (Builtin.copy_ #[44, 44] 3 #[.slice (some ⟨G, 0, none⟩) N N, .slice (some ad) l cl]) w4 = .ok (.int .i64 (l : Int)) w5 ∧ Hid (w5.heap[G]? = some (.cells ((us ++ List.replicate (N - l) 0).map wv).toArray 89 (0, 0))) ∧ Hid (Below G w2 w5) := by
    have h0 := run_copy_row (P := Tryz.prog) w4 44 44 3 89 G 0 N N ad l cl _ 89 (us.map wv) Tryz.underlying44 HI.out HR4.out HCl.out HUc.out (by simpa using HCf.out) (wv_one us)
    have e1 : (us.map wv).length = l := by rw [List.length_map]; exact HUl.out.symm
    refine ⟨_, by rw [e1] at h0; exact h0, ?_, below_setRow HBg.out (Nat.le_refl _) _⟩
    show _ = _
    rw [setRow_heap w4 G _ _ 89 _ HR4.out]
    congr 3
    simp
  clear HR4 HCl HCf HUc HBg HO4 HO3
  go_wp2_with (at_make; refine wpList_make_full _ rfl _ _ 44 rfl w5.heap.size 89 i0 (.int .u32 0) 1 Tryz.underlying44 hi hz0 hz1 _ _ _ _ (M + 1) rfl rfl rfl rfl ?b1 ?b2 ?b3 ?_)
  case b1 => first | omega | (rw [hz2]; omega)
  case b2 => first | omega | (unfold maxLen; omega)
  try (case b3 => exact Nat.le_refl _)
  intro w6 hown hgrow
  have HB6 : Hid (Below w5.heap.size w5 w6) := (Below.refl _ _).grown hgrow (Nat.le_refl _) (fun k h => by cases h)
  have HQ6 : Hid (OwnsW w6 w5.heap.size (.slice (some ⟨w5.heap.size, 0, none⟩) (M + 1) (M + 1)) (List.replicate (M + 1) 0)) := ownsW_made (by simpa [Value.cells] using hown)
  have HGH : Hid (G < w5.heap.size) := by
    rcases Nat.lt_or_ge G w5.heap.size with h | h
    · exact h
    · have := HR5.out; rw [Array.getElem?_eq_none h] at this; cases this
  have HU6 : Hid (OwnsW w6 G (.slice (some ⟨G, 0, none⟩) N N) (us ++ List.replicate (N - l) 0)) := by
    have hlen : (us ++ List.replicate (N - l) 0).length = N := by
      have h1 := HUl.out; have h2 := HN.out
      rw [List.length_append, List.length_replicate, ← h1]; omega
    have h3 := OwnsW.ofRow (w := w6) (base := G) (g := G) (us := us ++ List.replicate (N - l) 0) (by rw [HB6.out.block G HGH.out]; exact HR5.out) (Nat.le_refl _) (by rw [hlen]; omega)
    rw [hlen] at h3
    exact h3
  have HBG : Hid (Below G w2 w6) := HB5.out.trans (HB6.out.mono (Nat.le_of_lt HGH.out))
  clear hown hgrow HR5 HB5 hrun HB4 HB3 HBw HG1
  generalize HHe : w5.heap.size = H at *
  clear HHe HB6
  have HSv6 : Hid (ShowsW w6 av cv vs) := HSv.out.below (by rw [HGw.out]; exact HBG.out)
  obtain ⟨t1, Ht1⟩ : ∃ t1, Hid (m = t1 + 1 + 1) := ⟨m - 2, by show _ = _; omega⟩
  have hm1' : (m : Int) - 1 = ((t1 + 1 : Nat) : Int) := by have := Ht1.out; omega
  have hm2' : (m : Int) - 2 = ((t1 : Nat) : Int) := by have := Ht1.out; omega
  have hb1 : ((t1 + 1 : Nat) : Int) < (m : Int) := by have := Ht1.out; omega
  have hb2 : (t1 : Int) < (m : Int) := by have := Ht1.out; omega
  obtain ⟨bv, ov, top, hav, HTop, htop, -, hct⟩ := HSv6.out.elem (k := t1 + 1) (by rw [← HVl.out]; have := Ht1.out; omega)
  subst hav
  obtain ⟨bv', ov', nxt, hav', HNxt, hnxt, -, hcn2⟩ := HSv6.out.elem (k := t1) (by rw [← HVl.out]; have := Ht1.out; omega)
  simp only [Option.some.injEq, Addr.mk.injEq] at hav'
  obtain ⟨rfl, rfl, -⟩ := hav'
  go_wp2_with fail
  go_region
  all_goals go_wp2
  go_loopw [18] (fun jv wr => ∃ (k : Nat) (cur qs : List Nat), k ≤ M + 1 ∧ jv = .int .i64 ((k : Int) - 1) ∧ Hid (cur.length = N) ∧ Hid (Wd cur) ∧ Hid (val cur < y * 2 ^ s * 4294967296 ^ k) ∧ Hid (qs.length = M + 1 - k) ∧ Hid (Wd qs) ∧ Hid (x * 2 ^ s = val (behind k qs) * (y * 2 ^ s) + val cur) ∧ Hid (OwnsW wr G (.slice (some ⟨G, 0, none⟩) N N) cur) ∧ Hid (OwnsW wr H (.slice (some ⟨H, 0, none⟩) (M + 1) (M + 1)) (behind k qs)) ∧ Hid (Below G w2 wr)) (fun jv _ => (intOf jv + 1).toNat)
  case atStart =>
    refine ⟨M + 1, us ++ List.replicate (N - l) 0, [], Nat.le_refl _, by first | rfl | go_num, ?_, wd_app_zeros HUn.out.wd _, ?_, by simp [Hid], fun z hz => by simp at hz, ?_, ?_, ?_, ?_⟩
    · show _ = _
      have h1 := HUl.out; have h2 := HN.out
      rw [List.length_append, List.length_replicate, ← h1]; omega
    · show _ < _
      rw [val_app_zeros, HUn.out.eq]
      exact start_lt HUn.out (by rw [← HUl.out]; exact hl) HVn.out HVl.out HVt.out hmn hm2 HM.out
    · show _ = _
      rw [val_app_zeros, HUn.out.eq, behind, List.append_nil, val_zeros, Nat.zero_mul, Nat.zero_add]
    · first | exact HU6 | exact HU6.out.below (below_drewN (Below.refl _ _) 1) | exact HU6.out.below (below_drewN (Below.refl _ _) 2)
    · have h0 : behind (M + 1) [] = List.replicate (M + 1) 0 := by simp [behind]
      rw [h0]
      first | exact HQ6 | exact HQ6.out.below (below_drewN (Below.refl _ _) 1) | exact HQ6.out.below (below_drewN (Below.refl _ _) 2)
    · first | exact HBG | exact below_drewN HBG.out 1 | exact below_drewN HBG.out 2
  case round =>
    obtain ⟨k, cur, qs, hk, rfl, HCl, HCw, HCv, HQl, HQw, HE, HOu, HOq, HBr⟩ := hrel
    by_cases hk0 : 0 < k
    · obtain ⟨j, Hj⟩ : ∃ j, Hid (k = j + 1) := ⟨k - 1, by show _ = _; omega⟩
      have hj : (k : Int) - 1 = (j : Int) := by have := Hj.out; omega
      have hj0 : (0 : Int) ≤ (j : Int) := by omega
      have hjM : j ≤ M := by have := Hj.out; omega
      obtain ⟨p0, Hp0⟩ : ∃ p0, Hid (p0 = j + t1) := ⟨j + t1, rfl⟩
      have hp2 : (j : Int) + (m : Int) = ((p0 + 2 : Nat) : Int) := by have := Hp0.out; have := Ht1.out; omega
      have hp1 : ((p0 + 2 : Nat) : Int) - 1 = ((p0 + 1 : Nat) : Int) := by omega
      have hp3 : ((p0 + 2 : Nat) : Int) - 2 = ((p0 : Nat) : Int) := by omega
      have hpN : p0 + 2 < N := by have := Hp0.out; have := Ht1.out; have := HM.out; have := HN.out; omega
      have hpN2 : ((p0 + 2 : Nat) : Int) < (N : Int) := by omega
      have hpN1 : ((p0 + 1 : Nat) : Int) < (N : Int) := by omega
      have hpN0 : ((p0 : Nat) : Int) < (N : Int) := by omega
      obtain ⟨x2, Hx2⟩ : ∃ x2, Hid (x2 = cur.getD (p0 + 2) 0) := ⟨cur.getD (p0 + 2) 0, rfl⟩
      obtain ⟨x1, Hx1⟩ : ∃ x1, Hid (x1 = cur.getD (p0 + 1) 0) := ⟨cur.getD (p0 + 1) 0, rfl⟩
      obtain ⟨x0, Hx0⟩ : ∃ x0, Hid (x0 = cur.getD p0 0) := ⟨cur.getD p0 0, rfl⟩
      obtain ⟨hf2, hc2⟩ := HOu.out.at HCl.out.symm (j := p0 + 2) (by rw [HCl.out]; exact hpN)
      obtain ⟨hf1, hc1⟩ := HOu.out.at HCl.out.symm (j := p0 + 1) (by rw [HCl.out]; omega)
      obtain ⟨hf0, hc00⟩ := HOu.out.at HCl.out.symm (j := p0) (by rw [HCl.out]; omega)
      rw [← Hx2.out] at hc2
      rw [← Hx1.out] at hc1
      rw [← Hx0.out] at hc00
      unfold wv at hc2 hc1 hc00
      have hx2 : x2 < 4294967296 := by rw [Hx2.out]; exact wd_getD HCw.out _
      have hx1 : x1 < 4294967296 := by rw [Hx1.out]; exact wd_getD HCw.out _
      have hx0 : x0 < 4294967296 := by rw [Hx0.out]; exact wd_getD HCw.out _
      obtain ⟨h, hh⟩ : ∃ h, h = x2 * 4294967296 + x1 := ⟨_, rfl⟩
      have hor : bits BinOp.or IntKind.u64 ((x2 : Int) * 4294967296) (x1 : Int) = (h : Int) := by
        rw [bits_join .u64 64 (by decide) wraps_u64 32 _ _ (by omega) (by omega) (by omega) (by omega) (by omega) (by omega), hh]
        omega
      have Hh : Hid (h = x2 * 4294967296 + x1) := hh
      have hh64 : h < 18446744073709551616 := by omega
      clear hh
      rw [hj]
      go_wp2_with fail
      go_region
      all_goals go_wp2_with fail
      have htge : 2147483648 ≤ top := by
        have := HVt.out
        rw [show m - 1 = t1 + 1 by have := Ht1.out; omega, ← HTop.out] at this
        exact this
      have HF := guess_facts (j := j) (t := t1) (x2 := x2) (x1 := x1) (x0 := x0) (h := h) HCw.out HVn.out.wd HVn.out.eq (by rw [← HVl.out]; exact Ht1.out.symm) HTop.out HNxt.out htge (by rw [← Hj.out]; exact HCv.out) (by rw [HCl.out, ← Hp0.out]; exact hpN) (by rw [← Hp0.out]; exact Hx2.out) (by rw [← Hp0.out]; exact Hx1.out) (by rw [← Hp0.out]; exact Hx0.out) Hh.out
      have HF1 : Hid (∀ g r, g * top + r = h → g ≤ 4294967297) := HF.1
      have HF2 : Hid (∀ g r, g * top + r = h → r < top → val cur < (g + 1) * (y * 2 ^ s) * 4294967296 ^ j) := HF.2.1
      have HF3 : Hid (∀ g r, g * top + r = h → 4294967296 ≤ g ∨ r * 4294967296 + x0 < g * nxt → val cur < g * (y * 2 ^ s) * 4294967296 ^ j) := HF.2.2.1
      have HF4 : Hid (∀ g r, g * top + r = h → g < 4294967296 → g * nxt ≤ r * 4294967296 + x0 → g * (y * 2 ^ s) * 4294967296 ^ j ≤ val cur + y * 2 ^ s * 4294967296 ^ j) := HF.2.2.2.1
      have HF5 : Hid (∀ g r, g * top + r = h → 4294967296 ≤ r → g < 4294967296 ∧ g * nxt ≤ r * 4294967296 + x0) := HF.2.2.2.2
      clear HF
      obtain ⟨g0, hg0⟩ : ∃ g0, g0 = h / top := ⟨_, rfl⟩
      obtain ⟨r0, hr0⟩ : ∃ r0, r0 = h % top := ⟨_, rfl⟩
      have ht0 : ¬ (top : Int) = 0 := by omega
      have HGR : Hid (g0 * top + r0 = h) := by show _ = _; rw [hg0, hr0, Nat.mul_comm]; exact Nat.div_add_mod _ _
      have hr0t : r0 < top := by rw [hr0]; exact Nat.mod_lt _ (by omega)
      have hg0l : g0 ≤ 4294967297 := HF1.out _ _ HGR.out
      have htd : (h : Int).tdiv (top : Int) = (g0 : Int) := by rw [hg0]; rfl
      have htm : (h : Int).tmod (top : Int) = (r0 : Int) := by rw [hr0]; rfl
      have hwg : IntKind.u64.wrap (g0 : Int) = (g0 : Int) := wraps_u64 _ (by omega) (by omega)
      have HE0 : Hid (val cur < (g0 + 1) * (y * 2 ^ s) * 4294967296 ^ j) := HF2.out _ _ HGR.out hr0t
      clear hg0 hr0 HF2
      go_region
      all_goals go_upto_block 2 with fail
      go_cut [20, 21] from 136 to 161 (fun gv rv wx => ∃ g r : Nat, gv = .int .u64 (g : Int) ∧ rv = .int .u64 (r : Int) ∧ g < 4294967296 ∧ Hid (val cur < (g + 1) * (y * 2 ^ s) * 4294967296 ^ j) ∧ Hid (g * (y * 2 ^ s) * 4294967296 ^ j ≤ val cur + y * 2 ^ s * 4294967296 ^ j) ∧ Hid (OwnsW wx G (.slice (some ⟨G, 0, none⟩) N N) cur) ∧ Hid (OwnsW wx H (.slice (some ⟨H, 0, none⟩) (M + 1) (M + 1)) (behind k qs)) ∧ Hid (Below G w2 wx))
      case first =>
        go_wp2_with fail
        go_loopw [20, 21] (fun gv rv wi => ∃ (g r : Nat), gv = .int .u64 (g : Int) ∧ rv = .int .u64 (r : Int) ∧ g ≤ 4294967297 ∧ r < 4294967296 ∧ Hid (g * top + r = h) ∧ Hid (val cur < (g + 1) * (y * 2 ^ s) * 4294967296 ^ j) ∧ Hid (OwnsW wi G (.slice (some ⟨G, 0, none⟩) N N) cur) ∧ Hid (OwnsW wi H (.slice (some ⟨H, 0, none⟩) (M + 1) (M + 1)) (behind k qs)) ∧ Hid (Below G w2 wi)) (fun gv _ _ => (intOf gv).toNat)
        case atStart =>
          refine ⟨g0, r0, rfl, rfl, hg0l, by omega, HGR, HE0, ?_, ?_, ?_⟩
          · first | exact HOu | exact HOu.out.below (below_drewN (Below.refl _ _) 1) | exact HOu.out.below (below_drewN (Below.refl _ _) 2)
          · first | exact HOq | exact HOq.out.below (below_drewN (Below.refl _ _) 1) | exact HOq.out.below (below_drewN (Below.refl _ _) 2)
          · first | exact HBr | exact below_drewN HBr.out 1 | exact below_drewN HBr.out 2
        case round =>
          obtain ⟨g, r, rfl, rfl, hg, hr, HGr, HGe, HOi, HQi, HBi⟩ := hrel
          obtain ⟨hf3, hc3⟩ := HOi.out.at HCl.out.symm (j := p0) (by rw [HCl.out]; omega)
          rw [← Hx0.out] at hc3
          unfold wv at hc3
          obtain ⟨g2, hg2⟩ : ∃ g2, g2 = g - 1 := ⟨_, rfl⟩
          obtain ⟨r2, hr2⟩ : ∃ r2, r2 = r + top := ⟨_, rfl⟩
          have hrr : (r : Int) + (top : Int) = (r2 : Int) := by omega
          have hr29 : r2 < 8589934592 := by omega
          obtain ⟨P, HP⟩ : ∃ P, Hid (P = g * nxt) := ⟨_, rfl⟩
          obtain ⟨Q, HQ⟩ : ∃ Q, Q = r * 4294967296 + x0 := ⟨_, rfl⟩
          have hP : (g : Int) * (nxt : Int) = (P : Int) := by rw [HP.out]; simp
          have hQ : bits BinOp.or IntKind.u64 ((r : Int) * 4294967296) (x0 : Int) = (Q : Int) := by
            rw [bits_join .u64 64 (by decide) wraps_u64 32 _ _ (by omega) (by omega) (by omega) (by omega) (by omega) (by omega), HQ]
            omega
          have hQ9 : Q < 18446744073709551616 := by omega
          have HB2' : Hid (0 < g → g2 * top + r2 = h) := fun h0 => by
            have e1 := HGr.out
            rw [hr2]
            obtain ⟨g3, rfl⟩ : ∃ g3, g = g3 + 1 := ⟨g - 1, by omega⟩
            rw [hg2, show g3 + 1 - 1 = g3 by omega]
            rw [Nat.add_mul] at e1; omega
          have HQ' : Hid (Q = r * 4294967296 + x0) := HQ
          have HT3 : Hid (4294967296 ≤ g ∨ Q < P → 0 < g ∧ val cur < (g2 + 1) * (y * 2 ^ s) * 4294967296 ^ j) := fun hd => by
            have h0 : 0 < g := by
              rcases hd with q | q
              · omega
              · rcases Nat.eq_zero_or_pos g with e | e
                · rw [HP.out, e, Nat.zero_mul] at q; omega
                · exact e
            refine ⟨h0, ?_⟩
            rw [hg2, show g - 1 + 1 = g by omega]
            exact HF3.out g r HGr.out (by rw [← HQ, ← HP.out]; exact hd)
          by_cases hg1 : 4294967295 < g
          · have hg1' : (g : Int) > 4294967295 := by omega
            obtain ⟨h0, HV2⟩ := HT3.out (Or.inl (by omega))
            have hgg : (g : Int) - 1 = (g2 : Int) := by omega
            have HV2' : Hid (val cur < (g2 + 1) * (y * 2 ^ s) * 4294967296 ^ j) := HV2
            have HR2 : Hid (g2 * top + r2 = h) := HB2'.out h0
            have hg29 : g2 < g := by omega
            clear HV2 hg2 hr2 HQ h0
            by_cases hr3 : 4294967295 < r2
            · have hr3' : (r2 : Int) > 4294967295 := by omega
              have HH : Hid (g2 < 4294967296 ∧ g2 * nxt ≤ r2 * 4294967296 + x0) := HF5.out g2 r2 HR2.out (by omega)
              have HL : Hid (g2 * (y * 2 ^ s) * 4294967296 ^ j ≤ val cur + y * 2 ^ s * 4294967296 ^ j) := HF4.out g2 r2 HR2.out HH.out.1 HH.out.2
              go_wp2
              go_meet
              exact ⟨g2, r2, rfl, rfl, HH.out.1, HV2', HL, HOi, HQi, HBi⟩
            · have hr3' : ¬ (r2 : Int) > 4294967295 := by omega
              go_wp2
              exact ⟨⟨g2, r2, rfl, rfl, by omega, by omega, HR2, HV2', HOi, HQi, HBi⟩, by simp [intOf]; omega⟩
          · have hg1' : ¬ (g : Int) > 4294967295 := by omega
            have hP9 : P ≤ 18446744065119617025 := by rw [HP.out]; exact Nat.mul_le_mul (show g ≤ 4294967295 by omega) (show nxt ≤ 4294967295 by omega)
            by_cases hPQ : Q < P
            · have hPQ' : (P : Int) > (Q : Int) := by omega
              obtain ⟨h0, HV2⟩ := HT3.out (Or.inr hPQ)
              have hgg : (g : Int) - 1 = (g2 : Int) := by omega
              have HV2' : Hid (val cur < (g2 + 1) * (y * 2 ^ s) * 4294967296 ^ j) := HV2
              have HR2 : Hid (g2 * top + r2 = h) := HB2'.out h0
              have hg29 : g2 < g := by omega
              have hgp : (g : Int) ≥ 1 := by omega
              clear HV2 hg2 hr2 HQ h0
              by_cases hr3 : 4294967295 < r2
              · have hr3' : (r2 : Int) > 4294967295 := by omega
                have HH : Hid (g2 < 4294967296 ∧ g2 * nxt ≤ r2 * 4294967296 + x0) := HF5.out g2 r2 HR2.out (by omega)
                have HL : Hid (g2 * (y * 2 ^ s) * 4294967296 ^ j ≤ val cur + y * 2 ^ s * 4294967296 ^ j) := HF4.out g2 r2 HR2.out HH.out.1 HH.out.2
                go_wp2
                go_meet
                exact ⟨g2, r2, rfl, rfl, HH.out.1, HV2', HL, HOi, HQi, HBi⟩
              · have hr3' : ¬ (r2 : Int) > 4294967295 := by omega
                go_wp2
                exact ⟨⟨g2, r2, rfl, rfl, by omega, by omega, HR2, HV2', HOi, HQi, HBi⟩, by simp [intOf]; omega⟩
            · have hPQ' : ¬ (P : Int) > (Q : Int) := by omega
              have HL : Hid (g * (y * 2 ^ s) * 4294967296 ^ j ≤ val cur + y * 2 ^ s * 4294967296 ^ j) := HF4.out g r HGr.out (by omega) (by rw [← HP.out, ← HQ'.out]; omega)
              clear hg2 hr2 HQ
              go_wp2
              go_meet
              exact ⟨g, r, rfl, rfl, by omega, HGe, HL, HOi, HQi, HBi⟩
      case rest =>
        obtain ⟨g, r9, rfl, rfl, hg, HGe, HGl, HOi, HQi, HBi⟩ := hcut
        clear HF1 HF3 HF4 HF5 hc00 hc1 hc2 hf0 hf1 hf2 hor htd htm hwg
        have HCd : Hid (val (cur.drop (p0 + 3)) = 0) := by
          have hV : y * 2 ^ s < 4294967296 ^ m := by
            rw [← HVn.out.eq, HVl.out]; exact val_lt _ HVn.out.wd
          refine drop_zero_of_lt (Nat.lt_of_lt_of_le HCv.out ?_)
          have h3 := Nat.mul_le_mul_right (4294967296 ^ k) (Nat.le_of_lt hV)
          rw [← Nat.pow_add] at h3
          rw [show p0 + 3 = m + k by have := Hp0.out; have := Ht1.out; have := Hj.out; omega]
          exact h3
        have HS0 : Hid (val cur + g * val (vs.take 0) * 4294967296 ^ j = val cur + (0 + 0) * 4294967296 ^ (0 + j)) := by show _ = _; simp [val]
        have HQL : Hid (M + 1 = (behind k qs).length) := by show _ = _; rw [behind_len, HQl.out]; omega
        have hjM1 : (j : Int) < ((M + 1 : Nat) : Int) := by omega
        have hjM2 : (j : Int) < (M : Int) + 1 := by omega
        go_wp2_with fail
        go_loopw [22, 23, 24] (fun cx dx ix wi => ∃ (i c1 d1 : Nat) (us1 : List Nat), i ≤ m ∧ c1 < 4294967296 ∧ d1 ≤ 1 ∧ cx = .int .u64 (c1 : Int) ∧ dx = .int .u64 (d1 : Int) ∧ ix = .int .i64 (i : Int) ∧ Hid (us1.length = N) ∧ Hid (Wd us1) ∧ Hid (val (us1.drop (p0 + 3)) = 0) ∧ Hid (val us1 + g * val (vs.take i) * 4294967296 ^ j = val cur + (c1 + d1) * 4294967296 ^ (i + j)) ∧ Hid (OwnsW wi G (.slice (some ⟨G, 0, none⟩) N N) us1) ∧ Hid (OwnsW wi H (.slice (some ⟨H, 0, none⟩) (M + 1) (M + 1)) (behind k qs)) ∧ Hid (Below G w2 wi)) (fun _ _ ix _ => m - (intOf ix).toNat)
        case atStart => exact ⟨0, 0, 0, cur, Nat.zero_le _, by omega, by omega, rfl, rfl, rfl, HCl, HCw, HCd, HS0, HOi, HQi, HBi⟩
        case round =>
          obtain ⟨i, c1, d1, us1, hi1, hc9, hd1, rfl, rfl, rfl, HL1, HW1, HD1, HE1, HO1, HQ1, HB1⟩ := hrel
          by_cases him : i < m
          · have him' : (i : Int) < (m : Int) := by omega
            have HKv : Hid (i < vs.length) := by rw [← HVl.out]; exact him
            obtain ⟨bv2, ov2, p, hav2, HPv, hp, -, hcp⟩ := (HSv.out.below (by rw [HGw.out]; exact HB1.out)).elem HKv.out
            simp only [Option.some.injEq, Addr.mk.injEq] at hav2
            obtain ⟨rfl, rfl, -⟩ := hav2
            obtain ⟨ij, Hij⟩ : ∃ ij, Hid (ij = i + j) := ⟨_, rfl⟩
            have hij : (i : Int) + (j : Int) = (ij : Int) := by have := Hij.out; omega
            have hijp : ij < p0 + 2 := by have := Hij.out; have := Hp0.out; have := Ht1.out; omega
            have hijN : ij < N := by omega
            have hijN' : (ij : Int) < (N : Int) := by omega
            obtain ⟨hfz, hcz⟩ := HO1.out.at HL1.out.symm (j := ij) (by rw [HL1.out]; exact hijN)
            obtain ⟨z, Hz⟩ : ∃ z, Hid (z = us1.getD ij 0) := ⟨_, rfl⟩
            rw [← Hz.out] at hcz
            unfold wv at hcz
            have hz : z < 4294967296 := by rw [Hz.out]; exact wd_getD HW1.out _
            obtain ⟨P, HP⟩ : ∃ P, Hid (P = g * p) := ⟨_, rfl⟩
            have hP : (g : Int) * (p : Int) = (P : Int) := by rw [HP.out]; simp
            have hP9 : P ≤ 18446744065119617025 := by rw [HP.out]; exact Nat.mul_le_mul (show g ≤ 4294967295 by omega) (show p ≤ 4294967295 by omega)
            obtain ⟨C, hC⟩ : ∃ C, C = c1 + P := ⟨_, rfl⟩
            have hCC : (c1 : Int) + (P : Int) = (C : Int) := by omega
            have hC9 : C < 18446744073709551616 := by omega
            obtain ⟨lo, hlo⟩ : ∃ lo, lo = C % 4294967296 := ⟨_, rfl⟩
            obtain ⟨q, hq⟩ : ∃ q, q = C / 4294967296 := ⟨_, rfl⟩
            have hlo' : (C : Int) % 4294967296 = (lo : Int) := by omega
            have hq' : (C : Int) / 4294967296 = (q : Int) := by omega
            have hlo9 : lo < 4294967296 := by omega
            have hq9 : q < 4294967296 := by omega
            have Hcq : Hid (q * 4294967296 + lo = c1 + g * p) := by show _ = _; rw [← HP.out]; omega
            obtain ⟨T1, T, r, e, hw1, hw2, hT1, hT, hr1, he1, hr9, he9, heq⟩ := sub_word hz hlo9 hd1
            have HNv : Hid (val (us1.set ij r) + g * val (vs.take (i + 1)) * 4294967296 ^ j = val cur + (q + e) * 4294967296 ^ (i + 1 + j)) := by
              rw [Hij.out]
              exact sub_round (by rw [HL1.out, ← Hij.out]; exact hijN) HKv.out HPv.out (by rw [← Hij.out]; exact Hz.out) HE1.out Hcq.out heq
            have HO2 : Hid (OwnsW (wr.setCell ⟨G, ij, none⟩ (.int .u32 (r : Int))) G (.slice (some ⟨G, 0, none⟩) N N) (us1.set ij r)) := HO1.out.store HL1.out.symm ij r
            have HQ2 : Hid (OwnsW (wr.setCell ⟨G, ij, none⟩ (.int .u32 (r : Int))) H (.slice (some ⟨H, 0, none⟩) (M + 1) (M + 1)) (behind k qs)) := HQ1.out.other (Nat.ne_of_gt HGH.out)
            have HB2x : Hid (Below G w2 (wr.setCell ⟨G, ij, none⟩ (.int .u32 (r : Int)))) := HB1.out.setCell (p := ⟨G, ij, none⟩) (Nat.le_refl _) _
            have HW2 : Hid (Wd (us1.set ij r)) := wd_set HW1.out hr9
            have HL2 : Hid ((us1.set ij r).length = N) := by show _ = _; rw [List.length_set]; exact HL1.out
            have HD2 : Hid (val ((us1.set ij r).drop (p0 + 3)) = 0) := by show _ = _; rw [drop_set (by omega)]; exact HD1.out
            clear hC hlo hq heq
            go_wp2
            exact ⟨⟨i + 1, q, e, us1.set ij r, by omega, hq9, he9, rfl, rfl, by go_num, HL2, HW2, HD2, HNv, HO2, HQ2, HB2x⟩, by simp [intOf]; omega⟩
          · obtain rfl : m = i := by omega
            have him' : ¬ (m : Int) < (m : Int) := by omega
            obtain ⟨hfz, hcz⟩ := HO1.out.at HL1.out.symm (j := p0 + 2) (by rw [HL1.out]; exact hpN)
            obtain ⟨z, Hz⟩ : ∃ z, Hid (z = us1.getD (p0 + 2) 0) := ⟨_, rfl⟩
            rw [← Hz.out] at hcz
            unfold wv at hcz
            have hz : z < 4294967296 := by rw [Hz.out]; exact wd_getD HW1.out _
            obtain ⟨T1, T, r, e, hw1, hw2, hT1, hT, hr1, he1, hr9, he9, heq⟩ := sub_word hz hc9 hd1
            have HEm : Hid (val us1 + g * (y * 2 ^ s) * 4294967296 ^ j = val cur + (c1 + d1) * 4294967296 ^ (p0 + 2)) := by
              have h1 := HE1.out
              rw [List.take_of_length_le (l := vs) (by rw [← HVl.out]; exact Nat.le_refl _), HVn.out.eq, show m + j = p0 + 2 by have := Hp0.out; have := Ht1.out; omega] at h1
              exact h1
            have HLs : Hid (val (us1.set (p0 + 2) r) + g * (y * 2 ^ s) * 4294967296 ^ j = val cur + e * 4294967296 ^ (p0 + 3)) := msub_last (by rw [HL1.out]; exact hpN) Hz.out HEm.out heq
            have HO2 : Hid (OwnsW (wr.setCell ⟨G, p0 + 2, none⟩ (.int .u32 (r : Int))) G (.slice (some ⟨G, 0, none⟩) N N) (us1.set (p0 + 2) r)) := HO1.out.store HL1.out.symm (p0 + 2) r
            have HQ2 : Hid (OwnsW (wr.setCell ⟨G, p0 + 2, none⟩ (.int .u32 (r : Int))) H (.slice (some ⟨H, 0, none⟩) (M + 1) (M + 1)) (behind k qs)) := HQ1.out.other (Nat.ne_of_gt HGH.out)
            have HB2x : Hid (Below G w2 (wr.setCell ⟨G, p0 + 2, none⟩ (.int .u32 (r : Int)))) := HB1.out.setCell (p := ⟨G, p0 + 2, none⟩) (Nat.le_refl _) _
            have HW2 : Hid (Wd (us1.set (p0 + 2) r)) := wd_set HW1.out hr9
            have HL2 : Hid ((us1.set (p0 + 2) r).length = N) := by show _ = _; rw [List.length_set]; exact HL1.out
            have HD2 : Hid (val ((us1.set (p0 + 2) r).drop (p0 + 3)) = 0) := by show _ = _; rw [drop_set (by omega)]; exact HD1.out
            clear heq
            generalize us1.set (p0 + 2) r = us2 at *
            rcases (show e = 0 ∨ e = 1 by omega) with he | he
            · subst he
              have he2 : (T : Int) / 9223372036854775808 = 0 := he1
              have HVq : Hid (val us2 + g * (y * 2 ^ s) * 4294967296 ^ j = val cur) := by have := HLs.out; rw [Nat.zero_mul, Nat.add_zero] at this; exact this
              have HVe : Hid (val us2 < y * 2 ^ s * 4294967296 ^ j) := kn_end0 HGe.out HVq.out
              have HEe : Hid (x * 2 ^ s = val (behind j (g :: qs)) * (y * 2 ^ s) + val us2) := round_eq (by have := HE.out; rw [Hj.out] at this; exact this) HVq.out
              have HQl2 : Hid ((g :: qs).length = M + 1 - j) := by show _ = _; rw [List.length_cons, HQl.out]; have := Hj.out; omega
              have HQw2 : Hid (Wd (g :: qs)) := fun u hu => by
                rw [List.mem_cons] at hu
                rcases hu with rfl | hu
                · omega
                · exact HQw.out u hu
              have HQe : Hid (OwnsW ((wr.setCell ⟨G, p0 + 2, none⟩ (.int .u32 (r : Int))).setCell ⟨H, j, none⟩ (.int .u32 (g : Int))) H (.slice (some ⟨H, 0, none⟩) (M + 1) (M + 1)) (behind j (g :: qs))) := by
                have h1 := HQ2.out.store HQL.out j g
                rw [Hj.out, behind_set] at h1
                exact h1
              have HOe : Hid (OwnsW ((wr.setCell ⟨G, p0 + 2, none⟩ (.int .u32 (r : Int))).setCell ⟨H, j, none⟩ (.int .u32 (g : Int))) G (.slice (some ⟨G, 0, none⟩) N N) (us2)) := HO2.out.other (Nat.ne_of_lt HGH.out)
              have HBe : Hid (Below G w2 ((wr.setCell ⟨G, p0 + 2, none⟩ (.int .u32 (r : Int))).setCell ⟨H, j, none⟩ (.int .u32 (g : Int)))) := HB2x.out.setCell (p := ⟨H, j, none⟩) (Nat.le_of_lt HGH.out) _
              obtain ⟨hfq, hcq⟩ := HQ1.out.at HQL.out (j := j) (by rw [← HQL.out]; omega)
              obtain ⟨hfq2, hcq2⟩ := HQ2.out.at HQL.out (j := j) (by rw [← HQL.out]; omega)
              unfold wv at hcq hcq2
              have hgm : (g : Int) % 4294967296 = (g : Int) := by omega
              clear he1
              go_wp2
              exact ⟨⟨j, us2, g :: qs, by omega, by first | rfl | go_num, HL2, HW2, HVe, HQl2, HQw2, HEe, HOe, HQe, HBe⟩, by simp [intOf]; try omega⟩
            · subst he
              have he2 : (T : Int) / 9223372036854775808 = 1 := he1
              clear he1
              have HLt : Hid (val us2 < 4294967296 ^ (p0 + 3)) := val_lt_drop HW2.out HD2.out
              have hg0' : 0 < g := by
                rcases Nat.eq_zero_or_pos g with q | q
                · have h1 := HLs.out; have h2 := HLt.out; rw [q, Nat.zero_mul, Nat.zero_mul, Nat.one_mul, Nat.add_zero] at h1; omega
                · exact q
              obtain ⟨g3, hg3⟩ : ∃ g3, g = g3 + 1 := ⟨g - 1, by omega⟩
              have hgg : (g : Int) - 1 = (g3 : Int) := by omega
              have hgp : (g : Int) ≥ 1 := by omega
              have HS1 : Hid (val us2 + 0 * 4294967296 ^ (0 + j) = val us2 + val (vs.take 0) * 4294967296 ^ j) := by show _ = _; simp [val]
              have Hg3 : Hid (g = g3 + 1) := hg3
              clear hg3
              go_wp2_with fail
              go_loopw [22, 27] (fun cx ix wi => ∃ (i c1 : Nat) (us3 : List Nat), i ≤ m ∧ c1 ≤ 1 ∧ cx = .int .u64 (c1 : Int) ∧ ix = .int .i64 (i : Int) ∧ Hid (us3.length = N) ∧ Hid (Wd us3) ∧ Hid (val (us3.drop (p0 + 3)) = 0) ∧ Hid (val us3 + c1 * 4294967296 ^ (i + j) = val us2 + val (vs.take i) * 4294967296 ^ j) ∧ Hid (OwnsW wi G (.slice (some ⟨G, 0, none⟩) N N) us3) ∧ Hid (OwnsW wi H (.slice (some ⟨H, 0, none⟩) (M + 1) (M + 1)) (behind k qs)) ∧ Hid (Below G w2 wi)) (fun _ ix _ => m - (intOf ix).toNat)
              case atStart => exact ⟨0, 0, us2, Nat.zero_le _, by omega, rfl, rfl, HL2, HW2, HD2, HS1, HO2, HQ2, HB2x⟩
              case round =>
                obtain ⟨i, c3, us3, hi3, hc3, rfl, rfl, HL3, HW3, HD3, HE3, HO3, HQ3, HB3⟩ := hrel
                clear hfz hcz HO1 HQ1 HB1 HO2 HQ2 HB2x hw1 hw2 hr1
                by_cases him : i < m
                · have him' : (i : Int) < (m : Int) := by omega
                  have HKv : Hid (i < vs.length) := by rw [← HVl.out]; exact him
                  obtain ⟨bv2, ov2, p, hav2, HPv, hp, -, hcp⟩ := (HSv.out.below (by rw [HGw.out]; exact HB3.out)).elem HKv.out
                  simp only [Option.some.injEq, Addr.mk.injEq] at hav2
                  obtain ⟨rfl, rfl, -⟩ := hav2
                  obtain ⟨ij, Hij⟩ : ∃ ij, Hid (ij = i + j) := ⟨_, rfl⟩
                  have hij : (i : Int) + (j : Int) = (ij : Int) := by have := Hij.out; omega
                  have hijp : ij < p0 + 2 := by have := Hij.out; have := Hp0.out; have := Ht1.out; omega
                  have hijN : ij < N := by omega
                  have hijN' : (ij : Int) < (N : Int) := by omega
                  obtain ⟨hfz, hcz⟩ := HO3.out.at HL3.out.symm (j := ij) (by rw [HL3.out]; exact hijN)
                  obtain ⟨z2, Hz2⟩ : ∃ z2, Hid (z2 = us3.getD ij 0) := ⟨_, rfl⟩
                  rw [← Hz2.out] at hcz
                  unfold wv at hcz
                  have hz2 : z2 < 4294967296 := by rw [Hz2.out]; exact wd_getD HW3.out _
                  obtain ⟨C, hC⟩ : ∃ C, C = c3 + (z2 + p) := ⟨_, rfl⟩
                  obtain ⟨r3, hr3⟩ : ∃ r3, r3 = C % 4294967296 := ⟨_, rfl⟩
                  obtain ⟨d3, hd3⟩ : ∃ d3, d3 = C / 4294967296 := ⟨_, rfl⟩
                  have HR : Hid (((c3 : Int) + ((z2 : Int) + (p : Int))) % 4294967296 = (r3 : Int)) := by show _ = _; omega
                  have HD : Hid (((c3 : Int) + ((z2 : Int) + (p : Int))) / 4294967296 = (d3 : Int)) := by show _ = _; omega
                  have hr39 : r3 < 4294967296 := by omega
                  have hd39 : d3 ≤ 1 := by omega
                  have HNv : Hid (val (us3.set ij r3) + d3 * 4294967296 ^ (i + 1 + j) = val us2 + val (vs.take (i + 1)) * 4294967296 ^ j) := by
                    rw [Hij.out]
                    exact add_round (z := z2) (by rw [HL3.out, ← Hij.out]; exact hijN) HKv.out HPv.out (by rw [← Hij.out]; exact Hz2.out) HE3.out (by rw [hr3, hC]) (by rw [hd3, hC])
                  have HO4 : Hid (OwnsW (wr.drew.setCell ⟨G, ij, none⟩ (.int .u32 (r3 : Int))) G (.slice (some ⟨G, 0, none⟩) N N) (us3.set ij r3)) := (HO3.out.below (below_drewN (Below.refl _ _) 1)).store HL3.out.symm ij r3
                  have HQ4 : Hid (OwnsW (wr.drew.setCell ⟨G, ij, none⟩ (.int .u32 (r3 : Int))) H (.slice (some ⟨H, 0, none⟩) (M + 1) (M + 1)) (behind k qs)) := (HQ3.out.below (below_drewN (Below.refl _ _) 1)).other (Nat.ne_of_gt HGH.out)
                  have HB4 : Hid (Below G w2 (wr.drew.setCell ⟨G, ij, none⟩ (.int .u32 (r3 : Int)))) := (below_drewN HB3.out 1).setCell (p := ⟨G, ij, none⟩) (Nat.le_refl _) _
                  have HW4 : Hid (Wd (us3.set ij r3)) := wd_set HW3.out hr39
                  have HL4 : Hid ((us3.set ij r3).length = N) := by show _ = _; rw [List.length_set]; exact HL3.out
                  have HD4 : Hid (val ((us3.set ij r3).drop (p0 + 3)) = 0) := by show _ = _; rw [drop_set (by omega)]; exact HD3.out
                  clear hC hr3 hd3
                  go_wp2_with fail
                  go_region
                  all_goals go_wp2
                  all_goals rw [HR.out, HD.out]
                  all_goals exact ⟨⟨i + 1, d3, us3.set ij r3, by omega, hd39, rfl, by go_num, HL4, HW4, HD4, HNv, HO4, HQ4, HB4⟩, by simp [intOf]; omega⟩
                · obtain rfl : m = i := by omega
                  have him' : ¬ (m : Int) < (m : Int) := by omega
                  obtain ⟨hfz, hcz⟩ := HO3.out.at HL3.out.symm (j := p0 + 2) (by rw [HL3.out]; exact hpN)
                  obtain ⟨z2, Hz2⟩ : ∃ z2, Hid (z2 = us3.getD (p0 + 2) 0) := ⟨_, rfl⟩
                  rw [← Hz2.out] at hcz
                  unfold wv at hcz
                  have hz2 : z2 < 4294967296 := by rw [Hz2.out]; exact wd_getD HW3.out _
                  obtain ⟨r3, hr3⟩ : ∃ r3, r3 = (c3 + (0 + z2)) % 4294967296 := ⟨_, rfl⟩
                  obtain ⟨o, ho⟩ : ∃ o, o = (c3 + (0 + z2)) / 4294967296 := ⟨_, rfl⟩
                  have hcm : (c3 : Int) % 4294967296 = (c3 : Int) := by omega
                  have HRm : Hid (((z2 : Int) + (c3 : Int)) % 4294967296 = (r3 : Int)) := by show _ = _; omega
                  have HRw : IntKind.u32.wrap ((z2 : Int) + (c3 : Int)) = (r3 : Int) := by
                    have e1 : IntKind.u32.wrap ((z2 : Int) + (c3 : Int)) = ((z2 : Int) + (c3 : Int)) % 4294967296 := by simp [IntKind.wrap, IntKind.bits, IntKind.signed]
                    rw [e1]; exact HRm.out
                  have hr39 : r3 < 4294967296 := by omega
                  have ho1 : o ≤ 1 := by omega
                  have HEm3 : Hid (val us3 + c3 * 4294967296 ^ (p0 + 2 + 0) = val us2 + y * 2 ^ s * 4294967296 ^ j) := by
                    have h1 := HE3.out
                    rw [List.take_of_length_le (l := vs) (by rw [← HVl.out]; exact Nat.le_refl _), HVn.out.eq, show m + j = p0 + 2 + 0 by have := Hp0.out; have := Ht1.out; omega] at h1
                    exact h1
                  have HLs3 : Hid (val (us3.set (p0 + 2) r3) + o * 4294967296 ^ (p0 + 3) = val us2 + y * 2 ^ s * 4294967296 ^ j) := by
                    exact bmul_step (rs := us3) (k := p0 + 2) (q := 0) (p := 0) (by rw [HL3.out]; exact hpN) Hz2.out HEm3.out hr3 ho (by rw [Nat.zero_mul, Nat.add_zero])
                  have HO4 : Hid (OwnsW (wr.setCell ⟨G, p0 + 2, none⟩ (.int .u32 (r3 : Int))) G (.slice (some ⟨G, 0, none⟩) N N) (us3.set (p0 + 2) r3)) := HO3.out.store HL3.out.symm (p0 + 2) r3
                  have HQ4 : Hid (OwnsW (wr.setCell ⟨G, p0 + 2, none⟩ (.int .u32 (r3 : Int))) H (.slice (some ⟨H, 0, none⟩) (M + 1) (M + 1)) (behind k qs)) := HQ3.out.other (Nat.ne_of_gt HGH.out)
                  have HB4 : Hid (Below G w2 (wr.setCell ⟨G, p0 + 2, none⟩ (.int .u32 (r3 : Int)))) := HB3.out.setCell (p := ⟨G, p0 + 2, none⟩) (Nat.le_refl _) _
                  have HW4 : Hid (Wd (us3.set (p0 + 2) r3)) := wd_set HW3.out hr39
                  have HL4 : Hid ((us3.set (p0 + 2) r3).length = N) := by show _ = _; rw [List.length_set]; exact HL3.out
                  have HD4 : Hid (val ((us3.set (p0 + 2) r3).drop (p0 + 3)) = 0) := by show _ = _; rw [drop_set (by omega)]; exact HD3.out
                  clear hr3 ho
                  generalize us3.set (p0 + 2) r3 = us4 at *
                  have HKE : Hid (val us4 + g3 * (y * 2 ^ s) * 4294967296 ^ j = val cur ∧ val us4 < y * 2 ^ s * 4294967296 ^ j) := by
                    have h1 := HLs.out
                    rw [Nat.one_mul] at h1
                    obtain ⟨g4, hg4, h2, h3⟩ := kn_end1 HGl.out h1 HLt.out HLs3.out (val_lt_drop HW4.out HD4.out) ho1
                    obtain rfl : g4 = g3 := by have := Hg3.out; omega
                    exact ⟨h2, h3⟩
                  have HVe : Hid (val us4 < y * 2 ^ s * 4294967296 ^ j) := HKE.out.2
                  have HEe : Hid (x * 2 ^ s = val (behind j (g3 :: qs)) * (y * 2 ^ s) + val us4) := round_eq (by have := HE.out; rw [Hj.out] at this; exact this) HKE.out.1
                  have HQl2 : Hid ((g3 :: qs).length = M + 1 - j) := by show _ = _; rw [List.length_cons, HQl.out]; have := Hj.out; omega
                  have HQw2 : Hid (Wd (g3 :: qs)) := fun u hu => by
                    rw [List.mem_cons] at hu
                    rcases hu with rfl | hu
                    · omega
                    · exact HQw.out u hu
                  have HQe : Hid (OwnsW ((wr.setCell ⟨G, p0 + 2, none⟩ (.int .u32 (r3 : Int))).setCell ⟨H, j, none⟩ (.int .u32 (g3 : Int))) H (.slice (some ⟨H, 0, none⟩) (M + 1) (M + 1)) (behind j (g3 :: qs))) := by
                    have h1 := HQ4.out.store HQL.out j g3
                    rw [Hj.out, behind_set] at h1
                    exact h1
                  have HOe : Hid (OwnsW ((wr.setCell ⟨G, p0 + 2, none⟩ (.int .u32 (r3 : Int))).setCell ⟨H, j, none⟩ (.int .u32 (g3 : Int))) G (.slice (some ⟨G, 0, none⟩) N N) (us4)) := HO4.out.other (Nat.ne_of_lt HGH.out)
                  have HBe : Hid (Below G w2 ((wr.setCell ⟨G, p0 + 2, none⟩ (.int .u32 (r3 : Int))).setCell ⟨H, j, none⟩ (.int .u32 (g3 : Int)))) := HB4.out.setCell (p := ⟨H, j, none⟩) (Nat.le_of_lt HGH.out) _
                  obtain ⟨hfq, hcq⟩ := HQ3.out.at HQL.out (j := j) (by rw [← HQL.out]; omega)
                  obtain ⟨hfq2, hcq2⟩ := HQ4.out.at HQL.out (j := j) (by rw [← HQL.out]; omega)
                  unfold wv at hcq hcq2
                  have hgm : (g3 : Int) % 4294967296 = (g3 : Int) := by omega
                  go_wp2
                  exact ⟨⟨j, us4, g3 :: qs, by omega, by first | rfl | go_num, HL4, HW4, HVe, HQl2, HQw2, HEe, HOe, HQe, HBe⟩, by simp [intOf]; try omega⟩
    · obtain rfl : k = 0 := by omega
      have e0 : behind 0 qs = qs := by simp [behind]
      have HOw : Hid (OwnsW wr H (.slice (some ⟨H, 0, none⟩) (M + 1) (M + 1)) qs) := by have := HOq.out; rw [e0] at this; exact this
      have HVc : Hid (val cur < y * 2 ^ s) := by have := HCv.out; rw [Nat.pow_zero, Nat.mul_one] at this; exact this
      have HEq : Hid (x * 2 ^ s = val qs * (y * 2 ^ s) + val cur) := by have := HE.out; rw [e0] at this; exact this
      have hP : 0 < 2 ^ s := Nat.pow_pos (by omega)
      have HDv : Hid (x / y = val qs) := by
        show _ = _
        rw [← Nat.mul_div_mul_right x y hP, HEq.out, Nat.mul_comm (val qs), Nat.mul_add_div (by have := HVc.out; omega), Nat.div_eq_of_lt HVc.out, Nat.add_zero]
      have HMd : Hid (val cur / 2 ^ s = x % y) := by
        show _ = _
        have e1 : x * 2 ^ s % (y * 2 ^ s) = val cur := by rw [HEq.out, Nat.mul_comm (val qs), Nat.mul_add_mod, Nat.mod_eq_of_lt HVc.out]
        rw [← e1, Nat.mul_mod_mul_right, Nat.mul_div_cancel _ hP]
      clear e0 hP
      have HT1 : Hid (Calls Tryz.prog 84 #[.slice (some ⟨H, 0, none⟩) (M + 1) (M + 1)] wr fun e w' => e = .returned (.slice (some ⟨H, 0, none⟩) (norm qs).length (M + 1)) ∧ w' = wr) := by
        obtain ⟨a3, c3, hv3, hS3⟩ := HOw.out.shows (by rw [HQl.out]; omega) HQw.out (fun a5 n5 cap5 h _ => by simp only [Value.slice.injEq] at h; have := h.2.2; omega)
        simp only [Value.slice.injEq] at hv3
        obtain ⟨rfl, -, rfl⟩ := hv3
        exact trim_at _ _ _ _ _ hS3 (by rw [HQl.out]; omega)
      have HT2 : Hid (Calls Tryz.prog 84 #[.slice (some ⟨G, 0, none⟩) N N] wr fun e w' => e = .returned (.slice (some ⟨G, 0, none⟩) (norm cur).length N) ∧ w' = wr) := by
        obtain ⟨a3, c3, hv3, hS3⟩ := HOu.out.shows (by rw [HCl.out]; omega) HCw.out (fun a5 n5 cap5 h _ => by simp only [Value.slice.injEq] at h; have := HN.out; have := h.2.2; omega)
        simp only [Value.slice.injEq] at hv3
        obtain ⟨rfl, -, rfl⟩ := hv3
        exact trim_at _ _ _ _ _ hS3 HCl.out.symm
      have HQn : Hid (OwnsN wr H (.slice (some ⟨H, 0, none⟩) (norm qs).length (M + 1)) (norm qs) (val qs)) := ownsN_trim HOw.out HQw.out (by omega)
      have HUn2 : Hid (OwnsN wr G (.slice (some ⟨G, 0, none⟩) (norm cur).length N) (norm cur) (val cur)) := ownsN_trim HOu.out HCw.out (by have := HN.out; omega)
      go_wp2_with fail
      refine HT1.out.mono ?_
      rintro e w7 ⟨rfl, rfl⟩
      go_wp2_with fail
      refine HT2.out.mono ?_
      rintro e w8 ⟨rfl, rfl⟩
      have HRt : Hid (Calls Tryz.prog 90 #[.slice (some ⟨G, 0, none⟩) (norm cur).length N, .int .u64 (s : Int)] w8 fun e w' => ∃ v us, e = .returned v ∧ Hid (OwnsN w' w.heap.size v us (x % y) ∧ Below w8.heap.size w8 w')) := by
        obtain ⟨a3, c3, hv3, hS3⟩ := HUn2.out.shows (by have := norm_len cur; rw [HCl.out] at this; omega)
        simp only [Value.slice.injEq] at hv3
        obtain ⟨rfl, -, rfl⟩ := hv3
        refine (right_any _ _ _ s _ _ _ hS3 rfl HUn2.out.num hs32).mono ?_
        rintro e w9 ⟨v, us9, rfl, q1, q2, q3⟩
        rw [HMd.out] at q1
        exact ⟨v, us9, rfl, q1.mono (Nat.le_trans HG0.out (by have := HBr.out.size; rw [HGw.out] at this; exact this)), q3⟩
      go_wp2_with fail
      refine HRt.out.mono ?_
      rintro e w9 ⟨v, us9, rfl, HR9⟩
      go_wp2
      go_ret2
      have hx0 := HX.out.1
      have hxl : x < 4294967296 ^ n := by rw [← hx0.eq, HX.out.2]; exact val_lt _ hx0.wd
      have hgw : w.heap.size ≤ H := Nat.le_trans HG0.out (Nat.le_of_lt HGH.out)
      have q1 : OwnsN w9 w.heap.size (.slice (some ⟨H, 0, none⟩) (norm qs).length (M + 1)) (norm qs) (x / y) := by
        have := (HQn.out.below HR9.out.2).mono hgw
        rw [← HDv.out] at this; exact this
      refine ⟨_, norm qs, v, us9, rfl, q1, HR9.out.1, num_len q1.num (Nat.lt_of_le_of_lt (Nat.div_le_self _ _) hxl), num_len HR9.out.1.num (Nat.lt_of_le_of_lt (Nat.mod_le _ _) hxl), ?_⟩
      have hb1 : Below w.heap.size w w8 := HB2.out.trans (HBr.out.mono HG0.out)
      exact hb1.trans (HR9.out.2.mono hb1.size)

end Go.Proofs.YtgcpconlmihilaaGreatDoor
