/-
  The contract of the reference's mul: the product of two whole numbers.
  The contract of ferrersbig's Mul.
  The contract of ferrersbig's MulRange from 1 on: permutations counted.
  The contract of ferrersbig's SetString at a text of decimal digits.
  The contract of ferkeep.whole: the number that a text of digits tells.
-/
import Derived.Test.YtmbpcapjldbkbaaGreatDoorAAdd
import Derived.Test.YtmbpcapjldbkbaaGreatDoorABig
import Derived.Test.YtmbpcapjldbkbaaGreatDoorASto
namespace Go.Proofs.YtmbpcapjldbkbaaGreatDoor
open Go.RowKit

theorem val_set : ∀ (l : List Nat) (k u : Nat), k < l.length → val (l.set k u) + 4294967296 ^ k * l.getD k 0 = val l + 4294967296 ^ k * u
  | [], k, _, h => by simp at h
  | z :: l, 0, u, _ => by simp [val]; omega
  | z :: l, k + 1, u, h => by
    have ih := val_set l k u (by simpa using h)
    simp only [List.set_cons_succ, val, List.getD_cons_succ, Nat.pow_succ]
    rw [Nat.mul_comm (4294967296 ^ k) 4294967296, Nat.mul_assoc, Nat.mul_assoc]
    omega
theorem wd_set {l : List Nat} {k u : Nat} (h : Wd l) (hu : u < 4294967296) : Wd (l.set k u) := fun z hz => by
  rcases List.mem_or_eq_of_mem_set hz with q | q
  · exact h z q
  · omega
theorem bset_getD (l : List Nat) (k u j : Nat) : (l.set k u).getD j 0 = if k = j ∧ k < l.length then u else l.getD j 0 := by
  simp only [List.getD, List.getElem?_set]
  by_cases h : k = j
  · subst h
    by_cases h2 : k < l.length
    · simp [h2]
    · simp [h2]
  · simp [h]
/-- One step of the inner loop. -/
theorem bmul_step {rs : List Nat} {k q c p z r d V W : Nat} (hl : k + q < rs.length) (hz : z = rs.getD (k + q) 0) (h : val rs + c * 4294967296 ^ (k + q) = V) (hr : r = (c + (p + z)) % 4294967296) (hd : d = (c + (p + z)) / 4294967296) (hW : W = V + p * 4294967296 ^ (k + q)) :
    val (rs.set (k + q) r) + d * 4294967296 ^ (k + q + 1) = W := by
  have e := val_set rs (k + q) r hl
  rw [← hz] at e
  have hs : d * 4294967296 + r = c + (p + z) := by omega
  have h2 : (d * 4294967296 + r) * 4294967296 ^ (k + q) = (c + (p + z)) * 4294967296 ^ (k + q) := by rw [hs]
  simp only [Nat.add_mul] at h2
  rw [Nat.pow_succ, Nat.mul_comm (4294967296 ^ (k + q)) 4294967296, ← Nat.mul_assoc, hW, ← h]
  rw [Nat.mul_comm (4294967296 ^ (k + q)) z, Nat.mul_comm (4294967296 ^ (k + q)) r] at e
  omega

set_option maxHeartbeats 4000000 in
set_option maxRecDepth 100000 in
theorem mul_some (a b : Option Addr) (ca cb n m : Nat) (xs ys : List Nat) (w : World) (ha : ShowsW w a ca xs) (hb : ShowsW w b cb ys) (hn : n = xs.length) (hm : m = ys.length) (h0 : 0 < n) (h1 : 0 < m) (hf : n + m ≤ 900000) :
    Calls Tryz.prog 67 #[.slice a n ca, .slice b m cb] w fun e w' => ∃ v us, e = .returned v ∧ OwnsN w' w.heap.size v us (val xs * val ys) ∧ us.length ≤ n + m ∧ Below w.heap.size w w' := by
  have HX : Hid (n = xs.length) := hn
  have HY : Hid (m = ys.length) := hm
  have HSx : Hid (ShowsW w a ca xs) := ha
  have HSy : Hid (ShowsW w b cb ys) := hb
  obtain ⟨N, hN⟩ : ∃ N, N = n + m := ⟨_, rfl⟩
  have hN1 : (n : Int) + (m : Int) = (N : Int) := by omega
  have hN9 : N ≤ 900000 := by omega
  have hn9 : n ≤ 900000 := by omega
  have hm9 : m ≤ 900000 := by omega
  have HN : Hid (N = n + m) := hN
  have hn0 : ((n : Int) == 0) = false := by simp; omega
  have hm0 : ((m : Int) == 0) = false := by simp; omega
  have hn0' : ¬ (n : Int) = 0 := by omega
  have hm0' : ¬ (m : Int) = 0 := by omega
  clear hn hm ha hb hN
  obtain ⟨i0, hi, hz0, hz1, hz2⟩ := info_parts Tryz.infoW
  go_enter Tryz.func67, Tryz.ntmps67
  go_wp2_with (at_make; refine wpList_make_full _ rfl _ _ 46 rfl w.heap.size 123 i0 (.int .u32 0) 1 Tryz.underlying46 hi hz0 hz1 _ _ _ _ N rfl rfl rfl rfl ?b1 ?b2 ?b3 ?_)
  case b1 => first | omega | (rw [hz2]; omega)
  case b2 => first | omega | (unfold maxLen; omega)
  try (case b3 => exact Nat.le_refl _)
  intro w1 hown hgrow
  have HB1 : Hid (Below w.heap.size w w1) := (Below.refl _ _).grown hgrow (Nat.le_refl _) (fun k h => by cases h)
  have HO1 : Hid (OwnsW w1 w.heap.size (.slice (some ⟨w.heap.size, 0, none⟩) N N) (List.replicate N 0)) := ownsW_made (by simpa [Value.cells] using hown)
  have HV1 : Hid (val (List.replicate N 0) = val (xs.take 0) * val ys) := by
    show _ = _
    have : ∀ n, val (List.replicate n 0) = 0 := by
      intro n
      induction n with
      | zero => rfl
      | succ n ih => rw [List.replicate_succ, val, ih]
    rw [this]; simp [val]
  clear hown hgrow
  generalize HGe : w.heap.size = G at *
  have HGw : Hid (w.heap.size = G) := HGe
  clear HGe
  go_wp2
  go_loopw [6] (fun i wr => ∃ (k : Nat) (rs : List Nat), k ≤ n ∧ i = .int .i64 k ∧ Hid (rs.length = N) ∧ Hid (Wd rs) ∧ Hid (∀ j, k + m ≤ j → rs.getD j 0 = 0) ∧ Hid (val rs = val (xs.take k) * val ys) ∧ Hid (OwnsW wr G (.slice (some ⟨G, 0, none⟩) N N) rs) ∧ Hid (Below G w wr)) (fun i _ => n - (intOf i).toNat)
  case atStart => exact ⟨0, List.replicate N 0, Nat.zero_le _, rfl, List.length_replicate, fun u hu => by rw [List.eq_of_mem_replicate hu]; omega, fun j _ => by simp only [List.getD, List.getElem?_replicate]; split <;> rfl, HV1, HO1, HB1⟩
  case round =>
    obtain ⟨k, rs, hk, rfl, HRl, HRw, HZ, HV, HO, HB⟩ := hrel
    by_cases hkn : k < n
    · have hkn' : (k : Int) < (n : Int) := by omega
      have HKx : Hid (k < xs.length) := by rw [← HX.out]; exact hkn
      obtain ⟨bx, ox, u, hax, HU, hu, -, hcx0⟩ := HSx.out.elem HKx.out
      subst hax
      have HCx : Hid (∀ W, Below G w W → W.cell? ⟨bx, ox + k, none⟩ = some (.int .u32 (u : Int))) := fun W hW => by
        rw [← HGw.out] at hW
        rw [hW.cell (p := ⟨bx, ox + k, none⟩) (World.block_lt_of_cell? w _ hcx0)]; exact hcx0
      clear hcx0
      have HV0 : Hid (val rs + 0 * 4294967296 ^ (k + 0) = val (xs.take k) * val ys + u * 4294967296 ^ k * val (ys.take 0)) := by
        show _ = _; rw [HV.out]; simp [val]
      go_wp2
      go_loopw [7, 8] (fun c jv wi => ∃ (q cc : Nat) (ri : List Nat), q ≤ m ∧ cc < 4294967296 ∧ jv = .int .i64 q ∧ c = .int .u64 cc ∧ Hid (ri.length = N) ∧ Hid (Wd ri) ∧ Hid (∀ j, k + m ≤ j → ri.getD j 0 = 0) ∧ Hid (val ri + cc * 4294967296 ^ (k + q) = val (xs.take k) * val ys + u * 4294967296 ^ k * val (ys.take q)) ∧ Hid (OwnsW wi G (.slice (some ⟨G, 0, none⟩) N N) ri) ∧ Hid (Below G w wi)) (fun _ jv _ => m - (intOf jv).toNat)
      case atStart => exact ⟨0, 0, rs, Nat.zero_le _, by omega, rfl, rfl, HRl, HRw, HZ, HV0, HO, HB⟩
      case round =>
        obtain ⟨q, cc, ri, hq, hcc, rfl, rfl, HIl, HIw, HIz, HIv, HIo, HIb⟩ := hrel
        by_cases hqm : q < m
        · have hqm' : (q : Int) < (m : Int) := by omega
          have HKy : Hid (q < ys.length) := by rw [← HY.out]; exact hqm
          obtain ⟨by_, oy, v, hay, HVv, hv, -, hcy⟩ := (HSy.out.below (by rw [HGw.out]; exact HIb.out)).elem HKy.out
          subst hay
          have hcx := HCx.out _ HIb.out
          obtain ⟨kq, Hkq⟩ : ∃ kq, Hid (kq = k + q) := ⟨_, rfl⟩
          have hkq : (k : Int) + (q : Int) = (kq : Int) := by have := Hkq.out; omega
          have hkqN : kq < N := by have := Hkq.out; have := HN.out; omega
          have hkqN' : (kq : Int) < (N : Int) := by omega
          obtain ⟨hfz, hcz⟩ := HIo.out.at HIl.out.symm (j := kq) (by rw [HIl.out]; exact hkqN)
          obtain ⟨z, Hz⟩ : ∃ z, Hid (z = ri.getD kq 0) := ⟨_, rfl⟩
          rw [← Hz.out] at hcz
          have hz : z < 4294967296 := by
            rw [Hz.out, List.getD, List.getElem?_eq_getElem (by rw [HIl.out]; exact hkqN)]; exact HIw.out _ (List.getElem_mem _)
          obtain ⟨p, Hp⟩ : ∃ p, Hid (p = u * v) := ⟨_, rfl⟩
          have hp : (u : Int) * (v : Int) = (p : Int) := by rw [Hp.out]; simp
          have hp2 : p ≤ 18446744065119617025 := by rw [Hp.out]; exact Nat.mul_le_mul (show u ≤ 4294967295 by omega) (show v ≤ 4294967295 by omega)
          obtain ⟨r, hr⟩ : ∃ r, r = (cc + (p + z)) % 4294967296 := ⟨_, rfl⟩
          obtain ⟨d, hd⟩ : ∃ d, d = (cc + (p + z)) / 4294967296 := ⟨_, rfl⟩
          have HNv : Hid (val (ri.set kq r) + d * 4294967296 ^ (k + (q + 1)) = val (xs.take k) * val ys + u * 4294967296 ^ k * val (ys.take (q + 1))) := by
            rw [Hkq.out]
            refine bmul_step (by rw [HIl.out, ← Hkq.out]; exact hkqN) (by rw [← Hkq.out]; exact Hz.out) HIv.out hr hd ?_
            rw [val_take HKy.out, ← HVv.out, Hp.out, Nat.mul_add, Nat.add_assoc]
            congr 1
            congr 1
            rw [Nat.pow_add]
            ac_rfl
          have hd2 : d < 4294967296 := by omega
          have HR : Hid (((cc : Int) + ((p : Int) + (z : Int))) % 4294967296 = (r : Int)) := by show _ = _; omega
          have HD : Hid (((cc : Int) + ((p : Int) + (z : Int))) / 4294967296 = (d : Int)) := by show _ = _; omega
          have hr2 : r < 4294967296 := by omega
          clear hr hd
          have HO2 : Hid (OwnsW (wr.setCell ⟨G, kq, none⟩ (.int .u32 (r : Int))).drew G (.slice (some ⟨G, 0, none⟩) N N) (ri.set kq r)) := (HIo.out.store HIl.out.symm kq r).below (below_drewN (Below.refl _ _) 1)
          have HB2 : Hid (Below G w (wr.setCell ⟨G, kq, none⟩ (.int .u32 (r : Int))).drew) := below_drewN (HIb.out.setCell (p := ⟨G, kq, none⟩) (Nat.le_refl _) _) 1
          have HW2 : Hid (Wd (ri.set kq r)) := wd_set HIw.out hr2
          have HL2 : Hid ((ri.set kq r).length = N) := by show _ = _; rw [List.length_set]; exact HIl.out
          have HZ2 : Hid (∀ j, k + m ≤ j → (ri.set kq r).getD j 0 = 0) := fun j hj => by
            rw [bset_getD, if_neg (fun c => by have := Hkq.out; omega)]; exact HIz.out j hj
          unfold wv at hcz
          go_wp2_with fail
          go_region
          all_goals go_wp2
          all_goals rw [HR.out, HD.out]
          all_goals exact ⟨⟨q + 1, d, ri.set kq r, by omega, hd2, by go_num, rfl, HL2, HW2, HZ2, HNv, HO2, HB2⟩, by simp [intOf]; omega⟩
        · obtain rfl : m = q := by omega
          have hqm' : ¬ (m : Int) < (m : Int) := by omega
          obtain ⟨km, Hkm⟩ : ∃ km, Hid (km = k + m) := ⟨_, rfl⟩
          have hkm : (k : Int) + (m : Int) = (km : Int) := by have := Hkm.out; omega
          have hkmN : km < N := by have := Hkm.out; have := HN.out; omega
          have hkmN' : (km : Int) < (N : Int) := by omega
          obtain ⟨hfz, hcz⟩ := HIo.out.at HIl.out.symm (j := km) (by rw [HIl.out]; exact hkmN)
          have hc0 : (cc : Int) % 4294967296 = (cc : Int) := by omega
          have HO2 : Hid (OwnsW (wr.setCell ⟨G, km, none⟩ (.int .u32 (cc : Int))) G (.slice (some ⟨G, 0, none⟩) N N) (ri.set km cc)) := HIo.out.store HIl.out.symm km cc
          have HB2 : Hid (Below G w (wr.setCell ⟨G, km, none⟩ (.int .u32 (cc : Int)))) := HIb.out.setCell (p := ⟨G, km, none⟩) (Nat.le_refl _) _
          have HW2 : Hid (Wd (ri.set km cc)) := wd_set HIw.out hcc
          have HL2 : Hid ((ri.set km cc).length = N) := by show _ = _; rw [List.length_set]; exact HIl.out
          have HZ2 : Hid (∀ j, k + 1 + m ≤ j → (ri.set km cc).getD j 0 = 0) := fun j hj => by
            rw [bset_getD, if_neg (fun c => by have := Hkm.out; omega)]; exact HIz.out j (by omega)
          have HNv : Hid (val (ri.set km cc) = val (xs.take (k + 1)) * val ys) := by
            have h1 := val_set ri km cc (by rw [HIl.out]; exact hkmN)
            rw [HIz.out km (by have := Hkm.out; omega), Nat.mul_zero, Nat.add_zero] at h1
            have h2 := HIv.out
            rw [← Hkm.out, List.take_of_length_le (l := ys) (by rw [← HY.out]; exact Nat.le_refl _)] at h2
            show _ = _
            rw [h1, Nat.mul_comm, h2, val_take HKx.out, ← HU.out, Nat.add_mul, Nat.mul_comm u]
          unfold wv at hcz
          go_wp2
          exact ⟨⟨k + 1, ri.set km cc, by omega, by go_num, HL2, HW2, HZ2, HNv, HO2, HB2⟩, by simp [intOf]; omega⟩
    · obtain rfl : n = k := by omega
      have hkn' : ¬ (n : Int) < (n : Int) := by omega
      have HVl : Hid (val rs = val xs * val ys) := by
        have h1 := HV.out
        rw [List.take_of_length_le (l := xs) (by rw [← HX.out]; exact Nat.le_refl _)] at h1
        exact h1
      go_wp2_with fail
      obtain ⟨a3, c3, hv3, hS3⟩ := HO.out.shows (by rw [HRl.out]; omega) HRw.out (fun a5 n5 cap5 h _ => by simp only [Value.slice.injEq] at h; have := HN.out; have := h.2.2; omega)
      simp only [Value.slice.injEq] at hv3
      obtain ⟨rfl, -, rfl⟩ := hv3
      have HT3 := ownsN_trim HO.out HRw.out (by have := HN.out; omega)
      rw [HVl.out] at HT3
      have HT4 : Hid (OwnsN wr G (.slice (some ⟨G, 0, none⟩) (norm rs).length N) (norm rs) (val xs * val ys)) := HT3
      have HL4 : Hid ((norm rs).length ≤ n + m) := by show _ ≤ _; have := norm_len rs; rw [HRl.out, HN.out] at this; exact this
      clear HT3
      refine (trim_at _ _ _ _ _ hS3 HRl.out.symm).mono ?_
      rintro e w' ⟨rfl, rfl⟩
      go_wp2
      go_ret
      exact ⟨_, _, rfl, by rw [HGw.out]; exact HT4.out, HL4.out, by rw [HGw.out]; exact HB.out⟩

theorem ownsN_nil (w : World) (base : Nat) : OwnsN w base (.slice none 0 0) [] 0 := ⟨World.ownsRow_nil _ _ _ _, num_nil, fun a n cap e h => by simp only [Value.slice.injEq] at e; exact absurd e.1.symm h⟩
set_option maxHeartbeats 1000000 in
theorem mul_left0 (a b : Option Addr) (ca cb m : Nat) (w : World) :
    Calls Tryz.prog 67 #[.slice a 0 ca, .slice b m cb] w fun e w' => e = .returned (.slice none 0 0) ∧ w' = w := by
  go_enter Tryz.func67, Tryz.ntmps67
  go_wp2
  go_ret
  exact ⟨rfl, rfl⟩
set_option maxHeartbeats 1000000 in
theorem mul_right0 (a b : Option Addr) (ca cb n : Nat) (w : World) (h : 0 < n) :
    Calls Tryz.prog 67 #[.slice a n ca, .slice b 0 cb] w fun e w' => e = .returned (.slice none 0 0) ∧ w' = w := by
  have hn0 : ((n : Int) == 0) = false := by simp; omega
  have hn0' : ¬ (n : Int) = 0 := by omega
  go_enter Tryz.func67, Tryz.ntmps67
  go_wp2
  go_ret
  exact ⟨rfl, rfl⟩
theorem mul_at (a b : Option Addr) (ca cb n m : Nat) (xs ys : List Nat) (x y : Nat) (w : World) (ha : ShowsW w a ca xs) (hb : ShowsW w b cb ys) (hn : n = xs.length) (hm : m = ys.length) (hx : Num xs x) (hy : Num ys y) (hf : n + m ≤ 900000) :
    Calls Tryz.prog 67 #[.slice a n ca, .slice b m cb] w fun e w' => ∃ v us, e = .returned v ∧ OwnsN w' w.heap.size v us (x * y) ∧ us.length ≤ n + m ∧ Below w.heap.size w w' := by
  rcases Nat.eq_zero_or_pos n with h0 | h0
  · have hx0 : x = 0 := (num_zero hx).1 (List.eq_nil_of_length_eq_zero (by omega))
    subst h0
    refine (mul_left0 a b ca cb m w).mono ?_
    rintro e w' ⟨rfl, rfl⟩
    exact ⟨_, [], rfl, by rw [hx0, Nat.zero_mul]; exact ownsN_nil _ _, by simp, Below.refl _ _⟩
  · rcases Nat.eq_zero_or_pos m with h1 | h1
    · have hy0 : y = 0 := (num_zero hy).1 (List.eq_nil_of_length_eq_zero (by omega))
      subst h1
      refine (mul_right0 a b ca cb n w h0).mono ?_
      rintro e w' ⟨rfl, rfl⟩
      exact ⟨_, [], rfl, by rw [hy0, Nat.mul_zero]; exact ownsN_nil _ _, by simp, Below.refl _ _⟩
    · rw [← hx.eq, ← hy.eq]
      exact mul_some a b ca cb n m xs ys w ha hb hn hm h0 h1 hf

end Go.Proofs.YtmbpcapjldbkbaaGreatDoor

namespace Go.Proofs.YtmbpcapjldbkbaaGreatDoor
open Go.RowKit

set_option maxHeartbeats 8000000 in
set_option maxRecDepth 100000 in
theorem BMul_at (pz px py lo lz : Nat) (b : Bool) (v0 vx vy : Value) (xs ys : List Nat) (x y : Nat) (w : World) (hx : IntAt w lo px vx xs x) (hy : IntAt w lo py vy ys y) (hz : w.heap[pz]? = some (.cells #[.bool b, v0] 48 (0, 0))) (hlz : lz ≤ pz) (hf : xs.length + ys.length ≤ 900000) :
    Calls Tryz.prog 31 #[.pointer (some ⟨pz, 0, none⟩), .pointer (some ⟨px, 0, none⟩), .pointer (some ⟨py, 0, none⟩)] w fun e w' => ∃ v us, e = .returned (.pointer (some ⟨pz, 0, none⟩)) ∧ w'.heap[pz]? = some (.cells #[.bool false, v] 48 (0, 0)) ∧ OwnsN w' w.heap.size v us (x * y) ∧ Put w w' lz pz := by
  have hx0 := hx.cell0
  have hx1 := hx.cell1
  have hy0 := hy.cell0
  have hy1 := hy.cell1
  obtain ⟨ax, cx, rfl, hSx⟩ := hx.own.shows (by omega)
  obtain ⟨ay, cy, rfl, hSy⟩ := hy.own.shows (by omega)
  obtain ⟨n, HN⟩ : ∃ n, Hid (n = xs.length) := ⟨_, rfl⟩
  obtain ⟨m, HM⟩ : ∃ m, Hid (m = ys.length) := ⟨_, rfl⟩
  rw [← HN.out] at hx1 hf
  rw [← HM.out] at hy1 hf
  have HX : Hid (Num xs x) := hx.own.num
  have HY : Hid (Num ys y) := hy.own.num
  have HSx : Hid (ShowsW w ax cx xs) := hSx
  have HSy : Hid (ShowsW w ay cy ys) := hSy
  have HZ : Hid (w.heap[pz]? = some (.cells #[.bool b, v0] 48 (0, 0))) := hz
  have HZl : Hid (pz < w.heap.size) := (Array.getElem?_eq_some_iff.1 hz).1
  have HC : Hid (∀ w', Below w.heap.size w w' → Calls Tryz.prog 67 #[.slice ax n cx, .slice ay m cy] w' fun e w2 => ∃ a3 n3 c3 us, e = .returned (.slice a3 n3 c3) ∧ OwnsN w2 w.heap.size (.slice a3 n3 c3) us (x * y) ∧ Below w.heap.size w w2 ∧ w2.cell? ⟨px, 0, none⟩ = some (.bool false) ∧ w2.cell? ⟨py, 0, none⟩ = some (.bool false)) := fun w' hb => by
    refine (mul_at _ _ _ _ _ _ _ _ _ _ _ (HSx.out.below hb) (HSy.out.below hb) HN.out HM.out HX.out HY.out hf).mono ?_
    rintro e w2 ⟨v, us, rfl, h1, h2, h3⟩
    obtain ⟨a3, c3, rfl, _⟩ := h1.shows (by omega)
    have hb2 := hb.trans (h3.mono hb.size)
    exact ⟨_, _, _, us, rfl, h1.mono hb.size, hb2, (hb2.cell (p := ⟨px, 0, none⟩) hx.lt).trans hx0, (hb2.cell (p := ⟨py, 0, none⟩) hy.lt).trans hy0⟩
  have HG : Hid (∀ W, Below w.heap.size w W → ∀ a n c, Calls Tryz.prog 61 #[.pointer (some ⟨pz, 0, none⟩), .bool false, .slice a n c] W fun e w' => e = .returned (.pointer (some ⟨pz, 0, none⟩)) ∧ w'.heap[pz]? = some (.cells #[.bool false, .slice a n c] 48 (0, 0)) ∧ w'.heap.size = W.heap.size ∧ Put W w' lz pz) := fun W hb a n c =>
    give_at pz lz b v0 a n c W ((hb.block pz HZl.out).trans HZ.out) hlz
  have HB0 : Hid (Below w.heap.size w w.drew) := below_drewN (Below.refl _ _) 1
  clear hx hy hSx hSy hz
  go_enter Tryz.func31, Tryz.ntmps31
  go_wp2_with fail
  go_region_with (first | (go_at_call 67; with_reducible (refine (HC.out _ HB0.out).mono ?_); rintro e W1 ⟨a3, n3, c3, us, rfl, h1, h2, hq1, hq2⟩) | (go_at_call 61; with_reducible (refine (HG.out _ h2 a3 n3 c3).mono ?_); rintro e W2 ⟨rfl, h3, h4, h5⟩))
  all_goals (
    have hT : ∃ v us, W2.heap[pz]? = some (.cells #[.bool false, v] 48 (0, 0)) ∧ OwnsN W2 w.heap.size v us (x * y) ∧ Put w W2 lz pz := by
      refine ⟨_, us, h3, ⟨h1.own.blocks (fun k e => h5.block k (h1.own.lt e).2 (fun e2 => ?_)), h1.num, h1.room⟩, ?_, fun k hk hne => ?_⟩
      · have := (h1.own.lt e).1; have := HZl.out; omega
      · exact (h2.mono (by have := HZl.out; omega)).trans h5.below
      · rw [h5.block k (by have := h2.size; omega) hne, h2.block k hk]
    have HT : Hid (∃ v us, W2.heap[pz]? = some (.cells #[.bool false, v] 48 (0, 0)) ∧ OwnsN W2 w.heap.size v us (x * y) ∧ Put w W2 lz pz) := hT
    clear hT h1 h2 h3 h4 h5
    go_wp2
    go_ret
    obtain ⟨v, us, q1, q2, q3⟩ := HT.out
    exact ⟨v, us, rfl, q1, q2, q3⟩)

end Go.Proofs.YtmbpcapjldbkbaaGreatDoor

namespace Go.Proofs.YtmbpcapjldbkbaaGreatDoor
open Go.RowKit

/-- n!. -/
def fcN : Nat → Nat
  | 0 => 1
  | n + 1 => fcN n * (n + 1)
theorem fcN_pos : ∀ n, 0 < fcN n
  | 0 => by decide
  | n + 1 => Nat.mul_pos (fcN_pos n) (by omega)
theorem fcN_mono {a : Nat} : ∀ d, fcN a ≤ fcN (a + d)
  | 0 => Nat.le_refl _
  | d + 1 => Nat.le_trans (fcN_mono d) (by rw [← Nat.add_assoc, fcN]; exact Nat.le_mul_of_pos_right _ (by omega))
theorem fcN_len {us : List Nat} {k : Nat} (h : Num us (fcN k)) (hk : k ≤ 20) : us.length ≤ 2 := by
  refine num_len h ?_
  have h1 := fcN_mono (a := k) (20 - k)
  rw [show k + (20 - k) = 20 by omega] at h1
  exact Nat.lt_of_le_of_lt h1 (by decide)

set_option maxHeartbeats 8000000 in
set_option maxRecDepth 100000 in
theorem MulRange_at (pz lz : Nat) (b : Bool) (v0 : Value) (N : Nat) (w : World) (hz : w.heap[pz]? = some (.cells #[.bool b, v0] 48 (0, 0))) (hlz : lz ≤ pz) (hN : N ≤ 20) :
    Calls Tryz.prog 32 #[.pointer (some ⟨pz, 0, none⟩), .int .i64 1, .int .i64 (N : Int)] w fun e w' => ∃ v us, e = .returned (.pointer (some ⟨pz, 0, none⟩)) ∧ w'.heap[pz]? = some (.cells #[.bool false, v] 48 (0, 0)) ∧ OwnsN w' w.heap.size v us (fcN N) ∧ Put w w' lz pz := by
  have HZ : Hid (w.heap[pz]? = some (.cells #[.bool b, v0] 48 (0, 0))) := hz
  have HZl : Hid (pz < w.heap.size) := (Array.getElem?_eq_some_iff.1 hz).1
  have HSet : Hid (∀ W pp v us, Below w.heap.size w W → IntAt W w.heap.size pp v us (fcN N) → Calls Tryz.prog 68 #[.pointer (some ⟨pz, 0, none⟩), .pointer (some ⟨pp, 0, none⟩)] W fun e w' => e = .returned (.pointer (some ⟨pz, 0, none⟩)) ∧ Hid (∃ v us, w'.heap[pz]? = some (.cells #[.bool false, v] 48 (0, 0)) ∧ OwnsN w' w.heap.size v us (fcN N) ∧ Put w w' lz pz)) := fun W pp v us hW hI => by
    refine (BSetTo_at pz pp w.heap.size lz b v0 v us (fcN N) W hI ((hW.block pz HZl.out).trans HZ.out) hlz (by have := fcN_len hI.own.num hN; omega) (fcN_pos N)).mono ?_
    rintro e w' ⟨v', us', rfl, h1, h2, h3⟩
    refine ⟨rfl, v', us', h1, h2.mono hW.size, (hW.mono (by have := HZl.out; omega)).trans h3.below, fun k hk hne => ?_⟩
    rw [h3.block k (by have := hW.size; omega) hne, hW.block k hk]
  have hb0 : ¬ (1 : Int) ≤ 0 := by omega
  clear hz
  go_enter Tryz.func32, Tryz.ntmps32
  go_wp2_with fail
  refine (NewInt_at 1 w (by omega)).mono ?_
  rintro e w1 ⟨v1, us1, rfl, hI1, hb1⟩
  have HI1 : Hid (IntAt w1 w.heap.size w.heap.size v1 us1 (fcN 0)) := hI1
  have HB1 : Hid (Below w.heap.size w w1) := hb1
  clear hI1 hb1
  go_wp2
  go_loopw [7, 8] (fun pv iv wr => ∃ (k pp : Nat) (v : Value) (us : List Nat), (k < N ∨ N = 0 ∧ k = 0) ∧ pv = .pointer (some ⟨pp, 0, none⟩) ∧ iv = .int .i64 ((k : Int) + 1) ∧ Hid (IntAt wr w.heap.size pp v us (fcN k)) ∧ Hid (Below w.heap.size w wr)) (fun _ iv _ => N + 2 - (intOf iv).toNat)
  case atStart => exact ⟨0, w.heap.size, v1, us1, by omega, rfl, rfl, HI1, HB1⟩
  case round =>
    obtain ⟨k, pp, v, us, hk, rfl, rfl, HI, HB⟩ := hrel
    rcases hk with hk | ⟨rfl, rfl⟩
    · have hle : (k : Int) + 1 ≤ (N : Int) := by omega
      have hk20 : k ≤ 20 := by omega
      obtain ⟨K, HK⟩ : ∃ K, Hid (K = k + 1) := ⟨_, rfl⟩
      have hK : (k : Int) + 1 = (K : Int) := by have := HK.out; omega
      have hKN : (K : Int) ≤ (N : Int) := by omega
      have HLu : Hid (us.length ≤ 2) := fcN_len HI.out.own.num hk20
      rw [hK]
      go_wp2_with fail
      refine (BSign_pos pp w.heap.size v us (fcN k) wr HI.out (by have := HLu.out; omega) (fcN_pos k)).mono ?_
      rintro e w0 ⟨rfl, hw0⟩
      obtain rfl : wr = w0 := hw0.symm
      clear hw0
      have HF : Hid (fcN K = fcN k * K) := by show _ = _; rw [HK.out]; rfl
      have HC : Hid (∀ W, W = wr.alloc (.cells #[.bool false, .slice none 0 0] 48) → Calls Tryz.prog 30 #[.int .i64 (K : Int)] W fun e w' => ∃ vn un, e = .returned (.pointer (some ⟨wr.heap.size + 1, 0, none⟩)) ∧ Hid (IntAt w' w.heap.size (wr.heap.size + 1) vn un K ∧ Below w.heap.size w w' ∧ IntAt w' w.heap.size pp v us (fcN k) ∧ w'.heap[wr.heap.size]? = some (.cells #[.bool false, .slice none 0 0] 48 (0, 0)))) := by
        rintro W rfl
        refine (NewInt_at K _ (by have := HK.out; omega)).mono ?_
        rintro e w' ⟨vn, un, rfl, h1, h2⟩
        have hsz : (wr.alloc (.cells #[.bool false, .slice none 0 0] 48)).heap.size = wr.heap.size + 1 := by simp
        rw [hsz] at h1 h2
        have hbs := HB.out.size
        have hba : Below wr.heap.size wr w' := ((Below.refl _ _).alloc (Nat.le_refl _) _).trans (h2.mono (by omega))
        refine ⟨vn, un, by rw [hsz], ⟨h1.row, h1.own.mono (by omega)⟩, HB.out.trans (hba.mono hbs), ⟨(hba.block pp HI.out.lt).trans HI.out.row, HI.out.own.below hba⟩, ?_⟩
        rw [h2.block wr.heap.size (by omega)]
        exact heap_alloc_new _ _
      go_wp2_with fail
      refine (HC.out _ rfl).mono ?_
      rintro e w2 ⟨vn, un, rfl, HE⟩
      have HM : Hid (Calls Tryz.prog 31 #[.pointer (some ⟨wr.heap.size, 0, none⟩), .pointer (some ⟨pp, 0, none⟩), .pointer (some ⟨wr.heap.size + 1, 0, none⟩)] w2 fun e w' => ∃ v us, e = .returned (.pointer (some ⟨wr.heap.size, 0, none⟩)) ∧ Hid (IntAt w' w.heap.size wr.heap.size v us (fcN K) ∧ Below w.heap.size w w')) := by
        obtain ⟨h1, h2, h3, h4⟩ := HE.out
        have hun : un.length ≤ 2 := num_len h1.own.num (by have := HK.out; omega)
        refine (BMul_at wr.heap.size pp (wr.heap.size + 1) w.heap.size w.heap.size false (.slice none 0 0) v vn us un (fcN k) K w2 h3 h1 h4 HB.out.size (by have := HLu.out; omega)).mono ?_
        rintro e w' ⟨v', us', rfl, q1, q2, q3⟩
        rw [← HF.out] at q2
        exact ⟨v', us', rfl, ⟨q1, q2.mono h2.size⟩, h2.trans q3.below⟩
      clear HC
      go_wp2_with fail
      refine HM.out.mono ?_
      rintro e w3 ⟨v3, us3, rfl, HE3⟩
      clear HM
      by_cases hKe : K = N
      · have hKe' : ((K : Int) == (N : Int)) = true := by simp [hKe]
        have HI3 : Hid (IntAt w3 w.heap.size wr.heap.size v3 us3 (fcN N)) := by have := HE3.out.1; rw [hKe] at this; exact this
        go_wp2_with fail
        refine (HSet.out w3 wr.heap.size v3 us3 HE3.out.2 HI3.out).mono ?_
        rintro e w5 ⟨rfl, HE5⟩
        go_wp2
        go_ret
        obtain ⟨v', us', q1, q2, q3⟩ := HE5.out
        exact ⟨v', us', rfl, q1, q2, q3⟩
      · have hKe' : ((K : Int) == (N : Int)) = false := by rw [beq_eq_false_iff_ne]; omega
        have HI3 : Hid (IntAt w3 w.heap.size wr.heap.size v3 us3 (fcN K)) := HE3.out.1
        have HB3 : Hid (Below w.heap.size w w3) := HE3.out.2
        clear HE HE3
        go_wp2
        exact ⟨⟨K, wr.heap.size, v3, us3, by omega, rfl, rfl, HI3, HB3⟩, by simp [intOf]; omega⟩
    · have hle : ¬ ((0 : Nat) : Int) + 1 ≤ ((0 : Nat) : Int) := by omega
      go_wp2_with fail
      refine (HSet.out wr pp v us HB.out HI.out).mono ?_
      rintro e w5 ⟨rfl, HE⟩
      go_wp2
      go_ret
      obtain ⟨v', us', q1, q2, q3⟩ := HE.out
      exact ⟨v', us', rfl, q1, q2, q3⟩

end Go.Proofs.YtmbpcapjldbkbaaGreatDoor

namespace Go.Proofs.YtmbpcapjldbkbaaGreatDoor
open Go.RowKit

/-- The number that digits tell. -/
def dvl (bs : List UInt8) : Nat := bs.foldl (fun a c => a * 10 + (c.toNat - 48)) 0
theorem dvl_snoc (bs : List UInt8) (c : UInt8) : dvl (bs ++ [c]) = dvl bs * 10 + (c.toNat - 48) := by simp [dvl]
theorem take_byte (s : ByteArray) (k : Nat) (h : k < s.size) : s.data.toList.take (k + 1) = s.data.toList.take k ++ [s[k]] := by
  rw [List.take_succ_eq_append_getElem (by simpa using h)]; rfl

set_option maxHeartbeats 8000000 in
set_option maxRecDepth 100000 in
theorem BSetString_at (pz lz : Nat) (b : Bool) (v0 : Value) (s : ByteArray) (w : World) (hz : w.heap[pz]? = some (.cells #[.bool b, v0] 48 (0, 0))) (hlz : lz ≤ pz) (hs : s.size ≤ 1000) (h0 : 0 < s.size) (hd : ∀ c ∈ s.data.toList, 48 ≤ c.toNat ∧ c.toNat ≤ 57) :
    Calls Tryz.prog 39 #[.pointer (some ⟨pz, 0, none⟩), .string s, .int .i64 10] w fun e w' => ∃ v us, e = .returned (.tuple #[.pointer (some ⟨pz, 0, none⟩), .bool true]) ∧ w'.heap[pz]? = some (.cells #[.bool false, v] 48 (0, 0)) ∧ OwnsN w' w.heap.size v us (dvl s.data.toList) ∧ us.length ≤ 5000 ∧ Put w w' lz pz := by
  have HZ : Hid (w.heap[pz]? = some (.cells #[.bool b, v0] 48 (0, 0))) := hz
  have HZl : Hid (pz < w.heap.size) := (Array.getElem?_eq_some_iff.1 hz).1
  have HD : Hid (∀ k (h : k < s.size), 48 ≤ s[k].toNat ∧ s[k].toNat ≤ 57) := fun k h => hd _ (by
    have : s[k] = s.data.toList[k]'(by simpa using h) := rfl
    rw [this]; exact List.getElem_mem _)
  have HG : Hid (∀ W, Below w.heap.size w W → ∀ a n c, Calls Tryz.prog 61 #[.pointer (some ⟨pz, 0, none⟩), .bool false, .slice a n c] W fun e w' => e = .returned (.pointer (some ⟨pz, 0, none⟩)) ∧ w'.heap[pz]? = some (.cells #[.bool false, .slice a n c] 48 (0, 0)) ∧ w'.heap.size = W.heap.size ∧ Put W w' lz pz) := fun W hb a n c =>
    give_at pz lz b v0 a n c W ((hb.block pz HZl.out).trans HZ.out) hlz
  have h0' : (0 : Int) < (s.size : Int) := by omega
  have h00 : ¬ (s.size : Int) = 0 := by omega
  have h01 : ((s.size : Int) == 0) = false := by rw [beq_eq_false_iff_ne]; omega
  obtain ⟨x0, hs0⟩ : ∃ x0 : Nat, s[0].toNat = x0 := ⟨_, rfl⟩
  have hx0 : 48 ≤ x0 ∧ x0 ≤ 57 := by rw [← hs0]; exact HD.out 0 h0
  have hx45 : ((x0 : Int) == 45) = false := by simp; omega
  have hx43 : ((x0 : Int) == 43) = false := by simp; omega
  clear hz hd
  go_enter Tryz.func39, Tryz.ntmps39
  go_wp2
  go_loopw [9, 10] (fun rv iv wr => ∃ (k : Nat) (us : List Nat), k ≤ s.size ∧ iv = .int .i64 k ∧ Hid (OwnsN wr w.heap.size rv us (dvl (s.data.toList.take k))) ∧ Hid (us.length ≤ 5 * k) ∧ Hid (Below w.heap.size w wr)) (fun _ iv _ => s.size - (intOf iv).toNat)
  case atStart => exact ⟨0, [], Nat.zero_le _, rfl, ownsN_nil _ _, by simp [Hid], Below.refl _ _⟩
  case round =>
    obtain ⟨k, us, hk, rfl, HO, HL, HB⟩ := hrel
    by_cases hlt : k < s.size
    · have hlt' : (k : Int) < (s.size : Int) := by omega
      obtain ⟨x, hsk⟩ : ∃ x : Nat, s[k].toNat = x := ⟨_, rfl⟩
      have hx : 48 ≤ x ∧ x ≤ 57 := by rw [← hsk]; exact HD.out k hlt
      obtain ⟨d, Hd⟩ : ∃ d, Hid (d = x - 48) := ⟨_, rfl⟩
      have hd : (x : Int) - 48 = (d : Int) := by have := Hd.out; omega
      have hd9 : d ≤ 9 := by have := Hd.out; omega
      have hge : (48 : Int) ≤ (x : Int) := by omega
      have hle : (x : Int) ≤ 57 := by omega
      have HDv : Hid (dvl (s.data.toList.take (k + 1)) = dvl (s.data.toList.take k) * 10 + d) := by
        show _ = _; rw [take_byte s k hlt, dvl_snoc, Hd.out, ← hsk]
      obtain ⟨ar, cr, rfl, hSr⟩ := HO.out.shows (by have := HL.out; omega)
      have HSr : Hid (ShowsW wr ar cr us) := hSr
      have hul : us.length ≤ 5000 := by have := HL.out; omega
      obtain ⟨nu, Hnu⟩ : ∃ nu, Hid (nu = us.length) := ⟨_, rfl⟩
      rw [← Hnu.out] at hul ⊢
      clear hSr
      go_wp2_with fail
      refine (words_at 10 (by omega) wr).mono ?_
      rintro e w1 ⟨v1, us1, rfl, hO1, hl1, hb1⟩
      obtain ⟨a1, c1, rfl, hS1⟩ := hO1.shows (by omega)
      have HO1 : Hid (OwnsN w1 wr.heap.size (.slice a1 us1.length c1) us1 10) := hO1
      have HS1 : Hid (ShowsW w1 a1 c1 us1) := hS1
      have HB1 : Hid (Below wr.heap.size wr w1) := hb1
      obtain ⟨n1, Hn1⟩ : ∃ n1, Hid (n1 = us1.length) := ⟨_, rfl⟩
      rw [← Hn1.out]
      clear hO1 hS1 hb1
      go_wp2_with fail
      refine (mul_at ar a1 cr c1 nu n1 us us1 (dvl (s.data.toList.take k)) 10 w1 (HSr.out.below HB1.out) HS1.out Hnu.out Hn1.out HO.out.num HO1.out.num (by have := Hn1.out; omega)).mono ?_
      rintro e w2 ⟨v2, us2, rfl, hO2, hl2, hb2⟩
      obtain ⟨a2, c2, rfl, hS2⟩ := hO2.shows (by have := Hn1.out; omega)
      have HO2 : Hid (OwnsN w2 w1.heap.size (.slice a2 us2.length c2) us2 (dvl (s.data.toList.take k) * 10)) := hO2
      have HS2 : Hid (ShowsW w2 a2 c2 us2) := hS2
      have HB2 : Hid (Below w1.heap.size w1 w2) := hb2
      have HL2 : Hid (us2.length ≤ nu + 2) := by have := Hn1.out; show _ ≤ _; omega
      obtain ⟨n2, Hn2⟩ : ∃ n2, Hid (n2 = us2.length) := ⟨_, rfl⟩
      rw [← Hn2.out]
      clear hO2 hS2 hb2 hl2
      go_wp2_with fail
      refine (words_at d (by omega) w2).mono ?_
      rintro e w3 ⟨v3, us3, rfl, hO3, hl3, hb3⟩
      obtain ⟨a3, c3, rfl, hS3⟩ := hO3.shows (by omega)
      have HO3 : Hid (OwnsN w3 w2.heap.size (.slice a3 us3.length c3) us3 d) := hO3
      have HS3 : Hid (ShowsW w3 a3 c3 us3) := hS3
      have HB3 : Hid (Below w2.heap.size w2 w3) := hb3
      obtain ⟨n3, Hn3⟩ : ∃ n3, Hid (n3 = us3.length) := ⟨_, rfl⟩
      rw [← Hn3.out]
      clear hO3 hS3 hb3
      go_wp2_with fail
      refine (add_at a2 a3 c2 c3 n2 n3 us2 us3 (dvl (s.data.toList.take k) * 10) d w3 (HS2.out.below HB3.out) HS3.out Hn2.out Hn3.out HO2.out.num HO3.out.num (by have := Hn2.out; have := Hn3.out; have := HL2.out; omega)).mono ?_
      rintro e w4 ⟨v4, us4, rfl, hO4, hl4, hb4⟩
      have HBe : Hid (Below w.heap.size w w4) := by
        have h1 := HB.out.size
        have h2 := HB1.out.size
        have h3 := HB2.out.size
        have h4 := HB3.out.size
        exact (((HB.out.trans (HB1.out.mono h1)).trans (HB2.out.mono (by omega))).trans (HB3.out.mono (by omega))).trans (hb4.mono (by omega))
      have HO4 : Hid (OwnsN w4 w.heap.size v4 us4 (dvl (s.data.toList.take (k + 1)))) := by
        have h1 := HB.out.size
        have h2 := HB1.out.size
        have h3 := HB2.out.size
        have h4 := HB3.out.size
        rw [HDv.out]; exact hO4.mono (by omega)
      have HL4 : Hid (us4.length ≤ 5 * (k + 1)) := by
        have := HL.out; have := Hnu.out; have := HL2.out; have := Hn2.out; have := Hn3.out
        show _ ≤ _; omega
      clear hO4 hl4 hb4
      go_wp2
      exact ⟨⟨k + 1, us4, by omega, by go_num, HO4, HL4, HBe⟩, by simp [intOf]; omega⟩
    · obtain rfl : k = s.size := by omega
      have hlt' : ¬ (s.size : Int) < (s.size : Int) := by omega
      obtain ⟨ar, cr, rfl, _⟩ := HO.out.shows (by have := HL.out; omega)
      obtain ⟨nu, Hnu⟩ : ∃ nu, Hid (nu = us.length) := ⟨_, rfl⟩
      have HO' : Hid (OwnsN wr w.heap.size (.slice ar nu cr) us (dvl s.data.toList)) := by
        have h := HO.out
        rw [List.take_of_length_le (by simp), ← Hnu.out] at h
        exact h
      rw [← Hnu.out]
      go_wp2_with fail
      refine (HG.out wr HB.out ar nu cr).mono ?_
      rintro e w5 ⟨rfl, h3, h4, h5⟩
      have HT : Hid (w5.heap[pz]? = some (.cells #[.bool false, .slice ar nu cr] 48 (0, 0)) ∧ OwnsN w5 w.heap.size (.slice ar nu cr) us (dvl s.data.toList) ∧ Put w w5 lz pz) := by
        have h1 := HO'.out
        refine ⟨h3, ⟨h1.own.blocks (fun k e => h5.block k (h1.own.lt e).2 (fun e2 => ?_)), h1.num, h1.room⟩, ?_, fun k hk hne => ?_⟩
        · have := (h1.own.lt e).1; have := HZl.out; omega
        · exact (HB.out.mono (by have := HZl.out; omega)).trans h5.below
        · rw [h5.block k (by have := HB.out.size; omega) hne, HB.out.block k hk]
      have HL5 : Hid (us.length ≤ 5000) := by have := HL.out; show _ ≤ _; omega
      clear h3 h4 h5
      go_wp2
      go_ret2
      exact ⟨_, us, rfl, HT.out.1, HT.out.2.1, HL5.out, HT.out.2.2⟩

end Go.Proofs.YtmbpcapjldbkbaaGreatDoor

namespace Go.Proofs.YtmbpcapjldbkbaaGreatDoor
open Go.RowKit

set_option maxHeartbeats 4000000 in
theorem whole_at (s : ByteArray) (w : World) (hs : s.size ≤ 1000) (h0 : 0 < s.size) (hd : ∀ c ∈ s.data.toList, 48 ≤ c.toNat ∧ c.toNat ≤ 57) :
    Calls Tryz.prog 25 #[.string s] w fun e w' => ∃ v us, e = .returned (.pointer (some ⟨w.heap.size, 0, none⟩)) ∧ IntAt w' w.heap.size w.heap.size v us (dvl s.data.toList) ∧ us.length ≤ 5000 ∧ Below w.heap.size w w' := by
  have HC : Hid (∀ W, W = w.alloc (.cells #[.bool false, .slice none 0 0] 48) → Calls Tryz.prog 39 #[.pointer (some ⟨w.heap.size, 0, none⟩), .string s, .int .i64 10] W fun e w' => ∃ v us, e = .returned (.tuple #[.pointer (some ⟨w.heap.size, 0, none⟩), .bool true]) ∧ Hid (IntAt w' w.heap.size w.heap.size v us (dvl s.data.toList) ∧ us.length ≤ 5000 ∧ Below w.heap.size w w')) := by
    rintro W rfl
    refine (BSetString_at w.heap.size w.heap.size false (.slice none 0 0) s _ (heap_alloc_new _ _) (Nat.le_refl _) hs h0 hd).mono ?_
    rintro e w' ⟨v, us, rfl, h1, h2, h3, h4⟩
    exact ⟨v, us, rfl, ⟨h1, h2.mono (by simp)⟩, h3, ((Below.refl _ _).alloc (Nat.le_refl _) _).trans h4.below⟩
  clear hs h0 hd
  go_enter Tryz.func25, Tryz.ntmps25
  go_wp2_with fail
  refine (HC.out _ rfl).mono ?_
  rintro e w1 ⟨v, us, rfl, HT⟩
  go_wp2
  go_ret
  exact ⟨v, us, rfl, HT.out.1, HT.out.2.1, HT.out.2.2⟩

end Go.Proofs.YtmbpcapjldbkbaaGreatDoor
