/-
  The contract of the reference's mul: the product of two whole numbers.
  The contract of ferrersbig.small.
-/
import Derived.Test.YtgcpconlmihilaaGreatDoorAAdd
import Derived.Lib.EndianBits
namespace Go.Proofs.YtgcpconlmihilaaGreatDoor
open Go.RowKit

theorem val_set : ∀ (l : List Nat) (k u : Nat), k < l.length → val (l.set k u) + 4294967296 ^ k * l.getD k 0 = val l + 4294967296 ^ k * u
  | [], k, _, h => by simp at h
  | z :: l, 0, u, _ => by simp [val]; omega
  | z :: l, k + 1, u, h => by
    have ih := val_set l k u (by simpa using h)
    simp only [List.set_cons_succ, val, List.getD_cons_succ, Nat.pow_succ]
    rw [Nat.mul_comm (4294967296 ^ k) 4294967296, Nat.mul_assoc, Nat.mul_assoc]
    omega
theorem wd_set {l : List Nat} {k u : Nat} (h : Wd l) (hu : u < 4294967296) : Wd (l.set k u) := fun z hz => by
  rcases List.mem_or_eq_of_mem_set hz with q | q
  · exact h z q
  · omega
theorem bset_getD (l : List Nat) (k u j : Nat) : (l.set k u).getD j 0 = if k = j ∧ k < l.length then u else l.getD j 0 := by
  simp only [List.getD, List.getElem?_set]
  by_cases h : k = j
  · subst h
    by_cases h2 : k < l.length
    · simp [h2]
    · simp [h2]
  · simp [h]
/-- One step of the inner loop. -/
theorem bmul_step {rs : List Nat} {k q c p z r d V W : Nat} (hl : k + q < rs.length) (hz : z = rs.getD (k + q) 0) (h : val rs + c * 4294967296 ^ (k + q) = V) (hr : r = (c + (p + z)) % 4294967296) (hd : d = (c + (p + z)) / 4294967296) (hW : W = V + p * 4294967296 ^ (k + q)) :
    val (rs.set (k + q) r) + d * 4294967296 ^ (k + q + 1) = W := by
  have e := val_set rs (k + q) r hl
  rw [← hz] at e
  have hs : d * 4294967296 + r = c + (p + z) := by omega
  have h2 : (d * 4294967296 + r) * 4294967296 ^ (k + q) = (c + (p + z)) * 4294967296 ^ (k + q) := by rw [hs]
  simp only [Nat.add_mul] at h2
  rw [Nat.pow_succ, Nat.mul_comm (4294967296 ^ (k + q)) 4294967296, ← Nat.mul_assoc, hW, ← h]
  rw [Nat.mul_comm (4294967296 ^ (k + q)) z, Nat.mul_comm (4294967296 ^ (k + q)) r] at e
  omega

set_option maxHeartbeats 4000000 in
set_option maxRecDepth 100000 in
theorem mul_some (a b : Option Addr) (ca cb n m : Nat) (xs ys : List Nat) (w : World) (ha : ShowsW w a ca xs) (hb : ShowsW w b cb ys) (hn : n = xs.length) (hm : m = ys.length) (h0 : 0 < n) (h1 : 0 < m) (hf : n + m ≤ 900000) :
    Calls Tryz.prog 58 #[.slice a n ca, .slice b m cb] w fun e w' => ∃ v us, e = .returned v ∧ OwnsN w' w.heap.size v us (val xs * val ys) ∧ us.length ≤ n + m ∧ Below w.heap.size w w' := by
  have HX : Hid (n = xs.length) := hn
  have HY : Hid (m = ys.length) := hm
  have HSx : Hid (ShowsW w a ca xs) := ha
  have HSy : Hid (ShowsW w b cb ys) := hb
  obtain ⟨N, hN⟩ : ∃ N, N = n + m := ⟨_, rfl⟩
  have hN1 : (n : Int) + (m : Int) = (N : Int) := by omega
  have hN9 : N ≤ 900000 := by omega
  have hn9 : n ≤ 900000 := by omega
  have hm9 : m ≤ 900000 := by omega
  have HN : Hid (N = n + m) := hN
  have hn0 : ((n : Int) == 0) = false := by simp; omega
  have hm0 : ((m : Int) == 0) = false := by simp; omega
  have hn0' : ¬ (n : Int) = 0 := by omega
  have hm0' : ¬ (m : Int) = 0 := by omega
  clear hn hm ha hb hN
  obtain ⟨i0, hi, hz0, hz1, hz2⟩ := info_parts Tryz.infoW
  go_enter Tryz.func58, Tryz.ntmps58
  go_wp2_with (at_make; refine wpList_make_full _ rfl _ _ 44 rfl w.heap.size 89 i0 (.int .u32 0) 1 Tryz.underlying44 hi hz0 hz1 _ _ _ _ N rfl rfl rfl rfl ?b1 ?b2 ?b3 ?_)
  case b1 => first | omega | (rw [hz2]; omega)
  case b2 => first | omega | (unfold maxLen; omega)
  try (case b3 => exact Nat.le_refl _)
  intro w1 hown hgrow
  have HB1 : Hid (Below w.heap.size w w1) := (Below.refl _ _).grown hgrow (Nat.le_refl _) (fun k h => by cases h)
  have HO1 : Hid (OwnsW w1 w.heap.size (.slice (some ⟨w.heap.size, 0, none⟩) N N) (List.replicate N 0)) := ownsW_made (by simpa [Value.cells] using hown)
  have HV1 : Hid (val (List.replicate N 0) = val (xs.take 0) * val ys) := by
    show _ = _
    have : ∀ n, val (List.replicate n 0) = 0 := by
      intro n
      induction n with
      | zero => rfl
      | succ n ih => rw [List.replicate_succ, val, ih]
    rw [this]; simp [val]
  clear hown hgrow
  generalize HGe : w.heap.size = G at *
  have HGw : Hid (w.heap.size = G) := HGe
  clear HGe
  go_wp2
  go_loopw [6] (fun i wr => ∃ (k : Nat) (rs : List Nat), k ≤ n ∧ i = .int .i64 k ∧ Hid (rs.length = N) ∧ Hid (Wd rs) ∧ Hid (∀ j, k + m ≤ j → rs.getD j 0 = 0) ∧ Hid (val rs = val (xs.take k) * val ys) ∧ Hid (OwnsW wr G (.slice (some ⟨G, 0, none⟩) N N) rs) ∧ Hid (Below G w wr)) (fun i _ => n - (intOf i).toNat)
  case atStart => exact ⟨0, List.replicate N 0, Nat.zero_le _, rfl, List.length_replicate, fun u hu => by rw [List.eq_of_mem_replicate hu]; omega, fun j _ => by simp only [List.getD, List.getElem?_replicate]; split <;> rfl, HV1, HO1, HB1⟩
  case round =>
    obtain ⟨k, rs, hk, rfl, HRl, HRw, HZ, HV, HO, HB⟩ := hrel
    by_cases hkn : k < n
    · have hkn' : (k : Int) < (n : Int) := by omega
      have HKx : Hid (k < xs.length) := by rw [← HX.out]; exact hkn
      obtain ⟨bx, ox, u, hax, HU, hu, -, hcx0⟩ := HSx.out.elem HKx.out
      subst hax
      have HCx : Hid (∀ W, Below G w W → W.cell? ⟨bx, ox + k, none⟩ = some (.int .u32 (u : Int))) := fun W hW => by
        rw [← HGw.out] at hW
        rw [hW.cell (p := ⟨bx, ox + k, none⟩) (World.block_lt_of_cell? w _ hcx0)]; exact hcx0
      clear hcx0
      have HV0 : Hid (val rs + 0 * 4294967296 ^ (k + 0) = val (xs.take k) * val ys + u * 4294967296 ^ k * val (ys.take 0)) := by
        show _ = _; rw [HV.out]; simp [val]
      go_wp2
      go_loopw [7, 8] (fun c jv wi => ∃ (q cc : Nat) (ri : List Nat), q ≤ m ∧ cc < 4294967296 ∧ jv = .int .i64 q ∧ c = .int .u64 cc ∧ Hid (ri.length = N) ∧ Hid (Wd ri) ∧ Hid (∀ j, k + m ≤ j → ri.getD j 0 = 0) ∧ Hid (val ri + cc * 4294967296 ^ (k + q) = val (xs.take k) * val ys + u * 4294967296 ^ k * val (ys.take q)) ∧ Hid (OwnsW wi G (.slice (some ⟨G, 0, none⟩) N N) ri) ∧ Hid (Below G w wi)) (fun _ jv _ => m - (intOf jv).toNat)
      case atStart => exact ⟨0, 0, rs, Nat.zero_le _, by omega, rfl, rfl, HRl, HRw, HZ, HV0, HO, HB⟩
      case round =>
        obtain ⟨q, cc, ri, hq, hcc, rfl, rfl, HIl, HIw, HIz, HIv, HIo, HIb⟩ := hrel
        by_cases hqm : q < m
        · have hqm' : (q : Int) < (m : Int) := by omega
          have HKy : Hid (q < ys.length) := by rw [← HY.out]; exact hqm
          obtain ⟨by_, oy, v, hay, HVv, hv, -, hcy⟩ := (HSy.out.below (by rw [HGw.out]; exact HIb.out)).elem HKy.out
          subst hay
          have hcx := HCx.out _ HIb.out
          obtain ⟨kq, Hkq⟩ : ∃ kq, Hid (kq = k + q) := ⟨_, rfl⟩
          have hkq : (k : Int) + (q : Int) = (kq : Int) := by have := Hkq.out; omega
          have hkqN : kq < N := by have := Hkq.out; have := HN.out; omega
          have hkqN' : (kq : Int) < (N : Int) := by omega
          obtain ⟨hfz, hcz⟩ := HIo.out.at HIl.out.symm (j := kq) (by rw [HIl.out]; exact hkqN)
          obtain ⟨z, Hz⟩ : ∃ z, Hid (z = ri.getD kq 0) := ⟨_, rfl⟩
          rw [← Hz.out] at hcz
          have hz : z < 4294967296 := by
            rw [Hz.out, List.getD, List.getElem?_eq_getElem (by rw [HIl.out]; exact hkqN)]; exact HIw.out _ (List.getElem_mem _)
          obtain ⟨p, Hp⟩ : ∃ p, Hid (p = u * v) := ⟨_, rfl⟩
          have hp : (u : Int) * (v : Int) = (p : Int) := by rw [Hp.out]; simp
          have hp2 : p ≤ 18446744065119617025 := by rw [Hp.out]; exact Nat.mul_le_mul (show u ≤ 4294967295 by omega) (show v ≤ 4294967295 by omega)
          obtain ⟨r, hr⟩ : ∃ r, r = (cc + (p + z)) % 4294967296 := ⟨_, rfl⟩
          obtain ⟨d, hd⟩ : ∃ d, d = (cc + (p + z)) / 4294967296 := ⟨_, rfl⟩
          have HNv : Hid (val (ri.set kq r) + d * 4294967296 ^ (k + (q + 1)) = val (xs.take k) * val ys + u * 4294967296 ^ k * val (ys.take (q + 1))) := by
            rw [Hkq.out]
            refine bmul_step (by rw [HIl.out, ← Hkq.out]; exact hkqN) (by rw [← Hkq.out]; exact Hz.out) HIv.out hr hd ?_
            rw [val_take HKy.out, ← HVv.out, Hp.out, Nat.mul_add, Nat.add_assoc]
            congr 1
            congr 1
            rw [Nat.pow_add]
            ac_rfl
          have hd2 : d < 4294967296 := by omega
          have HR : Hid (((cc : Int) + ((p : Int) + (z : Int))) % 4294967296 = (r : Int)) := by show _ = _; omega
          have HD : Hid (((cc : Int) + ((p : Int) + (z : Int))) / 4294967296 = (d : Int)) := by show _ = _; omega
          have hr2 : r < 4294967296 := by omega
          clear hr hd
          have HO2 : Hid (OwnsW (wr.setCell ⟨G, kq, none⟩ (.int .u32 (r : Int))).drew G (.slice (some ⟨G, 0, none⟩) N N) (ri.set kq r)) := (HIo.out.store HIl.out.symm kq r).below (below_drewN (Below.refl _ _) 1)
          have HB2 : Hid (Below G w (wr.setCell ⟨G, kq, none⟩ (.int .u32 (r : Int))).drew) := below_drewN (HIb.out.setCell (p := ⟨G, kq, none⟩) (Nat.le_refl _) _) 1
          have HW2 : Hid (Wd (ri.set kq r)) := wd_set HIw.out hr2
          have HL2 : Hid ((ri.set kq r).length = N) := by show _ = _; rw [List.length_set]; exact HIl.out
          have HZ2 : Hid (∀ j, k + m ≤ j → (ri.set kq r).getD j 0 = 0) := fun j hj => by
            rw [bset_getD, if_neg (fun c => by have := Hkq.out; omega)]; exact HIz.out j hj
          unfold wv at hcz
          go_wp2_with fail
          go_region
          all_goals go_wp2
          all_goals rw [HR.out, HD.out]
          all_goals exact ⟨⟨q + 1, d, ri.set kq r, by omega, hd2, by go_num, rfl, HL2, HW2, HZ2, HNv, HO2, HB2⟩, by simp [intOf]; omega⟩
        · obtain rfl : m = q := by omega
          have hqm' : ¬ (m : Int) < (m : Int) := by omega
          obtain ⟨km, Hkm⟩ : ∃ km, Hid (km = k + m) := ⟨_, rfl⟩
          have hkm : (k : Int) + (m : Int) = (km : Int) := by have := Hkm.out; omega
          have hkmN : km < N := by have := Hkm.out; have := HN.out; omega
          have hkmN' : (km : Int) < (N : Int) := by omega
          obtain ⟨hfz, hcz⟩ := HIo.out.at HIl.out.symm (j := km) (by rw [HIl.out]; exact hkmN)
          have hc0 : (cc : Int) % 4294967296 = (cc : Int) := by omega
          have HO2 : Hid (OwnsW (wr.setCell ⟨G, km, none⟩ (.int .u32 (cc : Int))) G (.slice (some ⟨G, 0, none⟩) N N) (ri.set km cc)) := HIo.out.store HIl.out.symm km cc
          have HB2 : Hid (Below G w (wr.setCell ⟨G, km, none⟩ (.int .u32 (cc : Int)))) := HIb.out.setCell (p := ⟨G, km, none⟩) (Nat.le_refl _) _
          have HW2 : Hid (Wd (ri.set km cc)) := wd_set HIw.out hcc
          have HL2 : Hid ((ri.set km cc).length = N) := by show _ = _; rw [List.length_set]; exact HIl.out
          have HZ2 : Hid (∀ j, k + 1 + m ≤ j → (ri.set km cc).getD j 0 = 0) := fun j hj => by
            rw [bset_getD, if_neg (fun c => by have := Hkm.out; omega)]; exact HIz.out j (by omega)
          have HNv : Hid (val (ri.set km cc) = val (xs.take (k + 1)) * val ys) := by
            have h1 := val_set ri km cc (by rw [HIl.out]; exact hkmN)
            rw [HIz.out km (by have := Hkm.out; omega), Nat.mul_zero, Nat.add_zero] at h1
            have h2 := HIv.out
            rw [← Hkm.out, List.take_of_length_le (l := ys) (by rw [← HY.out]; exact Nat.le_refl _)] at h2
            show _ = _
            rw [h1, Nat.mul_comm, h2, val_take HKx.out, ← HU.out, Nat.add_mul, Nat.mul_comm u]
          unfold wv at hcz
          go_wp2
          exact ⟨⟨k + 1, ri.set km cc, by omega, by go_num, HL2, HW2, HZ2, HNv, HO2, HB2⟩, by simp [intOf]; omega⟩
    · obtain rfl : n = k := by omega
      have hkn' : ¬ (n : Int) < (n : Int) := by omega
      have HVl : Hid (val rs = val xs * val ys) := by
        have h1 := HV.out
        rw [List.take_of_length_le (l := xs) (by rw [← HX.out]; exact Nat.le_refl _)] at h1
        exact h1
      go_wp2_with fail
      obtain ⟨a3, c3, hv3, hS3⟩ := HO.out.shows (by rw [HRl.out]; omega) HRw.out (fun a5 n5 cap5 h _ => by simp only [Value.slice.injEq] at h; have := HN.out; have := h.2.2; omega)
      simp only [Value.slice.injEq] at hv3
      obtain ⟨rfl, -, rfl⟩ := hv3
      have HT3 := ownsN_trim HO.out HRw.out (by have := HN.out; omega)
      rw [HVl.out] at HT3
      have HT4 : Hid (OwnsN wr G (.slice (some ⟨G, 0, none⟩) (norm rs).length N) (norm rs) (val xs * val ys)) := HT3
      have HL4 : Hid ((norm rs).length ≤ n + m) := by show _ ≤ _; have := norm_len rs; rw [HRl.out, HN.out] at this; exact this
      clear HT3
      refine (trim_at _ _ _ _ _ hS3 HRl.out.symm).mono ?_
      rintro e w' ⟨rfl, rfl⟩
      go_wp2
      go_ret
      exact ⟨_, _, rfl, by rw [HGw.out]; exact HT4.out, HL4.out, by rw [HGw.out]; exact HB.out⟩

theorem ownsN_nil (w : World) (base : Nat) : OwnsN w base (.slice none 0 0) [] 0 := ⟨World.ownsRow_nil _ _ _ _, num_nil, fun a n cap e h => by simp only [Value.slice.injEq] at e; exact absurd e.1.symm h⟩
set_option maxHeartbeats 1000000 in
theorem mul_left0 (a b : Option Addr) (ca cb m : Nat) (w : World) :
    Calls Tryz.prog 58 #[.slice a 0 ca, .slice b m cb] w fun e w' => e = .returned (.slice none 0 0) ∧ w' = w := by
  go_enter Tryz.func58, Tryz.ntmps58
  go_wp2
  go_ret
  exact ⟨rfl, rfl⟩
set_option maxHeartbeats 1000000 in
theorem mul_right0 (a b : Option Addr) (ca cb n : Nat) (w : World) (h : 0 < n) :
    Calls Tryz.prog 58 #[.slice a n ca, .slice b 0 cb] w fun e w' => e = .returned (.slice none 0 0) ∧ w' = w := by
  have hn0 : ((n : Int) == 0) = false := by simp; omega
  have hn0' : ¬ (n : Int) = 0 := by omega
  go_enter Tryz.func58, Tryz.ntmps58
  go_wp2
  go_ret
  exact ⟨rfl, rfl⟩
theorem mul_at (a b : Option Addr) (ca cb n m : Nat) (xs ys : List Nat) (x y : Nat) (w : World) (ha : ShowsW w a ca xs) (hb : ShowsW w b cb ys) (hn : n = xs.length) (hm : m = ys.length) (hx : Num xs x) (hy : Num ys y) (hf : n + m ≤ 900000) :
    Calls Tryz.prog 58 #[.slice a n ca, .slice b m cb] w fun e w' => ∃ v us, e = .returned v ∧ OwnsN w' w.heap.size v us (x * y) ∧ us.length ≤ n + m ∧ Below w.heap.size w w' := by
  rcases Nat.eq_zero_or_pos n with h0 | h0
  · have hx0 : x = 0 := (num_zero hx).1 (List.eq_nil_of_length_eq_zero (by omega))
    subst h0
    refine (mul_left0 a b ca cb m w).mono ?_
    rintro e w' ⟨rfl, rfl⟩
    exact ⟨_, [], rfl, by rw [hx0, Nat.zero_mul]; exact ownsN_nil _ _, by simp, Below.refl _ _⟩
  · rcases Nat.eq_zero_or_pos m with h1 | h1
    · have hy0 : y = 0 := (num_zero hy).1 (List.eq_nil_of_length_eq_zero (by omega))
      subst h1
      refine (mul_right0 a b ca cb n w h0).mono ?_
      rintro e w' ⟨rfl, rfl⟩
      exact ⟨_, [], rfl, by rw [hy0, Nat.mul_zero]; exact ownsN_nil _ _, by simp, Below.refl _ _⟩
    · rw [← hx.eq, ← hy.eq]
      exact mul_some a b ca cb n m xs ys w ha hb hn hm h0 h1 hf

end Go.Proofs.YtgcpconlmihilaaGreatDoor

namespace Go.Proofs.YtgcpconlmihilaaGreatDoor
open Go.RowKit

/-- Noughts, then the words so far. -/
def behind (n : Nat) (qs : List Nat) : List Nat := List.replicate n 0 ++ qs
theorem behind_len (n : Nat) (qs : List Nat) : (behind n qs).length = n + qs.length := by simp [behind]
theorem behind_set (n : Nat) (qs : List Nat) (x : Nat) : (behind (n + 1) qs).set n x = behind n (x :: qs) := by
  induction n with
  | zero => rfl
  | succ n ih =>
    have : behind (n + 1 + 1) qs = 0 :: behind (n + 1) qs := rfl
    rw [this, List.set_cons_succ, ih]; rfl
/-- One step of a division by a word. -/
theorem small_step {V c u d t r Q : Nat} (h : V = Q * d + c) (ht : t = c * 4294967296 + u) (hr : r = t % d) :
    u + 4294967296 * V = (t / d + 4294967296 * Q) * d + r := by
  have e := Nat.div_add_mod t d
  rw [← hr] at e
  rw [h, Nat.add_mul, Nat.mul_add]
  have h1 : t / d * d = d * (t / d) := Nat.mul_comm _ _
  have h2 : 4294967296 * (Q * d) = 4294967296 * Q * d := (Nat.mul_assoc _ _ _).symm
  omega
theorem small_lt {c u d t : Nat} (hc : c < d) (hu : u < 4294967296) (ht : t = c * 4294967296 + u) : t / d < 4294967296 := by
  rw [Nat.div_lt_iff_lt_mul (by omega)]
  have : (c + 1) * 4294967296 ≤ d * 4294967296 := Nat.mul_le_mul_right _ hc
  rw [Nat.mul_comm 4294967296 d]
  omega
theorem val_drop {l : List Nat} {k : Nat} (h : k < l.length) : val (l.drop k) = l.getD k 0 + 4294967296 * val (l.drop (k + 1)) := by
  rw [List.drop_eq_getElem_cons h, val]
  simp [List.getD, List.getElem?_eq_getElem h]

set_option maxHeartbeats 4000000 in
set_option maxRecDepth 100000 in
theorem small_at (a : Option Addr) (ca n d : Nat) (xs : List Nat) (x : Nat) (w : World) (ha : ShowsW w a ca xs) (hn : n = xs.length) (h0 : 0 < n) (hx : Num xs x) (hd0 : 0 < d) (hd : d < 4294967296) :
    Calls Tryz.prog 87 #[.slice a n ca, .int .u32 (d : Int)] w fun e w' => ∃ v us, e = .returned (.tuple #[v, .int .u32 ((x % d : Nat) : Int)]) ∧ OwnsN w' w.heap.size v us (x / d) ∧ us.length ≤ n ∧ Below w.heap.size w w' := by
  have HX : Hid (n = xs.length) := hn
  have hn6 : n ≤ 1000000 := by rw [hn]; exact ha.few
  have HSx : Hid (ShowsW w a ca xs) := ha
  have HNx : Hid (Num xs x) := hx
  clear hn ha hx
  obtain ⟨i0, hi, hz0, hz1, hz2⟩ := info_parts Tryz.infoW
  go_enter Tryz.func87, Tryz.ntmps87
  go_wp2_with (at_make; refine wpList_make_full _ rfl _ _ 44 rfl w.heap.size 89 i0 (.int .u32 0) 1 Tryz.underlying44 hi hz0 hz1 _ _ _ _ n rfl rfl rfl rfl ?b1 ?b2 ?b3 ?_)
  case b1 => first | omega | (rw [hz2]; omega)
  case b2 => first | omega | (unfold maxLen; omega)
  try (case b3 => exact Nat.le_refl _)
  intro w1 hown hgrow
  have HB1 : Hid (Below w.heap.size w w1) := (Below.refl _ _).grown hgrow (Nat.le_refl _) (fun k h => by cases h)
  have HO1 : Hid (OwnsW w1 w.heap.size (.slice (some ⟨w.heap.size, 0, none⟩) n n) (behind n [])) := by
    have := ownsW_made (w := w1) (base := w.heap.size) (g := w.heap.size) (n := n) (by simpa [Value.cells] using hown)
    simpa [Hid, behind] using this
  clear hown hgrow
  go_wp2
  go_loopw [7, 8] (fun c i wr => ∃ (k cc : Nat) (qs : List Nat), k ≤ n ∧ cc < d ∧ i = .int .i64 ((k : Int) - 1) ∧ c = .int .u64 cc ∧ Hid (qs.length = n - k) ∧ Hid (Wd qs) ∧ Hid (val (xs.drop k) = val qs * d + cc) ∧ Hid (OwnsW wr w.heap.size (.slice (some ⟨w.heap.size, 0, none⟩) n n) (behind k qs)) ∧ Hid (Below w.heap.size w wr)) (fun _ i _ => (intOf i + 1).toNat)
  case atStart => exact ⟨n, 0, [], Nat.le_refl _, hd0, by first | rfl | go_num, rfl, by simp [Hid], fun _ h => by simp at h, by rw [HX.out, List.drop_length]; simp [Hid, val], HO1, HB1⟩
  case round =>
    obtain ⟨k, cc, qs, hk, hcc, rfl, rfl, HQl, HQw, HV, HO, HB⟩ := hrel
    have HPl : Hid (n = (behind k qs).length) := by show _ = _; rw [behind_len, HQl.out]; omega
    by_cases hk0 : 0 < k
    · obtain ⟨m, hm⟩ : ∃ m, m = k - 1 := ⟨_, rfl⟩
      have hm1 : (k : Int) - 1 = (m : Int) := by omega
      have HKm : Hid (k = m + 1) := by show _ = _; omega
      have hmn : (m : Int) < (n : Int) := by omega
      have HKx : Hid (m < xs.length) := by rw [← HX.out]; show _ < _; omega
      obtain ⟨bx, ox, u, hax, HU, hu, -, hcx⟩ := (HSx.out.below HB.out).elem HKx.out
      subst hax
      obtain ⟨hfz, hcz⟩ := HO.out.at HPl.out (j := m) (by rw [← HPl.out]; omega)
      unfold wv at hcz
      obtain ⟨t, ht⟩ : ∃ t, t = cc * 4294967296 + u := ⟨_, rfl⟩
      have HOr : Hid (bits BinOp.or IntKind.u64 ((cc : Int) * 4294967296) (u : Int) = (t : Int)) := by
        show _ = _
        rw [bits_join .u64 64 (by decide) wraps_u64 32 _ _ (by omega) (by omega) (by omega) (by omega) (by omega) (by omega), ht]
        omega
      obtain ⟨s, hs⟩ : ∃ s, s = t / d := ⟨_, rfl⟩
      obtain ⟨r, hr⟩ : ∃ r, r = t % d := ⟨_, rfl⟩
      have hs2 : s < 4294967296 := by rw [hs]; exact small_lt hcc hu ht
      have hr2 : r < d := by rw [hr]; exact Nat.mod_lt _ hd0
      have HTm : Hid ((t : Int).tmod (d : Int) = (r : Int)) := by show _ = _; rw [hr]; rfl
      have HTd : Hid (IntKind.u64.wrap ((t : Int).tdiv (d : Int)) % 4294967296 = (s : Int)) := by
        show _ = _
        have e : (t : Int).tdiv (d : Int) = (s : Int) := by rw [hs]; rfl
        rw [e, wraps_u64 _ (by omega) (by omega)]; omega
      have HNv : Hid (val (xs.drop m) = val (s :: qs) * d + r) := by
        show _ = _
        have h1 := HV.out
        rw [HKm.out] at h1
        rw [val_drop HKx.out, ← HU.out, val, hs]
        exact small_step h1 ht hr
      have HQl2 : Hid ((s :: qs).length = n - m) := by show _ = _; rw [List.length_cons, HQl.out]; have := HKm.out; omega
      have HQw2 : Hid (Wd (s :: qs)) := fun z hz => by
        rw [List.mem_cons] at hz
        rcases hz with rfl | hz
        · exact hs2
        · exact HQw.out z hz
      have HO2 : Hid (OwnsW (wr.setCell ⟨w.heap.size, m, none⟩ (.int .u32 (s : Int))) w.heap.size (.slice (some ⟨w.heap.size, 0, none⟩) n n) (behind m (s :: qs))) := by
        have h1 := HO.out.store HPl.out m s
        rw [HKm.out, behind_set] at h1
        exact h1
      have HB2 : Hid (Below w.heap.size w (wr.setCell ⟨w.heap.size, m, none⟩ (.int .u32 (s : Int)))) := HB.out.setCell (p := ⟨w.heap.size, m, none⟩) (Nat.le_refl _) _
      have hmk : m < k := by omega
      rw [hm1]
      clear hm hm1 ht hs hr hs2
      go_wp2_with fail
      rw [HOr.out, HTm.out, HTd.out]
      refine ⟨⟨m, r, s :: qs, by omega, hr2, rfl, rfl, HQl2, HQw2, HNv, HO2, HB2⟩, ?_⟩
      simp [intOf]; try omega
    · obtain rfl : k = 0 := by omega
      have e0 : behind 0 qs = qs := by simp [behind]
      have HOw : Hid (OwnsW wr w.heap.size (.slice (some ⟨w.heap.size, 0, none⟩) n n) qs) := by have := HO.out; rw [e0] at this; exact this
      have HVx : Hid (x = val qs * d + cc) := by
        show _ = _
        have := HV.out
        rw [List.drop_zero, HNx.out.eq] at this; exact this
      have HDv : Hid (x / d = val qs) := by
        show _ = _
        rw [HVx.out, Nat.mul_comm, Nat.mul_add_div hd0, Nat.div_eq_of_lt hcc, Nat.add_zero]
      have HMd : Hid (x % d = cc) := by
        show _ = _
        rw [HVx.out, Nat.mul_comm, Nat.mul_add_mod, Nat.mod_eq_of_lt hcc]
      have hc0 : (cc : Int) % 4294967296 = (cc : Int) := by omega
      have hm1 : ((0 : Nat) : Int) - 1 = -1 := rfl
      rw [hm1]
      obtain ⟨a3, c3, hv3, hS3⟩ := HOw.out.shows (by rw [HQl.out]; omega) HQw.out (fun a5 n5 cap5 h _ => by simp only [Value.slice.injEq] at h; have := h.2.2; omega)
      simp only [Value.slice.injEq] at hv3
      obtain ⟨rfl, hn3, rfl⟩ := hv3
      have HT4 : Hid (OwnsN wr w.heap.size (.slice (some ⟨w.heap.size, 0, none⟩) (norm qs).length n) (norm qs) (val qs)) := ownsN_trim HOw.out HQw.out (by omega)
      have HL4 : Hid ((norm qs).length ≤ n) := by show _ ≤ _; have := norm_len qs; omega
      have HN3 : Hid (n = qs.length) := hn3
      clear hn3 hm1 e0 hk0
      go_wp2_with fail
      refine (trim_at _ _ _ _ _ hS3 HN3.out).mono ?_
      rintro e w' ⟨rfl, rfl⟩
      go_wp2
      go_ret2
      exact ⟨_, _, by rw [HMd.out]; rfl, by rw [HDv.out]; exact HT4.out, HL4.out, HB.out⟩

end Go.Proofs.YtgcpconlmihilaaGreatDoor
