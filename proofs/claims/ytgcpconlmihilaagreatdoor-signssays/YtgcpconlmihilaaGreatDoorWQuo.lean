/-
  The contract of wide.greatestCommon.
  A quotient of products, lowered factor by factor.
  The contract of wide.lowered.
  The contracts of a Number's text and of wide.Quotient.
-/
import Derived.Test.YtgcpconlmihilaaGreatDoorTTab
import Derived.BigQuiet
import Derived.Deep.DeepCutAuto
import Derived.Test.YtgcpconlmihilaaGreatDoorRyE
import Derived.Test.YtgcpconlmihilaaGreatDoorBOwn
import Derived.Test.YtgcpconlmihilaaGreatDoorHTxt
import Derived.Deep.RegionLaw
namespace Go.Proofs.YtgcpconlmihilaaGreatDoor
open Go.RowKit

theorem hid_g {p : Prop} (h : p) : Hid p := h

set_option maxHeartbeats 2000000 in
theorem gcd_at (a b : Nat) (w : World) (ha : a ≤ 4611686018427387904) (hb : b ≤ 4611686018427387904) :
    Calls Tryz.prog 54 #[.int .i64 a, .int .i64 b] w fun e w' => e = .returned (.int .i64 ((Nat.gcd a b : Nat) : Int)) ∧ ∃ n, w' = w.drewN n := by
  obtain ⟨G, HG⟩ : ∃ G, Hid (G = Nat.gcd a b) := ⟨_, rfl⟩
  rw [← HG.out]
  go_enter Tryz.func54, Tryz.ntmps54
  go_wp2
  go_loopw [0, 1] (fun s0 s1 wr => ∃ x y : Nat, x ≤ 4611686018427387904 ∧ y ≤ 4611686018427387904 ∧ s0 = .int .i64 (x : Int) ∧ s1 = .int .i64 (y : Int) ∧ Hid (G = Nat.gcd x y) ∧ Hid (∃ n, wr = w.drewN n)) (fun _ s1 _ => (intOf s1).toNat)
  case atStart => exact ⟨a, b, ha, hb, rfl, rfl, HG, 0, rfl⟩
  case round =>
    obtain ⟨x, y, hx, hy, rfl, rfl, HXY, HW⟩ := hrel
    by_cases h0 : y = 0
    · subst h0
      have HE : Hid (G = x) := by show _ = _; rw [HXY.out, Nat.gcd_zero_right]
      go_wp2
      go_ret
      exact ⟨by rw [HE.out]; rfl, HW.out⟩
    · have hne : ¬ ((y : Int) = 0) := by omega
      obtain ⟨z, HZ⟩ : ∃ z, Hid (z = x % y) := ⟨_, rfl⟩
      have hz : z < y := by rw [HZ.out]; exact Nat.mod_lt _ (by omega)
      have hmod : Int.tmod (x : Int) (y : Int) = (z : Int) := by rw [HZ.out]; rfl
      have HXZ : Hid (G = Nat.gcd y z) := by show _ = _; rw [HXY.out, HZ.out, Nat.gcd_comm, Nat.gcd_rec, Nat.gcd_comm]
      go_upto_region 2 with fail
      go_quiet (fail)
      go_wp2
      go_roundw
      case rel => exact ⟨y, z, hy, by omega, rfl, by first | rfl | (simp [hmod]; done) | skip, HXZ, by obtain ⟨n, hn⟩ := HW.out; exact ⟨_, by rw [hn]; exact drewN_two _ _ _⟩⟩
      case measure => simp [intOf]; omega

end Go.Proofs.YtgcpconlmihilaaGreatDoor

namespace Go.Proofs.YtgcpconlmihilaaGreatDoor

def pL : List Nat → Nat
  | [] => 1
  | a :: l => a * pL l
theorem pL_app (l m : List Nat) : pL (l ++ m) = pL l * pL m := by
  induction l with
  | nil => simp [pL]
  | cons a l ih => rw [List.cons_append, pL, pL, ih, Nat.mul_assoc]
theorem pL_pos {l : List Nat} (h : ∀ a ∈ l, 0 < a) : 0 < pL l := by
  induction l with
  | nil => exact Nat.one_pos
  | cons a l ih => exact Nat.mul_pos (h a (by simp)) (ih fun b hb => h b (by simp [hb]))
/-- What d has in common with the numbers, one behind the other, is taken out of both. -/
def lwd : Nat → List Nat → List Nat × Nat
  | d, [] => ([], d)
  | d, f :: l => (f / Nat.gcd f d :: (lwd (d / Nat.gcd f d) l).1, (lwd (d / Nat.gcd f d) l).2)
theorem lwd_dvd : ∀ (l : List Nat) (d : Nat), (lwd d l).2 ∣ d
  | [], d => Nat.dvd_refl _
  | f :: l, d => by rw [lwd]; exact Nat.dvd_trans (lwd_dvd l _) (Nat.div_dvd_of_dvd (Nat.gcd_dvd_right f d))
theorem lwd_pos : ∀ (l : List Nat) (d : Nat), 0 < d → 0 < (lwd d l).2 := fun l _ h => Nat.pos_of_dvd_of_pos (lwd_dvd l _) h
theorem lwd_len : ∀ (l : List Nat) (d : Nat), (lwd d l).1.length = l.length
  | [], _ => rfl
  | f :: l, d => by rw [lwd, List.length_cons, List.length_cons, lwd_len l]
theorem lwd_prod : ∀ (l : List Nat) (d : Nat), 0 < d → pL (lwd d l).1 * d = pL l * (lwd d l).2
  | [], d, _ => by simp [pL, lwd]
  | f :: l, d, h => by
    have hg : 0 < Nat.gcd f d := Nat.gcd_pos_of_pos_right _ h
    have h1 := Nat.div_mul_cancel (Nat.gcd_dvd_left f d)
    have h2 := Nat.div_mul_cancel (Nat.gcd_dvd_right f d)
    have ih := lwd_prod l (d / Nat.gcd f d) (Nat.div_pos (Nat.le_of_dvd h (Nat.gcd_dvd_right f d)) hg)
    rw [lwd]
    show (f / Nat.gcd f d) * pL (lwd (d / Nat.gcd f d) l).1 * d = f * pL l * (lwd (d / Nat.gcd f d) l).2
    generalize hG : Nat.gcd f d = g at *
    calc f / g * pL (lwd (d / g) l).1 * d = f / g * pL (lwd (d / g) l).1 * (d / g * g) := by rw [h2]
      _ = (f / g * g) * (pL (lwd (d / g) l).1 * (d / g)) := by ac_rfl
      _ = f * pL l * (lwd (d / g) l).2 := by rw [h1, ih]; ac_rfl
theorem lwd_cop : ∀ (l : List Nat) (d : Nat), 0 < d → ∀ f ∈ (lwd d l).1, Nat.Coprime f (lwd d l).2
  | [], _, _, f, hf => by cases hf
  | a :: l, d, h, f, hf => by
    have hg : 0 < Nat.gcd a d := Nat.gcd_pos_of_pos_right _ h
    rw [lwd] at hf ⊢
    rcases List.mem_cons.1 hf with rfl | hf
    · exact Nat.Coprime.coprime_dvd_right (lwd_dvd l _) (Nat.coprime_div_gcd_div_gcd hg)
    · exact lwd_cop l _ (Nat.div_pos (Nat.le_of_dvd h (Nat.gcd_dvd_right a d)) hg) f hf
theorem cop_one : ∀ (l : List Nat) (d : Nat), (∀ f ∈ l, Nat.Coprime f d) → d ∣ pL l → d = 1
  | [], d, _, h => Nat.dvd_one.1 h
  | f :: l, d, h1, h2 => by
    refine cop_one l d (fun g hg => h1 g (by simp [hg])) ?_
    exact Nat.Coprime.dvd_of_dvd_mul_left (h1 f (by simp)).symm h2
/-- Where nothing is left over, it goes whole. -/
theorem lwd_exact {l : List Nat} {d R : Nat} (h : 0 < d) (hR : d * R ∣ pL l) : pL (lwd d l).1 * d = pL l ∧ R ∣ pL (lwd d l).1 := by
  have h1 := lwd_prod l d h
  have h2 := lwd_dvd l d
  obtain ⟨r, hr⟩ := h2
  have hp := lwd_pos l d h
  have h3 : pL (lwd d l).1 * r = pL l := by
    refine Nat.eq_of_mul_eq_mul_right hp ?_
    rw [← h1, Nat.mul_assoc, Nat.mul_comm r, ← hr]
  have hr0 : 0 < r := Nat.pos_of_ne_zero fun e => by rw [e, Nat.mul_zero] at hr; omega
  have h4 : (lwd d l).2 * R ∣ pL (lwd d l).1 := by
    rw [← h3] at hR
    refine Nat.dvd_of_mul_dvd_mul_right hr0 ?_
    rw [show (lwd d l).2 * R * r = (lwd d l).2 * r * R by ac_rfl, ← hr]
    exact hR
  have e := cop_one _ _ (lwd_cop l d h) (Nat.dvd_trans ⟨R, rfl⟩ h4)
  rw [e, Nat.mul_one] at h1
  refine ⟨h1, ?_⟩
  rw [e, Nat.one_mul] at h4
  exact h4
def lows : List Nat → List Nat → List Nat
  | [], l => l
  | d :: ds, l => lows ds (lwd d l).1
theorem lows_prod : ∀ (ds l : List Nat), (∀ d ∈ ds, 0 < d) → pL ds ∣ pL l → pL (lows ds l) * pL ds = pL l
  | [], l, _, _ => by simp [lows, pL]
  | d :: ds, l, h, hd => by
    obtain ⟨h1, h2⟩ := lwd_exact (h d (by simp)) hd
    have ih := lows_prod ds (lwd d l).1 (fun e he => h e (by simp [he])) h2
    rw [lows, pL, ← h1, ← ih]
    ac_rfl
theorem lwd_le : ∀ (l : List Nat) (d b : Nat), (∀ f ∈ l, f ≤ b) → ∀ f ∈ (lwd d l).1, f ≤ b
  | [], _, _, _, f, hf => by cases hf
  | a :: l, d, b, h, f, hf => by
    rw [lwd] at hf
    rcases List.mem_cons.1 hf with rfl | hf
    · exact Nat.le_trans (Nat.div_le_self _ _) (h a (by simp))
    · exact lwd_le l _ b (fun g hg => h g (by simp [hg])) f hf
theorem lows_le : ∀ (ds l : List Nat) (b : Nat), (∀ f ∈ l, f ≤ b) → ∀ f ∈ lows ds l, f ≤ b
  | [], _, _, h => h
  | d :: ds, l, b, h => lows_le ds _ b (lwd_le l d b h)
theorem lows_len : ∀ (ds l : List Nat), (lows ds l).length = l.length
  | [], _ => rfl
  | d :: ds, l => by rw [lows, lows_len ds, lwd_len]
/-- The first k done. -/
theorem lwd_app : ∀ (l m : List Nat) (d : Nat), lwd d (l ++ m) = ((lwd d l).1 ++ (lwd (lwd d l).2 m).1, (lwd (lwd d l).2 m).2)
  | [], _, _ => rfl
  | f :: l, m, d => by rw [List.cons_append, lwd, lwd_app l m]; rfl
theorem lows_app : ∀ (ds es l : List Nat), lows (ds ++ es) l = lows es (lows ds l)
  | [], _, _ => rfl
  | _ :: ds, es, _ => lows_app ds es _

end Go.Proofs.YtgcpconlmihilaaGreatDoor

namespace Go.Proofs.YtgcpconlmihilaaGreatDoor
open Go.RowKit

theorem castL_app (l m : List Nat) : castL (l ++ m) = castL l ++ castL m := by simp [castL]
theorem castL_set (l : List Nat) (i x : Nat) : castL (l.set i x) = (castL l).set i (x : Int) := by simp [castL, List.map_set]
/-- The numbers, i of them lowered. -/
def lwI (d : Nat) (L : List Nat) (i : Nat) : List Nat := (lwd d (L.take i)).1 ++ L.drop i
def lwD (d : Nat) (L : List Nat) (i : Nat) : Nat := (lwd d (L.take i)).2
theorem lwI_len (d : Nat) (L : List Nat) {i : Nat} (h : i ≤ L.length) : (lwI d L i).length = L.length := by
  unfold lwI; rw [List.length_append, lwd_len, List.length_take, List.length_drop]; omega
theorem lwI_at (d : Nat) (L : List Nat) {i : Nat} (h : i < L.length) : (lwI d L i).getD i 0 = L.getD i 0 := by
  unfold lwI
  have hl : (lwd d (L.take i)).1.length = i := by rw [lwd_len, List.length_take]; omega
  simp only [List.getD]
  rw [List.getElem?_append_right (by omega), hl, Nat.sub_self, List.getElem?_drop, Nat.add_zero]
theorem take_snocN (L : List Nat) {i : Nat} (h : i < L.length) : L.take (i + 1) = L.take i ++ [L.getD i 0] := by
  rw [List.take_succ_eq_append_getElem h]; simp [List.getD, h]
theorem lwI_set (d : Nat) (L : List Nat) {i : Nat} (h : i < L.length) : (lwI d L i).set i (L.getD i 0 / Nat.gcd (L.getD i 0) (lwD d L i)) = lwI d L (i + 1) := by
  have hl : (lwd d (L.take i)).1.length = i := by rw [lwd_len, List.length_take]; omega
  unfold lwI lwD
  rw [take_snocN L h, lwd_app]
  simp only [lwd]
  rw [List.set_append_right _ _ (by omega), hl, Nat.sub_self, List.append_assoc]
  congr 1
  have e : L.drop i = L.getD i 0 :: L.drop (i + 1) := by rw [List.drop_eq_getElem_cons h]; simp [List.getD, h]
  rw [e]; rfl
theorem lwD_succ (d : Nat) (L : List Nat) {i : Nat} (h : i < L.length) : lwD d L (i + 1) = lwD d L i / Nat.gcd (L.getD i 0) (lwD d L i) := by
  unfold lwD
  rw [take_snocN L h, lwd_app]
  rfl

set_option maxHeartbeats 4000000 in
set_option maxRecDepth 100000 in
theorem lowered_at (a0 a1 : Option Addr) (n0 c0 n1 c1 : Nat) (ov un : List Nat) (w : World) (hs0 : Shows w a0 (castL ov)) (hs1 : Shows w a1 (castL un)) (hn0 : n0 = ov.length) (hn1 : n1 = un.length) (hl0 : ov.length ≤ 100000) (hl1 : un.length ≤ 100000) (hz0 : ∀ z ∈ ov, z ≤ 1000) (hz1 : ∀ z ∈ un, 0 < z ∧ z ≤ 1000) :
    Calls Tryz.prog 34 #[.slice a0 n0 c0, .slice a1 n1 c1] w fun e w' => ∃ v, e = .returned v ∧ Owns w' w.heap.size v (castL (lows un ov)) ∧ Below w.heap.size w w' := by
  have hcl : (castL ov).length = n0 := by rw [castL_len, hn0]
  have HS1 : Hid (Shows w a1 (castL un)) := hs1
  have HN0 : Hid (n0 = ov.length) := hn0
  have HN1 : Hid (n1 = un.length) := hn1
  have HZ0 : Hid (∀ z ∈ ov, z ≤ 1000) := hz0
  have HZ1 : Hid (∀ z ∈ un, 0 < z ∧ z ≤ 1000) := hz1
  have hb0 : n0 ≤ 100000 := by rw [hn0]; exact hl0
  have hb1 : n1 ≤ 100000 := by rw [hn1]; exact hl1
  clear hz0 hz1 hs1 hl0 hl1 hn0 hn1
  obtain ⟨i0, hi, hz0, hz1, hz2⟩ := info_parts Tryz.info3
  go_enter Tryz.func34, Tryz.ntmps34
  go_wp2_with (at_make; refine wpList_make_full _ rfl _ _ 36 rfl w.heap.size 3 i0 (.int .i64 0) 1 Tryz.underlying36 hi hz0 hz1 _ _ _ _ n0 rfl rfl rfl rfl ?b1 ?b2 ?b3 ?_)
  case b1 => rw [hz2]; omega
  case b2 => unfold maxLen; omega
  case b3 => exact Nat.le_refl _
  intro w1 hown hgrow
  have hbb1 : Below w.heap.size w w1 := (Below.refl _ _).grown hgrow (Nat.le_refl _) (fun k h => by cases h)
  have hrow : w1.heap[w.heap.size]? = some (.cells (List.replicate (castL ov).length (Value.int .i64 0)).toArray 3 (0, 0)) := by
    rw [hcl]
    rcases hown.2 with ⟨h2, _⟩ | ⟨g', cap', cur, hv, hg, hh, h4, h5, h6, h7⟩
    · cases h2
    · simp only [Value.slice.injEq, Option.some.injEq, Addr.mk.injEq, and_true, true_and] at hv
      obtain ⟨rfl, rfl⟩ := hv
      rw [hh]
      have e0 : cur.toList = List.replicate n0 (Value.int .i64 0) := by
        rw [← toList_madeCells_one, List.take_of_length_le (by simp [h6])] at *
        rw [h7]
        try simp [Value.cells]
      rw [← e0]
  have hs1 := hs0.below hbb1
  obtain ⟨w2, hrun, HR2, hb2⟩ := run_copy_all (cap := c0) hs1 hrow hbb1 (Nat.le_refl _)
  rw [hcl] at hrun
  have HO2 : Hid (Owns w2 w.heap.size (.slice (some ⟨w.heap.size, 0, none⟩) n0 n0) (castL ov)) := owns_of_row (Nat.le_refl _) HR2.out hcl.symm (by omega)
  have HB2 : Hid (Below w.heap.size w w2) := hb2
  clear hrow hown hgrow hs1 hbb1 hb2 HR2 hs0 hz0 hz1 hz2 hi hcl
  go_wp2_with fail
  go_loopw [19] (fun kv wr => ∃ k : Nat, k ≤ n1 ∧ kv = .int .i64 (k : Int) ∧ Hid (Owns wr w.heap.size (.slice (some ⟨w.heap.size, 0, none⟩) n0 n0) (castL (lows (un.take k) ov))) ∧ Hid (Below w.heap.size w wr)) (fun kv _ => n1 - (intOf kv).toNat)
  case atStart => exact ⟨0, Nat.zero_le _, rfl, HO2, HB2⟩
  case round =>
    clear HO2 HB2
    obtain ⟨k, hk, rfl, HO, HB⟩ := hrel
    by_cases hlt : k < n1
    · have hlt' : (k : Int) < (n1 : Int) := by omega
      obtain ⟨b1, o1, ha1, hcd⟩ := (HS1.out.below HB.out).nat (i := k) (by rw [← HN1.out]; exact hlt)
      subst ha1
      obtain ⟨d0, HD0⟩ : ∃ d0, Hid (d0 = un.getD k 0) := ⟨_, rfl⟩
      rw [← HD0.out] at hcd
      obtain ⟨L, HL⟩ : ∃ L, Hid (L = lows (un.take k) ov) := ⟨_, rfl⟩
      have HLl : Hid (L.length = n0) := by show _ = _; rw [HL.out, lows_len, HN0.out]
      have HLz : Hid (∀ z ∈ L, z ≤ 1000) := by rw [HL.out]; exact lows_le _ _ _ HZ0.out
      have hd0 : 0 < d0 ∧ d0 ≤ 1000 := by rw [HD0.out]; exact HZ1.out _ (by have : k < un.length := by rw [← HN1.out]; exact hlt
                                                                            simp [List.getD, this])
      have HO1 : Hid (Owns wr w.heap.size (.slice (some ⟨w.heap.size, 0, none⟩) n0 n0) (castL (lwI d0 L 0))) := by
        have h := HO.out
        rw [← HL.out] at h
        show Owns _ _ _ _
        rw [show lwI d0 L 0 = L by simp [lwI, lwd]]
        exact h
      go_wp2_with fail
      go_loopw [7, 25] (fun dv iv wr => ∃ i d : Nat, i ≤ n0 ∧ iv = .int .i64 (i : Int) ∧ dv = .int .i64 (d : Int) ∧ 0 < d ∧ d ≤ 1000 ∧ Hid (d = lwD d0 L i) ∧ Hid (Owns wr w.heap.size (.slice (some ⟨w.heap.size, 0, none⟩) n0 n0) (castL (lwI d0 L i))) ∧ Hid (Below w.heap.size w wr)) (fun _ iv _ => n0 - (intOf iv).toNat)
      case atStart => exact ⟨0, d0, Nat.zero_le _, rfl, rfl, hd0.1, hd0.2, rfl, HO1, HB⟩
      case round =>
        clear HO HB HO1 hcd
        obtain ⟨i, d, hi, rfl, rfl, hd1, hd2, HD, HOi, HBi⟩ := hrel
        by_cases hlti : i < n0
        · have hlti' : (i : Int) < (n0 : Int) := by omega
          obtain ⟨f, HF⟩ : ∃ f, Hid (f = L.getD i 0) := ⟨_, rfl⟩
          have hiL : i < L.length := by rw [HLl.out]; exact hlti
          have hf : f ≤ 1000 := by rw [HF.out]; exact getD_le HLz.out i
          obtain ⟨g2, cap2, hv2, hg2, hgs, hfr, hce⟩ := HOi.out.head (by rw [castL_len, lwI_len _ _ (by omega), HLl.out]; omega)
          simp only [Value.slice.injEq, Option.some.injEq, Addr.mk.injEq, and_true] at hv2
          obtain ⟨rfl, -, -⟩ := hv2
          have hcf : wr.cell? ⟨w.heap.size, i, none⟩ = some (.int .i64 (f : Int)) := by
            rw [hce i (by rw [castL_len, lwI_len _ _ (by omega)]; exact hiL), castL_at, lwI_at _ _ hiL, HF.out]
          have hff : wr.frozen? ⟨w.heap.size, i, none⟩ = false := hfr i
          obtain ⟨cm, HC⟩ : ∃ cm, Hid (cm = Nat.gcd f d) := ⟨_, rfl⟩
          have hcm : 0 < cm ∧ cm ≤ 1000 := by
            rw [HC.out]
            exact ⟨Nat.gcd_pos_of_pos_right _ hd1, Nat.le_trans (Nat.le_of_dvd hd1 (Nat.gcd_dvd_right f d)) hd2⟩
          have HG := hid_g (gcd_at f d wr (by omega) (by omega))
          rw [← HC.out] at HG
          have hc0 : ¬ ((cm : Int) = 0) := by omega
          obtain ⟨fq, HFq⟩ : ∃ fq, Hid (fq = f / cm) := ⟨_, rfl⟩
          obtain ⟨dq, HDq⟩ : ∃ dq, Hid (dq = d / cm) := ⟨_, rfl⟩
          have hfq : fq ≤ 1000 := by rw [HFq.out]; exact Nat.le_trans (Nat.div_le_self _ _) hf
          have hdq : 0 < dq ∧ dq ≤ 1000 := by
            rw [HDq.out]
            refine ⟨Nat.div_pos ?_ hcm.1, Nat.le_trans (Nat.div_le_self _ _) hd2⟩
            rw [HC.out]; exact Nat.le_of_dvd hd1 (Nat.gcd_dvd_right f d)
          have ht1 : Int.tdiv (f : Int) (cm : Int) = (fq : Int) := by rw [HFq.out]; rfl
          have ht2 : Int.tdiv (d : Int) (cm : Int) = (dq : Int) := by rw [HDq.out]; rfl
          have HO3 : Hid (∀ W, Below wr.heap.size wr W → Owns (W.setCell ⟨w.heap.size, i, none⟩ (.int .i64 (fq : Int))) w.heap.size (.slice (some ⟨w.heap.size, 0, none⟩) n0 n0) (castL (lwI d0 L (i + 1)))) := fun W hW => by
            have h := (HOi.out.below hW).store (by rw [castL_len, lwI_len _ _ (by omega), HLl.out]) i (fq : Int)
            rw [← castL_set, HFq.out, HC.out, HF.out, HD.out, lwI_set _ _ hiL] at h
            rw [HFq.out, HC.out, HF.out, HD.out]
            exact h
          have HD2 : Hid (dq = lwD d0 L (i + 1)) := by show _ = _; rw [lwD_succ _ _ hiL, HDq.out, HC.out, HF.out, HD.out]
          clear hce hfr
          go_wp2_with fail
          refine HG.out.mono ?_
          rintro e w3 ⟨rfl, q, hw3⟩
          have HB3 : Hid (Below wr.heap.size wr w3) := by rw [hw3]; exact below_drewN (Below.refl _ _) q
          have hcf3 : w3.cell? ⟨w.heap.size, i, none⟩ = some (.int .i64 (f : Int)) := by rw [HB3.out.cell (p := ⟨w.heap.size, i, none⟩) hgs]; exact hcf
          have hff3 : w3.frozen? ⟨w.heap.size, i, none⟩ = false := by rw [HB3.out.frozen (p := ⟨w.heap.size, i, none⟩) hgs]; exact hff
          have HO4 := hid_g (HO3.out w3 HB3.out)
          have HB4 : Hid (Below w.heap.size w (w3.setCell ⟨w.heap.size, i, none⟩ (.int .i64 (fq : Int)))) := (HBi.out.trans (HB3.out.mono HBi.out.size)).setCell (p := ⟨w.heap.size, i, none⟩) (Nat.le_refl _) _
          clear hw3 hcf hff HG HO3 HOi
          go_wp2
          go_roundw
          case rel => exact ⟨i + 1, dq, by omega, by go_num, by first | rfl | (simp [ht2]; done), hdq.1, hdq.2, HD2, HO4, HB4⟩
          case measure => simp [intOf]; omega
        · obtain rfl : i = n0 := by omega
          have HO5 : Hid (Owns wr w.heap.size (.slice (some ⟨w.heap.size, 0, none⟩) i i) (castL (lows (un.take (k + 1)) ov))) := by
            have h := HOi.out
            have e1 : lwI d0 L i = (lwd d0 L).1 := by unfold lwI; rw [List.take_of_length_le (by rw [HLl.out]; exact Nat.le_refl _), List.drop_of_length_le (by rw [HLl.out]; exact Nat.le_refl _), List.append_nil]
            show Owns _ _ _ _
            rw [e1] at h
            rw [take_snocN un (by rw [← HN1.out]; exact hlt), lows_app, ← HL.out, ← HD0.out]
            exact h
          go_wp2
          go_roundw
          case rel => exact ⟨k + 1, by omega, by go_num, HO5, HBi⟩
          case measure => simp [intOf]; omega
    · obtain rfl : k = n1 := by omega
      have HO5 : Hid (Owns wr w.heap.size (.slice (some ⟨w.heap.size, 0, none⟩) n0 n0) (castL (lows un ov))) := by
        have h := HO.out
        rw [List.take_of_length_le (by rw [← HN1.out]; exact Nat.le_refl _)] at h
        exact h
      go_wp2
      go_ret
      exact ⟨_, rfl, HO5.out, HB.out⟩

end Go.Proofs.YtgcpconlmihilaaGreatDoor

namespace Go.Proofs.YtgcpconlmihilaaGreatDoor
open Go.RowKit

theorem gtext_c (v : Value) (x N : Nat) (w : World) {lo : Nat} (h : GrC w lo v x N) (hN : N ≤ 100000) (htab : Lib.TabIs Tryz.prog w "internal/strconv.uint64pow10" .u64 Lib.pow10Tab) :
    Calls Tryz.prog 56 #[v] w fun e w' => e = .returned (.string ⟨(numT x).toArray⟩) ∧ Below w.heap.size w w' := by
  obtain ⟨n, f, h1, h2, h3⟩ := h
  have := gtext_at v n f w h1 h2.dg (by omega) htab
  rw [h2.text] at this
  exact this

set_option maxHeartbeats 2000000 in
theorem NText_at (v : Value) (x N : Nat) (w : World) {lo : Nat} (h : GrC w lo v x N) (hN : N ≤ 100000) (htab : Lib.TabIs Tryz.prog w "internal/strconv.uint64pow10" .u64 Lib.pow10Tab) :
    Calls Tryz.prog 36 #[.agg #[.bool false, v]] w fun e w' => e = .returned (.string ⟨(numT x).toArray⟩) ∧ Below w.heap.size w w' := by
  obtain ⟨W, hW⟩ : ∃ W, W = w.alloc (.cells #[.bool false, v] 65) := ⟨_, rfl⟩
  have hB : Below w.heap.size w W := by rw [hW]; exact (Below.refl _ _).alloc (Nat.le_refl _) _
  have hblk : W.heap[w.heap.size]? = some (.cells #[.bool false, v] 65 (0, 0)) := by rw [hW]; exact heap_alloc_new _ _
  have c0 : W.cell? ⟨w.heap.size, 0, none⟩ = some (.bool false) := by simp [World.cell?, hblk]
  have c1 : W.cell? ⟨w.heap.size, 1, none⟩ = some v := by simp [World.cell?, hblk]
  obtain ⟨s, HS⟩ : ∃ s : ByteArray, Hid (s = ⟨(numT x).toArray⟩) := ⟨_, rfl⟩
  have HG : Hid (Calls Tryz.prog 56 #[v] W fun e w' => e = .returned (.string s) ∧ Hid (Below W.heap.size W w')) := by
    rw [HS.out]; exact gtext_c v x N W (h.below hB) hN (Lib.tabBelow_of_tabIs htab W hB)
  have HB : Hid (Below w.heap.size w W) := hB
  obtain ⟨a, n, c, rfl⟩ := h.shape
  rw [← HS.out]
  clear h htab hB hblk
  go_enter Tryz.func36, Tryz.ntmps36
  go_upto_region 1 with fail
  rw [← hW]
  clear hW
  go_wp2_with fail
  refine HG.out.mono ?_
  rintro e w1 ⟨rfl, HB1⟩
  have HB2 : Hid (Below w.heap.size w w1) := HB.out.trans (HB1.out.mono HB.out.size)
  go_wp2
  go_ret
  exact ⟨rfl, HB2.out⟩

/-- A call of Of, in a region that draws its order. -/
theorem step_Of {w : World} {x : Value} {P : Value → World → Prop} {ops : Array Oper} {o : Oper} {a : Act} {K : Act → World → Prop} {Q : Exit → Act → World → Prop} {EE : Prop} (hgd : o.guard = none) (y : Operand)
    (ho : o.op = .call { callee := .value (.func 33), args := #[y], argTypes := #[3] }) (hx : a.eval y = x) (hc : Calls Tryz.prog 33 #[x] w fun e w' => ∃ v, e = .returned v ∧ P v w') (h : ∀ v w', P v w' → K (a.put o.dst v) w') :
    if Region.wanted o (yielded ops a.tmps) = true then Oper.wp Tryz.prog o a w K Q else EE := by
  have hw : Region.wanted o (yielded ops a.tmps) = true := by simp [Region.wanted, hgd]
  rw [if_pos hw]
  unfold Oper.wp
  simp [execOp, ho, resolve, invoke, hx]
  simp [Act.eval, Deferred.ofValue, callFunc, Tryz.func33]
  refine hc.mono ?_
  rintro e w' ⟨v, rfl, hP⟩
  exact h v w' hP
/-- A call of Times, in a region that draws its order. -/
theorem step_Tim {w : World} {x y : Value} {P : Value → World → Prop} {ops : Array Oper} {o : Oper} {a : Act} {K : Act → World → Prop} {Q : Exit → Act → World → Prop} {EE : Prop} (hgd : o.guard = none) (p q : Operand)
    (ho : o.op = .call { callee := .value (.func 35), args := #[p, q], argTypes := #[65, 65] }) (hx : a.eval p = x) (hy : a.eval q = y) (hc : Calls Tryz.prog 35 #[x, y] w fun e w' => ∃ v, e = .returned v ∧ P v w') (h : ∀ v w', P v w' → K (a.put o.dst v) w') :
    if Region.wanted o (yielded ops a.tmps) = true then Oper.wp Tryz.prog o a w K Q else EE := by
  have hw : Region.wanted o (yielded ops a.tmps) = true := by simp [Region.wanted, hgd]
  rw [if_pos hw]
  unfold Oper.wp
  simp [execOp, ho, resolve, invoke, hx, hy]
  simp [Act.eval, Deferred.ofValue, callFunc, Tryz.func35]
  refine hc.mono ?_
  rintro e w' ⟨v, rfl, hP⟩
  exact h v w' hP

/-- The variable at B holds the Number x. -/
def NumAt (w : World) (B : Nat) (v : Value) (x N : Nat) : Prop := w.heap[B]? = some (.cells #[.bool false, v] 65 (0, 0)) ∧ ∃ n f, (∃ a cap, v = .slice a n cap ∧ (0 < n → ∃ g, a = some ⟨g, 0, none⟩ ∧ g ≠ B ∧ g < w.heap.size ∧ ∀ j, j < n → w.cell? ⟨g, j, none⟩ = some (.int .u64 (f j : Int)))) ∧ Can n f x ∧ n ≤ N
theorem NumAt.lt {w : World} {B : Nat} {v : Value} {x N : Nat} (h : NumAt w B v x N) : B < w.heap.size := (Array.getElem?_eq_some_iff.1 h.1).1
theorem NumAt.below {w w' : World} {B : Nat} {v : Value} {x N : Nat} (h : NumAt w B v x N) (hb : Below w.heap.size w w') : NumAt w' B v x N := by
  refine ⟨by rw [hb.block B h.lt]; exact h.1, ?_⟩
  obtain ⟨_, n, f, ⟨a, cap, hv, h1⟩, h2⟩ := h
  refine ⟨n, f, ⟨a, cap, hv, fun hn => ?_⟩, h2⟩
  obtain ⟨g, e, hne, hg, hc⟩ := h1 hn
  exact ⟨g, e, hne, Nat.lt_of_lt_of_le hg hb.size, fun j hj => (hb.cell (p := ⟨g, j, none⟩) hg).trans (hc j hj)⟩
theorem NumAt.grc {w : World} {B : Nat} {v : Value} {x N : Nat} (h : NumAt w B v x N) : GrC w 0 v x N := by
  obtain ⟨_, n, f, ⟨a, cap, hv, h1⟩, h2, h3⟩ := h
  refine ⟨n, f, ⟨a, cap, hv, fun hn => ?_⟩, h2, h3⟩
  obtain ⟨g, e, hne, hg, hc⟩ := h1 hn
  exact ⟨g, e, Nat.zero_le _, hg, hc⟩
theorem NumAt.new {w : World} {lo : Nat} {v : Value} {x N : Nat} (h : GrC w lo v x N) : NumAt (w.alloc (.cells #[.bool false, v] 65)) w.heap.size v x N := by
  refine ⟨heap_alloc_new _ _, ?_⟩
  have hb : Below w.heap.size w (w.alloc (.cells #[.bool false, v] 65)) := (Below.refl _ _).alloc (Nat.le_refl _) _
  obtain ⟨n, f, ⟨a, cap, hv, h1⟩, h2, h3⟩ := h
  refine ⟨n, f, ⟨a, cap, hv, fun hn => ?_⟩, h2, h3⟩
  obtain ⟨g, e, _, hg, hc⟩ := h1 hn
  exact ⟨g, e, by omega, Nat.lt_of_lt_of_le hg hb.size, fun j hj => (hb.cell (p := ⟨g, j, none⟩) hg).trans (hc j hj)⟩
theorem NumAt.put {w : World} {B lo : Nat} {v v' : Value} {x y N M : Nat} (h : NumAt w B v x N) (h' : GrC w lo v' y M) (hl : B < lo) : NumAt ((w.setCell ⟨B, 0, none⟩ (.bool false)).setCell ⟨B, 1, none⟩ v') B v' y M := by
  refine ⟨num_store h.1, ?_⟩
  obtain ⟨n, f, ⟨a, cap, hv, h1⟩, h2, h3⟩ := (h'.store (k := 0) (y := .bool false) hl).store (k := 1) (y := v') hl
  refine ⟨n, f, ⟨a, cap, hv, fun hn => ?_⟩, h2, h3⟩
  obtain ⟨g, e, hg1, hg, hc⟩ := h1 hn
  exact ⟨g, e, by omega, hg, hc⟩
theorem NumAt.cells {w : World} {B : Nat} {v : Value} {x N : Nat} (h : NumAt w B v x N) : w.cell? ⟨B, 0, none⟩ = some (.bool false) ∧ w.cell? ⟨B, 1, none⟩ = some v ∧ w.frozen? ⟨B, 0, none⟩ = false ∧ w.frozen? ⟨B, 1, none⟩ = false :=
  ⟨by simp [World.cell?, h.1], by simp [World.cell?, h.1], frozen_of_row w _ 0 _ _ h.1, frozen_of_row w _ 1 _ _ h.1⟩
/-- All blocks but q are as they were. -/
def KeepQ (q : Nat) (w w' : World) : Prop := w.heap.size ≤ w'.heap.size ∧ ∀ k, k < w.heap.size → k ≠ q → w'.heap[k]? = w.heap[k]?
theorem KeepQ.refl (q : Nat) (w : World) : KeepQ q w w := ⟨Nat.le_refl _, fun _ _ _ => rfl⟩
theorem KeepQ.next {q : Nat} {w w1 w2 : World} (h : KeepQ q w w1) (hb : Below w1.heap.size w1 w2) (a b : Value) : KeepQ q w ((w2.setCell ⟨q, 0, none⟩ a).setCell ⟨q, 1, none⟩ b) := by
  refine ⟨?_, fun k hk hq => ?_⟩
  · have := h.1; have := hb.size; simp; omega
  · rw [heap_setCell_other _ _ _ _ hq, heap_setCell_other _ _ _ _ hq, hb.block k (Nat.lt_of_lt_of_le hk h.1), h.2 k hk hq]
theorem pL_take (l : List Nat) {i : Nat} (h : i < l.length) : pL (l.take (i + 1)) = pL (l.take i) * l.getD i 0 := by
  rw [take_snocN l h, pL_app]; simp [pL]

set_option maxHeartbeats 4000000 in
set_option maxRecDepth 100000 in
theorem Quotient_at (a0 a1 : Option Addr) (n0 c0 n1 c1 : Nat) (ov un : List Nat) (w : World) (hs0 : Shows w a0 (castL ov)) (hs1 : Shows w a1 (castL un)) (hn0 : n0 = ov.length) (hn1 : n1 = un.length) (hl0 : ov.length ≤ 10000) (hl1 : un.length ≤ 10000) (hz0 : ∀ z ∈ ov, z ≤ 1000) (hz1 : ∀ z ∈ un, 0 < z ∧ z ≤ 1000) (htab : Lib.TabIs Tryz.prog w "internal/strconv.uint64pow10" .u64 Lib.pow10Tab) :
    Calls Tryz.prog 17 #[.slice a0 n0 c0, .slice a1 n1 c1] w fun e w' => e = .returned (.string ⟨(numT (pL (lows un ov))).toArray⟩) ∧ Below w.heap.size w w' := by
  obtain ⟨L, HL⟩ : ∃ L, Hid (L = lows un ov) := ⟨_, rfl⟩
  obtain ⟨s, HS⟩ : ∃ s : ByteArray, Hid (s = ⟨(numT (pL (lows un ov))).toArray⟩) := ⟨_, rfl⟩
  rw [← HS.out]
  rw [← HL.out] at HS
  obtain ⟨m, HM⟩ : ∃ m, Hid (m = L.length) := ⟨_, rfl⟩
  have hm : m ≤ 10000 := by rw [HM.out, HL.out, lows_len]; exact hl0
  have HLz : Hid (∀ z ∈ L, z ≤ 1000) := by rw [HL.out]; exact lows_le _ _ _ hz0
  have HTab : Hid (∀ W, Below w.heap.size w W → Lib.TabIs Tryz.prog W "internal/strconv.uint64pow10" .u64 Lib.pow10Tab) := fun W hW => Lib.tabBelow_of_tabIs htab W hW
  have HO1 : Hid (Calls Tryz.prog 33 #[.int .i64 1] w fun e w' => ∃ a n c, e = .returned (.agg #[.bool false, .slice a n c]) ∧ Hid (GrC w' w.heap.size (.slice a n c) 1 3) ∧ Hid (Below w.heap.size w w')) := by
    refine (Of_at 1 w (by omega)).mono ?_
    rintro e w' ⟨v, rfl, h1, h2⟩
    obtain ⟨a, n, c, rfl⟩ := h1.shape
    exact ⟨a, n, c, rfl, h1, h2⟩
  have HLo : Hid (∀ W, Below w.heap.size w W → Calls Tryz.prog 34 #[.slice a0 n0 c0, .slice a1 n1 c1] W fun e w' => ∃ a c, e = .returned (.slice a m c) ∧ Hid (Owns w' W.heap.size (.slice a m c) (castL L)) ∧ Hid (Below W.heap.size W w')) := fun W hW => by
    refine (lowered_at a0 a1 n0 c0 n1 c1 ov un W (hs0.below hW) (hs1.below hW) hn0 hn1 (by omega) (by omega) hz0 hz1).mono ?_
    rintro e w' ⟨v, rfl, ho, hb⟩
    rw [← HL.out] at ho
    obtain ⟨a, c, hsh⟩ := ho.shape
    rw [castL_len, ← HM.out] at hsh
    subst hsh
    exact ⟨a, c, rfl, ho, hb⟩
  clear hs0 hs1 hn0 hn1 hl0 hl1 hz0 hz1 htab
  go_enter Tryz.func17, Tryz.ntmps17
  go_wp2_with fail
  refine HO1.out.mono ?_
  rintro e w1 ⟨av, nv, cv, rfl, HG1, HB1⟩
  have HN0 := hid_w (NumAt.new HG1.out)
  have HBa : Hid (Below w.heap.size w (w1.alloc (.cells #[.bool false, .slice av nv cv] 65))) := HB1.out.alloc HB1.out.size _
  obtain ⟨q, HQ⟩ : ∃ q, Hid (q = w1.heap.size) := ⟨_, rfl⟩
  have HQs : Hid ((w1.alloc (.cells #[.bool false, .slice av nv cv] 65)).heap.size = q + 1) := by show _ = _; rw [HQ.out]; simp
  have HwQ : Hid (w.heap.size ≤ q) := by show _ ≤ _; rw [HQ.out]; exact HB1.out.size
  clear HO1
  go_wp2_with fail
  rw [← HQ.out]
  rw [← HQ.out] at HN0
  refine (HLo.out _ HBa.out).mono ?_
  rintro e w2 ⟨a, c, rfl, HOl, HB2⟩
  rw [HQs.out] at HOl
  have HN2 := hid_w (HN0.out.below HB2.out)
  have HB3 : Hid (Below w.heap.size w w2) := HBa.out.trans (HB2.out.mono HBa.out.size)
  clear HLo HN0 HG1 HB1 HBa HB2 HQs
  go_wp2_with fail
  go_loopw [13] (fun iv wr => ∃ (i : Nat) (av : Option Addr) (nv cv : Nat), i ≤ m ∧ iv = .int .i64 (i : Int) ∧ Hid (NumAt wr q (.slice av nv cv) (pL (L.take i)) (3 * (i + 1))) ∧ Hid (KeepQ q w2 wr) ∧ Hid (Below w.heap.size w wr)) (fun iv _ => m - (intOf iv).toNat)
  case atStart => exact ⟨0, av, nv, cv, Nat.zero_le _, rfl, HN2, KeepQ.refl _ _, HB3⟩
  case round =>
    clear HN2 HB3
    obtain ⟨i, av, nv, cv, hi, rfl, HN, HK, HB⟩ := hrel
    obtain ⟨d0, d1, d2, d3⟩ := HN.out.cells
    by_cases hlt : i < m
    · have hlt' : (i : Int) < (m : Int) := by omega
      have hiL : i < L.length := by rw [← HM.out]; exact hlt
      have hO : Owns wr (q + 1) (.slice a m c) (castL L) := ownsRow_blocks HOl.out (fun k e => by
        have := HOl.out.lt e
        exact HK.out.2 k this.2 (by omega))
      obtain ⟨g, cg, hvg, hg1, hg2, -, hcg⟩ := hO.head (by rw [castL_len]; omega)
      simp only [Value.slice.injEq] at hvg
      obtain ⟨rfl, -, rfl⟩ := hvg
      obtain ⟨fi, HFi⟩ : ∃ fi, Hid (fi = L.getD i 0) := ⟨_, rfl⟩
      have hfi : fi ≤ 1000 := by rw [HFi.out]; exact getD_le HLz.out i
      have hcf : wr.cell? ⟨g, i, none⟩ = some (.int .i64 (fi : Int)) := by
        rw [hcg i (by rw [castL_len]; exact hiL), castL_at, HFi.out]
      have HOf : Hid (∀ W, Below wr.heap.size wr W → Calls Tryz.prog 33 #[.int .i64 (fi : Int)] W fun e w' => ∃ v, e = .returned v ∧ ∃ a1 n1 c1, v = .agg #[.bool false, .slice a1 n1 c1] ∧ w'.cell? ⟨q, 0, none⟩ = some (.bool false) ∧ w'.cell? ⟨q, 1, none⟩ = some (.slice av nv cv) ∧ Hid (GrC w' 0 (.slice a1 n1 c1) fi 3) ∧ Hid (Below wr.heap.size wr w')) := fun W hW => by
        refine (Of_at fi W (by omega)).mono ?_
        rintro e w' ⟨v, rfl, h1, h2⟩
        obtain ⟨a1, n1, c1, rfl⟩ := h1.shape
        have hb := hW.trans (h2.mono hW.size)
        have hc := (HN.out.below hb).cells
        exact ⟨_, rfl, a1, n1, c1, rfl, hc.1, hc.2.1, h1.mono (Nat.zero_le _) (Nat.le_refl _), hb⟩
      have HTi : Hid (∀ W a1 n1 c1, Hid (GrC W 0 (.slice a1 n1 c1) fi 3) → Hid (Below wr.heap.size wr W) → Calls Tryz.prog 35 #[.agg #[.bool false, .slice av nv cv], .agg #[.bool false, .slice a1 n1 c1]] W fun e w' => ∃ v, e = .returned v ∧ ∃ a2 n2 c2, v = .agg #[.bool false, .slice a2 n2 c2] ∧ w'.cell? ⟨q, 0, none⟩ = some (.bool false) ∧ w'.cell? ⟨q, 1, none⟩ = some (.slice av nv cv) ∧ w'.frozen? ⟨q, 0, none⟩ = false ∧ w'.frozen? ⟨q, 1, none⟩ = false ∧ Hid (NumAt ((w'.setCell ⟨q, 0, none⟩ (.bool false)).setCell ⟨q, 1, none⟩ (.slice a2 n2 c2)) q (.slice a2 n2 c2) (pL (L.take (i + 1))) (3 * (i + 1 + 1))) ∧ Hid (KeepQ q w2 ((w'.setCell ⟨q, 0, none⟩ (.bool false)).setCell ⟨q, 1, none⟩ (.slice a2 n2 c2))) ∧ Hid (Below w.heap.size w ((w'.setCell ⟨q, 0, none⟩ (.bool false)).setCell ⟨q, 1, none⟩ (.slice a2 n2 c2)))) := fun W a1 n1 c1 hg hW => by
        refine (NTimes_at (.slice av nv cv) (.slice a1 n1 c1) (pL (L.take i)) fi (3 * (i + 1)) 3 W (HN.out.grc.below hW.out) hg.out (by omega) (by omega)).mono ?_
        rintro e w' ⟨v, rfl, h1, h2⟩
        obtain ⟨a2, n2, c2, rfl⟩ := h1.shape
        have hb := hW.out.trans (h2.mono hW.out.size)
        have hN' := HN.out.below hb
        have hc := hN'.cells
        have hlt := HN.out.lt
        have hsz := hW.out.size
        refine ⟨_, rfl, a2, n2, c2, rfl, hc.1, hc.2.1, hc.2.2.1, hc.2.2.2, ?_, HK.out.next hb _ _, ?_⟩
        · have h3 := hN'.put (h1.mono (Nat.le_refl _) (show 3 * (i + 1) + 3 ≤ 3 * (i + 1 + 1) by omega)) (by omega)
          rw [HFi.out, ← pL_take L hiL] at h3
          exact h3
        · have hq := HwQ.out
          exact ((HB.out.trans (hb.mono HB.out.size)).setCell (p := ⟨q, 0, none⟩) hq _).setCell (p := ⟨q, 1, none⟩) hq _
      clear hO hcg
      go_upto_region 5 with fail
      go_region_law (first | (refine step_Of (x := .int .i64 (fi : Int)) rfl (.tmp 18) rfl (by first | (simp [Act.eval]; done) | (simp [Act.eval, Act.put]; done)) (HOf.out _ (by first | exact Below.refl _ _ | exact below_drewN (Below.refl _ _) 1)) ?_; rintro v1 w3 ⟨a1, n1, c1, rfl, e0, e1, hg1, hb1⟩) | (refine step_Tim (x := .agg #[.bool false, .slice av nv cv]) (y := .agg #[.bool false, .slice a1 n1 c1]) rfl (.tmp 17) (.tmp 19) rfl (by first | (simp [Act.eval]; done) | (simp [Act.eval, Act.put]; done)) (by first | (simp [Act.eval]; done) | (simp [Act.eval, Act.put]; done)) (HTi.out w3 a1 n1 c1 hg1 hb1) ?_; rintro v2 w4 ⟨a2, n2, c2, rfl, t0, t1, t2, t3, HN4, HK4, HB4⟩))
      all_goals clear HN HK HB d0 d1 d2 d3 hcf HOf HTi
      all_goals go_wp2
      all_goals go_roundw
      all_goals first
        | exact ⟨i + 1, a2, n2, c2, by omega, by go_num, HN4, HK4, HB4⟩
        | (simp [intOf]; omega)
    · obtain rfl : i = m := by omega
      have HTx := hid_w (NText_at (.slice av nv cv) (pL L) (3 * (i + 1)) wr (by
        have h := HN.out.grc
        rw [List.take_of_length_le (by rw [← HM.out]; exact Nat.le_refl _)] at h
        exact h) (by omega) (HTab.out wr HB.out))
      rw [← HS.out] at HTx
      go_wp2_with fail
      refine HTx.out.mono ?_
      rintro e w5 ⟨rfl, hb5⟩
      have HB5 : Hid (Below w.heap.size w w5) := HB.out.trans (hb5.mono HB.out.size)
      clear hb5
      go_wp2
      go_ret
      exact ⟨rfl, HB5.out⟩

end Go.Proofs.YtgcpconlmihilaaGreatDoor
