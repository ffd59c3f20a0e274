/-
  The contract of ferrersbig.small.
-/
import Derived.Test.YthfbkangjpcpgaaDoorAAdd
import Derived.Lib.EndianBits
namespace Go.Proofs.YthfbkangjpcpgaaDoor
open Go.RowKit

/-- Noughts, then the words so far. -/
def behind (n : Nat) (qs : List Nat) : List Nat := List.replicate n 0 ++ qs
theorem behind_len (n : Nat) (qs : List Nat) : (behind n qs).length = n + qs.length := by simp [behind]
theorem behind_set (n : Nat) (qs : List Nat) (x : Nat) : (behind (n + 1) qs).set n x = behind n (x :: qs) := by
  induction n with
  | zero => rfl
  | succ n ih =>
    have : behind (n + 1 + 1) qs = 0 :: behind (n + 1) qs := rfl
    rw [this, List.set_cons_succ, ih]; rfl
/-- One step of a division by a word. -/
theorem small_step {V c u d t r Q : Nat} (h : V = Q * d + c) (ht : t = c * 4294967296 + u) (hr : r = t % d) :
    u + 4294967296 * V = (t / d + 4294967296 * Q) * d + r := by
  have e := Nat.div_add_mod t d
  rw [← hr] at e
  rw [h, Nat.add_mul, Nat.mul_add]
  have h1 : t / d * d = d * (t / d) := Nat.mul_comm _ _
  have h2 : 4294967296 * (Q * d) = 4294967296 * Q * d := (Nat.mul_assoc _ _ _).symm
  omega
theorem small_lt {c u d t : Nat} (hc : c < d) (hu : u < 4294967296) (ht : t = c * 4294967296 + u) : t / d < 4294967296 := by
  rw [Nat.div_lt_iff_lt_mul (by omega)]
  have : (c + 1) * 4294967296 ≤ d * 4294967296 := Nat.mul_le_mul_right _ hc
  rw [Nat.mul_comm 4294967296 d]
  omega
theorem val_drop {l : List Nat} {k : Nat} (h : k < l.length) : val (l.drop k) = l.getD k 0 + 4294967296 * val (l.drop (k + 1)) := by
  rw [List.drop_eq_getElem_cons h, val]
  simp [List.getD, List.getElem?_eq_getElem h]

set_option maxHeartbeats 4000000 in
set_option maxRecDepth 100000 in
theorem small_at (a : Option Addr) (ca n d : Nat) (xs : List Nat) (x : Nat) (w : World) (ha : ShowsW w a ca xs) (hn : n = xs.length) (h0 : 0 < n) (hx : Num xs x) (hd0 : 0 < d) (hd : d < 4294967296) :
    Calls Tryd.prog 65 #[.slice a n ca, .int .u32 (d : Int)] w fun e w' => ∃ v us, e = .returned (.tuple #[v, .int .u32 ((x % d : Nat) : Int)]) ∧ OwnsN w' w.heap.size v us (x / d) ∧ us.length ≤ n ∧ Below w.heap.size w w' := by
  have HX : Hid (n = xs.length) := hn
  have hn6 : n ≤ 1000000 := by rw [hn]; exact ha.few
  have HSx : Hid (ShowsW w a ca xs) := ha
  have HNx : Hid (Num xs x) := hx
  clear hn ha hx
  obtain ⟨i0, hi, hz0, hz1, hz2⟩ := info_parts Tryd.infoW
  go_enter Tryd.func65, Tryd.ntmps65
  go_wp2_with (at_make; refine wpList_make_full _ rfl _ _ 42 rfl w.heap.size 83 i0 (.int .u32 0) 1 Tryd.underlying42 hi hz0 hz1 _ _ _ _ n rfl rfl rfl rfl ?b1 ?b2 ?b3 ?_)
  case b1 => first | omega | (rw [hz2]; omega)
  case b2 => first | omega | (unfold maxLen; omega)
  try (case b3 => exact Nat.le_refl _)
  intro w1 hown hgrow
  have HB1 : Hid (Below w.heap.size w w1) := (Below.refl _ _).grown hgrow (Nat.le_refl _) (fun k h => by cases h)
  have HO1 : Hid (OwnsW w1 w.heap.size (.slice (some ⟨w.heap.size, 0, none⟩) n n) (behind n [])) := by
    have := ownsW_made (w := w1) (base := w.heap.size) (g := w.heap.size) (n := n) (by simpa [Value.cells] using hown)
    simpa [Hid, behind] using this
  clear hown hgrow
  go_wp2
  go_loopw [7, 8] (fun c i wr => ∃ (k cc : Nat) (qs : List Nat), k ≤ n ∧ cc < d ∧ i = .int .i64 ((k : Int) - 1) ∧ c = .int .u64 cc ∧ Hid (qs.length = n - k) ∧ Hid (Wd qs) ∧ Hid (val (xs.drop k) = val qs * d + cc) ∧ Hid (OwnsW wr w.heap.size (.slice (some ⟨w.heap.size, 0, none⟩) n n) (behind k qs)) ∧ Hid (Below w.heap.size w wr)) (fun _ i _ => (intOf i + 1).toNat)
  case atStart => exact ⟨n, 0, [], Nat.le_refl _, hd0, by first | rfl | go_num, rfl, by simp [Hid], fun _ h => by simp at h, by rw [HX.out, List.drop_length]; simp [Hid, val], HO1, HB1⟩
  case round =>
    obtain ⟨k, cc, qs, hk, hcc, rfl, rfl, HQl, HQw, HV, HO, HB⟩ := hrel
    have HPl : Hid (n = (behind k qs).length) := by show _ = _; rw [behind_len, HQl.out]; omega
    by_cases hk0 : 0 < k
    · obtain ⟨m, hm⟩ : ∃ m, m = k - 1 := ⟨_, rfl⟩
      have hm1 : (k : Int) - 1 = (m : Int) := by omega
      have HKm : Hid (k = m + 1) := by show _ = _; omega
      have hmn : (m : Int) < (n : Int) := by omega
      have HKx : Hid (m < xs.length) := by rw [← HX.out]; show _ < _; omega
      obtain ⟨bx, ox, u, hax, HU, hu, -, hcx⟩ := (HSx.out.below HB.out).elem HKx.out
      subst hax
      obtain ⟨hfz, hcz⟩ := HO.out.at HPl.out (j := m) (by rw [← HPl.out]; omega)
      unfold wv at hcz
      obtain ⟨t, ht⟩ : ∃ t, t = cc * 4294967296 + u := ⟨_, rfl⟩
      have HOr : Hid (bits BinOp.or IntKind.u64 ((cc : Int) * 4294967296) (u : Int) = (t : Int)) := by
        show _ = _
        rw [bits_join .u64 64 (by decide) wraps_u64 32 _ _ (by omega) (by omega) (by omega) (by omega) (by omega) (by omega), ht]
        omega
      obtain ⟨s, hs⟩ : ∃ s, s = t / d := ⟨_, rfl⟩
      obtain ⟨r, hr⟩ : ∃ r, r = t % d := ⟨_, rfl⟩
      have hs2 : s < 4294967296 := by rw [hs]; exact small_lt hcc hu ht
      have hr2 : r < d := by rw [hr]; exact Nat.mod_lt _ hd0
      have HTm : Hid ((t : Int).tmod (d : Int) = (r : Int)) := by show _ = _; rw [hr]; rfl
      have HTd : Hid (IntKind.u64.wrap ((t : Int).tdiv (d : Int)) % 4294967296 = (s : Int)) := by
        show _ = _
        have e : (t : Int).tdiv (d : Int) = (s : Int) := by rw [hs]; rfl
        rw [e, wraps_u64 _ (by omega) (by omega)]; omega
      have HNv : Hid (val (xs.drop m) = val (s :: qs) * d + r) := by
        show _ = _
        have h1 := HV.out
        rw [HKm.out] at h1
        rw [val_drop HKx.out, ← HU.out, val, hs]
        exact small_step h1 ht hr
      have HQl2 : Hid ((s :: qs).length = n - m) := by show _ = _; rw [List.length_cons, HQl.out]; have := HKm.out; omega
      have HQw2 : Hid (Wd (s :: qs)) := fun z hz => by
        rw [List.mem_cons] at hz
        rcases hz with rfl | hz
        · exact hs2
        · exact HQw.out z hz
      have HO2 : Hid (OwnsW (wr.setCell ⟨w.heap.size, m, none⟩ (.int .u32 (s : Int))) w.heap.size (.slice (some ⟨w.heap.size, 0, none⟩) n n) (behind m (s :: qs))) := by
        have h1 := HO.out.store HPl.out m s
        rw [HKm.out, behind_set] at h1
        exact h1
      have HB2 : Hid (Below w.heap.size w (wr.setCell ⟨w.heap.size, m, none⟩ (.int .u32 (s : Int)))) := HB.out.setCell (p := ⟨w.heap.size, m, none⟩) (Nat.le_refl _) _
      have hmk : m < k := by omega
      rw [hm1]
      clear hm hm1 ht hs hr hs2
      go_wp2_with fail
      rw [HOr.out, HTm.out, HTd.out]
      refine ⟨⟨m, r, s :: qs, by omega, hr2, rfl, rfl, HQl2, HQw2, HNv, HO2, HB2⟩, ?_⟩
      simp [intOf]; try omega
    · obtain rfl : k = 0 := by omega
      have e0 : behind 0 qs = qs := by simp [behind]
      have HOw : Hid (OwnsW wr w.heap.size (.slice (some ⟨w.heap.size, 0, none⟩) n n) qs) := by have := HO.out; rw [e0] at this; exact this
      have HVx : Hid (x = val qs * d + cc) := by
        show _ = _
        have := HV.out
        rw [List.drop_zero, HNx.out.eq] at this; exact this
      have HDv : Hid (x / d = val qs) := by
        show _ = _
        rw [HVx.out, Nat.mul_comm, Nat.mul_add_div hd0, Nat.div_eq_of_lt hcc, Nat.add_zero]
      have HMd : Hid (x % d = cc) := by
        show _ = _
        rw [HVx.out, Nat.mul_comm, Nat.mul_add_mod, Nat.mod_eq_of_lt hcc]
      have hc0 : (cc : Int) % 4294967296 = (cc : Int) := by omega
      have hm1 : ((0 : Nat) : Int) - 1 = -1 := rfl
      rw [hm1]
      obtain ⟨a3, c3, hv3, hS3⟩ := HOw.out.shows (by rw [HQl.out]; omega) HQw.out (fun a5 n5 cap5 h _ => by simp only [Value.slice.injEq] at h; have := h.2.2; omega)
      simp only [Value.slice.injEq] at hv3
      obtain ⟨rfl, hn3, rfl⟩ := hv3
      have HT4 : Hid (OwnsN wr w.heap.size (.slice (some ⟨w.heap.size, 0, none⟩) (norm qs).length n) (norm qs) (val qs)) := ownsN_trim HOw.out HQw.out (by omega)
      have HL4 : Hid ((norm qs).length ≤ n) := by show _ ≤ _; have := norm_len qs; omega
      have HN3 : Hid (n = qs.length) := hn3
      clear hn3 hm1 e0 hk0
      go_wp2_with fail
      refine (trim_at _ _ _ _ _ hS3 HN3.out).mono ?_
      rintro e w' ⟨rfl, rfl⟩
      go_wp2
      go_ret2
      exact ⟨_, _, by rw [HMd.out]; rfl, by rw [HDv.out]; exact HT4.out, HL4.out, HB.out⟩

end Go.Proofs.YthfbkangjpcpgaaDoor
