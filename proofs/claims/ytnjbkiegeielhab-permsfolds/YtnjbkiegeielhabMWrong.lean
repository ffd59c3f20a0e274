/-
  The contracts of ferref.Wrong and ferref.Falls.
-/
import Derived.Test.YtnjbkiegeielhabMLet
namespace Go.Proofs.Ytnjbkiegeielhab
open Go.RowKit

theorem above_snoc (x : Int) (u : List Int) (y : Int) : above x (u ++ [y]) = above x u + if x < y then 1 else 0 := by
  unfold above; rw [List.countP_append, List.countP_cons]; simp
theorem above_le (x : Int) (u : List Int) : above x u ≤ u.length := List.countP_le_length
theorem wrongs_bound : ∀ (l : List Int), wrongs l ≤ l.length * l.length := by
  intro l
  induction l with
  | nil => exact Nat.le_refl _
  | cons y l ih =>
    have : l.countP (fun z => decide (z < y)) ≤ l.length := List.countP_le_length
    simp only [wrongs, List.length_cons]
    have : (l.length + 1) * (l.length + 1) = l.length * l.length + l.length + l.length + 1 := by rw [Nat.add_mul, Nat.mul_add]; omega
    omega
theorem wrongs_small {l : List Int} (h : l.length ≤ 40) : wrongs l ≤ 1600 := by
  have := wrongs_bound l
  have := Nat.mul_le_mul h h
  omega

set_option maxHeartbeats 2000000 in
theorem Wrong_any (a : Option Addr) (cap : Nat) (zs : List Int) (w : World) (hs : Shows w a zs) (h40 : zs.length ≤ 40) :
    Calls Try.prog 15 #[.slice a zs.length cap] w fun e w' => e = .returned (.int .i64 (wrongs zs : Nat)) ∧ ∃ n, w' = w.drewN n := by
  go_enter Try.func15, Try.ntmps15
  go_wp2
  go_loopw [3, 4] (fun s i wr => ∃ k : Nat, k ≤ zs.length ∧ i = .int .i64 k ∧ s = .int .i64 (wrongs (zs.take k) : Nat) ∧ ∃ n, wr = w.drewN n) (fun _ i _ => zs.length - (intOf i).toNat)
  case atStart => exact ⟨0, Nat.zero_le _, rfl, rfl, 0, rfl⟩
  case round =>
    obtain ⟨k, hk, rfl, rfl, n0, rfl⟩ := hrel
    by_cases hlt : k < zs.length
    · have hlt' : (k : Int) < (zs.length : Int) := by omega
      obtain ⟨b, off, z, rfl, HZ, hz1, hz2, hc⟩ := hs.elem hlt
      have hwb := wrongs_small (l := zs.take k) (by simp; omega)
      obtain ⟨W0, HW0⟩ : ∃ W0, Hid (W0 = wrongs (zs.take k)) := ⟨_, rfl⟩
      rw [← HW0.out] at hwb ⊢
      go_wp2
      go_loopw [3, 5] (fun s i wr => ∃ (j m : Nat), j ≤ k ∧ i = .int .i64 j ∧ s = .int .i64 m ∧ m ≤ 1600 + j ∧ Hid (m = W0 + above z (zs.take j)) ∧ ∃ n, wr = w.drewN n) (fun _ i _ => k - (intOf i).toNat)
      case atStart => exact ⟨0, W0, Nat.zero_le _, rfl, rfl, by omega, by simp [Hid, above], n0, rfl⟩
      case round =>
        obtain ⟨j, m, hj, rfl, rfl, hm, HM, n1, rfl⟩ := hrel
        by_cases hlj : j < k
        · have hlj' : (j : Int) < (k : Int) := by omega
          have hlj2 : (j : Int) < (zs.length : Int) := by omega
          obtain ⟨b2, off2, y, hbb, HY, hy1, hy2, hcy⟩ := hs.elem (show j < zs.length by omega)
          simp only [Option.some.injEq, Addr.mk.injEq, and_true] at hbb
          obtain ⟨rfl, rfl⟩ := hbb
          have HS : Hid (above z (zs.take (j + 1)) = above z (zs.take j) + if z < y then 1 else 0) := by
            show _ = _; rw [take_snoc zs j (by omega), above_snoc, HY.out]
          by_cases hyz : z < y
          · have hb : decide (y > z) = true := by simpa using hyz
            have HE : Hid (z < y) := hyz
            go_wp2_with fail
            go_quiet (fail)
            go_wp2
            go_roundw
            case rel => exact ⟨j + 1, m + 1, by omega, by go_num, by go_num, by omega, by show _ = _; rw [HS.out, if_pos HE.out, HM.out]; omega, _, by first | exact rfl | exact drewN_two _ _ _⟩
            case measure => simp [intOf]; omega
          · have hb : decide (y > z) = false := by simpa using hyz
            have HE : Hid (¬ z < y) := hyz
            go_wp2_with fail
            go_quiet (fail)
            go_wp2
            go_roundw
            case rel => exact ⟨j + 1, m, by omega, by go_num, rfl, by omega, by show _ = _; rw [HS.out, if_neg (show ¬ z < y by have := HE.out; omega), HM.out]; omega, _, by first | exact rfl | exact drewN_two _ _ _⟩
            case measure => simp [intOf]; omega
        · obtain rfl : j = k := by omega
          have HN : Hid (wrongs (zs.take (j + 1)) = m) := by
            show _ = _; rw [take_snoc zs j hlt, wrongs_snoc, ← HZ.out, HM.out, HW0.out]
          go_wp2
          go_roundw
          case rel => exact ⟨j + 1, by omega, by go_num, by rw [HN.out], n1, rfl⟩
          case measure => simp [intOf]; omega
    · go_wp2
      go_ret
      exact ⟨ret_int (by rw [List.take_of_length_le (by omega)]), n0, rfl⟩

theorem Wrong_at (a : Option Addr) (n cap : Nat) (zs : List Int) (w : World) (hs : Shows w a zs) (hn : n = zs.length) (h40 : zs.length ≤ 40) (t : Nat) (h : wrongs zs = t) :
    Calls Try.prog 15 #[.slice a n cap] w fun e w' => e = .returned (.int .i64 (t : Nat)) ∧ ∃ n, w' = w.drewN n := by
  subst hn; rw [← h]; exact Wrong_any a cap zs w hs h40

/-- The descents. -/
def desc : Nat → List Int → List Int
  | 0, _ => []
  | n + 1, v => desc n v ++ if 0 < n ∧ v.getD n 0 < v.getD (n - 1) 0 then [(n : Int)] else []

theorem desc_sum : ∀ (n : Nat) (v : List Int), sum (desc n v) = (major n v : Nat) := by
  intro n
  induction n with
  | zero => intro v; rfl
  | succ n ih =>
    intro v
    rw [desc, major, sum_append, ih]
    split
    · simp [sum]
    · simp [sum]
theorem desc_small : ∀ (n : Nat) (v : List Int), ∀ z ∈ desc n v, 0 ≤ z ∧ z < n := by
  intro n
  induction n with
  | zero => intro v z hz; simp [desc] at hz
  | succ n ih =>
    intro v z hz
    rw [desc] at hz
    rcases List.mem_append.1 hz with h | h
    · have := ih v z h; omega
    · split at h
      · simp at h; omega
      · simp at h
theorem desc_len : ∀ (n : Nat) (v : List Int), (desc n v).length ≤ n := by
  intro n
  induction n with
  | zero => intro v; simp [desc]
  | succ n ih =>
    intro v
    have := ih v
    rw [desc, List.length_append]
    split <;> simp <;> omega
theorem desc_one (v : List Int) : desc 1 v = [] := by simp [desc]

set_option maxHeartbeats 2000000 in
theorem Falls_any (a : Option Addr) (cap : Nat) (zs : List Int) (w : World) (hs : Shows w a zs) (h40 : zs.length ≤ 40) :
    Calls Try.prog 16 #[.slice a zs.length cap] w fun e w' => ∃ v, e = .returned (.tuple #[v, .int .i64 (major zs.length zs : Nat)]) ∧ Owns w' w.heap.size v (desc zs.length zs) ∧ Below w.heap.size w w' := by
  obtain ⟨M, HM⟩ : ∃ M : Int, Hid (M = (major zs.length zs : Nat)) := ⟨_, rfl⟩
  rw [← HM.out]
  go_enter Try.func16, Try.ntmps16
  go_wp2
  go_loopw [4, 5] (fun v i wr => ∃ k : Nat, 1 ≤ k ∧ (k ≤ 1 ∨ k ≤ zs.length) ∧ i = .int .i64 k ∧ Hid (Owns wr w.heap.size v (desc k zs)) ∧ Hid (Below w.heap.size w wr)) (fun _ i _ => zs.length - (intOf i).toNat)
  case atStart => exact ⟨1, Nat.le_refl _, Or.inl (Nat.le_refl _), rfl, by show Owns _ _ _ _; rw [desc_one]; exact World.ownsRow_nil _ _ _ _, Below.refl _ _⟩
  case round =>
    obtain ⟨k, hk1, hk2, rfl, HO, HB⟩ := hrel
    have HK2 : Hid (k ≤ 1 ∨ k ≤ zs.length) := hk2
    clear hk2
    have hs1 := hs.below HB.out
    by_cases hlt : k < zs.length
    · have hlt' : (k : Int) < (zs.length : Int) := by omega
      obtain ⟨k1, hk1'⟩ : ∃ k1, k1 = k - 1 := ⟨_, rfl⟩
      have hw1 : IntKind.i64.wrap ((k : Int) - 1) = (k1 : Int) := by rw [IntWalk.i64_left, IntWalk.wrap64_in _ (by omega)]; omega
      obtain ⟨b, off, z, y, rfl, HZ, HY, hz1, hz2, hy1, hy2, hc, hcy⟩ := hs1.elem2 hlt (show k1 < zs.length by omega)
      have hk1l : (k1 : Int) < (zs.length : Int) := by omega
      have HD : Hid (desc (k + 1) zs = desc k zs ++ if z < y then [(k : Int)] else []) := by
        show _ = _
        rw [desc, HZ.out, HY.out, hk1']
        by_cases h : zs.getD k 0 < zs.getD (k - 1) 0
        · rw [if_pos ⟨by omega, h⟩, if_pos h]
        · rw [if_neg (fun hh => h hh.2), if_neg h]
      have hdl := desc_len k zs
      clear hk1'
      by_cases hzy : z < y
      · have hb : decide (z < y) = true := by simpa using hzy
        have HE : Hid (z < y) := hzy
        clear hzy
        go_wp2_with fail
        go_quiet (fail)
        have HO2 : Hid (Owns (wr.drewN nq) w.heap.size u4 (desc k zs)) := HO.out.below (below_drewN (Below.refl _ _) nq)
        go_wp2_with (at_builtin; refine append_int (x := (k : Int)) rfl _ _ rfl rfl HO2.out rfl ?c1 ?c2 ?_)
        case c1 => omega
        case c2 => exact HB.out.size
        intro v' w2 hO' hb'
        have HO3 : Hid (Owns w2 w.heap.size v' (desc (k + 1) zs)) := by show Owns _ _ _ _; rw [HD.out, if_pos HE.out]; exact hO'
        have HB3 : Hid (Below w.heap.size w w2) := HB.out.trans ((below_drewN (Below.refl _ _) nq).trans hb')
        clear hO' hb'
        go_wp2
        go_roundw
        case rel => exact ⟨k + 1, by omega, by omega, by go_num, HO3, HB3⟩
        case measure => simp [intOf]; omega
      · have hb : decide (z < y) = false := by simpa using hzy
        have HE : Hid (¬ z < y) := hzy
        clear hzy
        go_wp2_with fail
        go_quiet (fail)
        go_wp2
        go_roundw
        case rel => exact ⟨k + 1, by omega, by omega, by go_num, by
                      show Owns _ _ _ _; rw [HD.out, if_neg (show ¬ z < y by have := HE.out; omega), List.append_nil]; exact HO.out.below (below_drewN (Below.refl _ _) _), HB.out.trans (below_drewN (Below.refl _ _) _)⟩
        case measure => simp [intOf]; omega
    · have HF : Hid (desc k zs = desc zs.length zs ∧ major k zs = major zs.length zs) := by
        rcases HK2.out with h | h
        · obtain rfl : k = 1 := by omega
          rcases Nat.lt_or_ge 0 zs.length with h1 | h1
          · rw [show zs.length = 1 by omega]; exact ⟨rfl, rfl⟩
          · rw [show zs.length = 0 by omega]; exact ⟨by simp [desc], by simp [major]⟩
        · rw [show k = zs.length by omega]; exact ⟨rfl, rfl⟩
      have hd : decide ((k : Int) < (zs.length : Int)) = false := by simp; omega
      have HSm : Hid (∀ z ∈ desc k zs, 0 ≤ z ∧ z ≤ 1000) := fun z hz => by have := desc_small k zs z hz; have := HK2.out; omega
      have HSl : Hid ((desc k zs).length ≤ 1000) := by have := desc_len k zs; have := HK2.out; show _ ≤ _; omega
      have HSum : Hid (sum (desc k zs) = (major zs.length zs : Nat)) := by show _ = _; rw [desc_sum, HF.out.2]
      obtain ⟨ds, HDS⟩ : ∃ ds, Hid (ds = desc k zs) := ⟨_, rfl⟩
      rw [← HDS.out] at HO HSm HSl HSum
      rw [← HM.out] at HSum
      obtain ⟨a4, n4, c4, rfl, S4, hn4, hc4⟩ := HO.out.opened (by have := HSl.out; omega) (small_wf HSm.out)
      have hn4' : Hid (n4 = ds.length) := hn4
      clear hn4
      go_wp2_with fail
      refine (Size_at a4 n4 c4 ds _ S4 HSm.out hn4'.out M HSum.out).mono ?_
      rintro e w5 ⟨rfl, rfl⟩
      go_wp2_with fail
      go_ret2
      exact ⟨_, rfl, by rw [← HF.out.1, ← HDS.out]; exact HO.out, HB.out⟩

theorem Falls_at (a : Option Addr) (n cap : Nat) (zs : List Int) (w : World) (hs : Shows w a zs) (hn : n = zs.length) (h40 : zs.length ≤ 40) (t : Nat) (ds : List Int) (h : major zs.length zs = t) (hd : desc zs.length zs = ds) :
    Calls Try.prog 16 #[.slice a n cap] w fun e w' => ∃ v, e = .returned (.tuple #[v, .int .i64 (t : Nat)]) ∧ Owns w' w.heap.size v ds ∧ Below w.heap.size w w' := by
  subst hn; rw [← h, ← hd]; exact Falls_any a cap zs w hs h40

#print axioms Falls_any
#print axioms Wrong_any
end Go.Proofs.Ytnjbkiegeielhab
