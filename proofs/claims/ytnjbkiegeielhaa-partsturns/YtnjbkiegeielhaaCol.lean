/-
  Contracts of parts.columns, parts.Conjugate, parts.partAt, parts.Dominates.
-/
import Derived.Test.YtnjbkiegeielhaaFMath
namespace Go.Proofs.Ytnjbkiegeielhaa
open Go.RowKit

/-- How many of the numbers are above j. -/
def colv (zs : List Int) (j : Nat) : Int := ((zs.countP fun z => decide ((j : Int) < z) : Nat) : Int)
/-- The numbers f 0, f 1, .. , f (n - 1). -/
def tab (n : Nat) (f : Nat → Int) : List Int := (List.range n).map f
/-- Rows and columns change places. -/
def conj (zs : List Int) : List Int := tab (zs.getD 0 0).toNat (colv zs)

theorem tab_length (n : Nat) (f : Nat → Int) : (tab n f).length = n := by simp [tab]
theorem tab_getD (n : Nat) (f : Nat → Int) (j : Nat) (hj : j < n) : (tab n f).getD j 0 = f j := by simp [tab, List.getD, hj]
theorem tab_out (n : Nat) (f : Nat → Int) (j : Nat) (hj : n ≤ j) : (tab n f).getD j 0 = 0 := by simp [tab, List.getD, hj]
theorem tab_mem {n : Nat} {f : Nat → Int} {z : Int} (h : z ∈ tab n f) : ∃ j, j < n ∧ z = f j := by
  simp only [tab, List.mem_map, List.mem_range] at h
  obtain ⟨j, hj, rfl⟩ := h
  exact ⟨j, hj, rfl⟩
theorem tab_congr {n : Nat} {f g : Nat → Int} (h : ∀ j, j < n → f j = g j) : tab n f = tab n g := List.map_congr_left (fun j hj => h j (List.mem_range.1 hj))
theorem tab_succ (n : Nat) (f : Nat → Int) : tab (n + 1) f = tab n f ++ [f n] := by simp [tab, List.range_succ]
theorem colv_nonneg (zs : List Int) (j : Nat) : 0 ≤ colv zs j := by unfold colv; omega
theorem colv_le (zs : List Int) (j : Nat) : colv zs j ≤ zs.length := by
  unfold colv; have := List.countP_le_length (p := fun z => decide ((j : Int) < z)) (l := zs); omega
theorem colv_snoc (zs : List Int) (z : Int) (j : Nat) : colv (zs ++ [z]) j = colv zs j + if (j : Int) < z then 1 else 0 := by
  unfold colv
  rw [List.countP_append]
  by_cases h : (j : Int) < z <;> simp [h]
theorem row_step (n : Nat) (zs : List Int) (z : Int) (hz0 : 0 ≤ z) : bump z.toNat 1 (tab n (colv zs)) = tab n (colv (zs ++ [z])) := by
  refine ext_getD (by simp [bump_length, tab_length]) (fun j hj => ?_)
  rw [bump_length, tab_length] at hj
  rw [bump_getD _ _ _ _ (by rw [tab_length]; exact hj), tab_getD _ _ _ hj, tab_getD _ _ _ hj, colv_snoc]
  by_cases h : (j : Int) < z
  · rw [if_pos (by omega), if_pos h]
  · rw [if_neg (by omega), if_neg h]

theorem IsPart.first {zs : List Int} (h : IsPart zs) {k : Nat} (hk : k < zs.length) : zs.getD k 0 ≤ zs.getD 0 0 := by
  have : ∀ n, n < zs.length → zs.getD n 0 ≤ zs.getD 0 0 := by
    intro n
    induction n with
    | zero => intro _; exact Int.le_refl _
    | succ n ih =>
      intro hn
      have h1 := ih (by omega)
      have h2 := (h.1 (n + 1) hn).2 (by omega)
      rw [Nat.add_sub_cancel] at h2; omega
  exact this k hk

set_option maxHeartbeats 2000000 in
theorem columns_any (a : Option Addr) (cap : Nat) (zs : List Int) (w : World) (hs : Shows w a zs) (hp : IsPart zs) :
    Calls Try.prog 28 #[.slice a zs.length cap] w fun e w' => ∃ v, e = .returned v ∧ Owns w' w.heap.size v (conj zs) ∧ Below w.heap.size w w' := by
  have hl := hp.len
  by_cases hne : 0 < zs.length
  · obtain ⟨i0, hi, hz0, hz1, hz2⟩ := info_parts Try.info3
    obtain ⟨b, off, x, rfl, HX, -, -, hc⟩ := hs.elem hne
    rw [Nat.add_zero] at hc
    have hx : 1 ≤ x ∧ x ≤ 40 := by rw [HX.out]; exact hp.range _ (getD_mem hne)
    obtain ⟨n, rfl⟩ : ∃ n : Nat, x = n := ⟨x.toNat, by omega⟩
    have hn1 : 1 ≤ n := by omega
    have hn2 : n ≤ 40 := by omega
    have hb0 : ((zs.length : Int) == 0) = false := beq_eq_false_iff_ne.2 (by omega)
    have hpos : (0 : Int) < (zs.length : Int) := by omega
    clear hx
    go_enter Try.func28, Try.ntmps28
    go_wp2_with (at_make; refine wpList_make_full _ rfl _ _ 22 rfl w.heap.size 3 i0 (.int .i64 0) 1 Try.underlying22 hi hz0 hz1 _ _ _ _ n rfl rfl rfl rfl ?b1 ?b2 ?b3 ?_)
    case b1 => rw [hz2]; omega
    case b2 => unfold maxLen; omega
    case b3 => exact Nat.le_refl _
    intro w1 hown hgrow
    have HB1 : Hid (Below w.heap.size w w1) := (Below.refl _ _).grown hgrow (Nat.le_refl _) (fun k h => by cases h)
    have HO1 : Hid (Owns w1 w.heap.size (.slice (some ⟨w.heap.size, 0, none⟩) n n) (tab n (colv []))) := by
      show Owns _ _ _ _
      unfold Owns
      rw [tab_length]
      have e : (tab n (colv [])).map (Value.int .i64) = (madeCells #[Value.int .i64 0] n).toList := by
        rw [toList_madeCells_one]
        simp only [tab, List.map_map]
        rw [List.eq_replicate_iff]
        refine ⟨by simp, fun v hv => ?_⟩
        obtain ⟨j, _, rfl⟩ := List.mem_map.1 hv
        rfl
      rw [e]; exact hown
    clear hown hgrow
    go_wp2
    go_loopw [16] (fun i wr => ∃ k : Nat, k ≤ zs.length ∧ i = .int .i64 k ∧ Hid (Owns wr w.heap.size (.slice (some ⟨w.heap.size, 0, none⟩) n n) (tab n (colv (zs.take k)))) ∧ Hid (Below w.heap.size w wr)) (fun i _ => zs.length - (intOf i).toNat)
    case atStart => exact ⟨0, Nat.zero_le _, rfl, HO1, HB1⟩
    case round =>
      obtain ⟨k, hk, rfl, HK, HBk⟩ := hrel
      by_cases hlt : k < zs.length
      · obtain ⟨b', off', z, hbo, HZ, -, -, hcz⟩ := (hs.below HBk.out).elem hlt
        simp only [Option.some.injEq, Addr.mk.injEq, and_true] at hbo
        obtain ⟨rfl, rfl⟩ := hbo
        have hz : 1 ≤ z ∧ z ≤ n := by
          rw [HZ.out, HX.out]; exact ⟨(hp.range _ (getD_mem hlt)).1, hp.first hlt⟩
        obtain ⟨hz3, hz4⟩ := hz
        go_wp2
        go_loopw [21] (fun i wq => ∃ m : Nat, (m : Int) ≤ z ∧ i = .int .i64 m ∧ Hid (Owns wq w.heap.size (.slice (some ⟨w.heap.size, 0, none⟩) n n) (bump m 1 (tab n (colv (zs.take k))))) ∧ Hid (Below w.heap.size w wq)) (fun i _ => (z - intOf i).toNat)
        case atStart => exact ⟨0, by omega, rfl, by rw [bump_zero]; exact HK, HBk⟩
        case round =>
          obtain ⟨m, hm, rfl, HM, HBm⟩ := hrel
          by_cases hml : (m : Int) < z
          · have hmn : m < (tab n (colv (zs.take k))).length := by rw [tab_length]; omega
            obtain ⟨-, hfz, hcl⟩ := HM.out.at (by rw [bump_length, tab_length])
            have hck := hcl m (by rw [bump_length]; exact hmn)
            rw [bump_getD _ _ _ _ hmn, if_neg (Nat.lt_irrefl _), Int.add_zero] at hck
            obtain ⟨y, HY⟩ : ∃ y, Hid (y = (tab n (colv (zs.take k))).getD m 0) := ⟨_, rfl⟩
            rw [← HY.out] at hck
            have hy0 : 0 ≤ y ∧ y ≤ 40 := by
              rw [HY.out, tab_getD _ _ _ (by omega)]
              have h1 := colv_le (zs.take k) m
              have h2 := colv_nonneg (zs.take k) m
              rw [List.length_take] at h1; omega
            obtain ⟨hy1, hy2⟩ := hy0
            have hfk := hfz m
            have HS' : Hid _ := bump_step HM.out (by rw [tab_length]) hmn HY.out
            have hmn' : m < n := by omega
            clear hcl hfz
            go_wp2
            go_roundw
            case rel => exact ⟨m + 1, by omega, by go_num, HS', HBm.out.setCell (Nat.le_refl _) _⟩
            case measure => simp [intOf]; omega
          · obtain rfl : z = m := by omega
            have HS : Hid (Owns wr w.heap.size (.slice (some ⟨w.heap.size, 0, none⟩) n n) (tab n (colv (zs.take (k + 1))))) := by
              show Owns _ _ _ _
              rw [take_snoc zs k hlt, ← HZ.out, ← row_step n _ _ (by omega), Int.toNat_natCast]
              exact HM.out
            go_wp2
            go_roundw
            case rel => exact ⟨k + 1, by omega, by go_num, HS, HBm⟩
            case measure => simp [intOf]; omega
      · obtain rfl : k = zs.length := by omega
        rw [List.take_length] at HK
        go_wp2
        go_ret
        refine ⟨_, rfl, ?_, HBk.out⟩
        unfold conj
        rw [← HX.out, Int.toNat_natCast]; exact HK.out
  · obtain rfl : zs = [] := List.eq_nil_of_length_eq_zero (by omega)
    simp only [List.length_nil]
    go_enter Try.func28, Try.ntmps28
    go_wp2
    go_ret
    exact ⟨_, rfl, World.ownsRow_nil _ _ _ _, Below.refl _ _⟩

#print axioms columns_any
end Go.Proofs.Ytnjbkiegeielhaa
