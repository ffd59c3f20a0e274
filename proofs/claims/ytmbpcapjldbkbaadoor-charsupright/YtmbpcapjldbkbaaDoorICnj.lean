/-
  The contracts of parts.Check, parts.columns, parts.Conjugate.
-/
import Derived.Test.YtmbpcapjldbkbaaDoorBApp
import Derived.Test.YtmbpcapjldbkbaaDoorLMath
namespace Go.Proofs.YtmbpcapjldbkbaaDoor
open Go.RowKit

/-- What roomLeft answers. -/
def ptRoom : Int → List Int → Int
  | r, [] => r
  | r, n :: l => if r < n then -1 else ptRoom (r - n) l

theorem ptRoom_drop (r : Int) (zs : List Int) (k : Nat) (hk : k < zs.length) (z : Int) (hz : z = zs.getD k 0) : ptRoom r (zs.drop k) = if r < z then -1 else ptRoom (r - z) (zs.drop (k + 1)) := by
  have e : zs.drop k = z :: zs.drop (k + 1) := by
    rw [List.drop_eq_getElem_cons hk]; simp [hz, List.getD, List.getElem?_eq_getElem hk]
  rw [e, ptRoom]

theorem ptRoom_le (zs : List Int) : ∀ r : Int, (∀ z ∈ zs, 0 ≤ z) → -1 ≤ r → -1 ≤ ptRoom r zs ∧ ptRoom r zs ≤ r := by
  induction zs with
  | nil => intro r _ h; simp [ptRoom, h]
  | cons n l ih =>
    intro r hz h
    have h0 := hz n (by simp)
    rw [ptRoom]; split
    · omega
    · have := ih (r - n) (fun z hzz => hz z (by simp [hzz])) (by omega); omega

def ptStep (m d : Int) (zs : List Int) (j : Nat) : Prop := m ≤ zs.getD j 0 ∧ (0 < j → zs.getD j 0 + d ≤ zs.getD (j - 1) 0)
def PtGoes (m d : Int) (zs : List Int) : Prop := ∀ j, j < zs.length → ptStep m d zs j
def ptGoB (m d : Int) (zs : List Int) : Bool := (List.range zs.length).all fun j => decide (m ≤ zs.getD j 0) && (decide (j = 0) || decide (zs.getD j 0 + d ≤ zs.getD (j - 1) 0))

theorem ptGoB_iff {m d : Int} {zs : List Int} : ptGoB m d zs = true ↔ PtGoes m d zs := by
  unfold ptGoB PtGoes ptStep
  rw [List.all_eq_true]
  constructor
  · intro h j hj
    have := h j (List.mem_range.2 hj)
    simp only [Bool.and_eq_true, Bool.or_eq_true, decide_eq_true_eq] at this
    exact ⟨this.1, fun h0 => this.2.resolve_left (by omega)⟩
  · intro h j hj
    have := h j (List.mem_range.1 hj)
    simp only [Bool.and_eq_true, Bool.or_eq_true, decide_eq_true_eq]
    refine ⟨this.1, ?_⟩
    by_cases h0 : j = 0
    · exact Or.inl h0
    · exact Or.inr (this.2 (by omega))
theorem ptGoB_pos {m d : Int} {zs : List Int} (h : PtGoes m d zs) : ptGoB m d zs = true := ptGoB_iff.2 h
theorem ptGoB_neg {m d : Int} {zs : List Int} (h : ¬ PtGoes m d zs) : ptGoB m d zs = false := by
  cases e : ptGoB m d zs with
  | false => rfl
  | true => exact absurd (ptGoB_iff.1 e) h
/-- A partition of at most 40. -/
structure IsPt (zs : List Int) : Prop where
  goes : PtGoes 1 0 zs
  fits : 0 ≤ ptRoom 40 zs
  range : ∀ z ∈ zs, 1 ≤ z ∧ z ≤ 40
  len : zs.length ≤ 40
set_option maxHeartbeats 400000 in
theorem roomLeft_any (r : Int) (a : Option Addr) (cap : Nat) (zs : List Int) (w : World) (hs : Shows w a zs) (h0 : ∀ z ∈ zs, 0 ≤ z) (hr0 : -9223372036854775808 ≤ r) (hr : r ≤ 9223372036854775807) :
    Calls Tryd.prog 20 #[.int .i64 r, .slice a zs.length cap] w fun e w' => e = .returned (.int .i64 (ptRoom r zs)) ∧ w' = w := by
  have hl := hs.len
  go_enter Tryd.func20, Tryd.ntmps20
  go_wp2
  go_loop [0, 9] (fun q i => ∃ (k : Nat) (x : Int), k ≤ zs.length ∧ i = .int .i64 k ∧ q = .int .i64 x ∧ x ≤ r ∧ (x = r ∨ 0 ≤ x) ∧ ptRoom x (zs.drop k) = ptRoom r zs) (fun _ i => zs.length - (intOf i).toNat)
  case atStart => exact ⟨0, r, Nat.zero_le _, rfl, rfl, Int.le_refl _, Or.inl rfl, by simp⟩
  case round =>
    obtain ⟨k, x, hk, rfl, rfl, hxr, hx0, hroom⟩ := hrel
    have HR := show Hid (ptRoom x (zs.drop k) = ptRoom r zs) from hroom
    clear hroom
    by_cases hlt : k < zs.length
    · obtain ⟨b, off, z, rfl, HZ, hz1, hz2, hc⟩ := hs.elem hlt
      have hz0 : 0 ≤ z := h0 z (by rw [HZ.out]; simp [List.getD, List.getElem?_eq_getElem hlt])
      have HD : Hid (_ = _) := ptRoom_drop x zs k hlt z HZ.out
      by_cases hxz : x < z
      · go_wp2
        go_ret
        exact ⟨ret_int (by rw [← HR.out, HD.out, if_pos hxz]), rfl⟩
      · have hx0' : Hid (x = r ∨ 0 ≤ x) := hx0
        clear hx0
        have hx1 : -9223372036854775808 ≤ x := by rcases hx0'.out with h | h <;> omega
        go_wp2
        go_round
        case rel => exact ⟨k + 1, x - z, by omega, by go_num, by go_num, by omega, by omega, by rw [← HR.out, HD.out, if_neg hxz]⟩
        case measure => simp [intOf]; omega
    · go_wp2
      go_ret
      exact ⟨ret_int (by rw [← HR.out, List.drop_of_length_le (by omega), ptRoom]), rfl⟩

/-- What Check answers. -/
def ptC (zs : List Int) : Int := if ptGoB 1 0 zs = true then (if ptRoom 40 zs < 0 then 2 else 0) else 1

set_option maxHeartbeats 1000000 in
theorem PaCheck_any (a : Option Addr) (cap : Nat) (zs : List Int) (w : World) (hs : Shows w a zs) :
    Calls Tryd.prog 9 #[.slice a zs.length cap] w fun e w' => e = .returned (.int .i64 (ptC zs)) ∧ w' = w := by
  have hl := hs.len
  go_enter Tryd.func9, Tryd.ntmps9
  go_wp2
  go_loop [7] (fun i => ∃ k : Nat, k ≤ zs.length ∧ i = .int .i64 k ∧ Hid (∀ j, j < k → ptStep 1 0 zs j)) (fun i => zs.length - (intOf i).toNat)
  case atStart => exact ⟨0, Nat.zero_le _, rfl, fun j hj => by omega⟩
  case round =>
    obtain ⟨k, hk, rfl, HR⟩ := hrel
    by_cases hlt : k < zs.length
    · rcases Nat.eq_zero_or_pos k with rfl | hpos
      · obtain ⟨b, off, z, rfl, HZ, hz1, hz2, hc⟩ := hs.elem hlt
        rw [Nat.add_zero] at hc
        by_cases h1 : z < 1
        · go_wp2
          go_ret
          exact ⟨ret_int (by rw [ptC, ptGoB_neg (fun h => by have := (h 0 hlt).1; rw [← HZ.out] at this; omega)]; rfl), rfl⟩
        · go_wp2
          go_round
          case rel => exact ⟨1, by omega, by go_num, fun j hj => by obtain rfl : j = 0 := (by omega); exact ⟨by rw [← HZ.out]; omega, fun h => by omega⟩⟩
          case measure => simp [intOf]; omega
      · obtain ⟨m, rfl⟩ : ∃ m, k = m + 1 := ⟨k - 1, by omega⟩
        obtain ⟨b, off, z, y, rfl, HZ, HY, hz1, hz2, hy1, hy2, hc, hcy⟩ := hs.elem2 hlt (show m < zs.length by omega)
        by_cases h1 : z < 1
        · go_wp2
          go_ret
          exact ⟨ret_int (by rw [ptC, ptGoB_neg (fun h => by have := (h (m + 1) hlt).1; rw [← HZ.out] at this; omega)]; rfl), rfl⟩
        · by_cases h2 : y < z
          · go_wp2
            go_ret
            exact ⟨ret_int (by rw [ptC, ptGoB_neg (fun h => by have := (h (m + 1) hlt).2 (by omega); rw [← HZ.out, Nat.add_sub_cancel, ← HY.out] at this; omega)]; rfl), rfl⟩
          · go_wp2
            go_round
            case rel => exact ⟨m + 2, by omega, by go_num, fun j hj => by
                          by_cases hj' : j < m + 1
                          · exact HR.out j hj'
                          · obtain rfl : j = m + 1 := by omega
                            exact ⟨by rw [← HZ.out]; omega, fun h => by rw [← HZ.out, Nat.add_sub_cancel, ← HY.out]; omega⟩⟩
            case measure => simp [intOf]; omega
    · have hg : Hid (PtGoes 1 0 zs) := fun j hj => HR.out j (by omega)
      have h0 : Hid (∀ z ∈ zs, 0 ≤ z) := fun z hz => by
        obtain ⟨j, hj, rfl⟩ := List.getElem_of_mem hz
        have := (hg j hj).1
        simp [List.getD, List.getElem?_eq_getElem hj] at this
        omega
      have hrl := ptRoom_le zs 40 h0.out (by omega)
      by_cases hneg : ptRoom 40 zs < 0
      · go_wp2_with (go_at_call 20; refine (roomLeft_any _ _ _ _ _ hs h0.out (by omega) (by omega)).mono ?_; rintro e w' ⟨rfl, rfl⟩)
        go_ret
        exact ⟨ret_int (by rw [ptC, ptGoB_pos hg.out]; simp [hneg]), rfl⟩
      · go_wp2_with (go_at_call 20; refine (roomLeft_any _ _ _ _ _ hs h0.out (by omega) (by omega)).mono ?_; rintro e w' ⟨rfl, rfl⟩)
        go_ret
        exact ⟨ret_int (by rw [ptC, ptGoB_pos hg.out]; simp [hneg]), rfl⟩

/-- d more at each of the first k places. -/
def ptBump (k : Nat) (d : Int) (zs : List Int) : List Int := (zs.take k).map (· + d) ++ zs.drop k
theorem ptBump_zero (d : Int) (zs : List Int) : ptBump 0 d zs = zs := by simp [ptBump]
theorem ptBump_length (k : Nat) (d : Int) (zs : List Int) : (ptBump k d zs).length = zs.length := by simp [ptBump]; omega
theorem ptBump_getD (k : Nat) (d : Int) (zs : List Int) (j : Nat) (hj : j < zs.length) : (ptBump k d zs).getD j 0 = zs.getD j 0 + if j < k then d else 0 := by
  unfold ptBump
  by_cases h : j < k
  · rw [if_pos h]
    simp only [List.getD]
    rw [List.getElem?_append_left (by simp; omega)]
    simp [h, List.getElem?_eq_getElem hj]
  · rw [if_neg h]
    simp only [List.getD]
    rw [List.getElem?_append_right (by simp; omega)]
    simp only [List.length_map, List.length_take, List.getElem?_drop]
    rw [show k + (j - min k zs.length) = j by omega]; simp
theorem ptBump_succ (k : Nat) (d : Int) (zs : List Int) (hk : k < zs.length) : ptBump (k + 1) d zs = (ptBump k d zs).set k (zs.getD k 0 + d) := by
  refine ext_getD (by simp [ptBump_length]) (fun j hj => ?_)
  rw [ptBump_length] at hj
  rw [ptBump_getD _ _ _ _ hj, set_getD _ _ _ _ (by rw [ptBump_length]; exact hj), ptBump_getD _ _ _ _ hj]
  by_cases h1 : j = k
  · subst h1; simp
  · by_cases h2 : j < k
    · rw [if_pos (by omega), if_neg h1, if_pos h2]
    · rw [if_neg (by omega), if_neg h1, if_neg h2]

theorem ptBump_step {w : World} {base g cap n k : Nat} {d x : Int} {zs : List Int} (h : Owns w base (.slice (some ⟨g, 0, none⟩) n cap) (ptBump k d zs)) (hn : n = zs.length) (hk : k < zs.length) (hx : x = zs.getD k 0) :
    Owns (w.setCell ⟨g, k, none⟩ (.int .i64 (x + d))) base (.slice (some ⟨g, 0, none⟩) n cap) (ptBump (k + 1) d zs) := by
  rw [ptBump_succ k d zs hk, hx]
  exact h.store (by rw [ptBump_length]; exact hn) k _
def ptCol (zs : List Int) (j : Nat) : Int := ((zs.countP fun z => decide ((j : Int) < z) : Nat) : Int)
def ptConj (zs : List Int) : List Int := tab (zs.getD 0 0).toNat (ptCol zs)
theorem ptCol_nonneg (zs : List Int) (j : Nat) : 0 ≤ ptCol zs j := by unfold ptCol; omega
theorem ptCol_le (zs : List Int) (j : Nat) : ptCol zs j ≤ zs.length := by
  unfold ptCol; have := List.countP_le_length (p := fun z => decide ((j : Int) < z)) (l := zs); omega
theorem ptCol_snoc (zs : List Int) (z : Int) (j : Nat) : ptCol (zs ++ [z]) j = ptCol zs j + if (j : Int) < z then 1 else 0 := by
  unfold ptCol
  rw [List.countP_append]
  by_cases h : (j : Int) < z <;> simp [h]
theorem ptRow_step (n : Nat) (zs : List Int) (z : Int) (hz0 : 0 ≤ z) : ptBump z.toNat 1 (tab n (ptCol zs)) = tab n (ptCol (zs ++ [z])) := by
  refine ext_getD (by simp [ptBump_length, tab_length]) (fun j hj => ?_)
  rw [ptBump_length, tab_length] at hj
  rw [ptBump_getD _ _ _ _ (by rw [tab_length]; exact hj), tab_getD _ _ _ hj, tab_getD _ _ _ hj, ptCol_snoc]
  by_cases h : (j : Int) < z
  · rw [if_pos (by omega), if_pos h]
  · rw [if_neg (by omega), if_neg h]

theorem IsPt.first {zs : List Int} (h : IsPt zs) {k : Nat} (hk : k < zs.length) : zs.getD k 0 ≤ zs.getD 0 0 := by
  have : ∀ n, n < zs.length → zs.getD n 0 ≤ zs.getD 0 0 := by
    intro n
    induction n with
    | zero => intro _; exact Int.le_refl _
    | succ n ih =>
      intro hn
      have h1 := ih (by omega)
      have h2 := (h.goes (n + 1) hn).2 (by omega)
      rw [Nat.add_sub_cancel] at h2; omega
  exact this k hk
set_option maxHeartbeats 2000000 in
theorem columns_any (a : Option Addr) (cap : Nat) (zs : List Int) (w : World) (hs : Shows w a zs) (hp : IsPt zs) :
    Calls Tryd.prog 15 #[.slice a zs.length cap] w fun e w' => ∃ v, e = .returned v ∧ Owns w' w.heap.size v (ptConj zs) ∧ Below w.heap.size w w' := by
  have hl := hp.len
  by_cases hne : 0 < zs.length
  · obtain ⟨i0, hi, hz0, hz1, hz2⟩ := info_parts Tryd.info3
    obtain ⟨b, off, x, rfl, HX, -, -, hc⟩ := hs.elem hne
    rw [Nat.add_zero] at hc
    have hx : 1 ≤ x ∧ x ≤ 40 := by rw [HX.out]; exact hp.range _ (getD_mem hne)
    obtain ⟨n, rfl⟩ : ∃ n : Nat, x = n := ⟨x.toNat, by omega⟩
    have hn1 : 1 ≤ n := by omega
    have hn2 : n ≤ 40 := by omega
    have hb0 : ((zs.length : Int) == 0) = false := beq_eq_false_iff_ne.2 (by omega)
    have hpos : (0 : Int) < (zs.length : Int) := by omega
    clear hx
    go_enter Tryd.func15, Tryd.ntmps15
    go_wp2_with (at_make; refine wpList_make_full _ rfl _ _ 22 rfl w.heap.size 3 i0 (.int .i64 0) 1 Tryd.underlying22 hi hz0 hz1 _ _ _ _ n rfl rfl rfl rfl ?b1 ?b2 ?b3 ?_)
    case b1 => rw [hz2]; omega
    case b2 => unfold maxLen; omega
    case b3 => exact Nat.le_refl _
    intro w1 hown hgrow
    have HB1 : Hid (Below w.heap.size w w1) := (Below.refl _ _).grown hgrow (Nat.le_refl _) (fun k h => by cases h)
    have HO1 : Hid (Owns w1 w.heap.size (.slice (some ⟨w.heap.size, 0, none⟩) n n) (tab n (ptCol []))) := by
      show Owns _ _ _ _
      unfold Owns
      rw [tab_length]
      have e : (tab n (ptCol [])).map (Value.int .i64) = (madeCells #[Value.int .i64 0] n).toList := by
        rw [toList_madeCells_one]
        simp only [tab, List.map_map]
        rw [List.eq_replicate_iff]
        refine ⟨by simp, fun v hv => ?_⟩
        obtain ⟨j, _, rfl⟩ := List.mem_map.1 hv
        rfl
      rw [e]; exact hown
    clear hown hgrow
    go_wp2
    go_loopw [16] (fun i wr => ∃ k : Nat, k ≤ zs.length ∧ i = .int .i64 k ∧ Hid (Owns wr w.heap.size (.slice (some ⟨w.heap.size, 0, none⟩) n n) (tab n (ptCol (zs.take k)))) ∧ Hid (Below w.heap.size w wr)) (fun i _ => zs.length - (intOf i).toNat)
    case atStart => exact ⟨0, Nat.zero_le _, rfl, HO1, HB1⟩
    case round =>
      obtain ⟨k, hk, rfl, HK, HBk⟩ := hrel
      by_cases hlt : k < zs.length
      · obtain ⟨b', off', z, hbo, HZ, -, -, hcz⟩ := (hs.below HBk.out).elem hlt
        simp only [Option.some.injEq, Addr.mk.injEq, and_true] at hbo
        obtain ⟨rfl, rfl⟩ := hbo
        have hz : 1 ≤ z ∧ z ≤ n := by
          rw [HZ.out, HX.out]; exact ⟨(hp.range _ (getD_mem hlt)).1, hp.first hlt⟩
        obtain ⟨hz3, hz4⟩ := hz
        go_wp2
        go_loopw [21] (fun i wq => ∃ m : Nat, (m : Int) ≤ z ∧ i = .int .i64 m ∧ Hid (Owns wq w.heap.size (.slice (some ⟨w.heap.size, 0, none⟩) n n) (ptBump m 1 (tab n (ptCol (zs.take k))))) ∧ Hid (Below w.heap.size w wq)) (fun i _ => (z - intOf i).toNat)
        case atStart => exact ⟨0, by omega, rfl, by rw [ptBump_zero]; exact HK, HBk⟩
        case round =>
          obtain ⟨m, hm, rfl, HM, HBm⟩ := hrel
          by_cases hml : (m : Int) < z
          · have hmn : m < (tab n (ptCol (zs.take k))).length := by rw [tab_length]; omega
            obtain ⟨-, hfz, hcl⟩ := HM.out.at (by rw [ptBump_length, tab_length])
            have hck := hcl m (by rw [ptBump_length]; exact hmn)
            rw [ptBump_getD _ _ _ _ hmn, if_neg (Nat.lt_irrefl _), Int.add_zero] at hck
            obtain ⟨y, HY⟩ : ∃ y, Hid (y = (tab n (ptCol (zs.take k))).getD m 0) := ⟨_, rfl⟩
            rw [← HY.out] at hck
            have hy0 : 0 ≤ y ∧ y ≤ 40 := by
              rw [HY.out, tab_getD _ _ _ (by omega)]
              have h1 := ptCol_le (zs.take k) m
              have h2 := ptCol_nonneg (zs.take k) m
              rw [List.length_take] at h1; omega
            obtain ⟨hy1, hy2⟩ := hy0
            have hfk := hfz m
            have HS' : Hid _ := ptBump_step HM.out (by rw [tab_length]) hmn HY.out
            have hmn' : m < n := by omega
            clear hcl hfz
            go_wp2
            go_roundw
            case rel => exact ⟨m + 1, by omega, by go_num, HS', HBm.out.setCell (Nat.le_refl _) _⟩
            case measure => simp [intOf]; omega
          · obtain rfl : z = m := by omega
            have HS : Hid (Owns wr w.heap.size (.slice (some ⟨w.heap.size, 0, none⟩) n n) (tab n (ptCol (zs.take (k + 1))))) := by
              show Owns _ _ _ _
              rw [take_snoc zs k hlt, ← HZ.out, ← ptRow_step n _ _ (by omega), Int.toNat_natCast]
              exact HM.out
            go_wp2
            go_roundw
            case rel => exact ⟨k + 1, by omega, by go_num, HS, HBm⟩
            case measure => simp [intOf]; omega
      · obtain rfl : k = zs.length := by omega
        rw [List.take_length] at HK
        go_wp2
        go_ret
        refine ⟨_, rfl, ?_, HBk.out⟩
        unfold ptConj
        rw [← HX.out, Int.toNat_natCast]; exact HK.out
  · obtain rfl : zs = [] := List.eq_nil_of_length_eq_zero (by omega)
    simp only [List.length_nil]
    go_enter Tryd.func15, Tryd.ntmps15
    go_wp2
    go_ret
    exact ⟨_, rfl, World.ownsRow_nil _ _ _ _, Below.refl _ _⟩

set_option maxHeartbeats 1000000 in
theorem Conjugate_ok (a : Option Addr) (n cap : Nat) (zs : List Int) (w : World) (hs : Shows w a zs) (hn : n = zs.length) (hp : IsPt zs) :
    Calls Tryd.prog 5 #[.slice a n cap] w fun e w' => ∃ v, e = .returned (.tuple #[v, .int .i64 0]) ∧ Owns w' w.heap.size v (ptConj zs) ∧ Below w.heap.size w w' := by
  subst hn
  have HS : Hid (Shows w a zs) := hs
  have HP : Hid (IsPt zs) := hp
  have HC : Hid (ptC zs = 0) := by show _ = _; unfold ptC; rw [if_pos (ptGoB_pos hp.goes), if_neg (by have := hp.fits; omega)]
  clear hs hp
  go_enter Tryd.func5, Tryd.ntmps5
  go_wp2_with fail
  refine (PaCheck_any a cap zs w HS.out).mono ?_
  rintro e w1 ⟨rfl, hw1⟩
  obtain rfl : w = w1 := hw1.symm
  clear hw1
  rw [HC.out]
  go_wp2_with fail
  refine (columns_any a cap zs w HS.out HP.out).mono ?_
  rintro e w2 ⟨v, rfl, hO, hb⟩
  have HO : Hid (Owns w2 w.heap.size v (ptConj zs)) := hO
  have HB : Hid (Below w.heap.size w w2) := hb
  clear hO hb
  go_wp2
  go_ret2
  exact ⟨_, rfl, HO.out, HB.out⟩

end Go.Proofs.YtmbpcapjldbkbaaDoor
