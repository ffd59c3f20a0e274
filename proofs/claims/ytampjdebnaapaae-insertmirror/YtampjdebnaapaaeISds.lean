/-
  The walk of ferkeep.InsertSides.
-/
import Derived.Test.YtampjdebnaapaaeIIns
import Derived.Test.YtampjdebnaapaaeISid
import Derived.Test.YtampjdebnaapaaeIEq
namespace Go.Proofs.Ytampjdebnaapaae
open Go.RowKit

theorem Tbl.empty' {w : World} {lo : Nat} {v : Value} (h : Tbl w lo v []) : ∃ a cap, v = .slice a 0 cap := by
  obtain ⟨vs, h⟩ := h
  obtain ⟨a, cap, e⟩ := h.shape
  exact ⟨a, cap, e⟩
theorem tab_bd {ls : List (List Int)} (h : IsTab ls) : ∀ l ∈ ls, l.length ≤ 17592186044416 ∧ ∀ z ∈ l, -9223372036854775808 ≤ z ∧ z ≤ 9223372036854775807 := fun l hl => by
  obtain ⟨k, hk, rfl⟩ := mem_row hl
  refine ⟨by have := h.width hk; omega, fun z hz => ?_⟩
  have := h.mem (List.mem_flatten.2 ⟨_, hl, hz⟩); omega
theorem nil_bd : ∀ l ∈ ([] : List (List Int)), l.length ≤ 17592186044416 ∧ ∀ z ∈ l, -9223372036854775808 ≤ z ∧ z ≤ 9223372036854775807 := fun l hl => by simp at hl
theorem ins_isTab {ls : List (List Int)} {x : Int} (h : IsTab ls) (hx : 1 ≤ x ∧ x ≤ 99) (hf : ls.flatten.length ≠ 40) : IsTab (ins false x ls) :=
  (ins_T h.T).1.isTab (by rw [ins_count]; have := h.few; omega) (fun z hz => by rcases ins_mem hz with e | e; omega; exact h.mem e)
theorem flat_cols {ls : List (List Int)} : ∀ z, z ∈ (cols ls).flatten → z ∈ ls.flatten := fun z hz => by
  obtain ⟨c, hc, hz2⟩ := List.mem_flatten.1 hz
  obtain ⟨j, _, rfl⟩ := List.mem_map.1 hc
  exact colOf_mem hz2
theorem count_cols {ls : List (List Int)} (h : Shp ls) : (cols ls).flatten.length = ls.flatten.length := by
  have key : ∀ {A : List (List Int)} (n : Nat), Shp A → (∀ a, (row A a).length ≤ n) → A.flatten.length = S A.length (fun a => S n (fun c => ind (c < (row A a).length))) := fun {A} n _ hn => by
    rw [flat_sum]
    refine S_congr (fun a _ => ?_)
    rw [S_below (hn a)]
  have hl : ∀ a, (row ls a).length ≤ width ls := fun a => h.shorter' (Nat.zero_le _)
  have hc : ∀ c, (row (cols ls) c).length ≤ ls.length := fun c => by
    by_cases e : c < width ls
    · rw [cols_row e]; exact colOf_le _ _
    · rw [row_out (by rw [cols_length]; omega)]; simp
  rw [key ls.length (cols_shp h) hc, key (width ls) h hl, cols_length, S_swap]
  refine S_congr (fun a _ => S_congr (fun c _ => ind_iff (cols_len h c a)))
theorem insL_isTab {ls : List (List Int)} {y : Int} (h : IsTab ls) (hy : 1 ≤ y ∧ y ≤ 99) (hf : ls.flatten.length ≠ 40) : IsTab (insL y ls) ∧ (insL y ls).flatten.length = ls.flatten.length + 1 := by
  obtain ⟨h1, h2⟩ := insL_T h.T y
  have hcnt : (insL y ls).flatten.length = ls.flatten.length + 1 := by rw [← count_cols h1.shp, h2, ins_count, count_cols h.shp]
  refine ⟨h1.isTab (by rw [hcnt]; have := h.few; omega) (fun z hz => ?_), hcnt⟩
  have hz2 : z ∈ (ins true y (cols ls)).flatten := by
    rw [← h2]
    have e := cols_back h1.shp
    rw [← e] at hz
    exact flat_cols z hz
  rcases ins_mem hz2 with e | e
  · omega
  · exact h.mem (flat_cols z e)
theorem left_eq {ls q : List (List Int)} {y : Int} (hs : Shp q) (hc : cols q = ins true y (cols ls)) : q = insL y ls := by unfold insL; rw [← hc, cols_back hs]

/-- A literal of one row with one letter. -/
theorem table_lit1 (w : World) (x : Int) (hx : -9223372036854775808 ≤ x ∧ x ≤ 9223372036854775807) : Table ((w.alloc (.cells #[.int .i64 x] 3)).alloc (.cells #[.slice (some ⟨w.heap.size, 0, none⟩) 1 1] 22)) (some ⟨w.heap.size + 1, 0, none⟩) [[x]] := by
  intro i hi
  obtain rfl : i = 0 := by simp at hi; omega
  have hS := (owns_new (w := w) x).shows (by simp) (by simp; omega)
  obtain ⟨a1, c1, e1, hS⟩ := hS
  simp only [Value.slice.injEq] at e1
  obtain ⟨rfl, -, rfl⟩ := e1
  refine ⟨w.heap.size + 1, 0, some ⟨w.heap.size, 0, none⟩, 1, rfl, by simp, ?_, hS.below ((Below.refl _ _).alloc (Nat.le_refl _) _), fun h => by cases h⟩
  rw [World.cell?_alloc_at _ _ _ _ (by simp)]; rfl

theorem room_after {ls q : List (List Int)} {y : Int} (h : IsTab q) (hy : 1 ≤ y ∧ y ≤ 99) (hc : q.flatten.length = ls.flatten.length + 1) : roomC q y = if ls.flatten.length = 39 then 2 else 0 := by
  unfold roomC
  rw [if_neg (by rw [tchk_ok.2 h]; simp), if_neg (fun k => k hy), hc]
  by_cases e : ls.flatten.length = 39
  · rw [if_pos (by omega), if_pos e]
  · rw [if_neg (by omega), if_neg e]

set_option maxHeartbeats 4000000 in
theorem sides_any (a : Option Addr) (cap : Nat) (ls : List (List Int)) (x y : Int) (w : World) (hs : Table w a ls) (hl : ls.length ≤ 17592186044416) :
    Calls Try.prog 4 #[.slice a ls.length cap, .int .i64 x, .int .i64 y] w fun e w' => e = .returned (.bool true) ∧ Below w.heap.size w w' := by
  have HS : Hid (Table w a ls) := hs
  clear hs
  have HN0 : Hid (Table w none []) := fun i hi => by simp at hi
  have HR5 : Hid (roomC [] 5 = 0) := by show roomC [] 5 = 0; decide
  go_enter Try.func4, Try.ntmps4
  go_wp2_with fail
  refine (Insert_at (x := 5) none 0 0 [] w HN0.out (by simp) rfl).mono ?_
  rintro e w1 ⟨v1, c1, q1, m1, rfl, hT1, hb1, hc1, hr1, -⟩
  rw [HR5.out] at hc1
  subst hc1
  obtain ⟨rfl, rfl⟩ := hr1 rfl
  have hq : ins false 5 [] = [[5]] := rfl
  rw [hq] at hT1
  obtain ⟨b1, n1, k1, rfl, hB1, HN1⟩ := hT1.table (fun l hl => by simp at hl; subst hl; simp)
  have HB1 : Hid (Below w.heap.size w w1) := hb1
  have HL5 : Hid (Table ((w1.alloc (.cells #[.int .i64 5] 3)).alloc (.cells #[.slice (some ⟨w1.heap.size, 0, none⟩) 1 1] 22)) (some ⟨w1.heap.size + 1, 0, none⟩) [[5]]) := table_lit1 w1 5 (by omega)
  have HBa : Hid (Below w1.heap.size w1 ((w1.alloc (.cells #[.int .i64 5] 3)).alloc (.cells #[.slice (some ⟨w1.heap.size, 0, none⟩) 1 1] 22))) := ((Below.refl _ _).alloc (Nat.le_refl _) _).alloc (by simp) _
  have HT5 : Hid (Table ((w1.alloc (.cells #[.int .i64 5] 3)).alloc (.cells #[.slice (some ⟨w1.heap.size, 0, none⟩) 1 1] 22)) b1 [[5]]) := hB1.below HBa.out
  clear hT1 hb1 hr1 hq hB1
  have e0 : (insAt false 5 [] : Nat) = 0 := rfl
  rw [e0]
  go_wp2_with fail
  refine (RowsL_i _ _ _ _ _ _ [[5]] _ HT5.out HL5.out HN1.out rfl (by simp)).mono ?_
  rintro e w2 ⟨rfl, d2, hw2⟩
  have HB2 : Hid (Below w.heap.size w w2) := by rw [hw2]; exact below_drewN (HB1.out.trans (HBa.out.mono HB1.out.size)) d2
  clear hw2
  go_wp2_with fail
  refine (Insert_at (x := x) a ls.length cap ls w2 (HS.out.below HB2.out) hl rfl).mono ?_
  rintro e w3 ⟨v3, c3, q3, m3, rfl, hT3, hb3, hc3, hr3, hn3⟩
  have HB3 : Hid (Below w.heap.size w w3) := HB2.out.trans (hb3.mono HB2.out.size)
  have HT3 : Hid (Tbl w3 w.heap.size v3 q3) := hT3.mono HB2.out.size
  have HC3 : Hid (c3 = roomC ls x) := hc3
  have HR3 : Hid (c3 = 0 → q3 = ins false x ls ∧ m3 = insAt false x ls) := hr3
  clear hT3 hb3 hr3 hn3 hc3
  go_wp2_with fail
  refine (InsertLeft_at (x := y) a ls.length cap ls w3 (HS.out.below HB3.out) hl rfl).mono ?_
  rintro e w4 ⟨v4, c4, q4, m4, rfl, hT4, hb4, hc4, hr4, hn4⟩
  have HB4 : Hid (Below w.heap.size w w4) := HB3.out.trans (hb4.mono HB3.out.size)
  have HT3 : Hid (Tbl w4 w.heap.size v3 q3) := HT3.out.below hb4
  have HT4 : Hid (Tbl w4 w.heap.size v4 q4) := hT4.mono HB3.out.size
  have HC4 : Hid (c4 = roomC ls y) := hc4
  have HR4 : Hid (c4 = 0 → Shp q4 ∧ cols q4 = ins true y (cols ls) ∧ m4 = insAt true y (cols ls)) := hr4
  clear hT4 hb4 hr4 hn4 hc4
  by_cases h3 : c3 = 0
  · by_cases h4 : c4 = 0
    · subst h3; subst h4
      obtain ⟨hT, hx, hf⟩ := roomC_ok.1 HC3.out.symm
      obtain ⟨-, hy, -⟩ := roomC_ok.1 HC4.out.symm
      obtain ⟨rfl, -⟩ := HR3.out rfl
      obtain ⟨s1, s2, -⟩ := HR4.out rfl
      obtain rfl := left_eq s1 s2
      have hA : IsTab (ins false x ls) := ins_isTab hT hx hf
      obtain ⟨hB, hBc⟩ := insL_isTab hT hy hf
      have HSd : Hid (insL y (ins false x ls) = ins false x (insL y ls)) := sides hT.T x y
      have r1 := room_after (ls := ls) hA hy ins_count
      have r2 := room_after (ls := ls) hB hx hBc
      obtain ⟨g, HG⟩ : ∃ g : Int, Hid (g = if ls.flatten.length = 39 then 2 else 0) := ⟨_, rfl⟩
      rw [← HG.out] at r1 r2
      have HE1 : Hid (roomC (ins false x ls) y = g) := r1
      have HE2 : Hid (roomC (insL y ls) x = g) := r2
      have HAT : Hid (IsTab (ins false x ls)) := hA
      have HBT : Hid (IsTab (insL y ls)) := hB
      obtain ⟨p3, n3, k3, rfl, hP3, HN3⟩ := HT3.out.table (tab_bd hA)
      obtain ⟨p4, n4, k4, rfl, hP4, HN4⟩ := HT4.out.table (tab_bd hB)
      have HP3 : Hid (Table w4 p3 (ins false x ls)) := hP3
      have HP4 : Hid (Table w4 p4 (insL y ls)) := hP4
      clear hT hx hf hy s1 s2 hA hB hBc r1 r2 hP3 hP4
      go_wp2_with fail
      refine (InsertLeft_at (x := y) p3 n3 k3 (ins false x ls) w4 HP3.out (by have := HAT.out.rows; omega) HN3.out).mono ?_
      rintro e w5 ⟨v5, c5, q5, m5, rfl, hT5, hb5, hc5, hr5, hn5⟩
      rw [HE1.out] at hc5
      subst hc5
      have HB5 : Hid (Below w.heap.size w w5) := HB4.out.trans (hb5.mono HB4.out.size)
      have HT5' : Hid (Tbl w5 w.heap.size v5 q5) := hT5.mono HB4.out.size
      have HR5' : Hid ((c5 = 0 → Shp q5 ∧ cols q5 = ins true y (cols (ins false x ls)) ∧ m5 = insAt true y (cols (ins false x ls))) ∧ (c5 ≠ 0 → q5 = [] ∧ m5 = 0)) := ⟨hr5, hn5⟩
      have HP4' : Hid (Table w5 p4 (insL y ls)) := HP4.out.below hb5
      clear hT5 hb5 hr5 hn5
      go_wp2_with fail
      refine (Insert_at (x := x) p4 n4 k4 (insL y ls) w5 HP4'.out (by have := HBT.out.rows; omega) HN4.out).mono ?_
      rintro e w6 ⟨v6, c6, q6, m6, rfl, hT6, hb6, hc6, hr6, hn6⟩
      rw [HE2.out] at hc6
      subst hc6
      have HB6 : Hid (Below w.heap.size w w6) := HB5.out.trans (hb6.mono HB5.out.size)
      have hT5 : Tbl w6 w.heap.size v5 q5 := HT5'.out.below hb6
      have hQ : q5 = q6 ∧ q5.length ≤ 17592186044416 ∧ ∀ l ∈ q5, l.length ≤ 17592186044416 ∧ ∀ z ∈ l, -9223372036854775808 ≤ z ∧ z ≤ 9223372036854775807 := by
        by_cases hc : c6 = 0
        · obtain ⟨s1, s2, -⟩ := HR5'.out.1 hc
          obtain ⟨rfl, -⟩ := hr6 hc
          have e5 : q5 = insL y (ins false x ls) := left_eq s1 s2
          have hroom := HE2.out
          rw [hc] at hroom
          obtain ⟨j1, j2, j3⟩ := roomC_ok.1 hroom
          have hIT : IsTab (ins false x (insL y ls)) := ins_isTab j1 j2 j3
          rw [e5, HSd.out]
          exact ⟨rfl, by have := hIT.rows; omega, tab_bd hIT⟩
        · obtain ⟨rfl, -⟩ := HR5'.out.2 hc
          obtain ⟨rfl, -⟩ := hn6 hc
          exact ⟨rfl, by simp, nil_bd⟩
      obtain ⟨rfl, hQl, hQb⟩ := hQ
      obtain ⟨p5, n5, k5, rfl, hP5, HN5⟩ := hT5.table hQb
      obtain ⟨p6, n6, k6, rfl, hP6, HN6⟩ := hT6.table hQb
      have HP5 : Hid (Table w6 p5 q5) := hP5
      have HP6 : Hid (Table w6 p6 q5) := hP6
      clear hT5 hT6 hP5 hP6 hr6 hn6 hQb hb6
      go_wp2_with fail
      refine (RowsL_i _ _ _ _ _ _ q5 _ HP5.out HP6.out HN5.out HN6.out hQl).mono ?_
      rintro e w7 ⟨rfl, d7, rfl⟩
      go_wp2
      go_ret
      exact ⟨rfl, below_drewN HB6.out d7⟩
    · have hcb : (c4 != 0) = true := bne_iff_ne.2 h4
      subst h3
      go_wp2
      go_ret
      exact ⟨rfl, HB4.out⟩
  · have hcb : (c3 != 0) = true := bne_iff_ne.2 h3
    go_wp2
    go_ret
    exact ⟨rfl, HB4.out⟩

end Go.Proofs.Ytampjdebnaapaae
