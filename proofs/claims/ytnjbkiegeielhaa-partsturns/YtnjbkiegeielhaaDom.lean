/-
  Contracts of parts.Conjugate, parts.partAt, parts.Dominates.
-/
import Derived.Test.YtnjbkiegeielhaaCol
namespace Go.Proofs.Ytnjbkiegeielhaa
open Go.RowKit

/-- What Conjugate answers. -/
def ConjR (zs : List Int) (c : Int) (q : List Int) : Prop := (chk zs = c ∧ c ≠ 0 ∧ q = []) ∨ (IsPart zs ∧ c = 0 ∧ q = conj zs)

set_option maxHeartbeats 1000000 in
theorem Conjugate_err (a : Option Addr) (cap : Nat) (zs : List Int) (w : World) (hs : Shows w a zs) (c : Int) (E : Hid (chk zs = c)) (hc : (c != 0) = true) :
    Calls Try.prog 9 #[.slice a zs.length cap] w fun e w' => e = .returned (.tuple #[.slice none 0 0, .int .i64 c]) ∧ w' = w := by
  go_enter Try.func9, Try.ntmps9
  go_wp2_with (go_at_call 13; refine (Check_is _ _ _ _ hs E).mono ?_; rintro e w' ⟨rfl, rfl⟩)
  go_ret2
  exact ⟨rfl, rfl⟩
set_option maxHeartbeats 1000000 in
theorem Conjugate_ok (a : Option Addr) (cap : Nat) (zs : List Int) (w : World) (hs : Shows w a zs) (E : Hid (chk zs = 0)) (hp : IsPart zs) :
    Calls Try.prog 9 #[.slice a zs.length cap] w fun e w' => ∃ v, e = .returned (.tuple #[v, .int .i64 0]) ∧ Owns w' w.heap.size v (conj zs) ∧ Below w.heap.size w w' := by
  go_enter Try.func9, Try.ntmps9
  go_wp2_with (first | (go_at_call 13; refine (Check_is _ _ _ _ hs E).mono ?_; rintro e w' ⟨rfl, rfl⟩) | (go_at_call 28; refine (columns_any _ _ _ _ hs hp).mono ?_; rintro e w1 ⟨v, rfl, hown, hb⟩))
  go_ret2
  exact ⟨_, rfl, hown, hb⟩
theorem Conjugate_at {zs q : List Int} {c : Int} (a : Option Addr) (n cap : Nat) (w : World) (hs : Shows w a zs) (hn : n = zs.length) (hr : ConjR zs c q) :
    Calls Try.prog 9 #[.slice a n cap] w fun e w' => ∃ v, e = .returned (.tuple #[v, .int .i64 c]) ∧ Owns w' w.heap.size v q ∧ Below w.heap.size w w' := by
  subst hn
  rcases hr with ⟨h, hc, hq⟩ | ⟨h, hc, hq⟩
  · rw [hq]; exact (Conjugate_err a cap zs w hs c h (bne_iff_ne.2 hc)).mono fun e w' ⟨he, hw⟩ => ⟨_, he, World.ownsRow_nil _ _ _ _, hw ▸ Below.refl _ _⟩
  · rw [hc, hq]; exact Conjugate_ok a cap zs w hs (chk_ok.2 h) h

set_option maxHeartbeats 1000000 in
theorem partAt_any (a : Option Addr) (cap k : Nat) (zs : List Int) (w : World) (hs : Shows w a zs) (x : Int) (hx : Hid (x = zs.getD k 0)) :
    Calls Try.prog 33 #[.slice a zs.length cap, .int .i64 (k : Int)] w fun e w' => e = .returned (.int .i64 x) ∧ w' = w := by
  have hl := hs.len
  by_cases hk : k < zs.length
  · obtain ⟨b, off, z, rfl, HZ, -, -, hc⟩ := hs.elem hk
    have hk' : (k : Int) < (zs.length : Int) := by omega
    go_enter Try.func33, Try.ntmps33
    go_wp2
    go_ret
    exact ⟨ret_int (by rw [HZ.out, hx.out]), rfl⟩
  · have hk' : decide ((k : Int) < (zs.length : Int)) = false := by simp; omega
    go_enter Try.func33, Try.ntmps33
    go_wp2
    go_ret
    exact ⟨ret_int (by rw [hx.out]; simp [List.getD, List.getElem?_eq_none (show zs.length ≤ k by omega)]), rfl⟩

/-- What the first k are together. -/
def pre (zs : List Int) (k : Nat) : Int := sum (zs.take k)
theorem pre_zero (zs : List Int) : pre zs 0 = 0 := by simp [pre, sum]
theorem pre_succ (zs : List Int) (k : Nat) : pre zs (k + 1) = pre zs k + zs.getD k 0 := by
  unfold pre
  by_cases hk : k < zs.length
  · rw [take_snoc zs k hk, sum_append]; simp [sum]
  · rw [List.take_of_length_le (show zs.length ≤ k + 1 by omega), List.take_of_length_le (show zs.length ≤ k by omega)]
    simp [List.getD, List.getElem?_eq_none (show zs.length ≤ k by omega)]
theorem pre_all (zs : List Int) {k : Nat} (hk : zs.length ≤ k) : pre zs k = sum zs := by unfold pre; rw [List.take_of_length_le hk]
/-- a is at least b in the dominance order. -/
def Dom (a b : List Int) : Prop := ∀ k, pre b k ≤ pre a k
def domB (a b : List Int) : Bool := (List.range (max a.length b.length + 1)).all fun k => decide (pre b k ≤ pre a k)
theorem domB_iff {a b : List Int} (h : sum a = sum b) : domB a b = true ↔ Dom a b := by
  unfold domB Dom
  rw [List.all_eq_true]
  constructor
  · intro hh k
    by_cases hk : k < max a.length b.length + 1
    · simpa using hh k (List.mem_range.2 hk)
    · rw [pre_all a (by omega), pre_all b (by omega), h]; exact Int.le_refl _
  · intro hh k _; simpa using hh k
theorem pre_bound {zs : List Int} (h : IsPart zs) (k : Nat) : 0 ≤ pre zs k ∧ pre zs k ≤ 40 := by
  have hm : ∀ z ∈ zs.take k, 0 ≤ z := fun z hz => by have := h.range z (List.mem_of_mem_take hz); omega
  have h1 := sum_ge (zs := zs.take k) (m := 0) hm
  have h2 : sum zs = sum (zs.take k) + sum (zs.drop k) := by rw [← sum_append, List.take_append_drop]
  have h3 := sum_ge (zs := zs.drop k) (m := 0) (fun z hz => by have := h.range z (List.mem_of_mem_drop hz); omega)
  have := h.2
  unfold pre; omega
theorem getD_bound {zs : List Int} (h : IsPart zs) (k : Nat) : 0 ≤ zs.getD k 0 ∧ zs.getD k 0 ≤ 40 := by
  by_cases hk : k < zs.length
  · have := h.range _ (getD_mem hk); omega
  · simp [List.getD, List.getElem?_eq_none (show zs.length ≤ k by omega)]

/-- What Dominates answers. -/
def DomR (a b : List Int) (c : Int) (t : Bool) : Prop :=
  (chk a = c ∧ c ≠ 0 ∧ t = false) ∨ (IsPart a ∧ chk b = c ∧ c ≠ 0 ∧ t = false) ∨ (IsPart a ∧ IsPart b ∧ sum a ≠ sum b ∧ c = 3 ∧ t = false) ∨ (IsPart a ∧ IsPart b ∧ sum a = sum b ∧ c = 0 ∧ t = domB a b)

set_option maxHeartbeats 1000000 in
theorem Dom_err1 (a b : Option Addr) (ca cb : Nat) (zs ys : List Int) (w : World) (hs : Shows w a zs) (c : Int) (E : Hid (chk zs = c)) (hc : (c != 0) = true) :
    Calls Try.prog 17 #[.slice a zs.length ca, .slice b ys.length cb] w fun e w' => e = .returned (.tuple #[.bool false, .int .i64 c]) ∧ w' = w := by
  go_enter Try.func17, Try.ntmps17
  go_wp2_with (go_at_call 13; refine (Check_is _ _ _ _ hs E).mono ?_; rintro e w' ⟨rfl, rfl⟩)
  go_ret2
  exact ⟨rfl, rfl⟩
set_option maxHeartbeats 1000000 in
theorem Dom_err2 (a b : Option Addr) (ca cb : Nat) (zs ys : List Int) (w : World) (hs : Shows w a zs) (ht : Shows w b ys) (E0 : Hid (chk zs = 0)) (c : Int) (E : Hid (chk ys = c)) (hc : (c != 0) = true) :
    Calls Try.prog 17 #[.slice a zs.length ca, .slice b ys.length cb] w fun e w' => e = .returned (.tuple #[.bool false, .int .i64 c]) ∧ w' = w := by
  go_enter Try.func17, Try.ntmps17
  go_wp2_with fail
  refine (Check_is _ _ _ _ hs E0).mono ?_
  rintro e w' ⟨rfl, rfl⟩
  go_wp2_with fail
  refine (Check_is _ _ _ _ ht E).mono ?_
  rintro e w'' ⟨rfl, rfl⟩
  go_wp2_with fail
  go_ret2
  exact ⟨rfl, rfl⟩

theorem roomLeft_part (a : Option Addr) (cap : Nat) (zs : List Int) (w : World) (hs : Shows w a zs) (hp : IsPart zs) (s : Int) (h : sum zs = s) :
    Calls Try.prog 31 #[.int .i64 40, .slice a zs.length cap] w fun e w' => e = .returned (.int .i64 (40 - s)) ∧ w' = w := by
  have h0 : ∀ z ∈ zs, 0 ≤ z := fun z hz => by have := hp.range z hz; omega
  have := roomLeft_any 40 a cap zs w hs h0 (by omega) (by omega)
  rw [room_eq zs 40 h0 (by omega), if_pos hp.2, h] at this
  exact this

set_option maxHeartbeats 1000000 in
theorem Dom_sizes (a b : Option Addr) (ca cb : Nat) (zs ys : List Int) (w : World) (hs : Shows w a zs) (ht : Shows w b ys) (hp : IsPart zs) (hq : IsPart ys) (s t : Int) (HS : Hid (sum zs = s)) (HT : Hid (sum ys = t)) (_hs1 : 0 ≤ s) (_hs2 : s ≤ 40) (_ht1 : 0 ≤ t) (_ht2 : t ≤ 40) (hne : ((40 - s) != (40 - t)) = true) :
    Calls Try.prog 17 #[.slice a zs.length ca, .slice b ys.length cb] w fun e w' => e = .returned (.tuple #[.bool false, .int .i64 3]) ∧ w' = w := by
  have E0 : Hid (chk zs = 0) := chk_ok.2 hp
  have E1 : Hid (chk ys = 0) := chk_ok.2 hq
  go_enter Try.func17, Try.ntmps17
  go_wp2_with fail
  refine (Check_is _ _ _ _ hs E0).mono ?_
  rintro e w' ⟨rfl, rfl⟩
  go_wp2_with fail
  refine (Check_is _ _ _ _ ht E1).mono ?_
  rintro e w'' ⟨rfl, rfl⟩
  go_wp2_with fail
  refine (roomLeft_part _ _ _ _ hs hp s HS.out).mono ?_
  rintro e w3 ⟨rfl, rfl⟩
  go_wp2_with fail
  refine (roomLeft_part _ _ _ _ ht hq t HT.out).mono ?_
  rintro e w4 ⟨rfl, rfl⟩
  go_wp2_with fail
  go_ret2
  exact ⟨rfl, rfl⟩

set_option maxHeartbeats 4000000 in
theorem Dom_ok (a b : Option Addr) (ca cb : Nat) (zs ys : List Int) (w : World) (hs : Shows w a zs) (ht : Shows w b ys) (hp : IsPart zs) (hq : IsPart ys) (s : Int) (HS : Hid (sum zs = s)) (HT : Hid (sum ys = s)) (_hs1 : 0 ≤ s) (_hs2 : s ≤ 40) :
    Calls Try.prog 17 #[.slice a zs.length ca, .slice b ys.length cb] w fun e w' => e = .returned (.tuple #[.bool (domB zs ys), .int .i64 0]) ∧ w' = w := by
  have E0 : Hid (chk zs = 0) := chk_ok.2 hp
  have E1 : Hid (chk ys = 0) := chk_ok.2 hq
  have hl := hp.len
  have hl2 := hq.len
  go_enter Try.func17, Try.ntmps17
  go_wp2_with fail
  refine (Check_is _ _ _ _ hs E0).mono ?_
  rintro e w' ⟨rfl, rfl⟩
  go_wp2_with fail
  refine (Check_is _ _ _ _ ht E1).mono ?_
  rintro e w'' ⟨rfl, rfl⟩
  go_wp2_with fail
  refine (roomLeft_part _ _ _ _ hs hp s HS.out).mono ?_
  rintro e w3 ⟨rfl, rfl⟩
  go_wp2_with fail
  refine (roomLeft_part _ _ _ _ ht hq s HT.out).mono ?_
  rintro e w4 ⟨rfl, rfl⟩
  by_cases hle : zs.length < ys.length
  · have hle' : (zs.length : Int) < (ys.length : Int) := by omega
    go_wp2_with fail
    go_loop [8, 30] (fun l i => ∃ (k : Nat) (x : Int), k ≤ ys.length ∧ i = .int .i64 k ∧ l = .int .i64 x ∧ 0 ≤ x ∧ x ≤ 40 ∧ Hid (x = pre zs k - pre ys k) ∧ Hid (∀ j, j ≤ k → pre ys j ≤ pre zs j)) (fun _ i => ys.length - (intOf i).toNat)
    case atStart => exact ⟨0, 0, Nat.zero_le _, rfl, rfl, by omega, by omega, by show _ = _; rw [pre_zero, pre_zero]; rfl, fun j hj => by obtain rfl : j = 0 := (by omega); rw [pre_zero, pre_zero]; exact Int.le_refl _⟩
    case round =>
      obtain ⟨k, x, hk, rfl, rfl, hx1, hx2, HX, HR⟩ := hrel
      by_cases hlt : k < ys.length
      · obtain ⟨y, HY⟩ : ∃ y, Hid (y = zs.getD k 0) := ⟨_, rfl⟩
        obtain ⟨z, HZ⟩ : ∃ z, Hid (z = ys.getD k 0) := ⟨_, rfl⟩
        have hy := getD_bound hp k
        have hz := getD_bound hq k
        rw [← HY.out] at hy
        rw [← HZ.out] at hz
        obtain ⟨hy1, hy2⟩ := hy
        obtain ⟨hz1, hz2⟩ := hz
        have hnx : Hid (x + (y - z) = pre zs (k + 1) - pre ys (k + 1)) := by
          show _ = _
          rw [pre_succ, pre_succ, HX.out, HY.out, HZ.out]; omega
        have hbd : x + (y - z) ≤ 40 := by
          rw [hnx.out]; have := pre_bound hp (k + 1); have := pre_bound hq (k + 1); omega
        go_wp2_with fail
        refine (partAt_any _ _ k zs _ hs y HY).mono ?_
        rintro e w5 ⟨rfl, rfl⟩
        go_wp2_with fail
        refine (partAt_any _ _ k ys _ ht z HZ).mono ?_
        rintro e w6 ⟨rfl, rfl⟩
        by_cases hneg : x + (y - z) < 0
        · go_wp2_with fail
          go_ret2
          refine ⟨?_, rfl⟩
          have : domB zs ys = false := by
            cases e : domB zs ys with
            | false => rfl
            | true => exfalso; have := (domB_iff (HS.out.trans HT.out.symm)).1 e (k + 1); have := hnx.out; omega
          rw [this]; rfl
        · go_wp2_with fail
          go_round
          case rel => exact ⟨k + 1, x + (y - z), by omega, by go_num, by go_num, by omega, hbd, hnx, fun j hj => by
                        by_cases hj' : j ≤ k
                        · exact HR.out j hj'
                        · obtain rfl : j = k + 1 := by omega
                          have := hnx.out; omega⟩
          case measure => simp [intOf]; omega
      · go_wp2_with fail
        go_ret2
        refine ⟨?_, rfl⟩
        have : domB zs ys = true := by
          refine (domB_iff (HS.out.trans HT.out.symm)).2 (fun j => ?_)
          by_cases hj : j ≤ k
          · exact HR.out j hj
          · rw [pre_all zs (by omega), pre_all ys (by omega), HS.out, HT.out]; exact Int.le_refl _
        rw [this]; rfl
  · have hle' : (ys.length : Int) ≤ (zs.length : Int) := by omega
    go_wp2_with fail
    go_loop [8, 30] (fun l i => ∃ (k : Nat) (x : Int), k ≤ zs.length ∧ i = .int .i64 k ∧ l = .int .i64 x ∧ 0 ≤ x ∧ x ≤ 40 ∧ Hid (x = pre zs k - pre ys k) ∧ Hid (∀ j, j ≤ k → pre ys j ≤ pre zs j)) (fun _ i => zs.length - (intOf i).toNat)
    case atStart => exact ⟨0, 0, Nat.zero_le _, rfl, rfl, by omega, by omega, by show _ = _; rw [pre_zero, pre_zero]; rfl, fun j hj => by obtain rfl : j = 0 := (by omega); rw [pre_zero, pre_zero]; exact Int.le_refl _⟩
    case round =>
      obtain ⟨k, x, hk, rfl, rfl, hx1, hx2, HX, HR⟩ := hrel
      by_cases hlt : k < zs.length
      · obtain ⟨y, HY⟩ : ∃ y, Hid (y = zs.getD k 0) := ⟨_, rfl⟩
        obtain ⟨z, HZ⟩ : ∃ z, Hid (z = ys.getD k 0) := ⟨_, rfl⟩
        have hy := getD_bound hp k
        have hz := getD_bound hq k
        rw [← HY.out] at hy
        rw [← HZ.out] at hz
        obtain ⟨hy1, hy2⟩ := hy
        obtain ⟨hz1, hz2⟩ := hz
        have hnx : Hid (x + (y - z) = pre zs (k + 1) - pre ys (k + 1)) := by
          show _ = _
          rw [pre_succ, pre_succ, HX.out, HY.out, HZ.out]; omega
        have hbd : x + (y - z) ≤ 40 := by
          rw [hnx.out]; have := pre_bound hp (k + 1); have := pre_bound hq (k + 1); omega
        go_wp2_with fail
        refine (partAt_any _ _ k zs _ hs y HY).mono ?_
        rintro e w5 ⟨rfl, rfl⟩
        go_wp2_with fail
        refine (partAt_any _ _ k ys _ ht z HZ).mono ?_
        rintro e w6 ⟨rfl, rfl⟩
        by_cases hneg : x + (y - z) < 0
        · go_wp2_with fail
          go_ret2
          refine ⟨?_, rfl⟩
          have : domB zs ys = false := by
            cases e : domB zs ys with
            | false => rfl
            | true => exfalso; have := (domB_iff (HS.out.trans HT.out.symm)).1 e (k + 1); have := hnx.out; omega
          rw [this]; rfl
        · go_wp2_with fail
          go_round
          case rel => exact ⟨k + 1, x + (y - z), by omega, by go_num, by go_num, by omega, hbd, hnx, fun j hj => by
                        by_cases hj' : j ≤ k
                        · exact HR.out j hj'
                        · obtain rfl : j = k + 1 := by omega
                          have := hnx.out; omega⟩
          case measure => simp [intOf]; omega
      · go_wp2_with fail
        go_ret2
        refine ⟨?_, rfl⟩
        have : domB zs ys = true := by
          refine (domB_iff (HS.out.trans HT.out.symm)).2 (fun j => ?_)
          by_cases hj : j ≤ k
          · exact HR.out j hj
          · rw [pre_all zs (by omega), pre_all ys (by omega), HS.out, HT.out]; exact Int.le_refl _
        rw [this]; rfl

theorem Dominates_at {zs ys : List Int} {c : Int} {t : Bool} (a b : Option Addr) (n m ca cb : Nat) (w : World) (hs : Shows w a zs) (ht : Shows w b ys) (hn : n = zs.length) (hm : m = ys.length) (hr : DomR zs ys c t) :
    Calls Try.prog 17 #[.slice a n ca, .slice b m cb] w fun e w' => e = .returned (.tuple #[.bool t, .int .i64 c]) ∧ w' = w := by
  subst hn; subst hm
  have sb : ∀ {l : List Int}, IsPart l → 0 ≤ sum l ∧ sum l ≤ 40 := fun {l} h => ⟨by have := sum_ge (zs := l) (m := 0) (fun z hz => by have := h.range z hz; omega); omega, h.2⟩
  rcases hr with ⟨h, hc, ht'⟩ | ⟨h0, h, hc, ht'⟩ | ⟨hp, hq, hne, hc, ht'⟩ | ⟨hp, hq, he, hc, ht'⟩
  · rw [ht']; exact Dom_err1 a b ca cb zs ys w hs c h (bne_iff_ne.2 hc)
  · rw [ht']; exact Dom_err2 a b ca cb zs ys w hs ht (chk_ok.2 h0) c h (bne_iff_ne.2 hc)
  · rw [hc, ht']; exact Dom_sizes a b ca cb zs ys w hs ht hp hq _ _ rfl rfl (sb hp).1 (sb hp).2 (sb hq).1 (sb hq).2 (bne_iff_ne.2 (by omega))
  · rw [hc, ht']; exact Dom_ok a b ca cb zs ys w hs ht hp hq _ rfl he.symm (sb hp).1 (sb hp).2

#print axioms Dominates_at
end Go.Proofs.Ytnjbkiegeielhaa
