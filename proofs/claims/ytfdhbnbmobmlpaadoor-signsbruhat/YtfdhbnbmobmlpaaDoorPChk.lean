/-
  Rows of bools and of ints of the call's own; the contracts of perms.Check and perms.checkTwo.
-/
import Derived.Test.YtfdhbnbmobmlpaaDoorBApp
import Derived.Test.YtfdhbnbmobmlpaaDoorPMath
namespace Go.Proofs.YtfdhbnbmobmlpaaDoor
open Go.RowKit

theorem Tryd.info4 : (Tryd.prog.info? 4).map (fun i => (i.zero, i.size, i.bytes)) = some (some (.bool false), 1, 1) := by kernel_rfl

/-- The value v owns the bools bs. -/
def OwnsB (w : World) (base : Nat) (v : Value) (bs : List Bool) : Prop := w.ownsRow base 4 1 v bs.length (bs.map Value.bool)

def tabB (n : Nat) (f : Nat → Bool) : List Bool := (List.range n).map f
theorem tabB_length (n : Nat) (f : Nat → Bool) : (tabB n f).length = n := by simp [tabB]
theorem tabB_congr {n : Nat} {f g : Nat → Bool} (h : ∀ j, j < n → f j = g j) : tabB n f = tabB n g := List.map_congr_left (fun j hj => h j (List.mem_range.1 hj))
theorem tabB_set (n : Nat) (f : Nat → Bool) (j : Nat) (b : Bool) : (tabB n f).set j b = tabB n (fun i => if i = j then b else f i) := by
  apply List.ext_getElem
  · simp [tabB]
  · intro i h1 h2
    simp only [tabB, List.getElem_set, List.getElem_map, List.getElem_range]
    by_cases e : j = i
    · simp [e]
    · simp [e, Ne.symm e]

theorem OwnsB.at {w : World} {base g cap n : Nat} {f : Nat → Bool} (h : OwnsB w base (.slice (some ⟨g, 0, none⟩) n cap) (tabB n f)) {j : Nat} (hj : j < n) :
    w.frozen? ⟨g, j, none⟩ = false ∧ w.cell? ⟨g, j, none⟩ = some (.bool (f j)) := by
  unfold OwnsB at h
  rw [tabB_length] at h
  refine ⟨World.ownsRow.frozenAt h j, ?_⟩
  rw [World.ownsRow.cellAt h j (by omega)]
  simp [tabB, hj]
theorem OwnsB.store {w : World} {base g cap n : Nat} {f : Nat → Bool} (h : OwnsB w base (.slice (some ⟨g, 0, none⟩) n cap) (tabB n f)) (j : Nat) (b : Bool) :
    OwnsB (w.setCell ⟨g, j, none⟩ (.bool b)) base (.slice (some ⟨g, 0, none⟩) n cap) (tabB n (fun i => if i = j then b else f i)) := by
  unfold OwnsB at h ⊢
  rw [tabB_length] at h ⊢
  have h := (World.ownsRow.stored h j (.bool b)).1
  rw [← tabB_set, List.map_set]; exact h
theorem OwnsB.congr {w : World} {base n : Nat} {v : Value} {f g : Nat → Bool} (h : OwnsB w base v (tabB n f)) (he : ∀ j, j < n → f j = g j) : OwnsB w base v (tabB n g) := by rw [← tabB_congr he]; exact h

theorem ownsB_made {w : World} {base g n : Nat} (h : w.ownsRow base 4 1 (.slice (some ⟨g, 0, none⟩) n n) n (madeCells #[Value.bool false] n).toList) : OwnsB w base (.slice (some ⟨g, 0, none⟩) n n) (tabB n (fun _ => false)) := by
  unfold OwnsB
  rw [tabB_length]
  have e : (tabB n (fun _ => false)).map Value.bool = (madeCells #[Value.bool false] n).toList := by
    rw [toList_madeCells_one]
    simp only [tabB, List.map_map]
    rw [List.eq_replicate_iff]
    refine ⟨by simp, fun v hv => ?_⟩
    obtain ⟨j, _, rfl⟩ := List.mem_map.1 hv
    rfl
  rw [e]; exact h
theorem owns_made {w : World} {base g n : Nat} (h : w.ownsRow base 3 1 (.slice (some ⟨g, 0, none⟩) n n) n (madeCells #[Value.int .i64 0] n).toList) : Owns w base (.slice (some ⟨g, 0, none⟩) n n) (tab n (fun _ => 0)) := by
  unfold Owns
  rw [tab_length]
  have e : (tab n (fun _ => 0)).map (Value.int .i64) = (madeCells #[Value.int .i64 0] n).toList := by
    rw [toList_madeCells_one]
    simp only [tab, List.map_map]
    rw [List.eq_replicate_iff]
    refine ⟨by simp, fun v hv => ?_⟩
    obtain ⟨j, _, rfl⟩ := List.mem_map.1 hv
    rfl
  rw [e]; exact h

/-- A function with one value changed. -/
def upd (f : Nat → Int) (j : Nat) (x : Int) : Nat → Int := fun i => if i = j then x else f i
theorem tab_set (n : Nat) (f : Nat → Int) (j : Nat) (x : Int) : (tab n f).set j x = tab n (upd f j x) := by
  apply List.ext_getElem
  · simp [tab]
  · intro i h1 h2
    simp only [tab, upd, List.getElem_set, List.getElem_map, List.getElem_range]
    by_cases e : j = i
    · simp [e]
    · simp [e, Ne.symm e]
theorem Owns.tabStore {w : World} {base g cap n : Nat} {f : Nat → Int} (h : Owns w base (.slice (some ⟨g, 0, none⟩) n cap) (tab n f)) (j : Nat) (x : Int) :
    Owns (w.setCell ⟨g, j, none⟩ (.int .i64 x)) base (.slice (some ⟨g, 0, none⟩) n cap) (tab n (upd f j x)) := by
  rw [← tab_set]; exact h.store (tab_length n f).symm j x
theorem Owns.tabAt {w : World} {base g cap n : Nat} {f : Nat → Int} (h : Owns w base (.slice (some ⟨g, 0, none⟩) n cap) (tab n f)) {j : Nat} (hj : j < n) :
    w.frozen? ⟨g, j, none⟩ = false ∧ w.cell? ⟨g, j, none⟩ = some (.int .i64 (f j)) := by
  obtain ⟨_, h1, h2⟩ := h.at (tab_length n f).symm
  refine ⟨h1 j, ?_⟩
  rw [h2 j (by rw [tab_length]; exact hj), tab_getD n f j hj]
theorem Owns.tabCongr {w : World} {base n : Nat} {v : Value} {f g : Nat → Int} (h : Owns w base v (tab n f)) (he : ∀ j, j < n → f j = g j) : Owns w base v (tab n g) := by rw [← tab_congr he]; exact h

/-- Which numbers were met among the first k. -/
def met (zs : List Int) (k j : Nat) : Bool := decide ((j : Int) + 1 ∈ zs.take k)

theorem okPerm_out {zs : List Int} {k : Nat} (hk : k < zs.length) (h : zs.getD k 0 < 1 ∨ (zs.length : Int) < zs.getD k 0) : okPerm zs = false := by
  unfold okPerm
  rw [decide_eq_false_iff_not]
  intro hh
  have := hh.1 _ (pmem hk)
  omega
theorem okPerm_twice {zs : List Int} {k : Nat} (hk : k < zs.length) (h : zs.getD k 0 ∈ zs.take k) : okPerm zs = false := by
  unfold okPerm
  rw [decide_eq_false_iff_not]
  intro hh
  obtain ⟨i, hi, he⟩ := List.mem_iff_getElem.1 h
  rw [List.length_take] at hi
  have h2 : zs.getD i 0 = zs.getD k 0 := by
    rw [← he]; simp [List.getD, List.getElem?_eq_getElem (show i < zs.length by omega)]
  have := nodup_inj hh.2 (by omega) hk h2
  omega
theorem okPerm_all {zs : List Int} (h : ∀ i, i < zs.length → 1 ≤ zs.getD i 0 ∧ zs.getD i 0 ≤ zs.length ∧ zs.getD i 0 ∉ zs.take i) : okPerm zs = true := by
  unfold okPerm
  rw [decide_eq_true_eq]
  constructor
  · intro z hz
    obtain ⟨i, hi, he⟩ := List.mem_iff_getElem.1 hz
    have := h i hi
    rw [List.getD_eq_getElem?_getD, List.getElem?_eq_getElem hi, Option.getD_some, he] at this
    exact ⟨this.1, this.2.1⟩
  · rw [List.Nodup, List.pairwise_iff_getElem]
    intro i j hi hj hij e
    have := (h j hj).2.2
    apply this
    rw [List.getD_eq_getElem?_getD, List.getElem?_eq_getElem hj, Option.getD_some, ← e]
    refine List.mem_iff_getElem.2 ⟨i, by rw [List.length_take]; omega, by simp⟩

set_option maxHeartbeats 2000000 in
theorem Check_any (a : Option Addr) (cap : Nat) (zs : List Int) (w : World) (hs : Shows w a zs) :
    Calls Tryd.prog 26 #[.slice a zs.length cap] w fun e w' => e = .returned (.int .i64 (pchk zs)) ∧ Below w.heap.size w w' := by
  have hl := hs.len
  by_cases h40 : 40 < zs.length
  · have hb : decide ((zs.length : Int) > 40) = true := by simp; omega
    have H : Hid (pchk zs = 2) := by show _ = _; unfold pchk; rw [if_pos h40]
    clear h40
    go_enter Tryd.func26, Tryd.ntmps26
    go_wp2
    go_ret
    exact ⟨ret_int H.out.symm, Below.refl _ _⟩
  · have hb : decide ((zs.length : Int) > 40) = false := by simp; omega
    have H : Hid (pchk zs = if okPerm zs = true then 0 else 1) := by show _ = _; unfold pchk; rw [if_neg h40]
    have h40' : zs.length ≤ 40 := by omega
    clear h40
    obtain ⟨i0, hi, hz0, hz1, hz2⟩ := info_parts Tryd.info4
    go_enter Tryd.func26, Tryd.ntmps26
    go_wp2_with (at_make; refine wpList_make_full _ rfl _ _ 66 rfl w.heap.size 4 i0 (.bool false) 1 Tryd.underlying66 hi hz0 hz1 _ _ _ _ zs.length rfl rfl rfl rfl ?b1 ?b2 ?b3 ?_)
    case b1 => rw [hz2]; omega
    case b2 => unfold maxLen; omega
    case b3 => exact Nat.le_refl _
    intro w1 hown hgrow
    have HB1 : Hid (Below w.heap.size w w1) := (Below.refl _ _).grown hgrow (Nat.le_refl _) (fun k h => by cases h)
    have HO1 : Hid (OwnsB w1 w.heap.size (.slice (some ⟨w.heap.size, 0, none⟩) zs.length zs.length) (tabB zs.length (met zs 0))) := (ownsB_made hown).congr (fun j _ => by simp [met])
    clear hown hgrow
    go_wp2
    go_loopw [14] (fun i wr => ∃ k : Nat, k ≤ zs.length ∧ i = .int .i64 k ∧ Hid (∀ i, i < k → 1 ≤ zs.getD i 0 ∧ zs.getD i 0 ≤ zs.length ∧ zs.getD i 0 ∉ zs.take i) ∧ Hid (OwnsB wr w.heap.size (.slice (some ⟨w.heap.size, 0, none⟩) zs.length zs.length) (tabB zs.length (met zs k))) ∧ Hid (Below w.heap.size w wr)) (fun i _ => zs.length - (intOf i).toNat)
    case atStart => exact ⟨0, Nat.zero_le _, rfl, fun j hj => by omega, HO1, HB1⟩
    case round =>
      obtain ⟨k, hk, rfl, HR, HO, HB⟩ := hrel
      by_cases hlt : k < zs.length
      · have hlt' : (k : Int) < (zs.length : Int) := by omega
        obtain ⟨b, off, z, rfl, HZ, hz1, hz2, hc⟩ := (hs.below HB.out).elem hlt
        by_cases h1 : z < 1
        · have hb1 : decide (z < 1) = true := by simpa using h1
          have HE : Hid (okPerm zs = false) := okPerm_out hlt (Or.inl (by rw [← HZ.out]; exact h1))
          go_wp2
          go_ret
          exact ⟨ret_int (by rw [H.out, HE.out]; rfl), HB.out⟩
        · have hb1 : decide (z < 1) = false := by simpa using h1
          by_cases h2 : (zs.length : Int) < z
          · have hb2 : decide (z > (zs.length : Int)) = true := by simpa using h2
            have HE : Hid (okPerm zs = false) := okPerm_out hlt (Or.inr (by rw [← HZ.out]; exact h2))
            go_wp2
            go_ret
            exact ⟨ret_int (by rw [H.out, HE.out]; rfl), HB.out⟩
          · have hb2 : decide (z > (zs.length : Int)) = false := by simpa using h2
            obtain ⟨j, rfl⟩ : ∃ j : Nat, z = (j : Int) + 1 := ⟨(z - 1).toNat, by omega⟩
            have hj : j < zs.length := by omega
            have hj' : (j : Int) < (zs.length : Int) := by omega
            obtain ⟨hfz, hcz⟩ := HO.out.at hj
            cases hm : met zs k j with
            | true =>
              rw [hm] at hcz
              have HE : Hid (okPerm zs = false) := okPerm_twice hlt (by rw [← HZ.out]; simpa [met] using hm)
              go_wp2
              go_ret
              exact ⟨ret_int (by rw [H.out, HE.out]; rfl), HB.out⟩
            | false =>
              rw [hm] at hcz
              have HE : Hid ((j : Int) + 1 ∉ zs.take k) := by show ¬ _; simpa [met] using hm
              go_wp2
              go_roundw
              case rel => exact ⟨k + 1, by omega, by go_num, fun i hi => by
                            by_cases hi' : i < k
                            · exact HR.out i hi'
                            · obtain rfl : i = k := by omega
                              rw [← HZ.out]; exact ⟨by omega, by omega, HE.out⟩, (HO.out.store j true).congr (fun i _ => by
                              unfold met
                              rw [take_snoc zs k hlt, ← HZ.out]
                              by_cases e : i = j
                              · subst e; simp
                              · rw [if_neg e]
                                have : ¬ (i : Int) + 1 = (j : Int) + 1 := by omega
                                simp only [List.mem_append, List.mem_singleton, this, or_false]), HB.out.setCell (Nat.le_refl _) _⟩
              case measure => simp [intOf]; omega
      · go_wp2
        go_ret
        refine ⟨ret_int ?_, HB.out⟩
        obtain rfl : k = zs.length := by omega
        rw [H.out, if_pos (okPerm_all HR.out)]

theorem Check_is {c : Int} (a : Option Addr) (n cap : Nat) (zs : List Int) (w : World) (hs : Shows w a zs) (hn : n = zs.length) (E : Hid (pchk zs = c)) :
    Calls Tryd.prog 26 #[.slice a n cap] w fun e w' => e = .returned (.int .i64 c) ∧ Below w.heap.size w w' := by
  subst hn; have := Check_any a cap zs w hs; rw [E.out] at this; exact this

/-- What checkTwo answers. -/
def two (xs ys : List Int) : Int := if pchk xs = 0 then (if pchk ys = 0 then (if xs.length = ys.length then 0 else 3) else pchk ys) else pchk xs

set_option maxHeartbeats 2000000 in
theorem checkTwo_any (a b : Option Addr) (ca cb : Nat) (xs ys : List Int) (w : World) (hs : Shows w a xs) (ht : Shows w b ys) :
    Calls Tryd.prog 18 #[.slice a xs.length ca, .slice b ys.length cb] w fun e w' => e = .returned (.int .i64 (two xs ys)) ∧ Below w.heap.size w w' := by
  have hl := hs.len
  have hl2 := ht.len
  by_cases h1 : pchk xs = 0
  · have E1 : Hid (pchk xs = 0) := h1
    by_cases h2 : pchk ys = 0
    · have E2 : Hid (pchk ys = 0) := h2
      by_cases h3 : xs.length = ys.length
      · have hb : ((xs.length : Int) != (ys.length : Int)) = false := by rw [h3]; simp
        have E3 : Hid (two xs ys = 0) := by show _ = _; unfold two; rw [if_pos h1, if_pos h2, if_pos h3]
        clear h1 h2 h3
        go_enter Tryd.func18, Tryd.ntmps18
        go_wp2_with fail
        refine (Check_is _ _ _ _ _ hs rfl E1).mono ?_
        rintro e w1 ⟨rfl, hb1⟩
        go_wp2_with fail
        refine (Check_is _ _ _ _ _ (ht.below hb1) rfl E2).mono ?_
        rintro e w2 ⟨rfl, hb2⟩
        go_wp2_with fail
        go_ret
        exact ⟨ret_int E3.out.symm, hb1.trans (hb2.mono hb1.size)⟩
      · have hb : ((xs.length : Int) != (ys.length : Int)) = true := by rw [bne_iff_ne]; omega
        have E3 : Hid (two xs ys = 3) := by show _ = _; unfold two; rw [if_pos h1, if_pos h2, if_neg h3]
        clear h1 h2 h3
        go_enter Tryd.func18, Tryd.ntmps18
        go_wp2_with fail
        refine (Check_is _ _ _ _ _ hs rfl E1).mono ?_
        rintro e w1 ⟨rfl, hb1⟩
        go_wp2_with fail
        refine (Check_is _ _ _ _ _ (ht.below hb1) rfl E2).mono ?_
        rintro e w2 ⟨rfl, hb2⟩
        go_wp2_with fail
        go_ret
        exact ⟨ret_int E3.out.symm, hb1.trans (hb2.mono hb1.size)⟩
    · obtain ⟨c, hc⟩ : ∃ c, c = pchk ys := ⟨_, rfl⟩
      have E2 : Hid (pchk ys = c) := hc.symm
      have hb : (c != 0) = true := by rw [bne_iff_ne, hc]; exact h2
      have E3 : Hid (two xs ys = c) := by show _ = _; unfold two; rw [if_pos h1, if_neg h2, hc]
      clear h1 h2 hc
      go_enter Tryd.func18, Tryd.ntmps18
      go_wp2_with fail
      refine (Check_is _ _ _ _ _ hs rfl E1).mono ?_
      rintro e w1 ⟨rfl, hb1⟩
      go_wp2_with fail
      refine (Check_is _ _ _ _ _ (ht.below hb1) rfl E2).mono ?_
      rintro e w2 ⟨rfl, hb2⟩
      go_wp2_with fail
      go_ret
      exact ⟨ret_int E3.out.symm, hb1.trans (hb2.mono hb1.size)⟩
  · obtain ⟨c, hc⟩ : ∃ c, c = pchk xs := ⟨_, rfl⟩
    have E1 : Hid (pchk xs = c) := hc.symm
    have hb : (c != 0) = true := by rw [bne_iff_ne, hc]; exact h1
    have E3 : Hid (two xs ys = c) := by show _ = _; unfold two; rw [if_neg h1, hc]
    clear h1 hc
    go_enter Tryd.func18, Tryd.ntmps18
    go_wp2_with fail
    refine (Check_is _ _ _ _ _ hs rfl E1).mono ?_
    rintro e w1 ⟨rfl, hb1⟩
    go_wp2_with fail
    go_ret
    exact ⟨ret_int E3.out.symm, hb1⟩

theorem checkTwo_is {c : Int} (a b : Option Addr) (n m ca cb : Nat) (xs ys : List Int) (w : World) (hs : Shows w a xs) (ht : Shows w b ys) (hn : n = xs.length) (hm : m = ys.length) (E : Hid (two xs ys = c)) :
    Calls Tryd.prog 18 #[.slice a n ca, .slice b m cb] w fun e w' => e = .returned (.int .i64 c) ∧ Below w.heap.size w w' := by
  subst hn; subst hm; have := checkTwo_any a b ca cb xs ys w hs ht; rw [E.out] at this; exact this

theorem two_ok {xs ys : List Int} : two xs ys = 0 ↔ IsPerm xs ∧ IsPerm ys ∧ xs.length = ys.length := by
  unfold two
  by_cases h1 : pchk xs = 0
  · rw [if_pos h1]
    by_cases h2 : pchk ys = 0
    · rw [if_pos h2]
      by_cases h3 : xs.length = ys.length
      · rw [if_pos h3]; simp [pchk_ok.1 h1, pchk_ok.1 h2, h3]
      · rw [if_neg h3]; constructor
        · intro h; omega
        · intro h; exact absurd h.2.2 h3
    · rw [if_neg h2]; constructor
      · intro h; exact absurd h h2
      · intro h; exact absurd (pchk_ok.2 h.2.1) h2
  · rw [if_neg h1]; constructor
    · intro h; exact absurd h h1
    · intro h; exact absurd (pchk_ok.2 h.1) h1

end Go.Proofs.YtfdhbnbmobmlpaaDoor
