/-
  The contracts of insert.checkRoom, insert.Insert, insert.InsertLeft.
-/
import Derived.Test.YtampjdebnaapaaeIPuc
import Derived.Test.YtampjdebnaapaaeICpy
namespace Go.Proofs.Ytampjdebnaapaae
open Go.RowKit

/-- What is wrong with putting x into ls. -/
def roomC (ls : List (List Int)) (x : Int) : Int := if tchk ls ≠ 0 then tchk ls else if ¬ (1 ≤ x ∧ x ≤ 99) then 1 else if ls.flatten.length = 40 then 2 else 0
theorem roomC_ok {ls : List (List Int)} {x : Int} : roomC ls x = 0 ↔ IsTab ls ∧ (1 ≤ x ∧ x ≤ 99) ∧ ls.flatten.length ≠ 40 := by
  unfold roomC
  by_cases h1 : tchk ls ≠ 0
  · rw [if_pos h1]; exact ⟨fun h => absurd h h1, fun h => absurd (tchk_ok.2 h.1) h1⟩
  · rw [if_neg h1]
    have h1 := tchk_ok.1 (Decidable.not_not.1 h1)
    by_cases h2 : 1 ≤ x ∧ x ≤ 99
    · rw [if_neg (fun h => h h2)]
      by_cases h3 : ls.flatten.length = 40
      · rw [if_pos h3]; exact ⟨fun h => by omega, fun h => absurd h3 h.2.2⟩
      · rw [if_neg h3]; exact ⟨fun _ => ⟨h1, h2, h3⟩, fun _ => rfl⟩
    · rw [if_pos h2]; exact ⟨fun h => by omega, fun h => absurd h.2.1 h2⟩

set_option maxHeartbeats 2000000 in
theorem checkRoom_at {c x : Int} (a : Option Addr) (n cap : Nat) (ls : List (List Int)) (w : World) (hs : Table w a ls) (hl : ls.length ≤ 17592186044416) (hn : n = ls.length) (hr : Hid (roomC ls x = c)) :
    Calls Try.prog 19 #[.slice a n cap, .int .i64 x] w fun e w' => e = .returned (.int .i64 c) ∧ ∃ n, w' = w.drewN n := by
  subst hn
  obtain ⟨d, hd⟩ : ∃ d, tchk ls = d := ⟨_, rfl⟩
  have E : Hid (tchk ls = d) := hd
  by_cases h0 : d = 0
  · subst h0
    have hT := tchk_ok.1 hd
    by_cases hx : 1 ≤ x ∧ x ≤ 99
    · have HX : Hid (decide (1 ≤ x ∧ x ≤ 99) = true) := decide_eq_true hx
      have hf : ls.flatten.length ≤ 40 := hT.few
      obtain ⟨f, HF⟩ : ∃ f, Hid (ls.flatten.length = f) := ⟨_, rfl⟩
      have hrows := hT.rows
      by_cases hf40 : f = 40
      · have HC : Hid (c = 2) := by
          rw [← hr.out]; unfold roomC
          rw [if_neg (by rw [hd]; simp), if_neg (fun h => h hx), if_pos (by rw [HF.out]; exact hf40)]; rfl
        subst hf40
        clear hd hx
        go_enter Try.func19, Try.ntmps19
        go_wp2_with fail
        refine (TCheck_is _ _ _ _ _ hs hl rfl E).mono ?_
        rintro e w1 ⟨rfl, n1, rfl⟩
        go_wp2_with fail
        refine (isLetter_at x _ HX).mono ?_
        rintro e w2 ⟨rfl, hw2⟩
        obtain rfl := hw2
        go_wp2_with fail
        refine (boxesOf_at _ _ _ _ _ (hs.drewN n1) rfl (by omega) (by omega)).mono ?_
        rintro e w3 ⟨rfl, hw3⟩
        obtain rfl := hw3
        rw [HF.out]
        go_wp2
        go_ret
        exact ⟨by rw [HC.out]; rfl, n1, rfl⟩
      · have HC : Hid (c = 0) := by
          rw [← hr.out]; unfold roomC
          rw [if_neg (by rw [hd]; simp), if_neg (fun h => h hx), if_neg (by rw [HF.out]; exact hf40)]; rfl
        have hfb : ((f : Int) == 40) = false := by simp; omega
        clear hd hx
        go_enter Try.func19, Try.ntmps19
        go_wp2_with fail
        refine (TCheck_is _ _ _ _ _ hs hl rfl E).mono ?_
        rintro e w1 ⟨rfl, n1, rfl⟩
        go_wp2_with fail
        refine (isLetter_at x _ HX).mono ?_
        rintro e w2 ⟨rfl, hw2⟩
        obtain rfl := hw2
        go_wp2_with fail
        refine (boxesOf_at _ _ _ _ _ (hs.drewN n1) rfl (by omega) (by omega)).mono ?_
        rintro e w3 ⟨rfl, hw3⟩
        obtain rfl := hw3
        rw [HF.out]
        go_wp2
        go_ret
        exact ⟨by rw [HC.out]; rfl, n1, rfl⟩
    · have HX : Hid (decide (1 ≤ x ∧ x ≤ 99) = false) := decide_eq_false hx
      have HC : Hid (c = 1) := by
        rw [← hr.out]; unfold roomC
        rw [if_neg (by rw [hd]; simp), if_pos hx]; rfl
      clear hd hx
      go_enter Try.func19, Try.ntmps19
      go_wp2_with fail
      refine (TCheck_is _ _ _ _ _ hs hl rfl E).mono ?_
      rintro e w1 ⟨rfl, n1, rfl⟩
      go_wp2_with fail
      refine (isLetter_at x _ HX).mono ?_
      rintro e w2 ⟨rfl, hw2⟩
      obtain rfl := hw2
      go_wp2
      go_ret
      exact ⟨by rw [HC.out]; rfl, n1, rfl⟩
  · have HC : Hid (c = d) := by
      rw [← hr.out]; unfold roomC
      rw [if_pos (by rw [hd]; exact h0), hd]; rfl
    have hdb : (d != 0) = true := bne_iff_ne.2 h0
    clear hd
    go_enter Try.func19, Try.ntmps19
    go_wp2_with fail
    refine (TCheck_is _ _ _ _ _ hs hl rfl E).mono ?_
    rintro e w1 ⟨rfl, n1, rfl⟩
    go_wp2
    go_ret
    exact ⟨by rw [HC.out]; rfl, n1, rfl⟩

/-- What Insert (s = false), InsertLeft (s = true) answer: the error, the tableau, the number. -/
def InsR (s : Bool) (ls : List (List Int)) (x : Int) (c : Int) (q : List (List Int)) (m : Nat) : Prop :=
  c = roomC ls x ∧ (c = 0 → (if s then Shp q ∧ cols q = ins true x (cols ls) ∧ m = insAt true x (cols ls) else q = ins false x ls ∧ m = insAt false x ls)) ∧ (c ≠ 0 → q = [] ∧ m = 0)

theorem tab_rows {ls : List (List Int)} (h : IsTab ls) : ∀ r ∈ ls, 0 < r.length ∧ r.length ≤ 1000 := fun r hr => by
  obtain ⟨a, ha, rfl⟩ := mem_row hr
  exact ⟨(h.ok a ha).one, by have := h.width ha; omega⟩

set_option maxHeartbeats 2000000 in
theorem Insert_at {x : Int} (a : Option Addr) (n cap : Nat) (ls : List (List Int)) (w : World) (hs : Table w a ls) (hl : ls.length ≤ 17592186044416) (hn : n = ls.length) :
    Calls Try.prog 11 #[.slice a n cap, .int .i64 x] w fun e w' => ∃ v c q m, e = .returned (.tuple #[v, .int .i64 (m : Nat), .int .i64 c]) ∧ Tbl w' w.heap.size v q ∧ Below w.heap.size w w' ∧ InsR false ls x c q m := by
  subst hn
  obtain ⟨d, hd⟩ : ∃ d, roomC ls x = d := ⟨_, rfl⟩
  have E : Hid (roomC ls x = d) := hd
  by_cases h0 : d = 0
  · subst h0
    obtain ⟨hT, -, -⟩ := roomC_ok.1 hd
    have HT : Hid (IsTab ls) := hT
    have h40 := hT.rows
    clear hd hT
    go_enter Try.func11, Try.ntmps11
    go_wp2_with fail
    refine (checkRoom_at _ _ _ _ _ hs hl rfl E).mono ?_
    rintro e w1 ⟨rfl, n1, rfl⟩
    go_wp2_with fail
    refine (icopied_at _ _ _ _ _ (hs.drewN n1) rfl (by omega) (tab_rows HT.out)).mono ?_
    rintro e w2 ⟨v2, rfl, hT2, hb2⟩
    have HT2 : Hid (Tbl w2 w.heap.size v2 ls) := hT2
    have HB2 : Hid (Below w.heap.size w w2) := (below_drewN (Below.refl _ w) n1).trans hb2
    clear hT2 hb2
    go_wp2_with fail
    refine (putInRows_at v2 x w2 (TIn.of_tbl HT2.out) (fun k hk => hk) HB2.out.size (by omega) (tab_rows HT.out)).mono ?_
    rintro e w3 ⟨v3, rfl, hT3, hO3⟩
    have HT3 : Hid (Tbl w3 w.heap.size v3 (ins false x ls)) := hT3.tbl
    have HB3 : Hid (Below w.heap.size w w3) := HB2.out.trans (hO3.below HB2.out.size (fun k hk => hk.1))
    clear hT3 hO3
    go_wp2
    go_ret3
    exact ⟨_, 0, _, _, rfl, HT3.out, HB3.out, E.out.symm, fun _ => ⟨rfl, rfl⟩, fun h => absurd rfl h⟩
  · have hdb : (d != 0) = true := bne_iff_ne.2 h0
    have H0 : Hid (d ≠ 0) := h0
    clear hd h0
    go_enter Try.func11, Try.ntmps11
    go_wp2_with fail
    refine (checkRoom_at _ _ _ _ _ hs hl rfl E).mono ?_
    rintro e w1 ⟨rfl, n1, rfl⟩
    go_wp2
    go_ret3
    exact ⟨_, d, [], 0, rfl, Tbl.nil _ _, below_drewN (Below.refl _ w) n1, E.out.symm, fun h => absurd h H0.out, fun _ => ⟨rfl, rfl⟩⟩
set_option maxHeartbeats 2000000 in
theorem InsertLeft_at {x : Int} (a : Option Addr) (n cap : Nat) (ls : List (List Int)) (w : World) (hs : Table w a ls) (hl : ls.length ≤ 17592186044416) (hn : n = ls.length) :
    Calls Try.prog 12 #[.slice a n cap, .int .i64 x] w fun e w' => ∃ v c q m, e = .returned (.tuple #[v, .int .i64 (m : Nat), .int .i64 c]) ∧ Tbl w' w.heap.size v q ∧ Below w.heap.size w w' ∧ InsR true ls x c q m := by
  subst hn
  obtain ⟨d, hd⟩ : ∃ d, roomC ls x = d := ⟨_, rfl⟩
  have E : Hid (roomC ls x = d) := hd
  by_cases h0 : d = 0
  · subst h0
    obtain ⟨hT, -, -⟩ := roomC_ok.1 hd
    have HT : Hid (IsTab ls) := hT
    have h40 := hT.rows
    clear hd hT
    go_enter Try.func12, Try.ntmps12
    go_wp2_with fail
    refine (checkRoom_at _ _ _ _ _ hs hl rfl E).mono ?_
    rintro e w1 ⟨rfl, n1, rfl⟩
    go_wp2_with fail
    refine (icopied_at _ _ _ _ _ (hs.drewN n1) rfl (by omega) (tab_rows HT.out)).mono ?_
    rintro e w2 ⟨v2, rfl, hT2, hb2⟩
    have HT2 : Hid (Tbl w2 w.heap.size v2 ls) := hT2
    have HB2 : Hid (Below w.heap.size w w2) := (below_drewN (Below.refl _ w) n1).trans hb2
    clear hT2 hb2
    go_wp2_with fail
    refine (putInColumns_at v2 x w2 (TIn.of_tbl HT2.out) (fun k hk => hk) HB2.out.size HT.out).mono ?_
    rintro e w3 ⟨v3, q3, rfl, hT3, hO3, hs3, hc3⟩
    have HT3 : Hid (Tbl w3 w.heap.size v3 q3) := hT3.tbl
    have HB3 : Hid (Below w.heap.size w w3) := HB2.out.trans (hO3.below HB2.out.size (fun k hk => hk.1))
    have HQ3 : Hid (Shp q3 ∧ cols q3 = ins true x (cols ls)) := ⟨hs3, hc3⟩
    clear hT3 hO3 hs3 hc3
    go_wp2
    go_ret3
    exact ⟨_, 0, _, _, rfl, HT3.out, HB3.out, E.out.symm, fun _ => ⟨HQ3.out.1, HQ3.out.2, rfl⟩, fun h => absurd rfl h⟩
  · have hdb : (d != 0) = true := bne_iff_ne.2 h0
    have H0 : Hid (d ≠ 0) := h0
    clear hd h0
    go_enter Try.func12, Try.ntmps12
    go_wp2_with fail
    refine (checkRoom_at _ _ _ _ _ hs hl rfl E).mono ?_
    rintro e w1 ⟨rfl, n1, rfl⟩
    go_wp2
    go_ret3
    exact ⟨_, d, [], 0, rfl, Tbl.nil _ _, below_drewN (Below.refl _ w) n1, E.out.symm, fun h => absurd h H0.out, fun _ => ⟨rfl, rfl⟩⟩

end Go.Proofs.Ytampjdebnaapaae
