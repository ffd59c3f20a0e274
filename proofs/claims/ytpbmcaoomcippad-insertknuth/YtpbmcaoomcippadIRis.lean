/-
  The contracts of insert.boxesInFirst, insert.shapeFor, insert.Rising, insert.Falling.
-/
import Derived.Test.YtpbmcaoomcippadICnj
import Derived.Test.YtpbmcaoomcippadIMak
import Derived.Test.YtpbmcaoomcippadIGrc
import Derived.Test.YtpbmcaoomcippadISym
import Derived.Test.YtpbmcaoomcippadUShp
namespace Go.Proofs.Ytpbmcaoomcippad
open Go.RowKit

/-- The first numbers of a list, together. -/
def bxN (zs : List Int) (m : Nat) : Nat := S m (fun i => (zs.getD i 0).toNat)
theorem S_cutB {f : Nat → Nat} {n : Nat} (h : ∀ i, n ≤ i → f i = 0) : ∀ k, n ≤ k → S k f = S n f := by
  intro k
  induction k with
  | zero => intro hk; obtain rfl : n = 0 := by omega
            rfl
  | succ k ih =>
    intro hk
    by_cases e : n = k + 1
    · rw [e]
    · rw [S, ih (by omega), h k (by omega)]; omega
theorem bxN_cut (zs : List Int) {k : Nat} (h : zs.length ≤ k) : bxN zs zs.length = bxN zs k :=
  (S_cutB (fun i hi => by simp [List.getD, List.getElem?_eq_none hi]) k h).symm

set_option maxHeartbeats 2000000 in
theorem boxes_at (a : Option Addr) (n cap : Nat) (zs : List Int) (k : Nat) (w : World) (hs : Shows w a zs) (hn : n = zs.length) (hcap : zs.length ≤ cap) (hz : ∀ z ∈ zs, 0 ≤ z ∧ z ≤ 1000) (hl : zs.length ≤ 1000) (hk2 : k ≤ 9223372036854775807) :
    Calls Try.prog 55 #[.slice a n cap, .int .i64 k] w fun e w' => e = .returned (.int .i64 (bxN zs k : Nat)) ∧ w' = w := by
  subst hn
  have HS : Hid (Shows w a zs) := hs
  have HZ : Hid (∀ z ∈ zs, 0 ≤ z ∧ z ≤ 1000) := hz
  clear hs hz
  by_cases hlk : zs.length < k
  · have h1 : (zs.length : Int) < (k : Int) := by omega
    have h2 : (zs.length : Int) ≤ (cap : Int) := by omega
    have HR : Hid (bxN zs zs.length = bxN zs k) := bxN_cut zs (by omega)
    go_enter Try.func55, Try.ntmps55
    go_wp2
    go_loop [5, 15] (fun s i => ∃ (j x : Nat), j ≤ zs.length ∧ i = .int .i64 j ∧ s = .int .i64 x ∧ x ≤ 1000 * j ∧ Hid (x = bxN zs j)) (fun _ i => zs.length - (intOf i).toNat)
    case atStart => exact ⟨0, 0, Nat.zero_le _, rfl, rfl, Nat.zero_le _, rfl⟩
    case round =>
      obtain ⟨j, x, hj, rfl, rfl, hx, HX⟩ := hrel
      by_cases hlt : j < zs.length
      · have hlt' : (j : Int) < (zs.length : Int) := by omega
        have hjz : j < zs.length := by omega
        obtain ⟨b, off, z, rfl, HZ2, -, -, hc⟩ := HS.out.elem hjz
        have hzb : 0 ≤ z ∧ z ≤ 1000 := by rw [HZ2.out]; exact HZ.out _ (getD_mem hjz)
        obtain ⟨y, hy⟩ : ∃ y : Nat, z = (y : Int) := ⟨z.toNat, by omega⟩
        have HN : Hid (x + y = bxN zs (j + 1)) := by
          show _ = _
          have e : bxN zs (j + 1) = bxN zs j + (zs.getD j 0).toNat := rfl
          rw [e, HX.out, ← HZ2.out, hy, Int.toNat_natCast]
        subst hy
        have hyb : y ≤ 1000 := by omega
        go_wp2
        go_round
        case rel => exact ⟨j + 1, x + y, by omega, by go_num, by go_num, by omega, HN⟩
        case measure => simp [intOf]; omega
      · obtain rfl : j = zs.length := by omega
        have hlt' : ¬ (zs.length : Int) < (zs.length : Int) := by omega
        go_wp2
        go_ret
        exact ⟨ret_int (by rw [HX.out, HR.out]), rfl⟩
  · have h1 : ¬ (zs.length : Int) < (k : Int) := by omega
    have h2 : (k : Int) ≤ (cap : Int) := by omega
    have h3 : max (k : Int) 0 = (k : Int) := by omega
    go_enter Try.func55, Try.ntmps55
    go_wp2
    go_loop [5, 15] (fun s i => ∃ (j x : Nat), j ≤ k ∧ i = .int .i64 j ∧ s = .int .i64 x ∧ x ≤ 1000 * j ∧ Hid (x = bxN zs j)) (fun _ i => k - (intOf i).toNat)
    case atStart => exact ⟨0, 0, Nat.zero_le _, rfl, rfl, Nat.zero_le _, rfl⟩
    case round =>
      obtain ⟨j, x, hj, rfl, rfl, hx, HX⟩ := hrel
      by_cases hlt : j < k
      · have hlt' : (j : Int) < (k : Int) := by omega
        have hjz : j < zs.length := by omega
        obtain ⟨b, off, z, rfl, HZ2, -, -, hc⟩ := HS.out.elem hjz
        have hzb : 0 ≤ z ∧ z ≤ 1000 := by rw [HZ2.out]; exact HZ.out _ (getD_mem hjz)
        obtain ⟨y, hy⟩ : ∃ y : Nat, z = (y : Int) := ⟨z.toNat, by omega⟩
        have HN : Hid (x + y = bxN zs (j + 1)) := by
          show _ = _
          have e : bxN zs (j + 1) = bxN zs j + (zs.getD j 0).toNat := rfl
          rw [e, HX.out, ← HZ2.out, hy, Int.toNat_natCast]
        subst hy
        have hyb : y ≤ 1000 := by omega
        go_wp2
        go_round
        case rel => exact ⟨j + 1, x + y, by omega, by go_num, by go_num, by omega, HN⟩
        case measure => simp [intOf]; omega
      · obtain rfl : k = j := by omega
        have hlt' : ¬ (k : Int) < (k : Int) := by omega
        go_wp2
        go_ret
        exact ⟨ret_int (by rw [HX.out]), rfl⟩

theorem shapeL_map (t : List (List Int)) : shapeL t = t.map (fun r => (r.length : Int)) := by
  unfold shapeL tab row
  refine List.ext_getElem (by simp) (fun i h1 h2 => ?_)
  simp at h1
  simp [List.getD, List.getElem?_eq_getElem h1]
theorem room_map : ∀ (t : List (List Int)) (r : Int), (t.flatten.length : Int) ≤ r → 0 ≤ ptRoom r (t.map (fun r => (r.length : Int))) := by
  intro t
  induction t with
  | nil => intro r h; simp at h; simpa [ptRoom] using h
  | cons a t ih =>
    intro r h
    rw [List.flatten_cons, List.length_append] at h
    simp only [List.map_cons, ptRoom]
    rw [if_neg (by omega)]
    exact ih _ (by omega)
theorem shape_pt {t : List (List Int)} (h : IsTab t) (hT : T t) : IsPt (shapeL t) := by
  have g : ∀ j, j < t.length → (shapeL t).getD j 0 = ((row t j).length : Int) := fun j hj => by unfold shapeL; rw [tab_getD _ _ _ hj]
  refine ⟨fun j hj => ?_, by rw [shapeL_map]; exact room_map t 40 (by have := h.few; omega), fun z hz => ?_, by unfold shapeL; rw [tab_length]; exact h.rows⟩
  · unfold shapeL at hj
    rw [tab_length] at hj
    refine ⟨by rw [g j hj]; have := (T_row.1 hT j hj).1; omega, fun q => ?_⟩
    rw [g j hj, g (j - 1) (by omega)]
    have := hT.shp.2 (j - 1) (by omega)
    rw [show j - 1 + 1 = j by omega] at this
    omega
  · obtain ⟨j, hj, rfl⟩ := tab_mem hz
    have h1 := (T_row.1 hT j hj).1
    have h2 := h.width hj
    omega
theorem bx_shape (t : List (List Int)) (k : Nat) : bxN (shapeL t) k = S k (fun i => (row t i).length) := by
  unfold bxN
  refine S_congr (fun i _ => ?_)
  by_cases h : i < t.length
  · unfold shapeL; rw [tab_getD _ _ _ h]; exact Int.toNat_natCast _
  · rw [row_out (by omega), List.length_nil]
    have : (shapeL t).getD i 0 = 0 := by
      simp only [List.getD]; rw [List.getElem?_eq_none (by unfold shapeL; rw [tab_length]; omega)]; rfl
    rw [this]; rfl
theorem col_count (t : List (List Int)) (j : Nat) : (colOf t j).length = t.countP (fun r => decide (j < r.length)) := by
  unfold colOf
  induction t with
  | nil => rfl
  | cons r t ih =>
    rw [List.countP_cons]
    by_cases h : j < r.length
    · rw [List.filterMap_cons, List.getElem?_eq_getElem h]; simp only [List.length_cons]; rw [ih, if_pos (by simpa using h)]
    · rw [List.filterMap_cons, List.getElem?_eq_none (by omega)]; simp only; rw [ih, if_neg (by simpa using h)]; rfl
theorem ptCol_shape (t : List (List Int)) (j : Nat) : ptCol (shapeL t) j = ((colOf t j).length : Int) := by
  unfold ptCol
  rw [shapeL_map, List.countP_map, col_count]
  congr 1
  refine List.countP_congr (fun r _ => ?_)
  simp
theorem bx_conj {t : List (List Int)} (h : T t) (k : Nat) : bxN (ptConj (shapeL t)) k = S k (fun j => (colOf t j).length) := by
  unfold bxN ptConj
  have h0 : ((shapeL t).getD 0 0).toNat = (row t 0).length := by
    by_cases c : 0 < t.length
    · unfold shapeL; rw [tab_getD _ _ _ c]; exact Int.toNat_natCast _
    · have : t = [] := List.eq_nil_of_length_eq_zero (by omega)
      subst this; rfl
  rw [h0]
  refine S_congr (fun j _ => ?_)
  by_cases c : j < (row t 0).length
  · rw [tab_getD _ _ _ c, ptCol_shape]; exact Int.toNat_natCast _
  · have e : (tab (row t 0).length (ptCol (shapeL t))).getD j 0 = 0 := by
      simp only [List.getD]; rw [List.getElem?_eq_none (by rw [tab_length]; omega)]; rfl
    rw [e]
    rw [col_count]
    have : t.countP (fun r => decide (j < r.length)) = 0 := by
      rw [List.countP_eq_zero]
      intro r hr
      obtain ⟨a, ha, rfl⟩ := mem_row hr
      have := h.shp.shorter' (a := 0) (b := a) (by omega)
      simp; omega
    rw [this]; rfl
theorem put1_fstG : ∀ (l : List (Int × Int)) (s : List (List Int) × List (List Int)), (l.foldl put1 s).1 = insW s.1 (l.map Prod.snd) := by
  intro l
  induction l with
  | nil => intro s; rfl
  | cons c l ih => intro s; rw [List.foldl_cons, ih]; rfl
theorem mk_fstG (l : List (Int × Int)) : (mk l).1 = insW [] (l.map Prod.snd) := put1_fstG l _
theorem P_num (zs : List Int) : (mk (numW zs)).1 = insW [] zs := by
  have : (numW zs).map Prod.snd = zs := by
    refine ext_getD (by simp [numW]) (fun j hj => ?_)
    simp [numW] at hj
    simp [numW, List.getD, hj]
  rw [mk_fstG, this]
theorem insW_tabs {zs : List Int} (h : lchk zs = 0) : T (insW [] zs) ∧ IsTab (insW [] zs) ∧ (insW [] zs).flatten.length = zs.length := by
  obtain ⟨h1, h2⟩ := lchk_ok.1 h
  have hp := insW_perm zs []
  rw [List.flatten_nil, List.append_nil] at hp
  have hT := insW_T zs [] trivial
  exact ⟨hT, hT.isTab (by rw [hp.length_eq]; exact h1) (fun z hz => h2 z (hp.mem_iff.1 hz)), hp.length_eq⟩

set_option maxHeartbeats 4000000 in
set_option maxRecDepth 100000 in
theorem shapeFor_ok (a : Option Addr) (n cap : Nat) (zs : List Int) (k : Nat) (w : World) (hs : Shows w a zs) (hn : n = zs.length) (hc : lchk zs = 0) :
    Calls Try.prog 54 #[.slice a n cap, .int .i64 k] w fun e w' => ∃ v, e = .returned (.tuple #[v, .int .i64 0]) ∧ Owns w' w.heap.size v (shapeL (insW [] zs)) ∧ Below w.heap.size w w' := by
  subst hn
  have HS : Hid (Shows w a zs) := hs
  have HC : Hid (lchk zs = 0) := hc
  obtain ⟨t, HT⟩ : ∃ t, Hid (t = insW [] zs) := ⟨_, rfl⟩
  have HTab : Hid (IsTab t) := by rw [HT.out]; exact (insW_tabs hc).2.1
  have hrows : t.length ≤ 40 := HTab.out.rows
  rw [← HT.out]
  clear hs hc
  obtain ⟨i0, hi, hz0, hz1, hz2⟩ := info_parts Try.info3
  have hk0 : ¬ (k : Int) < 0 := by omega
  go_enter Try.func54, Try.ntmps54
  go_wp2_with fail
  refine (Make_at a _ cap zs w HS.out rfl HC.out).mono ?_
  rintro e w1 ⟨v, u, rfl, hTw, hb⟩
  have h1 := hTw.fst
  rw [P_num, ← HT.out] at h1
  have HBd : Hid (∀ l ∈ t, l.length ≤ 17592186044416 ∧ ∀ z ∈ l, -9223372036854775808 ≤ z ∧ z ≤ 9223372036854775807) := fun l hl => by
    obtain ⟨m, hm, rfl⟩ := mem_row hl
    refine ⟨by have := HTab.out.width hm; omega, fun z hz => ?_⟩
    have := HTab.out.mem (List.mem_flatten.2 ⟨_, hl, hz⟩); omega
  obtain ⟨b1, n1, k1, rfl, hR1, HN1⟩ := h1.table HBd.out
  obtain rfl : n1 = t.length := HN1.out
  have HR1 : Hid (Table w1 b1 t) := hR1
  have HB0 : Hid (Below w.heap.size w w1) := hb
  obtain ⟨x5, m5, y5, hx5⟩ : ∃ x5 m5 y5, u = .slice x5 m5 y5 := by obtain ⟨vs, h⟩ := hTw.snd; obtain ⟨p, q, e⟩ := h.shape; exact ⟨_, _, _, e⟩
  subst hx5
  clear hTw h1 hR1 hb
  go_wp2_with (at_make; refine wpList_make_full _ rfl _ _ 22 rfl w.heap.size 3 i0 (.int .i64 0) 1 Try.underlying22 hi hz0 hz1 _ _ _ _ t.length rfl rfl rfl rfl ?b1 ?b2 ?b3 ?_)
  case b1 => rw [hz2]; omega
  case b2 => unfold maxLen; omega
  case b3 => exact HB0.out.size
  intro w2 hown hgrow
  have HB1 : Hid (Below w.heap.size w w2) := HB0.out.grown hgrow HB0.out.size (fun k h => by cases h)
  have HB12 : Hid (Below w1.heap.size w1 w2) := (Below.refl _ _).grown hgrow (Nat.le_refl _) (fun k h => by cases h)
  have HO1 : Hid (Owns w2 w.heap.size (.slice (some ⟨w1.heap.size, 0, none⟩) t.length t.length) (tab t.length (fun j => if j < 0 then ((row t j).length : Nat) else 0))) := (owns_made hown).tabCongr (fun j _ => by simp)
  have hbase : w.heap.size ≤ w1.heap.size := HB0.out.size
  clear hown hgrow
  go_wp2
  go_loopw [28] (fun i wr => ∃ k : Nat, k ≤ t.length ∧ i = .int .i64 k ∧ Hid (Owns wr w.heap.size (.slice (some ⟨w1.heap.size, 0, none⟩) t.length t.length) (tab t.length (fun j => if j < k then ((row t j).length : Nat) else 0))) ∧ Hid (Below w.heap.size w wr ∧ Below w1.heap.size w1 wr)) (fun i _ => t.length - (intOf i).toNat)
  case atStart => exact ⟨0, Nat.zero_le _, rfl, HO1, ⟨HB1.out, HB12.out⟩⟩
  case round =>
    obtain ⟨k, hk, rfl, HO, HB⟩ := hrel
    by_cases hlt : k < t.length
    · have hlt' : (k : Int) < (t.length : Int) := by omega
      obtain ⟨b, off, ai, m, ci, rfl, hc, HM, -, -, hmb⟩ := (HR1.out.below HB.out.2).elem hlt
      obtain ⟨hfz, hcz⟩ := HO.out.tabAt hlt
      go_wp2
      go_roundw
      case rel => exact ⟨k + 1, by omega, by go_num, (HO.out.tabStore k (m : Int)).tabCongr (fun j _ => by
                    unfold upd
                    by_cases e : j = k
                    · subst e; rw [if_pos rfl, if_pos (by omega), HM.out]
                    · rw [if_neg e]
                      show (if j < k then (((row t j).length : Nat) : Int) else 0) = if j < k + 1 then (((row t j).length : Nat) : Int) else 0
                      by_cases h : j < k
                      · rw [if_pos h, if_pos (by omega)]
                      · rw [if_neg h, if_neg (by omega)]), ⟨HB.out.1.setCell (p := ⟨w1.heap.size, k, none⟩) hbase _, HB.out.2.setCell (p := ⟨w1.heap.size, k, none⟩) (Nat.le_refl _) _⟩⟩
      case measure => simp [intOf]; omega
    · obtain rfl : k = t.length := by omega
      go_wp2
      go_ret2
      exact ⟨_, rfl, HO.out.tabCongr (fun j hj => by rw [if_pos hj]), HB.out.1⟩
/-- What Rising and Falling say. -/
def riC (zs : List Int) (k : Int) : Int := if lchk zs ≠ 0 then lchk zs else if k < 0 then 1 else 0
set_option maxHeartbeats 4000000 in
set_option maxRecDepth 100000 in
theorem shapeFor_err {c : Int} (a : Option Addr) (n cap : Nat) (zs : List Int) (k : Int) (w : World) (hs : Shows w a zs) (hn : n = zs.length) (E : Hid (riC zs k = c)) (hc : (c != 0) = true) :
    Calls Try.prog 54 #[.slice a n cap, .int .i64 k] w fun e w' => e = .returned (.tuple #[.slice none 0 0, .int .i64 c]) ∧ Below w.heap.size w w' := by
  subst hn
  have HS : Hid (Shows w a zs) := hs
  clear hs
  by_cases h : lchk zs = 0
  · have HC : Hid (lchk zs = 0) := h
    have hE := E.out
    unfold riC at hE
    rw [if_neg (by rw [h]; simp)] at hE
    have hk : k < 0 := by
      rcases Decidable.em (k < 0) with q | q
      · exact q
      · rw [if_neg q] at hE; rw [← hE] at hc; cases hc
    rw [if_pos hk] at hE
    subst hE
    clear h
    go_enter Try.func54, Try.ntmps54
    go_wp2_with fail
    refine (Make_at a _ cap zs w HS.out rfl HC.out).mono ?_
    rintro e w1 ⟨v, u, rfl, hTw, hb⟩
    have HB0 : Hid (Below w.heap.size w w1) := hb
    clear hTw hb
    go_wp2
    go_ret2
    exact ⟨rfl, HB0.out⟩
  · have hE : lchk zs = c := by have := E.out; unfold riC at this; rw [if_pos h] at this; exact this
    have hc0 : c ≠ 0 := by rw [← hE]; exact h
    have HE : Hid (lchk zs = c) := hE
    have HC0 : Hid (c ≠ 0) := hc0
    clear h hE hc0
    go_enter Try.func54, Try.ntmps54
    go_wp2_with fail
    refine (Make_err a _ cap zs w HS.out rfl c HE.out HC0.out).mono ?_
    rintro e w1 ⟨rfl, hw1⟩
    obtain rfl : w = w1 := hw1.symm
    clear hw1
    go_wp2
    go_ret2
    exact ⟨rfl, Below.refl _ _⟩
/-- The boxes of the first rows, of the first columns. -/
def upN (zs : List Int) (k : Nat) : Nat := S k (fun i => (row (insW [] zs) i).length)
def dnN (zs : List Int) (k : Nat) : Nat := S k (fun j => (colOf (insW [] zs) j).length)
set_option maxHeartbeats 4000000 in
set_option maxRecDepth 100000 in
theorem Rising_ok (a : Option Addr) (n cap : Nat) (zs : List Int) (k : Nat) (w : World) (hs : Shows w a zs) (hn : n = zs.length) (hc : lchk zs = 0) (hk : k ≤ 9223372036854775807) :
    Calls Try.prog 23 #[.slice a n cap, .int .i64 k] w fun e w' => e = .returned (.tuple #[.int .i64 (upN zs k : Nat), .int .i64 0]) ∧ Below w.heap.size w w' := by
  subst hn
  have HS : Hid (Shows w a zs) := hs
  have HC : Hid (lchk zs = 0) := hc
  have HP : Hid (IsPt (shapeL (insW [] zs))) := shape_pt (insW_tabs hc).2.1 (insW_tabs hc).1
  obtain ⟨L, HL⟩ : ∃ L, Hid (L = shapeL (insW [] zs)) := ⟨_, rfl⟩
  rw [← HL.out] at HP
  have HR : Hid (bxN L k = upN zs k) := by show _ = _; rw [HL.out]; exact bx_shape _ _
  have HLb : Hid (∀ z ∈ L, 0 ≤ z ∧ z ≤ 1000) := fun z hz => by have := HP.out.range z hz; omega
  have hl := HP.out.len
  rw [← HR.out]
  clear hs hc
  go_enter Try.func23, Try.ntmps23
  go_wp2_with fail
  refine (shapeFor_ok a _ cap zs k w HS.out rfl HC.out).mono ?_
  rintro e w1 ⟨v, rfl, hO, hb⟩
  rw [← HL.out] at hO
  have HB : Hid (Below w.heap.size w w1) := hb
  obtain ⟨a2, n2, c2, rfl, hS2, hn2, hc2⟩ := hO.opened (by omega) (small_wf HLb.out)
  have HS2 : Hid (Shows w1 a2 L) := hS2
  have HN2 : Hid (n2 = L.length ∧ L.length ≤ c2) := ⟨hn2, by omega⟩
  clear hO hb hS2 hn2 hc2
  go_wp2_with fail
  refine (boxes_at a2 n2 c2 L k w1 HS2.out HN2.out.1 HN2.out.2 HLb.out (by omega) hk).mono ?_
  rintro e w2 ⟨rfl, hw2⟩
  obtain rfl : w1 = w2 := hw2.symm
  clear hw2
  go_wp2
  go_ret2
  exact ⟨rfl, HB.out⟩
set_option maxHeartbeats 4000000 in
set_option maxRecDepth 100000 in
theorem Rising_err {c : Int} (a : Option Addr) (n cap : Nat) (zs : List Int) (k : Int) (w : World) (hs : Shows w a zs) (hn : n = zs.length) (E : Hid (riC zs k = c)) (hc : (c != 0) = true) :
    Calls Try.prog 23 #[.slice a n cap, .int .i64 k] w fun e w' => e = .returned (.tuple #[.int .i64 0, .int .i64 c]) ∧ Below w.heap.size w w' := by
  subst hn
  go_enter Try.func23, Try.ntmps23
  go_wp2_with fail
  refine (shapeFor_err a _ cap zs k w hs rfl E hc).mono ?_
  rintro e w1 ⟨rfl, hb⟩
  have HB : Hid (Below w.heap.size w w1) := hb
  clear hb
  go_wp2
  go_ret2
  exact ⟨rfl, HB.out⟩
theorem conj_small {zs : List Int} (h : IsPt zs) : (ptConj zs).length ≤ 40 ∧ ∀ z ∈ ptConj zs, 0 ≤ z ∧ z ≤ 1000 := by
  unfold ptConj
  refine ⟨?_, fun z hz => ?_⟩
  · rw [tab_length]
    by_cases c : 0 < zs.length
    · have := h.range _ (getD_mem c); omega
    · have : zs = [] := List.eq_nil_of_length_eq_zero (by omega)
      subst this; simp
  · obtain ⟨j, _, rfl⟩ := tab_mem hz
    have h1 := ptCol_nonneg zs j
    have h2 := ptCol_le zs j
    have := h.len
    omega
set_option maxHeartbeats 4000000 in
set_option maxRecDepth 100000 in
theorem Falling_ok (a : Option Addr) (n cap : Nat) (zs : List Int) (k : Nat) (w : World) (hs : Shows w a zs) (hn : n = zs.length) (hc : lchk zs = 0) (hk : k ≤ 9223372036854775807) :
    Calls Try.prog 24 #[.slice a n cap, .int .i64 k] w fun e w' => e = .returned (.tuple #[.int .i64 (dnN zs k : Nat), .int .i64 0]) ∧ Below w.heap.size w w' := by
  subst hn
  have HS : Hid (Shows w a zs) := hs
  have HC : Hid (lchk zs = 0) := hc
  have HP : Hid (IsPt (shapeL (insW [] zs))) := shape_pt (insW_tabs hc).2.1 (insW_tabs hc).1
  obtain ⟨L, HL⟩ : ∃ L, Hid (L = shapeL (insW [] zs)) := ⟨_, rfl⟩
  rw [← HL.out] at HP
  have HR : Hid (bxN (ptConj L) k = dnN zs k) := by show _ = _; rw [HL.out]; exact bx_conj (insW_tabs hc).1 _
  have HLb : Hid (∀ z ∈ L, 0 ≤ z ∧ z ≤ 1000) := fun z hz => by have := HP.out.range z hz; omega
  have HCs : Hid ((ptConj L).length ≤ 40 ∧ ∀ z ∈ ptConj L, 0 ≤ z ∧ z ≤ 1000) := conj_small HP.out
  have hl := HP.out.len
  rw [← HR.out]
  clear hs hc
  go_enter Try.func24, Try.ntmps24
  go_wp2_with fail
  refine (shapeFor_ok a _ cap zs k w HS.out rfl HC.out).mono ?_
  rintro e w1 ⟨v, rfl, hO, hb⟩
  rw [← HL.out] at hO
  have HB : Hid (Below w.heap.size w w1) := hb
  obtain ⟨a2, n2, c2, rfl, hS2, hn2, -⟩ := hO.opened (by omega) (small_wf HLb.out)
  have HS2 : Hid (Shows w1 a2 L) := hS2
  have HN2 : Hid (n2 = L.length) := hn2
  clear hO hb hS2 hn2
  go_wp2_with fail
  refine (Conjugate_ok a2 n2 c2 L w1 HS2.out HN2.out HP.out).mono ?_
  rintro e w2 ⟨v2, rfl, hO2, hb2⟩
  have HB2 : Hid (Below w.heap.size w w2) := HB.out.trans (hb2.mono HB.out.size)
  obtain ⟨a3, n3, c3, rfl, hS3, hn3, hc3⟩ := hO2.opened (by have := HCs.out.1; omega) (small_wf HCs.out.2)
  have HS3 : Hid (Shows w2 a3 (ptConj L)) := hS3
  have HN3 : Hid (n3 = (ptConj L).length ∧ (ptConj L).length ≤ c3) := ⟨hn3, by omega⟩
  clear hO2 hb2 hS3 hn3 hc3
  go_wp2_with fail
  refine (boxes_at a3 n3 c3 (ptConj L) k w2 HS3.out HN3.out.1 HN3.out.2 HCs.out.2 (by have := HCs.out.1; omega) hk).mono ?_
  rintro e w3 ⟨rfl, hw3⟩
  obtain rfl : w2 = w3 := hw3.symm
  clear hw3
  go_wp2
  go_ret2
  exact ⟨rfl, HB2.out⟩
set_option maxHeartbeats 4000000 in
set_option maxRecDepth 100000 in
theorem Falling_err {c : Int} (a : Option Addr) (n cap : Nat) (zs : List Int) (k : Int) (w : World) (hs : Shows w a zs) (hn : n = zs.length) (E : Hid (riC zs k = c)) (hc : (c != 0) = true) :
    Calls Try.prog 24 #[.slice a n cap, .int .i64 k] w fun e w' => e = .returned (.tuple #[.int .i64 0, .int .i64 c]) ∧ Below w.heap.size w w' := by
  subst hn
  go_enter Try.func24, Try.ntmps24
  go_wp2_with fail
  refine (shapeFor_err a _ cap zs k w hs rfl E hc).mono ?_
  rintro e w1 ⟨rfl, hb⟩
  have HB : Hid (Below w.heap.size w w1) := hb
  clear hb
  go_wp2
  go_ret2
  exact ⟨rfl, HB.out⟩

end Go.Proofs.Ytpbmcaoomcippad
