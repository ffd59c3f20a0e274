/-
  The contract of ferlaw.Rows[int] (from IEq: for seats without tables of insert).
  Rows and boxes of tables: plain facts (split off LMath).
  Alternating signs: plain mathematics. Matrices by sums of rows and columns; their corners; greater and lesser ones.
-/
import Derived.Test.YtgcpconlmihilaaGreatDoorTTab
import Derived.Test.YtgcpconlmihilaaGreatDoorBOwn
namespace Go.Proofs.YtgcpconlmihilaaGreatDoor
open Go.RowKit

theorem Shows.drewR {w : World} {a : Option Addr} {zs : List Int} (h : Shows w a zs) (n : Nat) : Shows (w.drewN n) a zs := h.below (below_drewN (Below.refl _ _) n)
theorem Table.elemR {w : World} {a : Option Addr} {ls : List (List Int)} (h : Table w a ls) {k : Nat} (hk : k < ls.length) :
    ∃ b off ai m ci, a = some ⟨b, off, none⟩ ∧ w.cell? ⟨b, off + k, none⟩ = some (.slice ai m ci) ∧ Hid (m = (ls.getD k []).length) ∧ Hid (Shows w ai (ls.getD k [])) ∧ Hid (ai = none → ls.getD k [] = [] ∧ ci = 0) ∧ m ≤ 17592186044416 := by
  obtain ⟨b, off, ai, ci, h1, _, h3, h4, h5⟩ := h k hk
  exact ⟨b, off, ai, _, ci, h1, h3, rfl, h4, h5, h4.len⟩

set_option maxHeartbeats 2000000 in
theorem RowsL_r (a b : Option Addr) (ca cb n m : Nat) (ls : List (List Int)) (w : World) (hs : Table w a ls) (ht : Table w b ls) (hn : n = ls.length) (hm : m = ls.length) (hl : ls.length ≤ 17592186044416) :
    Calls Tryz.prog 27 #[.slice a n ca, .slice b m cb] w fun e w' => e = .returned (.bool true) ∧ ∃ n, w' = w.drewN n := by
  subst hn; subst hm
  have HS : Hid (Table w a ls) := hs
  have HT : Hid (Table w b ls) := ht
  clear hs ht
  go_enter Tryz.func27, Tryz.ntmps27
  go_wp2
  go_loopw [13] (fun i wr => ∃ k : Nat, k ≤ ls.length ∧ i = .int .i64 k ∧ Hid (∃ n, wr = w.drewN n)) (fun i _ => ls.length - (intOf i).toNat)
  case atStart => exact ⟨0, Nat.zero_le _, rfl, 0, rfl⟩
  case round =>
    obtain ⟨k, hk, rfl, HD⟩ := hrel
    have HBw : Hid (Below w.heap.size w wr) := by obtain ⟨n, hn⟩ := HD.out; rw [hn]; exact below_drewN (Below.refl _ w) n
    by_cases hlt : k < ls.length
    · have hlt' : (k : Int) < (ls.length : Int) := by omega
      obtain ⟨b1, off1, a1, m1, c1, rfl, hc1, HM1, HS1, -, -⟩ := (HS.out.below HBw.out).elemR hlt
      obtain ⟨b2, off2, a2, m2, c2, rfl, hc2, HM2, HS2, -, -⟩ := (HT.out.below HBw.out).elemR hlt
      go_wp2_with fail
      go_quiet ((go_at_call 47; exact Calls.quiet_of (Same_at _ _ _ _ _ _ (ls.getD k []) (ls.getD k []) _ (HS1.out.drewR _) (HS2.out.drewR _) HM1.out HM2.out true (by simp))))
      go_wp2
      go_roundw
      case rel => exact ⟨k + 1, by omega, by go_num, by obtain ⟨n, hn⟩ := HD.out; exact ⟨_, by rw [hn]; exact drewN_two _ _ _⟩⟩
      case measure => simp [intOf]; omega
    · obtain rfl : k = ls.length := by omega
      go_wp2
      go_ret
      exact ⟨rfl, HD.out⟩

end Go.Proofs.YtgcpconlmihilaaGreatDoor

namespace Go.Proofs.YtgcpconlmihilaaGreatDoor

/-- The row a, the box (a, b). -/
def row (ls : List (List Int)) (a : Nat) : List Int := ls.getD a []
def box (ls : List (List Int)) (a b : Nat) : Int := (row ls a).getD b 0
theorem row_mem {ls : List (List Int)} {a : Nat} (h : a < ls.length) : row ls a ∈ ls := by simp [row, List.getD, List.getElem?_eq_getElem h]
theorem mem_row {ls : List (List Int)} {r : List Int} (h : r ∈ ls) : ∃ a, a < ls.length ∧ row ls a = r := by
  obtain ⟨a, ha, rfl⟩ := List.mem_iff_getElem.1 h
  exact ⟨a, ha, by simp [row, List.getD, List.getElem?_eq_getElem ha]⟩
theorem row_out {ls : List (List Int)} {a : Nat} (h : ls.length ≤ a) : row ls a = [] := by simp [row, List.getD, List.getElem?_eq_none h]
theorem ext_row {ls ms : List (List Int)} (hl : ls.length = ms.length) (h : ∀ a, a < ls.length → row ls a = row ms a) : ls = ms := by
  refine List.ext_getElem hl (fun j h1 h2 => ?_)
  simpa [row, List.getD, List.getElem?_eq_getElem h1, List.getElem?_eq_getElem h2] using h j h1

end Go.Proofs.YtgcpconlmihilaaGreatDoor

namespace Go.Proofs.YtgcpconlmihilaaGreatDoor

/-- a table out of a function -/
def tz (r c : Nat) (P : Nat → Nat → Int) : List (List Int) := (List.range r).map fun i => tab c (P i)
theorem tz_len (r c : Nat) (P : Nat → Nat → Int) : (tz r c P).length = r := by simp [tz]
theorem tz_get {r c : Nat} {P : Nat → Nat → Int} {i : Nat} (hi : i < r) : (tz r c P).getD i [] = tab c (P i) := by simp [tz, List.getD, hi]
theorem tz_row {r c : Nat} {P : Nat → Nat → Int} {i : Nat} (hi : i < r) : row (tz r c P) i = tab c (P i) := tz_get hi
theorem tz_box {r c : Nat} {P : Nat → Nat → Int} {i j : Nat} (hi : i < r) (hj : j < c) : box (tz r c P) i j = P i j := by unfold box; rw [tz_row hi, tab_getD _ _ _ hj]
theorem tz_congr {r c : Nat} {P Q : Nat → Nat → Int} (h : ∀ i, i < r → ∀ j, j < c → P i j = Q i j) : tz r c P = tz r c Q :=
  List.map_congr_left (fun i hi => tab_congr (fun j hj => h i (List.mem_range.1 hi) j hj))
theorem tz_inj {r c : Nat} {P Q : Nat → Nat → Int} (h : tz r c P = tz r c Q) : ∀ i, i < r → ∀ j, j < c → P i j = Q i j := fun i hi j hj => by
  rw [← tz_box (P := P) hi hj, h, tz_box hi hj]
theorem tz_wf {r c : Nat} {P : Nat → Nat → Int} (hc : c ≤ 1000) (h : ∀ i, i < r → ∀ j, j < c → -9223372036854775808 ≤ P i j ∧ P i j ≤ 9223372036854775807) : ∀ l ∈ tz r c P, l.length ≤ 17592186044416 ∧ ∀ z ∈ l, -9223372036854775808 ≤ z ∧ z ≤ 9223372036854775807 := by
  intro l hl
  simp only [tz, List.mem_map, List.mem_range] at hl
  obtain ⟨i, hi, rfl⟩ := hl
  refine ⟨by rw [tab_length]; omega, fun z hz => ?_⟩
  obtain ⟨j, hj, rfl⟩ := tab_mem hz
  exact h i hi j hj
theorem tz_of {ls : List (List Int)} {c : Nat} (h : ∀ i, i < ls.length → (row ls i).length = c) : ls = tz ls.length c (box ls) := by
  refine ext_row (by rw [tz_len]) (fun i hi => ?_)
  rw [tz_row hi]
  refine ext_getD (by rw [tab_length, h i hi]) (fun j hj => ?_)
  rw [tab_getD _ _ _ (by rw [← h i hi]; exact hj)]
  rfl
theorem tz_take {r c : Nat} {P : Nat → Nat → Int} {j : Nat} (hj : j < r) : (tz r c P).take (j + 1) = (tz r c P).take j ++ [tab c (P j)] := by
  rw [List.take_succ_eq_append_getElem (by rw [tz_len]; exact hj)]
  simp [tz]
theorem tz_takeAll {r c : Nat} {P : Nat → Nat → Int} : (tz r c P).take r = tz r c P := List.take_of_length_le (by rw [tz_len]; exact Nat.le_refl _)
theorem tab_take {n k : Nat} {f : Nat → Int} (h : k ≤ n) : (tab n f).take k = tab k f := by
  refine ext_getD (by simp [tab_length]; omega) (fun j hj => ?_)
  rw [List.length_take, tab_length] at hj
  rw [tab_getD _ _ _ (by omega)]
  simp [tab, List.getD, show j < k by omega, show j < n by omega]

/-- what the first k come to -/
def rsm (f : Nat → Int) : Nat → Int
  | 0 => 0
  | k + 1 => rsm f k + f k
theorem rsm_congr {f g : Nat → Int} : ∀ {k : Nat}, (∀ i, i < k → f i = g i) → rsm f k = rsm g k
  | 0, _ => rfl
  | k + 1, h => by show rsm f k + f k = rsm g k + g k; rw [rsm_congr (fun i hi => h i (by omega)), h k (by omega)]
theorem rsm_add (f g : Nat → Int) : ∀ k, rsm (fun i => f i + g i) k = rsm f k + rsm g k
  | 0 => rfl
  | k + 1 => by show rsm (fun i => f i + g i) k + (f k + g k) = rsm f k + f k + (rsm g k + g k); rw [rsm_add f g k]; omega
theorem sum_tab (f : Nat → Int) : ∀ k, sum (tab k f) = rsm f k
  | 0 => rfl
  | k + 1 => by rw [tab_succ, sum_append, sum_tab f k]; simp [sum, rsm]

/-- sums come to 0 or 1, to 1 at last -/
def alt (s : Int) : List Int → Bool
  | [] => decide (s = 1)
  | z :: l => decide (s + z = 0 ∨ s + z = 1) && alt (s + z) l
theorem alt_iff : ∀ (l : List Int) (s : Int), alt s l = true ↔ (∀ k, k < l.length → s + sum (l.take (k + 1)) = 0 ∨ s + sum (l.take (k + 1)) = 1) ∧ s + sum l = 1
  | [], s => by simp [alt, sum]
  | z :: l, s => by
    simp only [alt, Bool.and_eq_true, decide_eq_true_eq, alt_iff l (s + z), sum, List.length_cons, List.take_succ_cons]
    constructor
    · rintro ⟨h1, h2, h3⟩
      refine ⟨fun k hk => ?_, by omega⟩
      cases k with
      | zero => simp [sum]; omega
      | succ k => have := h2 k (by omega); omega
    · rintro ⟨h1, h2⟩
      refine ⟨?_, fun k hk => ?_, by omega⟩
      · have := h1 0 (by omega); simp [sum] at this; omega
      · have := h1 (k + 1) (by omega); omega
theorem alt_tab (n : Nat) (f : Nat → Int) : alt 0 (tab n f) = true ↔ (∀ k, k ≤ n → rsm f k = 0 ∨ rsm f k = 1) ∧ rsm f n = 1 := by
  rw [alt_iff, tab_length]
  have e : ∀ k, k < n → sum ((tab n f).take (k + 1)) = rsm f (k + 1) := fun k hk => by rw [tab_take (by omega), sum_tab]
  rw [sum_tab]
  constructor
  · rintro ⟨h1, h2⟩
    refine ⟨fun k hk => ?_, by omega⟩
    cases k with
    | zero => exact Or.inl rfl
    | succ k => have := h1 k (by omega); rw [e k (by omega)] at this; omega
  · rintro ⟨h1, h2⟩
    exact ⟨fun k hk => by rw [e k hk]; have := h1 (k + 1) (by omega); omega, by omega⟩

/-- a matrix, as a function -/
structure Sg (n : Nat) (P : Nat → Nat → Int) : Prop where
  n1 : 1 ≤ n
  n7 : n ≤ 7
  row : ∀ i, i < n → ∀ j, j ≤ n → rsm (P i) j = 0 ∨ rsm (P i) j = 1
  rowE : ∀ i, i < n → rsm (P i) n = 1
  col : ∀ j, j < n → ∀ i, i ≤ n → rsm (fun k => P k j) i = 0 ∨ rsm (fun k => P k j) i = 1
  colE : ∀ j, j < n → rsm (fun k => P k j) n = 1

def colL (ls : List (List Int)) (j : Nat) : List Int := tab ls.length fun i => box ls i j
/-- square, of 1 to 7 rows -/
structure Sq (ls : List (List Int)) : Prop where
  n1 : 1 ≤ ls.length
  n7 : ls.length ≤ 7
  len : ∀ i, i < ls.length → (row ls i).length = ls.length
/-- a matrix, as a list -/
structure SgL (ls : List (List Int)) : Prop where
  sq : Sq ls
  alt : ∀ k, k < ls.length → alt 0 (row ls k) = true ∧ alt 0 (colL ls k) = true

theorem sg_list {n : Nat} {P : Nat → Nat → Int} : SgL (tz n n P) ↔ Sg n P := by
  constructor
  · rintro ⟨⟨h1, h2, _⟩, h3⟩
    rw [tz_len] at h1 h2 h3
    have hr : ∀ i, i < n → (∀ k, k ≤ n → rsm (P i) k = 0 ∨ rsm (P i) k = 1) ∧ rsm (P i) n = 1 := fun i hi => by
      have := (h3 i hi).1
      rw [tz_row hi] at this
      exact (alt_tab _ _).1 this
    have hc : ∀ j, j < n → (∀ k, k ≤ n → rsm (fun k => P k j) k = 0 ∨ rsm (fun k => P k j) k = 1) ∧ rsm (fun k => P k j) n = 1 := fun j hj => by
      have := (h3 j hj).2
      unfold colL at this
      rw [tz_len, tab_congr (g := fun k => P k j) (fun i hi => tz_box hi hj)] at this
      exact (alt_tab _ _).1 this
    exact ⟨h1, h2, fun i hi => (hr i hi).1, fun i hi => (hr i hi).2, fun j hj => (hc j hj).1, fun j hj => (hc j hj).2⟩
  · intro p
    refine ⟨⟨by rw [tz_len]; exact p.n1, by rw [tz_len]; exact p.n7, fun i hi => ?_⟩, fun k hk => ?_⟩
    · rw [tz_len] at hi
      rw [tz_row hi, tab_length, tz_len]
    · rw [tz_len] at hk
      refine ⟨by rw [tz_row hk]; exact (alt_tab _ _).2 ⟨p.row k hk, p.rowE k hk⟩, ?_⟩
      unfold colL
      rw [tz_len, tab_congr (g := fun i => P i k) (fun i hi => tz_box hi hk)]
      exact (alt_tab _ _).2 ⟨p.col k hk, p.colE k hk⟩
theorem SgL.fn {ls : List (List Int)} (h : SgL ls) : ∃ (n : Nat) (P : Nat → Nat → Int), ls = tz n n P ∧ Sg n P := by
  have e := tz_of h.sq.len
  have h2 : ∀ ms, ls = ms → SgL ms := fun ms e => e ▸ h
  exact ⟨ls.length, box ls, e, sg_list.1 (h2 _ e)⟩

/-- corners -/
def cor (P : Nat → Nat → Int) (i j : Nat) : Int := rsm (fun a => rsm (P a) j) i
theorem cor_row (P : Nat → Nat → Int) (i j : Nat) : cor P (i + 1) j = cor P i j + rsm (P i) j := rfl
theorem cor_col (P : Nat → Nat → Int) (i j : Nat) : cor P i (j + 1) = cor P i j + rsm (fun k => P k j) i := by
  unfold cor
  rw [← rsm_add]
  rfl
theorem cor_z0 (P : Nat → Nat → Int) (j : Nat) : cor P 0 j = 0 := rfl
theorem cor_z1 (P : Nat → Nat → Int) : ∀ i, cor P i 0 = 0
  | 0 => rfl
  | i + 1 => by rw [cor_row, cor_z1 P i]; rfl
theorem cor_step (P : Nat → Nat → Int) (i j : Nat) : cor P (i + 1) (j + 1) = cor P i (j + 1) + cor P (i + 1) j - cor P i j + P i j := by
  rw [cor_row, cor_row]
  show _ + (rsm (P i) j + P i j) = _
  omega
theorem cor_congr {P Q : Nat → Nat → Int} {n : Nat} (h : ∀ i, i < n → ∀ j, j < n → P i j = Q i j) {i j : Nat} (hi : i ≤ n) (hj : j ≤ n) : cor P i j = cor Q i j :=
  rsm_congr (fun a ha => rsm_congr (fun b hb => h a (by omega) b (by omega)))

/-- what corners are like -/
structure Kc (n : Nat) (c : Nat → Nat → Int) : Prop where
  n1 : 1 ≤ n
  n7 : n ≤ 7
  z0 : ∀ j, j ≤ n → c 0 j = 0
  z1 : ∀ i, i ≤ n → c i 0 = 0
  e0 : ∀ j, j ≤ n → c n j = j
  e1 : ∀ i, i ≤ n → c i n = i
  dr : ∀ i, i < n → ∀ j, j ≤ n → c (i + 1) j = c i j ∨ c (i + 1) j = c i j + 1
  dc : ∀ i, i ≤ n → ∀ j, j < n → c i (j + 1) = c i j ∨ c i (j + 1) = c i j + 1

theorem Sg.kc {n : Nat} {P : Nat → Nat → Int} (p : Sg n P) : Kc n (cor P) where
  n1 := p.n1
  n7 := p.n7
  z0 := fun j _ => cor_z0 P j
  z1 := fun i _ => cor_z1 P i
  e0 := fun j hj => by
    induction j with
    | zero => exact cor_z1 P n
    | succ j ih => rw [cor_col, ih (by omega), p.colE j (by omega)]; omega
  e1 := fun i hi => by
    induction i with
    | zero => rfl
    | succ i ih => rw [cor_row, ih (by omega), p.rowE i (by omega)]; omega
  dr := fun i hi j hj => by rw [cor_row]; have := p.row i hi j hj; omega
  dc := fun i hi j hj => by rw [cor_col]; have := p.col j hj i hi; omega

theorem Kc.bound {n : Nat} {c : Nat → Nat → Int} (k : Kc n c) : ∀ i, i ≤ n → ∀ j, j ≤ n → 0 ≤ c i j ∧ c i j ≤ i
  | 0, _, j, hj => by rw [k.z0 j hj]; omega
  | i + 1, hi, j, hj => by have := k.bound i (by omega) j hj; have := k.dr i (by omega) j hj; omega
theorem Kc.bound7 {n : Nat} {c : Nat → Nat → Int} (k : Kc n c) {i j : Nat} (hi : i ≤ n) (hj : j ≤ n) : 0 ≤ c i j ∧ c i j ≤ 7 := by
  have := k.bound i hi j hj; have := k.n7; omega

def dif (c : Nat → Nat → Int) (i j : Nat) : Int := c (i + 1) (j + 1) - c i (j + 1) - c (i + 1) j + c i j
theorem dif_cor (P : Nat → Nat → Int) (i j : Nat) : dif (cor P) i j = P i j := by unfold dif; rw [cor_step]; omega
theorem dif_row {n : Nat} {c : Nat → Nat → Int} (h : ∀ i, i ≤ n → c i 0 = 0) {i : Nat} (hi : i < n) : ∀ j, rsm (dif c i) j = c (i + 1) j - c i j
  | 0 => by rw [h i (by omega), h (i + 1) (by omega)]; rfl
  | j + 1 => by show rsm (dif c i) j + dif c i j = _; rw [dif_row h hi j]; unfold dif; omega
theorem dif_col {n : Nat} {c : Nat → Nat → Int} (h : ∀ j, j ≤ n → c 0 j = 0) {j : Nat} (hj : j < n) : ∀ i, rsm (fun k => dif c k j) i = c i (j + 1) - c i j
  | 0 => by rw [h j (by omega), h (j + 1) (by omega)]; rfl
  | i + 1 => by show rsm (fun k => dif c k j) i + dif c i j = _; rw [dif_col h hj i]; unfold dif; omega
theorem Kc.sg {n : Nat} {c : Nat → Nat → Int} (k : Kc n c) : Sg n (dif c) where
  n1 := k.n1
  n7 := k.n7
  row := fun i hi j hj => by rw [dif_row k.z1 hi]; have := k.dr i hi j hj; omega
  rowE := fun i hi => by rw [dif_row k.z1 hi, k.e1 i (by omega), k.e1 (i + 1) (by omega)]; omega
  col := fun j hj i hi => by rw [dif_col k.z0 hj]; have := k.dc i hi j hj; omega
  colE := fun j hj => by rw [dif_col k.z0 hj, k.e0 j (by omega), k.e0 (j + 1) (by omega)]; omega
theorem cor_dif {n : Nat} {c : Nat → Nat → Int} (z0 : ∀ j, j ≤ n → c 0 j = 0) (z1 : ∀ i, i ≤ n → c i 0 = 0) : ∀ i, i ≤ n → ∀ j, j ≤ n → cor (dif c) i j = c i j
  | 0, _, j, hj => (z0 j hj).symm
  | i + 1, hi, j, hj => by rw [cor_row, cor_dif z0 z1 i (by omega) j hj, dif_row z1 (by omega)]; omega

theorem Kc.max {n : Nat} {c d : Nat → Nat → Int} (k : Kc n c) (m : Kc n d) : Kc n (fun i j => max (c i j) (d i j)) where
  n1 := k.n1
  n7 := k.n7
  z0 := fun j hj => by show Max.max _ _ = _; rw [k.z0 j hj, m.z0 j hj]; rfl
  z1 := fun i hi => by show Max.max _ _ = _; rw [k.z1 i hi, m.z1 i hi]; rfl
  e0 := fun j hj => by show Max.max _ _ = _; rw [k.e0 j hj, m.e0 j hj]; omega
  e1 := fun i hi => by show Max.max _ _ = _; rw [k.e1 i hi, m.e1 i hi]; omega
  dr := fun i hi j hj => by have := k.dr i hi j hj; have := m.dr i hi j hj; show Max.max _ _ = _ ∨ Max.max _ _ = _; omega
  dc := fun i hi j hj => by have := k.dc i hi j hj; have := m.dc i hi j hj; show Max.max _ _ = _ ∨ Max.max _ _ = _; omega
theorem Kc.min {n : Nat} {c d : Nat → Nat → Int} (k : Kc n c) (m : Kc n d) : Kc n (fun i j => min (c i j) (d i j)) where
  n1 := k.n1
  n7 := k.n7
  z0 := fun j hj => by show Min.min _ _ = _; rw [k.z0 j hj, m.z0 j hj]; rfl
  z1 := fun i hi => by show Min.min _ _ = _; rw [k.z1 i hi, m.z1 i hi]; rfl
  e0 := fun j hj => by show Min.min _ _ = _; rw [k.e0 j hj, m.e0 j hj]; omega
  e1 := fun i hi => by show Min.min _ _ = _; rw [k.e1 i hi, m.e1 i hi]; omega
  dr := fun i hi j hj => by have := k.dr i hi j hj; have := m.dr i hi j hj; show Min.min _ _ = _ ∨ Min.min _ _ = _; omega
  dc := fun i hi j hj => by have := k.dc i hi j hj; have := m.dc i hi j hj; show Min.min _ _ = _ ∨ Min.min _ _ = _; omega

theorem Sg.place {n : Nat} {P : Nat → Nat → Int} (p : Sg n P) {i j : Nat} (hi : i < n) (hj : j < n) : -1 ≤ P i j ∧ P i j ≤ 1 := by
  have h1 := p.row i hi j (by omega)
  have h2 := p.row i hi (j + 1) (by omega)
  have e : rsm (P i) (j + 1) = rsm (P i) j + P i j := rfl
  omega

/-- the greater one, the lesser one -/
def mee (A B : Nat → Nat → Int) : Nat → Nat → Int := dif fun i j => max (cor A i j) (cor B i j)
def joi (A B : Nat → Nat → Int) : Nat → Nat → Int := dif fun i j => min (cor A i j) (cor B i j)
theorem Sg.mee {n : Nat} {A B : Nat → Nat → Int} (p : Sg n A) (q : Sg n B) : Sg n (mee A B) := (p.kc.max q.kc).sg
theorem Sg.joi {n : Nat} {A B : Nat → Nat → Int} (p : Sg n A) (q : Sg n B) : Sg n (joi A B) := (p.kc.min q.kc).sg
theorem cor_mee {n : Nat} {A B : Nat → Nat → Int} (p : Sg n A) (q : Sg n B) {i j : Nat} (hi : i ≤ n) (hj : j ≤ n) : cor (mee A B) i j = max (cor A i j) (cor B i j) :=
  cor_dif (p.kc.max q.kc).z0 (p.kc.max q.kc).z1 i hi j hj
theorem cor_joi {n : Nat} {A B : Nat → Nat → Int} (p : Sg n A) (q : Sg n B) {i j : Nat} (hi : i ≤ n) (hj : j ≤ n) : cor (joi A B) i j = min (cor A i j) (cor B i j) :=
  cor_dif (p.kc.min q.kc).z0 (p.kc.min q.kc).z1 i hi j hj
/-- order -/
def Bel (n : Nat) (A B : Nat → Nat → Int) : Prop := ∀ i, i ≤ n → ∀ j, j ≤ n → cor B i j ≤ cor A i j

theorem bel_mee {n : Nat} {A B : Nat → Nat → Int} (p : Sg n A) (q : Sg n B) : Bel n (mee A B) A ∧ Bel n (mee A B) B :=
  ⟨fun i hi j hj => by rw [cor_mee p q hi hj]; omega, fun i hi j hj => by rw [cor_mee p q hi hj]; omega⟩
theorem bel_joi {n : Nat} {A B : Nat → Nat → Int} (p : Sg n A) (q : Sg n B) : Bel n A (joi A B) ∧ Bel n B (joi A B) :=
  ⟨fun i hi j hj => by rw [cor_joi p q hi hj]; omega, fun i hi j hj => by rw [cor_joi p q hi hj]; omega⟩
theorem bel_low {n : Nat} {A B C : Nat → Nat → Int} (p : Sg n A) (q : Sg n B) (h1 : Bel n C A) (h2 : Bel n C B) : Bel n C (mee A B) :=
  fun i hi j hj => by rw [cor_mee p q hi hj]; have := h1 i hi j hj; have := h2 i hi j hj; omega
theorem bel_high {n : Nat} {A B C : Nat → Nat → Int} (p : Sg n A) (q : Sg n B) (h1 : Bel n A C) (h2 : Bel n B C) : Bel n (joi A B) C :=
  fun i hi j hj => by rw [cor_joi p q hi hj]; have := h1 i hi j hj; have := h2 i hi j hj; omega
theorem bel_iff_mee {n : Nat} {A B : Nat → Nat → Int} (p : Sg n A) (q : Sg n B) : Bel n A B ↔ tz n n (mee A B) = tz n n A := by
  constructor
  · intro h
    refine tz_congr (fun i hi j hj => ?_)
    have e : ∀ i j, i ≤ n → j ≤ n → max (cor A i j) (cor B i j) = cor A i j := fun i j hi hj => by have := h i hi j hj; omega
    unfold mee dif
    dsimp only
    rw [e _ _ (by omega) (by omega), e _ _ (by omega) (by omega), e _ _ (by omega) (by omega), e _ _ (by omega) (by omega)]
    exact dif_cor A i j
  · intro h i hi j hj
    have := cor_congr (tz_inj h) hi hj
    rw [cor_mee p q hi hj] at this
    omega
theorem bel_iff_joi {n : Nat} {A B : Nat → Nat → Int} (p : Sg n A) (q : Sg n B) : Bel n A B ↔ tz n n (joi A B) = tz n n B := by
  constructor
  · intro h
    refine tz_congr (fun i hi j hj => ?_)
    have e : ∀ i j, i ≤ n → j ≤ n → min (cor A i j) (cor B i j) = cor B i j := fun i j hi hj => by have := h i hi j hj; omega
    unfold joi dif
    dsimp only
    rw [e _ _ (by omega) (by omega), e _ _ (by omega) (by omega), e _ _ (by omega) (by omega), e _ _ (by omega) (by omega)]
    exact dif_cor B i j
  · intro h i hi j hj
    have := cor_congr (tz_inj h) hi hj
    rw [cor_joi p q hi hj] at this
    omega

end Go.Proofs.YtgcpconlmihilaaGreatDoor
