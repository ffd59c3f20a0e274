/-
  Lists of natural numbers as the memory has them.
  The contract of ferref.under.
-/
import Derived.Test.YtbiakncblkjmhaaGreatDoorTTab
import Derived.Test.YtbiakncblkjmhaaGreatDoorDQs
import Derived.Deep.DeepCutAuto
namespace Go.Proofs.YtbiakncblkjmhaaGreatDoor
open Go.RowKit

def castL (l : List Nat) : List Int := l.map fun (n : Nat) => (n : Int)
def castT (t : List (List Nat)) : List (List Int) := t.map castL
def uL (n : Nat) (u : Nat → Nat) : List Nat := (List.range (n + 1)).map u
theorem castL_len (l : List Nat) : (castL l).length = l.length := by simp [castL]
theorem castT_len (t : List (List Nat)) : (castT t).length = t.length := by simp [castT]
theorem castL_at (l : List Nat) (j : Nat) : (castL l).getD j 0 = (l.getD j 0 : Int) := by
  simp only [castL, List.getD, List.getElem?_map]
  cases l[j]? with
  | none => rfl
  | some v => rfl
theorem castT_at (t : List (List Nat)) (i : Nat) : (castT t).getD i [] = castL (t.getD i []) := by
  simp only [castT, List.getD, List.getElem?_map]
  cases t[i]? with
  | none => rfl
  | some v => rfl
theorem uL_at {n : Nat} {u : Nat → Nat} {x : Nat} (h : x ≤ n) : (uL n u).getD x 0 = u x := by
  simp [uL, List.getD, show x < n + 1 by omega]
theorem tabN_row {c : Nat → Nat} {m : Nat} {g : Nat → Nat → Nat} {i : Nat} (hi : i < m) : (tabN c m g).getD i [] = (List.range (c i)).map (g i) := by
  simp [tabN, List.getD, hi]
theorem tabN_len (c : Nat → Nat) (m : Nat) (g : Nat → Nat → Nat) : (tabN c m g).length = m := by simp [tabN]

/-- Box i, j of the rows. -/
theorem TblV.box {w : World} {lo : Nat} {v : Value} {vs : List Value} {c : Nat → Nat} {m : Nat} {g : Nat → Nat → Nat} (h : TblV w lo v vs (castT (tabN c m g))) {i : Nat} (hi : i < m) (hc : 0 < c i) :
    ∃ R cr q cq, v = .slice (some ⟨R, 0, none⟩) m cr ∧ R < w.heap.size ∧ w.cell? ⟨R, i, none⟩ = some (.slice (some ⟨q, 0, none⟩) (c i) cq) ∧ rowv vs i = .slice (some ⟨q, 0, none⟩) (c i) cq ∧ q < w.heap.size ∧ (∀ j, w.frozen? ⟨q, j, none⟩ = false) ∧ ∀ j, j < c i → w.cell? ⟨q, j, none⟩ = some (.int .i64 (g i j : Int)) := by
  have hl : (castT (tabN c m g)).length = m := by rw [castT_len, tabN_len]
  obtain ⟨R, n, cr, rfl, HN, h1, h2, h3, h4⟩ := h.head (by omega)
  have hn : n = m := by rw [HN.out, hl]
  subst hn
  have ho := h.rows i (by omega)
  rw [castT_at, tabN_row hi] at ho
  have hl2 : (castL ((List.range (c i)).map (g i))).length = c i := by rw [castL_len]; simp
  have hcell := h4 i (by omega)
  obtain ⟨q, cap, e1, e2, e3, e4, e5⟩ := ho.head (by omega)
  rw [hl2] at e1 e5
  rw [e1] at hcell
  refine ⟨R, cr, q, cap, rfl, h2, hcell, e1, e3, e4, fun j hj => ?_⟩
  rw [e5 j hj, castL_at]
  simp [List.getD, hj]

theorem castL_lt {l : List Nat} {b : Nat} (h : ∀ z ∈ l, z ≤ b) : ∀ z ∈ castL l, 0 ≤ z ∧ z ≤ b := fun z hz => by
  simp only [castL, List.mem_map] at hz
  obtain ⟨k, hk, rfl⟩ := hz
  have := h k hk
  omega
theorem getD_le {l : List Nat} {b : Nat} (h : ∀ z ∈ l, z ≤ b) (i : Nat) : l.getD i 0 ≤ b := by
  by_cases hi : i < l.length
  · simp only [List.getD, List.getElem?_eq_getElem hi, Option.getD_some]; exact h _ (List.getElem_mem hi)
  · simp [List.getD, List.getElem?_eq_none (Nat.le_of_not_lt hi)]
/-- One number of what is shown. -/
theorem Shows.nat {w : World} {a : Option Addr} {l : List Nat} (h : Shows w a (castL l)) {i : Nat} (hi : i < l.length) : ∃ b off, a = some ⟨b, off, none⟩ ∧ w.cell? ⟨b, off + i, none⟩ = some (.int .i64 ((l.getD i 0 : Nat) : Int)) := by
  obtain ⟨b, off, z, e, HZ, -, -, hc⟩ := h.elem (by rw [castL_len]; exact hi)
  exact ⟨b, off, e, by rw [hc, HZ.out, castL_at]⟩

end Go.Proofs.YtbiakncblkjmhaaGreatDoor

namespace Go.Proofs.YtbiakncblkjmhaaGreatDoor
open Go.RowKit

theorem min2_run (ts : Array TypeId) (t : TypeId) (x y : Int) (W : World) : (Builtin.min_ ts t #[.int .i64 x, .int .i64 y]).run Tryz.prog W = .ok (.int .i64 (min x y)) W := by
  have : (Builtin.min_ ts t #[.int .i64 x, .int .i64 y]).run Tryz.prog W = .ok (.int .i64 (if y < x then y else x)) W := by
    simp [Builtin.min_, Builtin.min2]
  rw [this]
  congr 2
  split <;> omega
theorem owns_litU {w : World} (x : Int) : Owns (w.alloc (.cells #[.int .i64 x] 3)) w.heap.size (.slice (some ⟨w.heap.size, 0, none⟩) 1 1) [x] := by
  refine ⟨by simp, Or.inr ⟨w.heap.size, 1, #[.int .i64 x], rfl, Nat.le_refl _, ?_, Nat.le_refl _, by unfold maxLen; omega, rfl, rfl⟩⟩
  show (w.heap.push (.cells #[.int .i64 x] 3 (0, 0)))[w.heap.size]? = _
  simp
theorem shows_tailU {w : World} {b off : Nat} {c : Int} {cs : List Int} (h : Shows w (some ⟨b, off, none⟩) (c :: cs)) : Shows w (some ⟨b, off + 1, none⟩) cs := by
  refine ⟨by have := h.len; rw [List.length_cons] at this; omega, fun z hz => h.wf z (by simp [hz]), fun _ => ?_⟩
  obtain ⟨b2, o2, e, hlt, hc⟩ := h.cells (by simp)
  simp only [Option.some.injEq, Addr.mk.injEq, and_true] at e
  obtain ⟨rfl, rfl⟩ := e
  refine ⟨b, off + 1, rfl, hlt, fun j hj => ?_⟩
  have := hc (j + 1) (by simpa using hj)
  rw [show off + 1 + j = off + (j + 1) by omega]
  simpa [List.getD] using this
/-- A table of one row without letters. -/
theorem tbl_nil1 (w : World) : Tbl (w.alloc (.cells #[.slice none 0 0] 29)) w.heap.size (.slice (some ⟨w.heap.size, 0, none⟩) 1 1) [[]] := by
  refine ⟨[.slice none 0 0], ⟨by simp, Or.inr ⟨w.heap.size, 1, #[.slice none 0 0], rfl, Nat.le_refl _, heap_alloc_new _ _, Nat.le_refl _, by unfold maxLen; omega, rfl, rfl⟩⟩, rfl, fun i hi => ?_, fun i j hi hj hij => ?_, fun i hi => ?_⟩
  · obtain rfl : i = 0 := by simpa using hi
    exact World.ownsRow_nil _ _ _ _
  · simp at hi hj; omega
  · obtain rfl : i = 0 := by simpa using hi
    exact (apart_nil _).symm

/-- the rows that begin with a number under n -/
def undF (ts : List Nat) (n : Nat) : List (List Nat) := (List.range n).flatMap fun n => (und ts n).map (n :: ·)
theorem undF_succ (ts : List Nat) (n : Nat) : undF ts (n + 1) = undF ts n ++ (und ts n).map (n :: ·) := by
  unfold undF; rw [List.range_succ, List.flatMap_append]; simp
theorem und_len : ∀ (ts : List Nat) (m : Nat), m ≤ 8 → (und ts m).length ≤ 9 ^ ts.length
  | [], _, _ => by simp [und]
  | t :: ts, m, hm => by
    have key : ∀ k, k ≤ 9 → ((List.range k).flatMap fun n => (und ts n).map (n :: ·)).length ≤ k * 9 ^ ts.length := fun k => by
      induction k with
      | zero => intro _; simp
      | succ k ih =>
        intro hk
        rw [List.range_succ, List.flatMap_append, List.length_append]
        have h1 := ih (by omega)
        have h2 := und_len ts k (by omega)
        simp only [List.flatMap_cons, List.flatMap_nil, List.append_nil, List.length_map, Nat.succ_mul]
        omega
    have h := key (min t m + 1) (by omega)
    simp only [und, List.length_cons, Nat.pow_succ]
    refine Nat.le_trans h ?_
    rw [Nat.mul_comm]
    exact Nat.mul_le_mul_left _ (by omega)
theorem undF_len (ts : List Nat) : ∀ n, n ≤ 9 → (undF ts n).length ≤ n * 9 ^ ts.length
  | 0, _ => by simp [undF]
  | n + 1, h => by
    rw [undF_succ, List.length_append, List.length_map, Nat.succ_mul]
    have h1 := undF_len ts n (by omega)
    have h2 := und_len ts n (by omega)
    omega
theorem und_row {ts : List Nat} {m : Nat} {l : List Nat} (h : l ∈ und ts m) (ht : ∀ t ∈ ts, t ≤ 8) : l.length = ts.length ∧ ∀ z ∈ l, z ≤ 8 := by
  obtain ⟨h1, h2⟩ := (mem_und ts m l).1 h
  refine ⟨h1, fun z hz => ?_⟩
  obtain ⟨j, hj, rfl⟩ := List.getElem_of_mem hz
  have := (h2 j hj).1
  have h3 : ts.getD j 0 ≤ 8 := ht _ (by simp [List.getD, show j < ts.length by omega])
  simp [List.getD, List.getElem?_eq_getElem hj] at this
  simp [List.getD] at h3
  omega
theorem castT_app (s t : List (List Nat)) : castT (s ++ t) = castT s ++ castT t := by simp [castT]
theorem castL_consU (x : Nat) (l : List Nat) : castL (x :: l) = (x : Int) :: castL l := rfl
theorem cast_bdU {t : List (List Nat)} (ht : ∀ r ∈ t, r.length ≤ 1000 ∧ ∀ z ∈ r, z ≤ 1000) : ∀ l ∈ castT t, l.length ≤ 17592186044416 ∧ ∀ z ∈ l, -9223372036854775808 ≤ z ∧ z ≤ 9223372036854775807 := fun l hl => by
  unfold castT at hl
  obtain ⟨r, hr, rfl⟩ := List.mem_map.1 hl
  have := ht r hr
  refine ⟨by rw [castL_len]; omega, fun z hz => ?_⟩
  unfold castL at hz
  obtain ⟨q, hq, rfl⟩ := List.mem_map.1 hz
  have := this.2 q hq
  omega
theorem take_getDU {α : Type} (L : List α) (d : α) {k : Nat} (h : k < L.length) : L.take (k + 1) = L.take k ++ [L.getD k d] := by
  rw [List.take_succ_eq_append_getElem h]; simp [List.getD, h]

/-- Blocks I .. stay while a list grows. -/
def StayU (I : Nat) (wl wr : World) (nv : Value) : Prop :=
  wl.heap.size ≤ wr.heap.size ∧ (∀ j, I ≤ j → j < wl.heap.size → wr.heap[j]? = wl.heap[j]?) ∧ ∀ g, nv.ownBlock = some g → g < I ∨ wl.heap.size ≤ g
theorem StayU.below {I : Nat} {wl w w' : World} {nv : Value} (h : StayU I wl w nv) (hb : Below w.heap.size w w') : StayU I wl w' nv :=
  ⟨Nat.le_trans h.1 hb.size, fun j h1 h2 => by rw [hb.block j (Nat.lt_of_lt_of_le h2 h.1)]; exact h.2.1 j h1 h2, h.2.2⟩
theorem StayU.push {I : Nat} {wl w w' : World} {v v' : Value} (h : StayU I wl w v) (hk : KeepB v v' w w') : StayU I wl w' v' := by
  refine ⟨Nat.le_trans h.1 hk.size, fun j h1 h2 => ?_, fun g hg => ?_⟩
  · rw [hk.block j (Nat.lt_of_lt_of_le h2 h.1) (fun e => by rcases h.2.2 j e with q | q <;> omega)]
    exact h.2.1 j h1 h2
  · rcases hk.lies g hg with q | q
    · exact h.2.2 g q
    · exact Or.inr (Nat.le_trans h.1 q)
theorem StayU.tbl {I : Nat} {wl w : World} {nv v : Value} {ls : List (List Int)} (h : StayU I wl w nv) (ht : Tbl wl I v ls) : Tbl w I v ls := ht.same (fun j h1 h2 => h.2.1 j h1 h2)

set_option maxHeartbeats 8000000 in
set_option maxRecDepth 100000 in
theorem under_at : ∀ (ts : List Nat) (a : Option Addr) (n cap m : Nat) (w : World), Shows w a (castL ts) → n = ts.length → n ≤ cap → ts.length ≤ 8 → (∀ t ∈ ts, t ≤ 8) → m ≤ 8 →
    Calls Tryz.prog 40 #[.slice a n cap, .int .i64 (m : Int)] w fun e w' => ∃ v, e = .returned v ∧ Hid (Tbl w' w.heap.size v (castT (und ts m))) ∧ Hid (Below w.heap.size w w')
  | [], a, n, cap, m, w, _, hn, _, _, _, _ => by
    have h0 : n = 0 := hn
    subst h0
    clear hn
    have HT := hid_w (tbl_nil1 w)
    have HB : Hid (Below w.heap.size w (w.alloc (.cells #[.slice none 0 0] 29))) := (Below.refl _ _).alloc (Nat.le_refl _) _
    go_enter Tryz.func40, Tryz.ntmps40
    go_wp2
    go_ret
    exact ⟨_, rfl, HT, HB⟩
  | t :: ts, a, n, cap, m, w, hs, hn, hcap, hl8, ht8, hm8 => by
    have hIH := under_at ts
    have HIH : Hid (∀ (a : Option Addr) (n cap m : Nat) (w : World), Shows w a (castL ts) → n = ts.length → n ≤ cap → ts.length ≤ 8 → (∀ t ∈ ts, t ≤ 8) → m ≤ 8 → Calls Tryz.prog 40 #[.slice a n cap, .int .i64 (m : Int)] w fun e w' => ∃ v, e = .returned v ∧ Hid (Tbl w' w.heap.size v (castT (und ts m))) ∧ Hid (Below w.heap.size w w')) := hIH
    clear hIH
    obtain ⟨k, HK⟩ : ∃ k, Hid (k = ts.length) := ⟨_, rfl⟩
    have hl8' : k ≤ 7 := by rw [HK.out]; rw [List.length_cons] at hl8; omega
    have hnk : n = k + 1 := by rw [hn, HK.out]; rfl
    obtain ⟨b, off, z, e1, HZ, -, -, hc0⟩ := hs.elem (k := 0) (by rw [castL_len]; simp)
    subst e1
    rw [Nat.add_zero] at hc0
    have hz : z = (t : Int) := by have := HZ.out; simpa [castL, List.getD] using this
    subst hz
    clear HZ
    have hsub : (n : Int) - 1 = (k : Int) := by omega
    have hsubN : n - 1 = k := by omega
    have hn0 : (0 : Int) < (n : Int) := by omega
    have hn1 : (1 : Int) ≤ (n : Int) := by omega
    have hne : ((n : Int) == 0) = false := by rw [beq_eq_false_iff_ne]; omega
    have hnc : (n : Int) ≤ (cap : Int) := by omega
    have HNk : Hid (n = k + 1) := hnk
    have HCap : Hid (n ≤ cap) := hcap
    have HS : Hid (∀ W, Below w.heap.size w W → Shows W (some ⟨b, off, none⟩) ((t : Int) :: castL ts) ∧ W.cell? ⟨b, off, none⟩ = some (.int .i64 (t : Int))) := fun W hW => by
      have h1 := hs.below hW
      refine ⟨h1, ?_⟩
      obtain ⟨b2, o2, e, _, hc⟩ := h1.cells (by simp [castL])
      simp only [Option.some.injEq, Addr.mk.injEq, and_true] at e
      obtain ⟨rfl, rfl⟩ := e
      have := hc 0 (by simp [castL])
      simpa [castL, List.getD] using this
    have HT8 : Hid (∀ t ∈ ts, t ≤ 8) := fun x hx => ht8 x (by simp [hx])
    have ht : t ≤ 8 := ht8 t (by simp)
    have hmn := min2_run #[3, 3] 3 (t : Int) (m : Int)
    obtain ⟨M, HM⟩ : ∃ M : Nat, Hid (M = min t m) := ⟨_, rfl⟩
    rw [show min (t : Int) (m : Int) = (M : Int) by rw [HM.out]; omega] at hmn
    have hM8 : M ≤ 8 := by rw [HM.out]; omega
    have HE : Hid (und (t :: ts) m = undF ts (M + 1)) := by show _ = _; rw [HM.out]; rfl
    have H9 : Hid (9 ^ ts.length ≤ 4782969) := by
      have h1 : (9 : Nat) ^ ts.length ≤ 9 ^ 7 := Nat.pow_le_pow_right (by omega) (by rw [← HK.out]; exact hl8')
      exact Nat.le_trans h1 (by decide +kernel)
    clear hs hn hcap hl8 ht8 ht hnk
    go_enter Tryz.func40, Tryz.ntmps40
    go_wp2_with fail
    go_loopw [5, 6] (fun ov nv wr => ∃ x : Nat, x ≤ M + 1 ∧ nv = .int .i64 (x : Int) ∧ Hid (Tbl wr w.heap.size ov (castT (undF ts x))) ∧ Hid (Below w.heap.size w wr)) (fun _ nv _ => M + 1 - (intOf nv).toNat)
    case atStart => exact ⟨0, Nat.zero_le _, rfl, Tbl.nil _ _, Below.refl _ _⟩
    case round =>
      obtain ⟨x, hx, rfl, HT, HB⟩ := hrel
      have hc1 := (HS.out wr HB.out).2
      by_cases hxM : x ≤ M
      · have hxM' : (x : Int) ≤ (M : Int) := by omega
        obtain ⟨L, HL⟩ : ∃ L, Hid (L = und ts x) := ⟨_, rfl⟩
        have HLl : Hid (L.length ≤ 4782969) := by
          rw [HL.out]; exact Nat.le_trans (und_len ts x (by omega)) H9.out
        have HFl : Hid ((undF ts x).length ≤ 9 * 4782969) := by
          have h1 := undF_len ts x (by omega)
          have h2 := Nat.mul_le_mul (show x ≤ 9 by omega) H9.out
          exact Nat.le_trans h1 h2
        have HRow : Hid (∀ l ∈ L, l.length ≤ 7 ∧ ∀ z ∈ l, z ≤ 8) := fun l hl => by
          rw [HL.out] at hl
          have := und_row hl HT8.out
          exact ⟨by rw [this.1, ← HK.out]; exact hl8', this.2⟩
        have HCall : Hid (∀ ad c2, k ≤ c2 → Shows wr ad (castL ts) → Calls Tryz.prog 40 #[.slice ad k c2, .int .i64 (x : Int)] wr fun e w' => ∃ a1 N c1, e = .returned (.slice a1 N c1) ∧ Hid (N = L.length) ∧ Hid (Tbl w' wr.heap.size (.slice a1 N c1) (castT L)) ∧ Hid (Below wr.heap.size wr w')) := fun ad c2 h1 h2 => by
          refine (HIH.out ad k c2 x wr h2 HK.out h1 (by rw [← HK.out]; omega) HT8.out (by omega)).mono ?_
          rintro e w' ⟨v, rfl, h3, h4⟩
          obtain ⟨a1, n1, c1, rfl, -, h5⟩ := h3.out.table (cast_bdU (fun r hr => by have := HRow.out r (by rw [HL.out]; exact hr); exact ⟨by omega, fun z hz => by have := this.2 z hz; omega⟩))
          exact ⟨a1, n1, c1, rfl, by show _ = _; rw [h5.out, HL.out]; simp [castT], by rw [HL.out]; exact h3, h4⟩
        clear hc0
        go_upto_region 7 with fail
        go_cut [7] (fun s7 wl => ∃ a1 N c1, s7 = .slice a1 N c1 ∧ Hid (N = L.length) ∧ Hid (Tbl wl wr.heap.size (.slice a1 N c1) (castT L)) ∧ Hid (Below wr.heap.size wr wl))
        case first =>
          by_cases hcc : cap = 1
          · have hk0 : k = 0 := by have := HCap.out; have := HNk.out; omega
            have hn11 : n = 1 := by have := HNk.out; omega
            have hts : ts = [] := List.eq_nil_of_length_eq_zero (by rw [← HK.out]; exact hk0)
            subst hcc
            subst hk0
            subst hn11
            have HC1 := hid_w (HCall.out (some ⟨b, off, none⟩) 0 (Nat.le_refl _) (by rw [hts]; exact ⟨by simp [castL], by simp [castL], fun h => absurd rfl h⟩))
            clear hts
            go_wp2_with fail
            refine HC1.out.mono ?_
            rintro e w2 ⟨a1, N, c1, rfl, h1, h2, h3⟩
            go_wp2_with fail
            go_meet
            exact ⟨_, _, _, rfl, h1, h2, h3⟩
          · have HC1 : Hid (∀ c2, k ≤ c2 → Calls Tryz.prog 40 #[.slice (some ⟨b, off + 1, none⟩) k c2, .int .i64 (x : Int)] wr fun e w' => ∃ a1 N c1, e = .returned (.slice a1 N c1) ∧ Hid (N = L.length) ∧ Hid (Tbl w' wr.heap.size (.slice a1 N c1) (castT L)) ∧ Hid (Below wr.heap.size wr w')) := fun c2 h2 => HCall.out _ c2 h2 (shows_tailU (HS.out wr HB.out).1)
            have hkc : k ≤ cap - 1 := by have := HCap.out; have := HNk.out; omega
            go_wp2_with fail
            refine (HC1.out _ hkc).mono ?_
            rintro e w2 ⟨a1, N, c1, rfl, h1, h2, h3⟩
            go_wp2_with fail
            go_meet
            exact ⟨_, _, _, rfl, h1, h2, h3⟩
        case rest =>
          obtain ⟨a1, N, c1, rfl, HN, HLt, HBl⟩ := hcut
          obtain ⟨wl, hwl⟩ : ∃ wl, wl = wc := ⟨_, rfl⟩
          subst hwl
          have HNb : N ≤ 4782969 := by rw [HN.out]; exact HLl.out
          obtain ⟨I, HI⟩ : ∃ I, Hid (I = wr.heap.size) := ⟨_, rfl⟩
          have HIs : Hid (w.heap.size ≤ I) := by rw [HI.out]; exact HB.out.size
          have HBx : Hid (Below w.heap.size w wl) := HB.out.trans (HBl.out.mono HB.out.size)
          have HTx : Hid (Tbl wl w.heap.size u5 (castT (undF ts x ++ (L.take 0).map (x :: ·)))) := by
            show Tbl _ _ _ _
            rw [List.take_zero, List.map_nil, List.append_nil]
            exact HT.out.below HBl.out
          have HSt : Hid (StayU I wl wl u5) := by
            refine ⟨Nat.le_refl _, fun _ _ _ => rfl, fun g hg => Or.inl ?_⟩
            obtain ⟨vs, hV⟩ := HT.out
            rw [HI.out]; exact (hV.own.lt g hg).2
          rw [← HI.out] at HLt
          clear HT HB HBl HCall hc1 hmn
          go_wp2_with fail
          go_loopw [5, 8] (fun ov iv wr => ∃ i : Nat, i ≤ N ∧ iv = .int .i64 (i : Int) ∧ Hid (Tbl wr w.heap.size ov (castT (undF ts x ++ (L.take i).map (x :: ·)))) ∧ Hid (StayU I wl wr ov) ∧ Hid (Below w.heap.size w wr)) (fun _ iv _ => N - (intOf iv).toNat)
          case atStart => exact ⟨0, Nat.zero_le _, rfl, HTx, HSt, HBx⟩
          case round =>
            clear HTx HSt HBx
            obtain ⟨i, hi, rfl, HT, HSt, HB⟩ := hrel
            by_cases hiN : i < N
            · have hiN' : (i : Int) < (N : Int) := by omega
              have hiL : i < L.length := by rw [← HN.out]; exact hiN
              obtain ⟨a9, n9, c9, e9, hTb, -⟩ := (HSt.out.tbl HLt.out).table (cast_bdU (fun r hr => by have := HRow.out r hr; exact ⟨by omega, fun z hz => by have := this.2 z hz; omega⟩))
              cases e9
              obtain ⟨b1, o1, ai, ci, rfl, -, hci, hsi, hni⟩ := hTb i (by simpa [castT] using hiL)
              obtain ⟨q, HQ⟩ : ∃ q, Hid (q = L.getD i []) := ⟨_, rfl⟩
              rw [castT_at, ← HQ.out] at hci hsi hni
              have HQb : Hid (q.length ≤ 7) := (HRow.out q (by rw [HQ.out]; simp [List.getD, hiL])).1
              obtain ⟨mq, HMq⟩ : ∃ mq, Hid (mq = (castL q).length) := ⟨_, rfl⟩
              rw [← HMq.out] at hci
              obtain ⟨W1, HW1⟩ : ∃ W1, Hid (W1 = wr.alloc (.cells #[.int .i64 (x : Int)] 3)) := ⟨_, rfl⟩
              have HBa : Hid (Below wr.heap.size wr (wr.alloc (.cells #[.int .i64 (x : Int)] 3))) := (Below.refl _ _).alloc (Nat.le_refl _) _
              have HO1 : Hid (Owns (wr.alloc (.cells #[.int .i64 (x : Int)] 3)) wr.heap.size (.slice (some ⟨wr.heap.size, 0, none⟩) 1 1) [(x : Int)]) := owns_litU _
              have HSi : Hid (Shows (wr.alloc (.cells #[.int .i64 (x : Int)] 3)) ai (castL q)) := hsi.below HBa.out
              have HNi : Hid (ai = none → castL q = [] ∧ ci = 0) := hni
              have hci2 : (wr.alloc (.cells #[.int .i64 (x : Int)] 3)).cell? ⟨b1, o1 + i, none⟩ = some (.slice ai mq ci) := (HBa.out.cell (p := ⟨b1, o1 + i, none⟩) (World.block_lt_of_cell? wr _ hci)).trans hci
              obtain ⟨vs, hV⟩ := HT.out
              have HV0 : Hid (TblV wr w.heap.size u5 vs (castT (undF ts x ++ (L.take i).map (x :: ·)))) := hV
              have HLv : Hid (vs.length ≤ 9 * 4782969 + 4782969) := by
                show _ ≤ _
                rw [hV.len]
                have h1 := HFl.out
                have h2 := HLl.out
                simp [castT]
                omega
              have HEq : Hid (castT (undF ts x ++ (L.take (i + 1)).map (x :: ·)) = castT (undF ts x ++ (L.take i).map (x :: ·)) ++ [[(x : Int)] ++ castL q]) := by
                show _ = _
                rw [take_getDU L [] hiL, List.map_append, ← List.append_assoc, castT_app, ← HQ.out]; rfl
              have hxk : 1 + mq ≤ 100 := by rw [HMq.out, castL_len]; have := HQb.out; omega
              clear hV hsi hni hTb HT HW1
              go_wp2_with (at_builtin; refine append_src rfl _ _ rfl rfl rfl HO1.out HSi.out HMq.out HNi.out ?c1 ?c2 ?_)
              case c1 => have := HMq.out; simp; omega
              intro v1 w2 hO2 hb2 _
              have HO2 : Hid (Owns w2 wr.heap.size v1 ([(x : Int)] ++ castL q)) := hO2
              have HB2 : Hid (Below wr.heap.size wr w2) := HBa.out.trans hb2
              have HV2 : Hid (TblV w2 w.heap.size u5 vs (castT (undF ts x ++ (L.take i).map (x :: ·)))) := HV0.out.same (fun q _ hq => HB2.out.block q hq)
              obtain ⟨a2, c2, hsh⟩ := HO2.out.shape
              obtain ⟨n2, HN2⟩ : ∃ n2, Hid (n2 = ([(x : Int)] ++ castL q).length) := ⟨_, rfl⟩
              rw [← HN2.out] at hsh
              subst hsh
              clear hO2 hb2
              go_wp2_with (at_builtin; refine append_one elem_row (x := .slice a2 n2 c2) rfl _ _ rfl rfl rfl rfl HV2.out.own rfl ?c3 ?c4 ?c5 ?_)
              case c3 => have := HLv.out; unfold maxLen; omega
              case c4 => have := HLv.out; omega
              case c5 => exact Nat.le_trans HB.out.size HB2.out.size
              intro v' w3 hO3 hb3 hk3
              have HT3 : Hid (Tbl w3 w.heap.size v' (castT (undF ts x ++ (L.take (i + 1)).map (x :: ·)))) := by
                show Tbl _ _ _ _
                rw [HEq.out]
                exact Tbl.push HV0.out HV2.out (Nat.le_refl _) HB.out.size HO2.out (by simpa using hO3) hk3
              have HS3 : Hid (StayU I wl w3 v') := (HSt.out.below HB2.out).push hk3
              have HB3 : Hid (Below w.heap.size w w3) := (HB.out.trans (HB2.out.mono HB.out.size)).trans hb3
              clear hO3 hb3 hk3
              go_wp2
              go_roundw
              case rel => exact ⟨i + 1, by omega, by go_num, HT3, HS3, HB3⟩
              case measure => simp [intOf]; omega
            · obtain rfl : i = N := by omega
              have hiN' : ¬ (i : Int) < (i : Int) := by omega
              have HTe : Hid (Tbl wr w.heap.size u5 (castT (undF ts (x + 1)))) := by
                have h := HT.out
                rw [HN.out, List.take_length, HL.out] at h
                rw [undF_succ]; exact h
              go_wp2
              go_roundw
              case rel => exact ⟨x + 1, by omega, by go_num, HTe, HB⟩
              case measure => simp [intOf]; omega
      · obtain rfl : x = M + 1 := by omega
        have hxM' : ¬ ((M + 1 : Nat) : Int) ≤ (M : Int) := by omega
        have HTe : Hid (Tbl wr w.heap.size u5 (castT (und (t :: ts) m))) := by
          show Tbl _ _ _ _
          rw [HE.out]; exact HT.out
        go_wp2
        go_ret
        exact ⟨_, rfl, HTe, HB⟩
end Go.Proofs.YtbiakncblkjmhaaGreatDoor
