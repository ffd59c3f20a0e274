/-
  Lists of natural numbers as the memory has them.
  Lists of tables that grow: for ferref.Rights.
-/
import Derived.Test.YtgcpconlmihilaaGreatDoorTTab
import Derived.Test.YtgcpconlmihilaaGreatDoorRuC
import Derived.Test.YtgcpconlmihilaaGreatDoorRwE
namespace Go.Proofs.YtgcpconlmihilaaGreatDoor
open Go.RowKit

def castL (l : List Nat) : List Int := l.map fun (n : Nat) => (n : Int)
def castT (t : List (List Nat)) : List (List Int) := t.map castL
def uL (n : Nat) (u : Nat → Nat) : List Nat := (List.range (n + 1)).map u
theorem castL_len (l : List Nat) : (castL l).length = l.length := by simp [castL]
theorem castT_len (t : List (List Nat)) : (castT t).length = t.length := by simp [castT]
theorem castL_at (l : List Nat) (j : Nat) : (castL l).getD j 0 = (l.getD j 0 : Int) := by
  simp only [castL, List.getD, List.getElem?_map]
  cases l[j]? with
  | none => rfl
  | some v => rfl
theorem castT_at (t : List (List Nat)) (i : Nat) : (castT t).getD i [] = castL (t.getD i []) := by
  simp only [castT, List.getD, List.getElem?_map]
  cases t[i]? with
  | none => rfl
  | some v => rfl
theorem uL_at {n : Nat} {u : Nat → Nat} {x : Nat} (h : x ≤ n) : (uL n u).getD x 0 = u x := by
  simp [uL, List.getD, show x < n + 1 by omega]
theorem tabN_row {c : Nat → Nat} {m : Nat} {g : Nat → Nat → Nat} {i : Nat} (hi : i < m) : (tabN c m g).getD i [] = (List.range (c i)).map (g i) := by
  simp [tabN, List.getD, hi]
theorem tabN_len (c : Nat → Nat) (m : Nat) (g : Nat → Nat → Nat) : (tabN c m g).length = m := by simp [tabN]

/-- Box i, j of the rows. -/
theorem TblV.box {w : World} {lo : Nat} {v : Value} {vs : List Value} {c : Nat → Nat} {m : Nat} {g : Nat → Nat → Nat} (h : TblV w lo v vs (castT (tabN c m g))) {i : Nat} (hi : i < m) (hc : 0 < c i) :
    ∃ R cr q cq, v = .slice (some ⟨R, 0, none⟩) m cr ∧ R < w.heap.size ∧ w.cell? ⟨R, i, none⟩ = some (.slice (some ⟨q, 0, none⟩) (c i) cq) ∧ rowv vs i = .slice (some ⟨q, 0, none⟩) (c i) cq ∧ q < w.heap.size ∧ (∀ j, w.frozen? ⟨q, j, none⟩ = false) ∧ ∀ j, j < c i → w.cell? ⟨q, j, none⟩ = some (.int .i64 (g i j : Int)) := by
  have hl : (castT (tabN c m g)).length = m := by rw [castT_len, tabN_len]
  obtain ⟨R, n, cr, rfl, HN, h1, h2, h3, h4⟩ := h.head (by omega)
  have hn : n = m := by rw [HN.out, hl]
  subst hn
  have ho := h.rows i (by omega)
  rw [castT_at, tabN_row hi] at ho
  have hl2 : (castL ((List.range (c i)).map (g i))).length = c i := by rw [castL_len]; simp
  have hcell := h4 i (by omega)
  obtain ⟨q, cap, e1, e2, e3, e4, e5⟩ := ho.head (by omega)
  rw [hl2] at e1 e5
  rw [e1] at hcell
  refine ⟨R, cr, q, cap, rfl, h2, hcell, e1, e3, e4, fun j hj => ?_⟩
  rw [e5 j hj, castL_at]
  simp [List.getD, hj]

theorem castL_lt {l : List Nat} {b : Nat} (h : ∀ z ∈ l, z ≤ b) : ∀ z ∈ castL l, 0 ≤ z ∧ z ≤ b := fun z hz => by
  simp only [castL, List.mem_map] at hz
  obtain ⟨k, hk, rfl⟩ := hz
  have := h k hk
  omega
theorem getD_le {l : List Nat} {b : Nat} (h : ∀ z ∈ l, z ≤ b) (i : Nat) : l.getD i 0 ≤ b := by
  by_cases hi : i < l.length
  · simp only [List.getD, List.getElem?_eq_getElem hi, Option.getD_some]; exact h _ (List.getElem_mem hi)
  · simp [List.getD, List.getElem?_eq_none (Nat.le_of_not_lt hi)]
/-- One number of what is shown. -/
theorem Shows.nat {w : World} {a : Option Addr} {l : List Nat} (h : Shows w a (castL l)) {i : Nat} (hi : i < l.length) : ∃ b off, a = some ⟨b, off, none⟩ ∧ w.cell? ⟨b, off + i, none⟩ = some (.int .i64 ((l.getD i 0 : Nat) : Int)) := by
  obtain ⟨b, off, z, e, HZ, -, -, hc⟩ := h.elem (by rw [castL_len]; exact hi)
  exact ⟨b, off, e, by rw [hc, HZ.out, castL_at]⟩

end Go.Proofs.YtgcpconlmihilaaGreatDoor

namespace Go.Proofs.YtgcpconlmihilaaGreatDoor
open Go.RowKit

/-- No block. -/
abbrev noB : Nat → Prop := fun _ => False
theorem Cub.nil (w : World) (lo : Nat) : Cub noB w lo (.slice none 0 0) [] [] := ⟨World.ownsRow_nil _ _ _ _, rfl, fun k h => absurd h (by simp)⟩
theorem Cub.same {w w' : World} {lo : Nat} {v : Value} {us : List Value} {ts : List (List (List Int))} (h : Cub noB w lo v us ts) (hs : w.heap.size ≤ w'.heap.size) (hk : ∀ k, k < w.heap.size → w'.heap[k]? = w.heap[k]?) : Cub noB w' lo v us ts :=
  ⟨ownsRow_blocks h.own (fun k e => hk k (h.own.lt k e).2), h.len, fun k hkk => by
    obtain ⟨a, c, e1, e2⟩ := h.el k hkk
    exact ⟨a, c, e1, fun w3 h3 h4 => e2 w3 (fun j a1 a2 a3 => by rw [h3 j (by omega) a2 a3, hk j a1]) (by omega)⟩⟩
theorem Cub.below {w w' : World} {lo : Nat} {v : Value} {us : List Value} {ts : List (List (List Int))} (h : Cub noB w lo v us ts) (hb : Below w.heap.size w w') : Cub noB w' lo v us ts := h.same hb.size (fun k hk => hb.block k hk)
/-- Table k of the list, now. -/
theorem Cub.table {w : World} {lo : Nat} {v : Value} {us : List Value} {ts : List (List (List Int))} (h : Cub noB w lo v us ts) {k : Nat} (hk : k < ts.length) : ∃ a c, rowv us k = .slice a (ts.getD k []).length c ∧ Table w a (ts.getD k []) := by
  obtain ⟨a, c, e1, e2⟩ := h.el k hk
  exact ⟨a, c, e1, e2 w (fun _ _ _ _ => rfl) (Nat.le_refl _)⟩
theorem castT_bd {t : List (List Nat)} (ht : ∀ r ∈ t, r.length ≤ 1000 ∧ ∀ z ∈ r, z ≤ 1000) : ∀ l ∈ castT t, l.length ≤ 17592186044416 ∧ ∀ z ∈ l, -9223372036854775808 ≤ z ∧ z ≤ 9223372036854775807 := fun l hl => by
  unfold castT at hl
  obtain ⟨r, hr, rfl⟩ := List.mem_map.1 hl
  have := ht r hr
  refine ⟨by rw [castL_len]; omega, fun z hz => ?_⟩
  unfold castL at hz
  obtain ⟨q, hq, rfl⟩ := List.mem_map.1 hz
  have := this.2 q hq
  omega
/-- A table more. -/
theorem Cub.push {lo : Nat} {ts : List (List (List Int))} {w w1 w2 : World} {v v2 u : Value} {us : List Value} {t : List (List Nat)} (h : Cub noB w lo v us ts) (hb1 : Below w.heap.size w w1) (hT : Tbl w1 w.heap.size u (castT t)) (ht : ∀ r ∈ t, r.length ≤ 1000 ∧ ∀ z ∈ r, z ≤ 1000)
    (ho : w2.ownsRow lo 22 1 v2 (us ++ [u]).length (us ++ [u])) (hk : KeepB v v2 w1 w2) : Cub noB w2 lo v2 (us ++ [u]) (ts ++ [castT t]) := by
  have hs1 := hb1.size
  have hs2 := hk.size
  have hv2 : ∀ j, v2.ownBlock = some j → v.ownBlock = some j ∨ w1.heap.size ≤ j := hk.lies
  refine ⟨ho, by simp [h.len], fun k hkk => ?_⟩
  rw [List.length_append] at hkk
  rw [rowv_push]
  by_cases e : k < ts.length
  · rw [if_pos (by rw [h.len]; exact e)]
    have eg : (ts ++ [castT t]).getD k [] = ts.getD k [] := by simp only [List.getD]; rw [List.getElem?_append_left e]
    rw [eg]
    obtain ⟨a, c, e1, e2⟩ := h.el k e
    refine ⟨a, c, e1, fun w3 h3 h4 => e2 w3 (fun j a1 a2 a4 => ?_) (by omega)⟩
    rw [h3 j (by omega) a2 (fun q => (hv2 j q).elim a4 (fun q2 => by omega)), hk.block j (by omega) a4, hb1.block j a1]
  · obtain rfl : k = ts.length := by simp at hkk; omega
    rw [if_neg (by rw [h.len]; omega), if_pos h.len.symm]
    have eg : (ts ++ [castT t]).getD ts.length [] = castT t := by simp [List.getD]
    rw [eg]
    obtain ⟨vs, hV⟩ := hT
    obtain ⟨a, n, c, e1, _, HN⟩ := Tbl.table ⟨vs, hV⟩ (castT_bd ht)
    refine ⟨a, c, by rw [e1, HN.out], fun w3 h3 h4 => ?_⟩
    have hsm : ∀ j, w.heap.size ≤ j → j < w1.heap.size → w3.heap[j]? = w1.heap[j]? := fun j a1 a2 => by
      have hvj : v.ownBlock ≠ some j := fun e => by have := (h.own.lt j e).2; omega
      rw [h3 j (by omega) (fun hd => hd) (fun q => (hv2 j q).elim hvj (fun q2 => by omega)), hk.block j a2 hvj]
    have hV3 := hV.same (w' := w3) hsm
    obtain ⟨a', n', c', e1', ht', _⟩ := Tbl.table ⟨vs, hV3⟩ (castT_bd ht)
    rw [e1] at e1'
    cases e1'
    exact ht'

theorem hid_h {p : Prop} (h : p) : Hid p := h
/-- What it shows. -/
theorem Cub.shows9 {w : World} {lo : Nat} {v : Value} {us : List Value} {ts : List (List (List Int))} (h : Cub noB w lo v us ts) : ∃ a c, v = .slice a ts.length c ∧ ∀ k, k < ts.length → ∃ b off ai ci, a = some ⟨b, off, none⟩ ∧ b < w.heap.size ∧ w.cell? ⟨b, off + k, none⟩ = some (.slice ai (ts.getD k []).length ci) ∧ Table w ai (ts.getD k []) := by
  have ho := h.own
  have hl := h.len
  rcases ho.2 with ⟨hv, h0⟩ | ⟨g, cap, cur, hv, hg, hh, hnc, hcm, hcs, htk⟩
  · exact ⟨none, 0, by rw [hv]; congr 1; omega, fun k hk => by omega⟩
  · rw [hl] at hv
    refine ⟨some ⟨g, 0, none⟩, cap, hv, fun k hk => ?_⟩
    obtain ⟨a, c, e1, e2⟩ := h.el k hk
    rw [hv, hl] at ho
    refine ⟨g, 0, a, c, rfl, (ho.lt g rfl).2, ?_, e2 w (fun _ _ _ _ => rfl) (Nat.le_refl _)⟩
    rw [Nat.zero_add, World.ownsRow.cellAt ho k (by omega), rowv_get (by omega), e1]
theorem Cub.mono {w : World} {lo lo' : Nat} {v : Value} {us : List Value} {ts : List (List (List Int))} (h : Cub noB w lo v us ts) (hl : lo' ≤ lo) : Cub noB w lo' v us ts := by
  refine ⟨⟨h.own.1, ?_⟩, h.len, h.el⟩
  rcases h.own.2 with q | ⟨g, cap, cur, hv, hg, r⟩
  · exact Or.inl q
  · exact Or.inr ⟨g, cap, cur, hv, by omega, r⟩
/-- A list of one table. -/
theorem Cub.one {w w1 : World} {u : Value} {t : List (List Nat)} (hb : Below w.heap.size w w1) (hT : Tbl w1 w.heap.size u (castT t)) (ht : ∀ r ∈ t, r.length ≤ 1000 ∧ ∀ z ∈ r, z ≤ 1000) : Cub noB (w1.alloc (.cells #[u] 22)) w.heap.size (.slice (some ⟨w1.heap.size, 0, none⟩) 1 1) [u] [castT t] := by
  have h := (Cub.nil w w.heap.size).push (w2 := w1.alloc (.cells #[u] 22)) (v2 := .slice (some ⟨w1.heap.size, 0, none⟩) 1 1) hb hT ht ⟨by simp, Or.inr ⟨w1.heap.size, 1, #[u], rfl, hb.size, heap_alloc_new _ _, by simp, by unfold maxLen; omega, by simp, by simp⟩⟩ ⟨by simp, fun k hk _ => Below.heap_alloc _ _ _ hk, fun g hg => Or.inr (by cases hg; exact Nat.le_refl _)⟩
  simpa using h


end Go.Proofs.YtgcpconlmihilaaGreatDoor
