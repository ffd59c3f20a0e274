/-
  What the law CubesPaths makes of tables: both answers side by side; the rest's rows stored into a twin.
-/
import Derived.Test.YtniedfecmakhpaaDoorDFrp
import Derived.Test.YtniedfecmakhpaaDoorESam
namespace Go.Proofs.YtniedfecmakhpaaDoor
open Go.RowKit

theorem tab_two {W : World} {lo1 lo2 : Nat} {v1 v2 : Value} {r c B : Nat} {P : Nat → Nat → Nat} (h1 : Tbl W lo1 v1 (tb r c P)) (h2 : Tbl W lo2 v2 (tb r c P)) (hr : r ≤ 1000) (hc : c ≤ 1000) (hB : B ≤ 1000) (hP : ∀ i, i < r → ∀ j, j < c → P i j ≤ B) :
    Calls Tryd.prog 10 #[v1, .int .i64 0, v2, .int .i64 0] W fun e w' => e = .returned (.bool true) ∧ Hid (Below W.heap.size W w') := by
  obtain ⟨a1, n1, c1, rfl, t1, H1⟩ := h1.table (tb_wf hc hB hP)
  obtain ⟨a2, n2, c2, rfl, t2, H2⟩ := h2.table (tb_wf hc hB hP)
  refine (tabd_ok a1 a2 c1 c2 n1 n2 W (tb r c P) t1 t2 H1 H2 (by rw [tb_len]; omega)).mono ?_
  rintro e w' ⟨rfl, m, rfl⟩
  exact ⟨rfl, below_drewN (Below.refl _ _) m⟩

theorem frm_le (r c : Nat) : ∀ (l : List (List UInt8)) (k : Nat) (Q : Nat → Nat → Nat), (∀ a b, Q a b ≤ k) → ∀ a b, (frm r c k Q l).2 a b ≤ k + l.length
  | [], k, Q, h, a, b => by show Q a b ≤ _; have := h a b; simp; omega
  | s :: l, k, Q, h, a, b => by
    unfold frm
    have h0 := h a b
    split
    · simp; omega
    · split
      · simp; omega
      · have := frm_le r c l (k + 1) (add1 (bo s) Q) (fun a b => by have := h a b; unfold add1; split <;> omega) a b
        simp at this ⊢; omega
theorem fp_small {ss : List ByteArray} (h : fpC ss = 0) : fpR ss ≤ 1000 ∧ fpK ss ≤ 1000 ∧ ∀ i, i < fpR ss → ∀ j, j < fpK ss → fpP ss i j ≤ 8 := by
  unfold fpC at h
  by_cases h1 : sides [(ss.length : Int)]
  · rw [if_neg (not_not_intro h1)] at h
    by_cases h2 : sides [(fpR ss : Int), (fpK ss : Int)]
    · have hl := (sides1 _).1 h1
      have hrc := (sides2 _ _).1 h2
      refine ⟨by omega, by omega, fun i _ j _ => ?_⟩
      have := frm_le (fpR ss) (fpK ss) (byL ss) 0 (fun _ _ => 0) (fun _ _ => Nat.le_refl _) i j
      have e : (byL ss).length = ss.length := by unfold byL; simp
      unfold fpP
      omega
    · rw [if_pos h2] at h; omega
  · rw [if_pos h1] at h; omega

/-- both answers, whichever they are -/
theorem tab_fp {W : World} {lo1 lo2 : Nat} {v1 v2 : Value} {ss : List ByteArray} (h1 : fpC ss = 0 → Tbl W lo1 v1 (tb (fpR ss) (fpK ss) (fpP ss))) (h2 : fpC ss = 0 → Tbl W lo2 v2 (tb (fpR ss) (fpK ss) (fpP ss))) (n1 : fpC ss ≠ 0 → v1 = .slice none 0 0) (n2 : fpC ss ≠ 0 → v2 = .slice none 0 0) :
    Calls Tryd.prog 10 #[v1, .int .i64 (fpC ss), v2, .int .i64 (fpC ss)] W fun e w' => e = .returned (.bool true) ∧ Hid (Below W.heap.size W w') := by
  by_cases h : fpC ss = 0
  · obtain ⟨q1, q2, q3⟩ := fp_small h
    have := tab_two (h1 h) (h2 h) q1 q2 (by omega) q3
    rw [h]; exact this
  · rw [n1 h, n2 h]
    refine (tabd_err none none 0 0 0 W (fpC ss) (by simpa using h)).mono ?_
    rintro e w' ⟨rfl, m, rfl⟩
    exact ⟨rfl, below_drewN (Below.refl _ _) m⟩

/-- rows with room behind them -/
structure RecV (w : World) (lo g r cap c : Nat) (gs cs : Nat → Nat) (vs : List Value) (P : Nat → Nat → Nat) : Prop where
  t : TblV w lo (.slice (some ⟨g, 0, none⟩) r cap) vs (tb r c P)
  sh : ∀ i, i < r → rowv vs i = .slice (some ⟨gs i, 0, none⟩) c (cs i)
def blkOf : Value → Nat
  | .slice (some a) _ _ => a.block
  | _ => 0
def capOf : Value → Nat
  | .slice _ _ c => c
  | _ => 0
theorem recV_of {w : World} {lo : Nat} {v : Value} {r c : Nat} {P : Nat → Nat → Nat} (h : Tbl w lo v (tb r c P)) (r1 : 1 ≤ r) (c1 : 1 ≤ c) : ∃ g cap gs cs vs, v = .slice (some ⟨g, 0, none⟩) r cap ∧ RecV w lo g r cap c gs cs vs P := by
  obtain ⟨vs, hV⟩ := h
  obtain ⟨g, n, cap, rfl, HN, _⟩ := hV.head (by rw [tb_len]; omega)
  have e : n = r := by rw [HN.out, tb_len]
  subst e
  refine ⟨g, cap, fun i => blkOf (rowv vs i), fun i => capOf (rowv vs i), vs, rfl, hV, fun i hi => ?_⟩
  have ho := hV.rows i (by rw [tb_len]; exact hi)
  rw [tb_get hi] at ho
  obtain ⟨g8, cap8, e8, _⟩ := ho.head (by rw [tab_length]; omega)
  rw [tab_length] at e8
  rw [e8]; rfl
section
variable {w w' : World} {lo g r cap c : Nat} {gs cs : Nat → Nat} {vs : List Value} {P Q : Nat → Nat → Nat}
theorem RecV.same (h : RecV w lo g r cap c gs cs vs P) (hk : ∀ k, lo ≤ k → k < w.heap.size → w'.heap[k]? = w.heap[k]?) : RecV w' lo g r cap c gs cs vs P := ⟨h.t.same hk, h.sh⟩
theorem RecV.congr (h : RecV w lo g r cap c gs cs vs P) (e : ∀ i, i < r → ∀ j, j < c → P i j = Q i j) : RecV w lo g r cap c gs cs vs Q := ⟨by rw [← tb_congr e]; exact h.t, h.sh⟩
theorem RecV.tbl (h : RecV w lo g r cap c gs cs vs P) : Tbl w lo (.slice (some ⟨g, 0, none⟩) r cap) (tb r c P) := ⟨_, h.t⟩
theorem RecV.head (h : RecV w lo g r cap c gs cs vs P) {i : Nat} (hi : i < r) : w.cell? ⟨g, i, none⟩ = some (.slice (some ⟨gs i, 0, none⟩) c (cs i)) := by
  obtain ⟨g9, n9, cap9, e9, -, _, _, _, hce9⟩ := h.t.head (by rw [tb_len]; omega)
  simp only [Value.slice.injEq, Option.some.injEq, Addr.mk.injEq, and_true] at e9
  obtain ⟨rfl, -, -⟩ := e9
  rw [hce9 i (by rw [tb_len]; exact hi), h.sh i hi]
theorem RecV.box (h : RecV w lo g r cap c gs cs vs P) {i j : Nat} (hi : i < r) (hj : j < c) :
    w.cell? ⟨gs i, j, none⟩ = some (.int .i64 (P i j : Int)) ∧ w.frozen? ⟨gs i, j, none⟩ = false ∧ lo ≤ gs i ∧ gs i < w.heap.size := by
  have ho := h.t.rows i (by rw [tb_len]; exact hi)
  rw [h.sh i hi, tb_get hi] at ho
  obtain ⟨g8, cap8, e8, hg8, hgs8, hfr8, hce8⟩ := ho.head (by rw [tab_length]; omega)
  simp only [Value.slice.injEq, Option.some.injEq, Addr.mk.injEq, and_true] at e8
  obtain ⟨rfl, -, -⟩ := e8
  have := hce8 j (by rw [tab_length]; exact hj)
  rw [tab_getD _ _ _ hj] at this
  exact ⟨this, hfr8 j, hg8, hgs8⟩
theorem RecV.set {W : World} (h : RecV w lo g r cap c gs cs vs P) {i j : Nat} (hi : i < r) (x : Nat) (hW : W.heap = w.heap) : RecV (W.setCell ⟨gs i, j, none⟩ (.int .i64 (x : Int))) lo g r cap c gs cs vs (upd P i j x) := by
  have h1 := (h.same (w' := W) (fun k _ _ => by rw [hW])).t
  have h2 := h1.storeBox (by rw [tb_len]; exact hi) (h.sh i hi) (by rw [tb_get hi, tab_length]) j (x : Int)
  rw [tb_set hi] at h2
  exact ⟨h2, h.sh⟩
end

def vq (r c h : Nat) (P : Nat → Nat → Nat) (i j a b : Nat) : Nat := if r - 1 - a < i ∨ (r - 1 - a = i ∧ c - 1 - b < j) then rst r c h P a b else P a b
theorem vq_j {r c h : Nat} {P : Nat → Nat → Nat} {i j : Nat} (hi : i < r) (hj : j < c) (a b : Nat) (ha : a < r) (hb : b < c) : upd (vq r c h P i j) (r - 1 - i) (c - 1 - j) (h - P i j) a b = vq r c h P i (j + 1) a b := by
  unfold upd vq
  by_cases hh : a = r - 1 - i ∧ b = c - 1 - j
  · obtain ⟨rfl, rfl⟩ := hh
    rw [if_pos ⟨rfl, rfl⟩, if_pos (by omega)]
    unfold rst
    rw [show r - 1 - (r - 1 - i) = i by omega, show c - 1 - (c - 1 - j) = j by omega]
  · rw [if_neg hh]
    by_cases h2 : r - 1 - a < i ∨ (r - 1 - a = i ∧ c - 1 - b < j)
    · rw [if_pos h2, if_pos (by omega)]
    · rw [if_neg h2, if_neg (by omega)]
theorem vq_i {r c h : Nat} {P : Nat → Nat → Nat} {i : Nat} (a b : Nat) (hb : b < c) : vq r c h P i c a b = vq r c h P (i + 1) 0 a b := by
  unfold vq
  by_cases h2 : r - 1 - a < i ∨ (r - 1 - a = i ∧ c - 1 - b < c)
  · rw [if_pos h2, if_pos (by omega)]
  · rw [if_neg h2, if_neg (by omega)]
theorem vq_start (r c h : Nat) (P : Nat → Nat → Nat) (a b : Nat) : vq r c h P 0 0 a b = P a b := if_neg (by omega)
theorem vq_end {r c h : Nat} {P : Nat → Nat → Nat} (a b : Nat) (ha : a < r) : vq r c h P r 0 a b = rst r c h P a b := if_pos (Or.inl (by omega))

end Go.Proofs.YtniedfecmakhpaaDoor
