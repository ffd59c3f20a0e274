/-
  MACMAHON: as many piles as the product tells.
-/
import Derived.Test.YtpdlhnniibjfaaiDoorDMac
namespace Go.Proofs.YtpdlhnniibjfaaiDoor

/-- a rectangle -/
def rcS (R C i : Nat) : Nat := if i < R then C else 0
theorem rcS_down (R C i : Nat) : rcS R C (i + 1) ≤ rcS R C i := by unfold rcS; split <;> split <;> omega
/-- a pile as a tableau -/
def toT (R C H : Nat) (Y : List Nat) : List (List Nat) := (List.range (R + H)).map fun i => if i < R then (List.range C).map fun j => H - Y.getD (i * C + j) 0 + i + 1 else []
theorem toT_row {R C H : Nat} {Y : List Nat} {r : Nat} (h : r < R) : nrow (toT R C H Y) r = (List.range C).map fun j => H - Y.getD (r * C + j) 0 + r + 1 := by
  unfold nrow toT
  rw [List.getD, List.getElem?_eq_getElem (by simp; omega)]
  simp [h]
theorem toT_out {R C H : Nat} {Y : List Nat} {r : Nat} (h : R ≤ r) : nrow (toT R C H Y) r = [] := by
  by_cases h2 : r < R + H
  · unfold nrow toT
    rw [List.getD, List.getElem?_eq_getElem (by simp; omega)]
    simp; omega
  · exact nrow_out (by simp [toT]; omega)
theorem toT_len (R C H : Nat) (Y : List Nat) (r : Nat) : len2 (toT R C H Y) r = rcS R C r := by
  unfold len2 rcS
  by_cases h : r < R
  · rw [toT_row h, if_pos h]; simp
  · rw [toT_out (by omega), if_neg h]; rfl
theorem toT_at {R C H : Nat} {Y : List Nat} {r j : Nat} (h : r < R) (hj : j < C) : at2 (toT R C H Y) r j = H - Y.getD (r * C + j) 0 + r + 1 := by
  unfold at2
  rw [toT_row h, List.getD, List.getElem?_eq_getElem (by simpa using hj)]
  simp

theorem row_down {C : Nat} {f : Nat → Nat} (h : ∀ j, j < C → 0 < j → f j ≤ f (j - 1)) : ∀ (d j : Nat), j + d < C → f (j + d) ≤ f j
  | 0, _, _ => Nat.le_refl _
  | d + 1, j, hj => by
    have h1 := row_down h d j (by omega)
    have h2 := h (j + (d + 1)) hj (by omega)
    rw [show j + (d + 1) - 1 = j + d by omega] at h2
    omega

theorem toT_mem {R C H : Nat} (hC : 1 ≤ C) {Y : List Nat} (hY : Y ∈ sr C H (R * C) []) : TabM (R + H) (toT R C H Y) := by
  obtain ⟨hl, hp⟩ := (pil_sr hC).1 hY
  have hlen : ∀ r j, j < len2 (toT R C H Y) r → r < R ∧ j < C := fun r j hj => by
    rw [toT_len] at hj; unfold rcS at hj; split at hj
    · exact ⟨‹_›, hj⟩
    · omega
  refine ⟨by simp [toT], fun r j hj => ?_, fun r => ?_, fun r j hj => ?_⟩
  · obtain ⟨h1, h2⟩ := hlen r j hj
    rw [toT_at h1 h2]; omega
  · by_cases h : r < R
    · rw [toT_row h, List.pairwise_map]
      refine List.Pairwise.imp_of_mem (R := fun a b => a < b) ?_ List.pairwise_lt_range
      intro a b ha hb hab
      have hb' := List.mem_range.1 hb
      have := row_down (f := fun j => Y.getD (r * C + j) 0) (fun j hj h0 => (hp r h j hj).2.1 h0) (b - a) a (by omega)
      rw [show a + (b - a) = b by omega] at this
      have h3 := (hp r h b hb').1
      omega
    · rw [toT_out (by omega)]; exact List.Pairwise.nil
  · obtain ⟨h1, h2⟩ := hlen (r + 1) j hj
    refine ⟨by rw [toT_len]; unfold rcS; rw [if_pos (by omega)]; exact h2, ?_⟩
    rw [toT_at (by omega) h2, toT_at h1 h2]
    have h3 := (hp (r + 1) h1 j h2).2.2 (by omega)
    rw [Nat.add_sub_cancel] at h3
    have h4 := (hp r (by omega) j h2).1
    omega

theorem place_lt {R C i j : Nat} (hi : i < R) (hj : j < C) : i * C + j < R * C := by
  have : (i + 1) * C ≤ R * C := Nat.mul_le_mul_right _ hi
  rw [Nat.succ_mul] at this; omega
theorem toT_inj {R C H : Nat} (hC : 1 ≤ C) {Y Z : List Nat} (hY : Y ∈ sr C H (R * C) []) (hZ : Z ∈ sr C H (R * C) []) (e : toT R C H Y = toT R C H Z) : Y = Z := by
  obtain ⟨hl, hp⟩ := (pil_sr hC).1 hY
  obtain ⟨hl2, hp2⟩ := (pil_sr hC).1 hZ
  refine List.ext_getElem (by omega) (fun q h1 h2 => ?_)
  have hi : q / C < R := Nat.div_lt_of_lt_mul (by rw [Nat.mul_comm]; omega)
  have hj : q % C < C := Nat.mod_lt _ hC
  have hq : (q / C) * C + q % C = q := by rw [Nat.mul_comm]; exact Nat.div_add_mod q C
  have h3 : at2 (toT R C H Y) (q / C) (q % C) = at2 (toT R C H Z) (q / C) (q % C) := by rw [e]
  rw [toT_at hi hj, toT_at hi hj] at h3
  have h4 := (hp _ hi _ hj).1
  have h5 := (hp2 _ hi _ hj).1
  rw [hq] at h3 h4 h5
  have h6 : Y.getD q 0 = Z.getD q 0 := by omega
  simpa [List.getD, List.getElem?_eq_getElem h1, List.getElem?_eq_getElem h2] using h6

theorem col_up {M : Nat} {t : List (List Nat)} (h : TabM M t) {R C : Nat} (hl : ∀ r, r < R → len2 t r = C) : ∀ (d i j : Nat), i + d < R → j < C → at2 t i j + d ≤ at2 t (i + d) j
  | 0, _, _, _, _ => Nat.le_refl _
  | d + 1, i, j, hi, hj => by
    have h1 := col_up h hl d i j (by omega) hj
    have h2 := (h.st (i + d) j (by rw [hl (i + d + 1) (by omega)]; exact hj)).2
    rw [show i + (d + 1) = i + d + 1 by omega]
    omega

theorem sr_count {R C H : Nat} (hC : 1 ≤ C) : (sr C H (R * C) []).length = (stL (R + H) (xs (rcS R C) (R + H))).length := by
  have hx0 : ∀ k, k < R + H → k ≤ xs (rcS R C) (R + H) k := fun k _ => by unfold xs; omega
  have hx1 : ∀ k, k + 1 < R + H → xs (rcS R C) (R + H) k < xs (rcS R C) (R + H) (k + 1) := xs_up (rcS_down R C)
  have hp : ((sr C H (R * C) []).map (toT R C H)).Perm (stL (R + H) (xs (rcS R C) (R + H))) := by
    refine (List.perm_ext_iff_of_nodup (nodup_mapI _ _ (fun s hs s' hs' e => toT_inj hC hs hs' e) (nodup_sr hC _ _)) (nodup_stL _ _ hx0 hx1)).2 fun t => ?_
    rw [mem_stL _ _ hx0 hx1]
    constructor
    · intro ht
      obtain ⟨Y, hY, rfl⟩ := List.mem_map.1 ht
      refine ⟨toT_mem hC hY, fun k hk => ?_⟩
      rw [toT_len]; rfl
    · rintro ⟨hT, hl⟩
      have hl2 : ∀ r, r < R + H → len2 t r = rcS R C r := fun r hr => by
        have := hl (R + H - 1 - r) (by omega)
        unfold xs at this
        rw [show R + H - 1 - (R + H - 1 - r) = r by omega] at this
        omega
      have hlR : ∀ r, r < R → len2 t r = C := fun r hr => by rw [hl2 r (by omega)]; unfold rcS; rw [if_pos hr]
      have lo : ∀ i j, i < R → j < C → i + 1 ≤ at2 t i j := fun i j hi hj => hT.low i j (by rw [hlR i hi]; exact hj)
      have hi2 : ∀ i j, i < R → j < C → at2 t i j ≤ H + i + 1 := fun i j hi hj => by
        have h1 := col_up hT hlR (R - 1 - i) i j (by omega) hj
        rw [show i + (R - 1 - i) = R - 1 by omega] at h1
        have h2 := (hT.pos (R - 1) j (by rw [hlR _ (by omega)]; exact hj)).2
        omega
      obtain ⟨Y, hYd⟩ : ∃ Y : List Nat, Y = (List.range (R * C)).map fun q => H + q / C + 1 - at2 t (q / C) (q % C) := ⟨_, rfl⟩
      have hYl : Y.length = R * C := by rw [hYd]; simp
      have hYa : ∀ i j, i < R → j < C → Y.getD (i * C + j) 0 = H + i + 1 - at2 t i j := fun i j hi hj => by
        have hq := place_lt hi hj
        rw [hYd, List.getD, List.getElem?_eq_getElem (by simpa using hq)]
        simp only [List.getElem_map, List.getElem_range, Option.getD_some]
        have e1 : (i * C + j) / C = i := by rw [Nat.mul_comm, Nat.mul_add_div (by omega), Nat.div_eq_of_lt hj, Nat.add_zero]
        have e2 : (i * C + j) % C = j := by rw [Nat.mul_comm, Nat.mul_add_mod, Nat.mod_eq_of_lt hj]
        rw [e1, e2]
      have hY : Y ∈ sr C H (R * C) [] := by
        refine (pil_sr hC).2 ⟨hYl, fun i hi j hj => ?_⟩
        have a1 := lo i j hi hj
        have a2 := hi2 i j hi hj
        refine ⟨by rw [hYa i j hi hj]; omega, fun h0 => ?_, fun h0 => ?_⟩
        · rw [hYa i j hi hj, hYa i (j - 1) hi (by omega)]
          have hw := hT.wk i
          have hlen : (nrow t i).length = C := hlR i hi
          have := (List.pairwise_iff_getElem.1 hw) (j - 1) j (by omega) (by omega) (by omega)
          have b1 : at2 t i j = (nrow t i)[j]'(by omega) := by unfold at2; simp [List.getD, List.getElem?_eq_getElem (show j < (nrow t i).length by omega)]
          have b2 : at2 t i (j - 1) = (nrow t i)[j - 1]'(by omega) := by unfold at2; simp [List.getD, List.getElem?_eq_getElem (show j - 1 < (nrow t i).length by omega)]
          omega
        · rw [hYa i j hi hj, hYa (i - 1) j (by omega) hj]
          have := (hT.st (i - 1) j (by rw [show i - 1 + 1 = i by omega, hlR i hi]; exact hj)).2
          rw [show i - 1 + 1 = i by omega] at this
          have := hi2 (i - 1) j (by omega) hj
          omega
      refine List.mem_map.2 ⟨Y, hY, tab_rows (by rw [hT.rows]; simp [toT]) (fun r hr => ?_)⟩
      by_cases h : r < R
      · rw [toT_row h]
        refine List.ext_getElem (by rw [List.length_map, List.length_range]; exact (hlR r h).symm) (fun j h1 h2 => ?_)
        have hj : j < C := by simpa using h1
        simp only [List.getElem_map, List.getElem_range]
        rw [hYa r j h hj]
        have a1 := lo r j h hj
        have a2 := hi2 r j h hj
        have b1 : at2 t r j = (nrow t r)[j]'h2 := by unfold at2; simp [List.getD, List.getElem?_eq_getElem h2]
        omega
      · rw [toT_out (by omega)]
        symm
        refine List.eq_nil_of_length_eq_zero ?_
        have : r < R + H := by simpa [toT] using hr
        have := hl2 r this
        unfold rcS at this; rw [if_neg h] at this
        exact this
  rw [← hp.length_eq, List.length_map]

theorem pZ_cut {f : Nat → Int} {R : Nat} : ∀ H, (∀ i, R ≤ i → i < R + H → f i = 1) → pZ f (R + H) = pZ f R
  | 0, _ => rfl
  | H + 1, h => by
    rw [show R + (H + 1) = (R + H) + 1 by omega, pZ, pZ_cut H (fun i h1 h2 => h i h1 (by omega)), h (R + H) (by omega) (by omega), Int.mul_one]
theorem cq_rect {C j k : Nat} (hj : j < C) : ∀ t, cq (fun s => if s < k then C else 0) j t = min t k
  | 0 => by simp [cq]
  | t + 1 => by
    rw [cq, cq_rect hj t]
    by_cases h : t < k
    · rw [if_pos h, if_pos hj]; omega
    · rw [if_neg h, if_neg (by omega)]; omega

/-- the product over the places -/
def mP (R C H : Nat) : Int := pZ (fun i => pZ (fun j => (i : Int) + j + H + 1) C) R

theorem macmahon {R C H : Nat} (hC : 1 ≤ C) : mP R C 0 * ((sr C H (R * C) []).length : Int) = mP R C H := by
  have h1 := hook_content (P := rcS R C) (R + H) (rcS_down R C)
  have h2 := stL_len (R + H) (xs (rcS R C) (R + H)) (fun i hi => Nat.le_of_lt (xs_up (rcS_down R C) i hi))
  rw [← h2, ← sr_count hC] at h1
  have e1 : pZ (fun i => pZ (hk (rcS R C) (R + H) i) (rcS R C i)) (R + H) = mP R C 0 := by
    rw [pZ_cut H (fun i h1 _ => by unfold rcS; rw [if_neg (by omega)]; rfl)]
    unfold mP
    rw [pZ_rev (fun i => pZ (fun j => (i : Int) + j + (0 : Nat) + 1) C) R]
    refine pZ_congr R (fun i hi => ?_)
    have e0 : rcS R C i = C := by unfold rcS; rw [if_pos hi]
    rw [e0, pZ_rev (fun j => ((R - 1 - i : Nat) : Int) + j + (0 : Nat) + 1) C]
    refine pZ_congr C (fun j hj => ?_)
    unfold hk
    rw [e0]
    have e2 : cq (fun s => rcS R C (i + 1 + s)) j (R + H - 1 - i) = R - 1 - i := by
      have e3 : (fun s => rcS R C (i + 1 + s)) = fun s => if s < R - 1 - i then C else 0 := by
        funext s
        unfold rcS
        by_cases h : s < R - 1 - i
        · rw [if_pos h, if_pos (by omega)]
        · rw [if_neg h, if_neg (by omega)]
      rw [e3, cq_rect hj]; omega
    rw [e2]
    omega
  have e2 : ctn (rcS R C) (R + H) = mP R C H := by
    unfold ctn
    rw [pZ_cut H (fun i h1 _ => by unfold rcS; rw [if_neg (by omega)]; rfl)]
    unfold mP
    rw [pZ_rev (fun i => pZ (fun j => (i : Int) + j + H + 1) C) R]
    refine pZ_congr R (fun i hi => ?_)
    have e0 : rcS R C i = C := by unfold rcS; rw [if_pos hi]
    rw [e0]
    refine pZ_congr C (fun j hj => ?_)
    omega
  rw [e1, e2] at h1
  exact h1

end Go.Proofs.YtpdlhnniibjfaaiDoor
