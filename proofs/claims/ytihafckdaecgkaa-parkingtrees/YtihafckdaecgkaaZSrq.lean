/-
  Edges in order: the contracts of slices.SortFunc at pairs, of inOrder and of edgeOf.
-/
import Derived.Test.YtihafckdaecgkaaZSrp
namespace Go.Proofs.Ytihafckdaecgkaa
open Go.RowKit Go.Shelf Go.Sort

set_option maxHeartbeats 4000000 in
theorem SortP_at {ρ : Ren} (L : SlLaysF0.n6 Try.prog ρ) (hρ : ρ.f 6 = 33) (hτ : ρ.t 24 = 34) (aE : ∀ w, (isAgg 34).run Try.prog w = .ok true w) (zE : ∀ w, (Go.sizeOf 34).run Try.prog w = .ok 2 w) (ef : ∀ args w, (callFunc 34 args).run Try.prog w = .ok (.enter 34 args) w) {lo : Nat} (v : Value) (X : List (Int × Int)) (w : World) (hX : OwnsP w lo v X) (hl : X.length ≤ 1000) (hlo : lo ≤ w.heap.size) :
    Calls Try.prog 33 #[v, .func (.func 34) #[] #[]] w fun e w' => e = .returned (.tuple #[]) ∧ ∃ X', X'.Perm X ∧ X'.Pairwise (fun x y => ¬ ltP y x) ∧ OwnsP w' lo v X' ∧ Below lo w w' := by
  have hown : w.ownsRow lo 34 2 v X.length (pc X) := hX
  by_cases h0 : 0 < X.length
  · rcases hown.2 with ⟨_, h3⟩ | ⟨g, cap, cur, hv, hg, hh, hnc, hcm, hcs, htk⟩
    · omega
    rw [hv] at hown
    have hg2 : g < w.heap.size := (Array.getElem?_eq_some_iff.1 hh).1
    have hfz : ∀ j, w.frozen? ⟨g, j, none⟩ = false := fun j => World.ownsRow.frozenAt hown j
    obtain ⟨cl, hcl⟩ : ∃ cl : Nat → Nat, ∀ x, cl x = if x < X.length then x else 0 := ⟨_, fun _ => rfl⟩
    have hclx : ∀ x, x < X.length → cl x = x := fun x hx => by rw [hcl, if_pos hx]
    obtain ⟨enc, henc⟩ : ∃ enc : Nat → List Value, ∀ x, enc x = [.int .i64 (X.getD (cl x) (0, 0)).1, .int .i64 (X.getD (cl x) (0, 0)).2] := ⟨_, fun _ => rfl⟩
    have hlen2 : ∀ x, (enc x).length = 2 := fun x => by rw [henc]; rfl
    have hone : ∀ x, ∀ u ∈ enc x, u.oneCell' = true := fun x u hu => by
      rw [henc, List.mem_cons, List.mem_singleton] at hu
      rcases hu with q | q <;> (rw [q]; rfl)
    have hread : CmpLays Try.prog 34 #[] enc 2 (fun i j => ordI (X.getD (cl i) (0, 0)) (X.getD (cl j) (0, 0))) g 0 X.length w := fun m os dk _ x y => by
      rw [henc, henc]
      refine (pkOrder1_at (X.getD (cl x) (0, 0)) (X.getD (cl y) (0, 0)) _).mono ?_
      rintro e w' ⟨rfl, h⟩
      exact ⟨rfl, h⟩
    have hsz : (List.range X.length).toArray.size = X.length := by simp
    have hH : HoldsK enc 2 w g 0 (List.range X.length).toArray := fun j hj => by
      rw [size_flatK, hsz] at hj
      refine ⟨?_, hfz _⟩
      have hj2 : j / 2 < X.length := by omega
      rw [Nat.zero_add, World.ownsRow.cellAt hown j (by omega), get_flatK _ _ _ _ (by rw [hsz]; exact hj), henc]
      obtain ⟨e1, e2⟩ := pc_get X (j / 2) hj2
      have ed : (List.range X.length).toArray[j / 2]! = j / 2 := by simp [getElem!_pos, hj2]
      rw [ed, hclx _ hj2]
      rcases Nat.mod_two_eq_zero_or_one j with q | q
      · rw [q, show j = j / 2 * 2 by omega, show j / 2 * 2 / 2 = j / 2 by omega, e1]; rfl
      · rw [q, show j = j / 2 * 2 + 1 by omega, show (j / 2 * 2 + 1) / 2 = j / 2 by omega, e2]; rfl
    have hSW : SWO (ltOf (fun i j => ordI (X.getD (cl i) (0, 0)) (X.getD (cl j) (0, 0)))) := by
      refine ⟨fun x => ?_, fun x y z h1 h2 => ?_, fun x y z h1 h2 => ?_⟩
      · unfold ltOf; exact decide_eq_false (by rw [ordI_neg]; unfold ltP; omega)
      · unfold ltOf at *
        have g1 := of_decide_eq_true h1
        have g2 := of_decide_eq_true h2
        rw [ordI_neg] at g1 g2
        refine decide_eq_true ?_
        rw [ordI_neg]; unfold ltP at *; omega
      · unfold ltOf at *
        have g1 := of_decide_eq_false h1
        have g2 := of_decide_eq_false h2
        rw [ordI_neg] at g1 g2
        refine decide_eq_false ?_
        rw [ordI_neg]; unfold ltP at *; omega
    have h := AnyQ.slices_SortFunc L 2 (by rw [hτ]; exact aE) (by rw [hτ]; exact zE) enc hlen2 hone (fun i j => ordI (X.getD (cl i) (0, 0)) (X.getD (cl j) (0, 0))) hSW 34 #[] g 0 cap (List.range X.length).toArray w ef (by rw [hsz]; exact hread) hH hg2 (by rw [hsz]; omega)
    rw [hρ, hsz] at h
    rw [hv]
    refine h.mono ?_
    rintro e w' ⟨rfl, d', m, os, hp, hsd, rfl⟩
    have e1 : d'.size = X.length := by rw [hp.1, hsz]
    have hp2 : d'.toList.Perm (List.range X.length) := by
      have h3 := hp.2.2
      have e2 : d'.extract 0 X.length = d' := by rw [← e1]; simp
      have e3 : (List.range X.length).toArray.extract 0 X.length = (List.range X.length).toArray := by simp
      rw [e2, e3] at h3
      simpa using h3
    have hmem2 : ∀ x ∈ d'.toList, x < X.length := fun x hx => List.mem_range.1 (hp2.mem_iff.1 hx)
    have hle : d'.toList.length = X.length := by rw [hp2.length_eq, List.length_range]
    have hrg : (List.range X.length).map (fun i => X.getD i (0, 0)) = X := by
      refine List.ext_getElem (by simp) (fun i h1 h2 => ?_)
      simp [List.getD, h2]
    have hpX : (d'.toList.map (fun i => X.getD i (0, 0))).Perm X := by
      have := hp2.map (fun i => X.getD i (0, 0))
      rw [hrg] at this; exact this
    refine ⟨rfl, d'.toList.map (fun i => X.getD i (0, 0)), hpX, ?_, ?_, sortK_below hg hlo⟩
    · rw [List.pairwise_map, List.pairwise_iff_getElem]
      intro i j hi hj hij
      have hi2 : i < d'.size := by simpa using hi
      have hj2 : j < d'.size := by simpa using hj
      have h5 := hsd i j (Nat.zero_le _) hij (by omega)
      unfold ltOf at h5
      have h6 := of_decide_eq_false h5
      rw [getElem!_pos d' j hj2, getElem!_pos d' i hi2] at h6
      rw [ordI_neg, hclx d'[j] (hmem2 _ (Array.mem_toList_iff.2 (Array.getElem_mem hj2))), hclx d'[i] (hmem2 _ (Array.mem_toList_iff.2 (Array.getElem_mem hi2)))] at h6
      simpa using h6
    · have hfl : (flatK enc 2 d').toList = pc (d'.toList.map (fun i => X.getD i (0, 0))) := by
        refine List.ext_getElem? fun t => ?_
        by_cases ht : t < d'.size * 2
        · have ht2 : t / 2 < d'.size := by omega
          have hlt : t < (flatK enc 2 d').size := by rw [size_flatK]; exact ht
          rw [Array.getElem?_toList, Array.getElem?_eq_getElem hlt]
          have h1 := get_flatK enc 2 d' t ht
          rw [getElem!_pos _ t hlt] at h1
          rw [h1, henc]
          obtain ⟨g1, g2⟩ := pc_get (d'.toList.map (fun i => X.getD i (0, 0))) (t / 2) (by simpa using ht2)
          have ex : (d'.toList.map (fun i => X.getD i (0, 0))).getD (t / 2) (0, 0) = X.getD (cl d'[t / 2]!) (0, 0) := by
            rw [getElem!_pos d' (t / 2) ht2, hclx _ (hmem2 _ (Array.mem_toList_iff.2 (Array.getElem_mem ht2)))]
            simp [List.getD, ht2]
          rw [ex] at g1 g2
          rcases Nat.mod_two_eq_zero_or_one t with q | q
          · have et : t = t / 2 * 2 := by omega
            rw [q]; rw [← et] at g1; rw [g1]; rfl
          · have et : t = t / 2 * 2 + 1 := by omega
            rw [q]; rw [← et] at g2; rw [g2]; rfl
        · rw [List.getElem?_eq_none (by rw [Array.length_toList, size_flatK]; omega), List.getElem?_eq_none]
          rw [pc_length]; simp; omega
      have hlX : (d'.toList.map (fun i => X.getD i (0, 0))).length = X.length := by rw [List.length_map, hle]
      refine ⟨?_, Or.inr ⟨g, cap, putCells id 0 (flatK enc 2 d') cur, by rw [hlX], hg, sortK_block hh, by rw [hlX]; exact hnc, hcm, ?_, ?_⟩⟩
      · rw [pc_length]
      · simp only [putCells, Array.size_mapIdx] at *; simpa using hcs
      · have h8 := putK_take (F := flatK enc 2 d') (c := cur) (by rw [size_flatK, e1]; have := Nat.mul_le_mul_right 2 hnc; omega)
        rw [size_flatK, e1] at h8
        rw [hlX, h8, hfl]
  · obtain rfl : X = [] := List.eq_nil_of_length_eq_zero (by omega)
    obtain ⟨p, c, hv⟩ : ∃ p c, v = .slice p 0 c := by
      rcases hown.2 with ⟨h2, _⟩ | ⟨g, cap, cur, hv, _⟩
      · exact ⟨_, _, h2⟩
      · exact ⟨_, _, hv⟩
    have h := AnyF.slices_SortFunc_none (P := Try.prog) (ρ := ρ) { L with } p c (.func (.func 34) #[] #[]) w
    rw [hρ] at h
    rw [hv]
    refine h.mono ?_
    rintro e w' ⟨rfl, rfl⟩
    exact ⟨rfl, [], List.Perm.refl _, List.Pairwise.nil, by rw [← hv]; exact hX, Below.refl _ _⟩

/-- What inOrder answers. -/
def SortC : Prop := ∀ (lo : Nat) (v : Value) (X : List (Int × Int)) (w : World), OwnsP w lo v X → X.length ≤ 1000 → lo ≤ w.heap.size →
  Calls Try.prog 33 #[v, .func (.func 34) #[] #[]] w fun e w' => e = .returned (.tuple #[]) ∧ ∃ X', X'.Perm X ∧ X'.Pairwise (fun x y => ¬ ltP y x) ∧ OwnsP w' lo v X' ∧ Below lo w w'
set_option maxHeartbeats 2000000 in
theorem inOrder_at (HS : SortC) {lo : Nat} (v : Value) (X : List (Int × Int)) (w : World) (hX : OwnsP w lo v X) (hl : X.length ≤ 1000) (hlo : lo ≤ w.heap.size) :
    Calls Try.prog 29 #[v] w fun e w' => e = .returned v ∧ ∃ X', Hid (X'.Perm X ∧ X'.Pairwise (fun x y => ¬ ltP y x)) ∧ Hid (OwnsP w' lo v X') ∧ Hid (Below lo w w') := by
  have HC : Hid (Calls Try.prog 33 #[v, .func (.func 34) #[] #[]] w fun e w' => e = .returned (.tuple #[]) ∧ ∃ X', X'.Perm X ∧ X'.Pairwise (fun x y => ¬ ltP y x) ∧ OwnsP w' lo v X' ∧ Below lo w w') := HS lo v X w hX hl hlo
  clear hX hl hlo HS
  go_enter Try.func29, Try.ntmps29
  go_wp2_with fail
  refine HC.out.mono ?_
  rintro e w1 ⟨rfl, X', h1, h2, h3, h4⟩
  have H1 : Hid (X'.Perm X ∧ X'.Pairwise (fun x y => ¬ ltP y x)) := ⟨h1, h2⟩
  have H2 : Hid (OwnsP w1 lo v X') := h3
  have H3 : Hid (Below lo w w1) := h4
  clear h1 h2 h3 h4
  go_wp2
  go_ret
  exact ⟨rfl, X', H1, H2, H3⟩
theorem Try.structP : ∃ d, Try.prog.underlying 34 = some d ∧ (match d with | .struct _ | .array _ _ => true | _ => false) = true := by
  have h : (Try.prog.underlying 34).map (fun d => match d with | .struct _ | .array _ _ => true | _ => false) = some true := by kernel_rfl
  obtain ⟨d, h1, h2⟩ := Option.map_eq_some_iff.1 h
  exact ⟨d, h1, h2⟩
set_option maxHeartbeats 2000000 in
theorem edgeOf_at (x y : Int) (w : World) :
    Calls Try.prog 28 #[.int .i64 x, .int .i64 y] w fun e w' => e = .returned (.agg #[.int .i64 (min x y), .int .i64 (max x y)]) ∧ w' = w.alloc (.cells #[.int .i64 (min x y), .int .i64 (max x y)] 34) := by
  go_enter Try.func28, Try.ntmps28
  go_wp2
  (try simp only [Exit.inBlock, Exit.then])
  obtain ⟨d, hd1, hd2⟩ := Try.structP
  refine bodyPost_ret (v := .agg #[.int .i64 (min x y), .int .i64 (max x y)]) ?_ rfl ⟨rfl, rfl⟩
  exact results_cell_row (P := Try.prog) (fn := Try.f28) (p := 4) (ty := 34) rfl _ _ w.heap.size 34 #[.int .i64 (min x y), .int .i64 (max x y)] (0, 0) d rfl (heap_alloc_new _ _) hd1 (by cases d <;> simp at hd2 ⊢) (by have := Try.infoP; revert this; cases Try.prog.info? 34 <;> simp; intros; assumption)
end Go.Proofs.Ytihafckdaecgkaa
