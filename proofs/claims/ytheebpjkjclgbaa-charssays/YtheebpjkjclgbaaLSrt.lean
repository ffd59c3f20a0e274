/-
  The contract of slices.SortFunc at strips, as ferref.Strips calls it.
-/
import Derived.Test.YtheebpjkjclgbaaLStr
import Derived.Test.YtheebpjkjclgbaaKChr
import Derived.Test.YtheebpjkjclgbaaCSor
namespace Go.Proofs.Ytheebpjkjclgbaa
open Go.RowKit Go.Shelf Go.Sort

set_option maxHeartbeats 2000000 in
theorem cmpS_at (a1 a2 : Option Addr) (n1 n2 c1 c2 : Nat) (h1 h2 : Int) (s t : List Int) (w : World) (hs : Shows w a1 s) (ht : Shows w a2 t) (hn : n1 = s.length) (hm : n2 = t.length) :
    Calls Try.prog 23 #[.agg #[.slice a1 n1 c1, .int .i64 h1], .agg #[.slice a2 n2 c2, .int .i64 h2]] w fun e w' => e = .returned (.int .i64 (cmpL t s)) ∧ w' = (w.alloc (.cells #[.slice a1 n1 c1, .int .i64 h1] 30)).alloc (.cells #[.slice a2 n2 c2, .int .i64 h2] 30) := by
  obtain ⟨W, HW⟩ : ∃ W, Hid (W = (w.alloc (.cells #[.slice a1 n1 c1, .int .i64 h1] 30)).alloc (.cells #[.slice a2 n2 c2, .int .i64 h2] 30)) := ⟨_, rfl⟩
  have hb : Below w.heap.size w W := by rw [HW.out]; exact ((Below.refl _ _).alloc (Nat.le_refl _) _).alloc (by simp) _
  have e0 : W.heap[w.heap.size]? = some (.cells #[.slice a1 n1 c1, .int .i64 h1] 30 (0, 0)) := by
    rw [HW.out, Below.heap_alloc _ _ _ (by simp)]; exact heap_alloc_new _ _
  have e1 : W.heap[w.heap.size + 1]? = some (.cells #[.slice a2 n2 c2, .int .i64 h2] 30 (0, 0)) := by
    rw [HW.out]
    have := heap_alloc_new (w.alloc (.cells #[.slice a1 n1 c1, .int .i64 h1] 30)) (.cells #[.slice a2 n2 c2, .int .i64 h2] 30)
    simpa using this
  have d0 : W.cell? ⟨w.heap.size, 0, none⟩ = some (.slice a1 n1 c1) := by simp [World.cell?, e0]
  have d1 : W.cell? ⟨w.heap.size + 1, 0, none⟩ = some (.slice a2 n2 c2) := by simp [World.cell?, e1]
  obtain ⟨c, HC⟩ : ∃ c, Hid (c = cmpL t s) := ⟨_, rfl⟩
  have HCL : Hid (Calls Try.prog 24 #[.slice a2 n2 c2, .slice a1 n1 c1] W fun e w' => e = .returned (.int .i64 c) ∧ w' = W) := by
    rw [HC.out]; exact CompareL_at a2 a1 n2 n1 c2 c1 t s W (ht.below hb) (hs.below hb) hm hn
  rw [← HC.out, ← HW.out]
  clear hs ht hn hm e0 e1 hb
  go_enter Try.func23, Try.ntmps23
  go_upto_region 1 with fail
  rw [← HW.out]
  go_wp2_with fail
  refine HCL.out.mono ?_
  rintro e w1 ⟨rfl, hw1⟩
  obtain rfl : W = w1 := hw1.symm
  clear hw1
  go_wp2
  go_ret
  exact ⟨rfl, rfl⟩
theorem two_grow (w : World) (o1 o2 : Array Value) (t1 t2 : TypeId) : ∃ q os, (w.alloc (.cells o1 t1)).alloc (.cells o2 t2) = grow (w.drewN q) os := by
  refine ⟨0, #[.cells o1 t1, .cells o2 t2], ?_⟩
  unfold grow World.alloc World.drewN
  simp
  exact Array.ext' (by simp)

theorem sortK_other {w : World} {g m k : Nat} {F : Array Value} {os : Array Obj} (hk : k < w.heap.size) (hne : k ≠ g) : (sortWorld id w g 0 m F os).heap[k]? = w.heap[k]? := by
  unfold sortWorld
  rw [heap_grow_old _ _ (by rw [size_putRow]; exact hk)]
  unfold putRow mapBlock
  simp only [Array.getElem?_modify]
  rw [if_neg (fun e => hne e.symm)]
  rfl
theorem sortK_block {w : World} {g m : Nat} {F : Array Value} {os : Array Obj} {c : Array Value} {ty : TypeId} {fr : Nat × Nat} (h : w.heap[g]? = some (.cells c ty fr)) : (sortWorld id w g 0 m F os).heap[g]? = some (.cells (putCells id 0 F c) ty fr) := by
  have hk : g < w.heap.size := (Array.getElem?_eq_some_iff.1 h).1
  unfold sortWorld
  rw [heap_grow_old _ _ (by rw [size_putRow]; exact hk)]
  unfold putRow mapBlock
  have e : (Go.Sort.ahead w m).heap[g]? = some (.cells c ty fr) := h
  simp only [Array.getElem?_modify]
  rw [if_pos trivial, e]
  rfl
theorem sortK_below {w : World} {g m lo : Nat} {F : Array Value} {os : Array Obj} (hg : lo ≤ g) (hlo : lo ≤ w.heap.size) : Below lo w (sortWorld id w g 0 m F os) := by
  refine ⟨rfl, rfl, rfl, ?_, fun k hk => sortK_other (by omega) (by omega)⟩
  unfold sortWorld
  rw [size_grow, size_putRow]
  exact Nat.le_add_right _ _
theorem sortK_size {w : World} {g m : Nat} {F : Array Value} {os : Array Obj} : w.heap.size ≤ (sortWorld id w g 0 m F os).heap.size := by
  unfold sortWorld
  rw [size_grow, size_putRow]
  exact Nat.le_add_right _ _
theorem putK_take {F c : Array Value} (h : F.size ≤ c.size) : (putCells id 0 F c).toList.take F.size = F.toList := by
  refine List.ext_getElem (by simp [putCells]; omega) (fun i h1 h2 => ?_)
  have hi : i < F.size := by simpa using h2
  simp [putCells, hi, getElem!_pos]

set_option maxHeartbeats 4000000 in
theorem SortStr_at {ρ : Ren} (L : SlLaysF0.n6 Try.prog ρ) (hρ : ρ.f 6 = 22) (hτ : ρ.t 24 = 30) (aE : ∀ w, (isAgg 30).run Try.prog w = .ok true w) (zE : ∀ w, (Go.sizeOf 30).run Try.prog w = .ok 2 w) (ef : ∀ args w, (callFunc 23 args).run Try.prog w = .ok (.enter 23 args) w) {lo : Nat} (v : Value) (X : List StX) (w : World) (hX : Stl w lo v X) (hl : X.length ≤ 1000) (hlo : lo ≤ w.heap.size)
    (hbd : ∀ x ∈ X, x.2.1.length ≤ 17592186044416 ∧ ∀ z ∈ x.2.1, -9223372036854775808 ≤ z ∧ z ≤ 9223372036854775807) :
    Calls Try.prog 22 #[v, .func (.func 23) #[] #[]] w fun e w' => e = .returned (.tuple #[]) ∧ ∃ X', X'.Perm X ∧ X'.Pairwise (fun x y => ¬ cmpL x.2.1 y.2.1 < 0) ∧ Stl w' lo v X' ∧ Below lo w w' := by
  by_cases h0 : 0 < X.length
  · rcases hX.own.2 with ⟨_, h3⟩ | ⟨g, cap, cur, hv, hg, hh, hnc, hcm, hcs, htk⟩
    · omega
    have hown := hX.own
    rw [hv] at hown
    have hg2 : g < w.heap.size := (Array.getElem?_eq_some_iff.1 hh).1
    have hfz : ∀ j, w.frozen? ⟨g, j, none⟩ = false := fun j => World.ownsRow.frozenAt hown j
    obtain ⟨cl, hcl⟩ : ∃ cl : Nat → Nat, ∀ x, cl x = if x < X.length then x else 0 := ⟨_, fun _ => rfl⟩
    have hclt : ∀ x, cl x < X.length := fun x => by rw [hcl]; split <;> omega
    have hclx : ∀ x, x < X.length → cl x = x := fun x hx => by rw [hcl, if_pos hx]
    obtain ⟨enc, henc⟩ : ∃ enc : Nat → List Value, ∀ x, enc x = [(X.getD (cl x) stD).1, .int .i64 ((X.getD (cl x) stD).2.2 : Int)] := ⟨_, fun _ => rfl⟩
    have hmem : ∀ x, X.getD (cl x) stD ∈ X := fun x => getD_memX _ (hclt x)
    have hlen2 : ∀ x, (enc x).length = 2 := fun x => by rw [henc]; rfl
    have hone : ∀ x, ∀ u ∈ enc x, u.oneCell' = true := fun x u hu => by
      rw [henc, List.mem_cons, List.mem_singleton] at hu
      rcases hu with q | q
      · obtain ⟨a1, c1, e1⟩ := (hX.el _ (hmem x)).shape
        rw [q]; exact oneS ⟨_, _, _, e1⟩
      · rw [q]; rfl
    have hkeep : ∀ (m : Nat) (F : Array Value) (os : Array Obj), ∀ x ∈ X, Owns (sortWorld id w g 0 m F os) lo x.1 x.2.1 := fun m F os x hx => ownsRow_blocks (hX.el x hx) (fun k hk => by
      refine sortK_other ((hX.el x hx).lt hk).2 (fun e => ?_)
      subst e
      rcases (hX.el x hx).2 with ⟨q2, _⟩ | ⟨g2, cap2, cur2, q2, _, hh2, _⟩
      · rw [q2] at hk; cases hk
      · rw [q2] at hk
        have hg3 : g2 = k := by simpa [Value.ownBlock] using hk
        subst hg3
        rw [hh] at hh2
        simp at hh2)
    have hread : CmpLays Try.prog 23 #[] enc 2 (fun i j => cmpL (X.getD (cl j) stD).2.1 (X.getD (cl i) stD).2.1) g 0 X.length w := fun m os dk _ x y => by
      have hsh : ∀ x, ∃ a c, (X.getD (cl x) stD).1 = .slice a (X.getD (cl x) stD).2.1.length c ∧ Shows (sortWorldK enc 2 w g 0 m dk os) a (X.getD (cl x) stD).2.1 := fun x => by
        have h1 := hkeep m (flatK enc 2 dk) os _ (hmem x)
        obtain ⟨a1, c1, e1, s1⟩ := h1.shows (hbd _ (hmem x)).1 (hbd _ (hmem x)).2
        exact ⟨a1, c1, e1, s1⟩
      obtain ⟨a1, c1, e1, s1⟩ := hsh x
      obtain ⟨a2, c2, e2, s2⟩ := hsh y
      rw [henc, henc, e1, e2]
      refine (cmpS_at a1 a2 _ _ c1 c2 ((X.getD (cl x) stD).2.2 : Int) ((X.getD (cl y) stD).2.2 : Int) _ _ _ s1 s2 rfl rfl).mono ?_
      rintro e w' ⟨rfl, rfl⟩
      exact ⟨rfl, two_grow _ _ _ _ _⟩
    have hsz : (List.range X.length).toArray.size = X.length := by simp
    have hsl : (scL X).length = X.length * 2 := hX.own.1
    have hH : HoldsK enc 2 w g 0 (List.range X.length).toArray := fun j hj => by
      rw [size_flatK, hsz] at hj
      refine ⟨?_, hfz _⟩
      have hj2 : j / 2 < X.length := by omega
      rw [Nat.zero_add, World.ownsRow.cellAt hown j (by omega), get_flatK _ _ _ _ (by rw [hsz]; exact hj), henc]
      obtain ⟨e1, e2⟩ := scL_get X (j / 2) hj2
      have ed : (List.range X.length).toArray[j / 2]! = j / 2 := by simp [getElem!_pos, hj2]
      rw [ed, hclx _ hj2]
      rcases Nat.mod_two_eq_zero_or_one j with q | q
      · rw [q, show j = j / 2 * 2 by omega, show j / 2 * 2 / 2 = j / 2 by omega, e1]; rfl
      · rw [q, show j = j / 2 * 2 + 1 by omega, show (j / 2 * 2 + 1) / 2 = j / 2 by omega, e2]; rfl
    have hSW : SWO (ltOf (fun i j => cmpL (X.getD (cl j) stD).2.1 (X.getD (cl i) stD).2.1)) := by
      refine ⟨fun x => ?_, fun x y z h1 h2 => ?_, fun x y z h1 h2 => ?_⟩
      · unfold ltOf; exact decide_eq_false (by simp only; rw [cmpL_refl]; omega)
      · unfold ltOf at *; exact decide_eq_true (cmpL_trans _ _ _ (of_decide_eq_true h2) (of_decide_eq_true h1))
      · unfold ltOf at *; exact decide_eq_false (cmpL_ntrans _ _ _ (of_decide_eq_false h2) (of_decide_eq_false h1))
    have h := AnyQ.slices_SortFunc L 2 (by rw [hτ]; exact aE) (by rw [hτ]; exact zE) enc hlen2 hone (fun i j => cmpL (X.getD (cl j) stD).2.1 (X.getD (cl i) stD).2.1) hSW 23 #[] g 0 cap (List.range X.length).toArray w ef (by rw [hsz]; exact hread) hH hg2 (by rw [hsz]; omega)
    rw [hρ, hsz] at h
    rw [hv]
    refine h.mono ?_
    rintro e w' ⟨rfl, d', m, os, hp, hsd, rfl⟩
    have e1 : d'.size = X.length := by rw [hp.1, hsz]
    have hp2 : d'.toList.Perm (List.range X.length) := by
      have h3 := hp.2.2
      have e2 : d'.extract 0 X.length = d' := by rw [← e1]; simp
      have e3 : (List.range X.length).toArray.extract 0 X.length = (List.range X.length).toArray := by simp
      rw [e2, e3] at h3
      simpa using h3
    have hmem2 : ∀ x ∈ d'.toList, x < X.length := fun x hx => List.mem_range.1 (hp2.mem_iff.1 hx)
    have hle : d'.toList.length = X.length := by rw [hp2.length_eq, List.length_range]
    have hrg : (List.range X.length).map (fun i => X.getD i stD) = X := by
      refine List.ext_getElem (by simp) (fun i h1 h2 => ?_)
      simp [List.getD, h2]
    have hpX : (d'.toList.map (fun i => X.getD i stD)).Perm X := by
      have := hp2.map (fun i => X.getD i stD)
      rw [hrg] at this; exact this
    refine ⟨rfl, d'.toList.map (fun i => X.getD i stD), hpX, ?_, ⟨?_, fun x hx => hkeep m _ os x (hpX.mem_iff.1 hx)⟩, sortK_below hg hlo⟩
    · rw [List.pairwise_map, List.pairwise_iff_getElem]
      intro i j hi hj hij
      have hi2 : i < d'.size := by simpa using hi
      have hj2 : j < d'.size := by simpa using hj
      have h5 := hsd i j (Nat.zero_le _) hij (by omega)
      unfold ltOf at h5
      have h6 := of_decide_eq_false h5
      rw [getElem!_pos d' j hj2, getElem!_pos d' i hi2] at h6
      have h7 : ¬ cmpL (X.getD (cl d'[i]) stD).2.1 (X.getD (cl d'[j]) stD).2.1 < 0 := h6
      rw [hclx d'[j] (hmem2 _ (Array.mem_toList_iff.2 (Array.getElem_mem hj2))), hclx d'[i] (hmem2 _ (Array.mem_toList_iff.2 (Array.getElem_mem hi2)))] at h7
      simpa using h7
    · have hfl : (flatK enc 2 d').toList = scL (d'.toList.map (fun i => X.getD i stD)) := by
        refine List.ext_getElem? fun t => ?_
        by_cases ht : t < d'.size * 2
        · have ht2 : t / 2 < d'.size := by omega
          have hlt : t < (flatK enc 2 d').size := by rw [size_flatK]; exact ht
          rw [Array.getElem?_toList, Array.getElem?_eq_getElem hlt]
          have h1 := get_flatK enc 2 d' t ht
          rw [getElem!_pos _ t hlt] at h1
          rw [h1, henc]
          obtain ⟨g1, g2⟩ := scL_get (d'.toList.map (fun i => X.getD i stD)) (t / 2) (by simpa using ht2)
          have ex : (d'.toList.map (fun i => X.getD i stD)).getD (t / 2) stD = X.getD (cl d'[t / 2]!) stD := by
            rw [getElem!_pos d' (t / 2) ht2, hclx _ (hmem2 _ (Array.mem_toList_iff.2 (Array.getElem_mem ht2)))]
            simp [List.getD, ht2]
          rw [ex] at g1 g2
          rcases Nat.mod_two_eq_zero_or_one t with q | q
          · have et : t = t / 2 * 2 := by omega
            rw [q]; rw [← et] at g1; rw [g1]; rfl
          · have et : t = t / 2 * 2 + 1 := by omega
            rw [q]; rw [← et] at g2; rw [g2]; rfl
        · rw [List.getElem?_eq_none (by rw [Array.length_toList, size_flatK]; omega), List.getElem?_eq_none]
          have : ∀ Z : List StX, (scL Z).length = Z.length * 2 := fun Z => by
            induction Z with
            | nil => rfl
            | cons z Z ih => rw [show scL (z :: Z) = z.1 :: (.int .i64 (z.2.2 : Int)) :: scL Z from rfl, List.length_cons, List.length_cons, ih, List.length_cons]; omega
          rw [this]; simp; omega
      have hlX : (d'.toList.map (fun i => X.getD i stD)).length = X.length := by rw [List.length_map, hle]
      refine ⟨?_, Or.inr ⟨g, cap, putCells id 0 (flatK enc 2 d') cur, by rw [hlX], hg, sortK_block hh, by rw [hlX]; exact hnc, hcm, ?_, ?_⟩⟩
      · rw [← hfl, Array.length_toList, size_flatK, hlX, e1]
      · simp only [putCells, Array.size_mapIdx] at *; simpa using hcs
      · have h8 := putK_take (F := flatK enc 2 d') (c := cur) (by rw [size_flatK, e1]; have := Nat.mul_le_mul_right 2 hnc; omega)
        rw [size_flatK, e1] at h8
        rw [hlX, h8, hfl]
  · obtain rfl : X = [] := List.eq_nil_of_length_eq_zero (by omega)
    obtain ⟨p, c, hv⟩ := hX.shape
    have h := AnyF.slices_SortFunc_none (P := Try.prog) (ρ := ρ) { L with } p c (.func (.func 23) #[] #[]) w
    rw [hρ] at h
    rw [hv]
    refine h.mono ?_
    rintro e w' ⟨rfl, rfl⟩
    exact ⟨rfl, [], List.Perm.refl _, List.Pairwise.nil, by rw [← hv]; exact hX, Below.refl _ _⟩

end Go.Proofs.Ytheebpjkjclgbaa
