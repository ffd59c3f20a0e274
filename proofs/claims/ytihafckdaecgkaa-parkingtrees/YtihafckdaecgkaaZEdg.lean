/-
  slices.Insert of one pair at any place; ferref.Edged: edges in order.
-/
import Derived.Test.YtihafckdaecgkaaZInt
import Derived.Test.YtihafckdaecgkaaZInu
import Derived.Test.YtihafckdaecgkaaZPru
import Derived.BigQuiet
namespace Go.Proofs.Ytihafckdaecgkaa
open Go.RowKit

theorem Insert_at (v : Value) (base i N : Nat) (x y : Int) (l : List (Int × Int)) (w : World) (hO : OwnsP w base v l) (hi : i ≤ l.length) (h40 : l.length ≤ 40) (hN : N = w.heap.size) (hbs : base ≤ w.heap.size) :
    Calls Try.prog 32 #[v, .int .i64 (i : Int), .slice (some ⟨N, 0, none⟩) 1 1] (w.alloc (.cells #[.int .i64 x, .int .i64 y] 34)) fun e w' => ∃ v', e = .returned v' ∧ Hid (OwnsP w' base v' (l.take i ++ (x, y) :: l.drop i)) ∧ Hid (Below base w w') := by
  rcases Nat.lt_or_ge i l.length with hlt | hge
  · have hown : w.ownsRow base 34 2 v l.length (pc l) := hO
    rcases hown.2 with ⟨h2, h3⟩ | ⟨g, cap, cur, hv, _⟩
    · omega
    · subst hv
      by_cases hroom : l.length + 1 ≤ cap
      · exact Insert_shift g _ cap i base N x y l w hO rfl hlt hroom h40 hN
      · exact Insert_grow g _ cap i base N x y l w hO rfl hlt (by omega) h40 hN hbs
  · obtain rfl : i = l.length := by omega
    have h := Insert_end v base l.length N x y l w hO rfl h40 hN hbs
    rw [List.take_of_length_le (Nat.le_refl _), List.drop_of_length_le (Nat.le_refl _)]
    exact h

theorem gdE {L : List (Int × Int)} {k : Nat} (h : k < L.length) : L.getD k (0, 0) = L[k] := by simp [List.getD, h]
/-- In order. -/
def SrtP (l : List (Int × Int)) : Prop := l.Pairwise (fun x y => ¬ ltP y x)
theorem SrtP.uniq : ∀ {l k : List (Int × Int)}, SrtP l → SrtP k → l.Perm k → l = k
  | [], k, _, _, h => (List.Perm.nil_eq h)
  | a :: l, [], _, _, h => by simpa using h.length_eq
  | a :: l, b :: k, h1, h2, h => by
    have h1' := List.pairwise_cons.1 h1
    have h2' := List.pairwise_cons.1 h2
    have e : a = b := by
      have ha : a ∈ b :: k := h.mem_iff.1 (by simp)
      have hb : b ∈ a :: l := h.mem_iff.2 (by simp)
      rcases List.mem_cons.1 ha with ha | ha
      · exact ha
      rcases List.mem_cons.1 hb with hb | hb
      · exact hb.symm
      have n1 := h1'.1 b hb
      have n2 := h2'.1 a ha
      unfold ltP at n1 n2
      obtain ⟨a1, a2⟩ := a
      obtain ⟨b1, b2⟩ := b
      simp only [Prod.mk.injEq] at n1 n2 ⊢
      omega
    subst e
    rw [SrtP.uniq h1'.2 h2'.2 (List.perm_cons a |>.1 h)]
theorem SrtP.ins {l : List (Int × Int)} {p : Int × Int} {k : Nat} (h : SrtP l) (hk : k ≤ l.length) (h1 : ∀ j, j < k → ltP (l.getD j (0, 0)) p) (h2 : k < l.length → ¬ ltP (l.getD k (0, 0)) p) :
    SrtP (l.take k ++ p :: l.drop k) ∧ (l.take k ++ p :: l.drop k).Perm (p :: l) := by
  refine ⟨?_, ?_⟩
  · unfold SrtP at h ⊢
    rw [List.pairwise_iff_getElem] at h
    refine List.pairwise_append.2 ⟨?_, ?_, ?_⟩
    · exact (List.pairwise_iff_getElem.2 h).sublist (List.take_sublist _ _)
    · refine List.pairwise_cons.2 ⟨?_, (List.pairwise_iff_getElem.2 h).sublist (List.drop_sublist _ _)⟩
      intro y hy
      obtain ⟨j, hj, rfl⟩ := List.getElem_of_mem hy
      rw [List.length_drop] at hj
      rw [List.getElem_drop]
      have n2 := h2 (by omega)
      rw [gdE (by omega)] at n2
      rcases Nat.eq_zero_or_pos j with rfl | hp
      · exact n2
      · have n3 := h k (k + j) (by omega) (by omega) (by omega)
        unfold ltP at n2 n3 ⊢
        omega
    · intro x hx y hy
      obtain ⟨j, hj, rfl⟩ := List.getElem_of_mem hx
      rw [List.length_take] at hj
      rw [List.getElem_take]
      have n1 := h1 j (by omega)
      rw [gdE (by omega)] at n1
      rcases List.mem_cons.1 hy with rfl | hy
      · unfold ltP at n1 ⊢; omega
      · obtain ⟨i, hi, rfl⟩ := List.getElem_of_mem hy
        rw [List.length_drop] at hi
        rw [List.getElem_drop]
        exact h j (k + i) (by omega) (by omega) (by omega)
  · exact List.perm_middle.trans (List.Perm.cons p (by rw [List.take_append_drop]))

theorem getD_memQ {L : List (Int × Int)} {k : Nat} (h : k < L.length) : L.getD k (0, 0) ∈ L := by
  rw [gdE h]; exact List.getElem_mem h
theorem take_map_succ {L : List (Int × Int)} {k : Nat} (h : k < L.length) (f : Int × Int → Int × Int) : (L.take (k + 1)).map f = (L.take k).map f ++ [f (L.getD k (0, 0))] := by
  rw [List.take_succ_eq_append_getElem h, List.map_append, gdE h]; rfl

set_option maxHeartbeats 8000000 in
set_option maxRecDepth 100000 in
theorem Edged_at (a : Option Addr) (n cap : Nat) (L : List (Int × Int)) (w : World) (hs : ShowsP w a L) (hn : n = L.length) (h40 : n ≤ 40) :
    Calls Try.prog 19 #[.slice a n cap] w fun e w' => ∃ v X, e = .returned v ∧ Hid (X.Perm (L.map nrm) ∧ SrtP X) ∧ Hid (OwnsP w' w.heap.size v X) ∧ Hid (Below w.heap.size w w') := by
  have HS : Hid (ShowsP w a L) := hs
  have HN : Hid (n = L.length) := hn
  have HO0 : Hid (OwnsP w w.heap.size (.slice none 0 0) []) := World.ownsRow_nil _ _ _ _
  have HX0 : Hid (([] : List (Int × Int)).Perm ((L.take 0).map nrm) ∧ SrtP []) := ⟨by simp, List.Pairwise.nil⟩
  have HB0 : Hid (Below w.heap.size w w) := Below.refl _ _
  clear hs hn
  go_enter Try.func19, Try.ntmps19
  go_wp2
  go_loopw [3, 4, 5, 6] (fun v3 v4 _ _ wr => ∃ i : Nat, ∃ X, i ≤ n ∧ v4 = .int .i64 (i : Int) ∧ Hid (X.Perm ((L.take i).map nrm) ∧ SrtP X) ∧ Hid (OwnsP wr w.heap.size v3 X) ∧ Hid (Below w.heap.size w wr)) (fun _ v4 _ _ _ => n - (intOf v4).toNat)
  case atStart => exact ⟨0, [], Nat.zero_le _, rfl, HX0, HO0, HB0⟩
  case round =>
    clear HO0 HX0 HB0
    obtain ⟨i, X, hi, rfl, HX, HO, HB⟩ := hrel
    by_cases hlt : i < n
    · have hlt' : (i : Int) < (n : Int) := by omega
      obtain ⟨b, off, x, y, rfl, hbl, HZ, hc1, hc2⟩ := (HS.out.below HB.out).elem (k := i) (by rw [← HN.out]; exact hlt)
      obtain ⟨mn, Hmn⟩ : ∃ mn : Int, Hid (mn = min x y) := ⟨_, rfl⟩
      obtain ⟨mx, Hmx⟩ : ∃ mx : Int, Hid (mx = max x y) := ⟨_, rfl⟩
      go_wp2_with fail
      go_region
      rw [← Hmn.out, ← Hmx.out]
      obtain ⟨p, Hp⟩ : ∃ p : Nat, Hid (p = wr.heap.size) := ⟨_, rfl⟩
      obtain ⟨W, HW⟩ : ∃ W, Hid (W = (wr.alloc (.cells #[.int .i64 mn, .int .i64 mx] 34)).drew) := ⟨_, rfl⟩
      have HBW : Hid (Below wr.heap.size wr W) := by rw [HW.out]; exact below_drewN ((Below.refl _ _).alloc (Nat.le_refl _) _) 1
      have hpb : W.heap[p]? = some (.cells #[.int .i64 mn, .int .i64 mx] 34 (0, 0)) := by rw [HW.out, Hp.out]; exact heap_alloc_new _ _
      have HO2 : Hid (OwnsP W w.heap.size u3 X) := HO.out.below HBW.out
      have HBwW : Hid (Below w.heap.size w W) := HB.out.trans (HBW.out.mono HB.out.size)
      have HXl : Hid (X.length = i) := by
        show _ = _
        have h := HX.out.1.length_eq
        have := HN.out
        rw [List.length_map, List.length_take] at h
        omega
      rw [← HW.out, ← Hp.out]
      have hp1 : W.cell? ⟨p, 0, none⟩ = some (.int .i64 mn) := by rw [cell_of_row W p _ _ _ _ hpb]; rfl
      have hp2 : W.cell? ⟨p, 1, none⟩ = some (.int .i64 mx) := by rw [cell_of_row W p _ _ _ _ hpb]; rfl
      have hpz : p < W.heap.size := (Array.getElem?_eq_some_iff.1 hpb).1
      obtain ⟨a3, c3, rfl, hs3⟩ := HO2.out.shows (by have := HXl.out; omega)
      rw [HXl.out] at HO2
      rw [HXl.out]
      have HS3 : Hid (ShowsP W a3 X) := hs3
      have HStep : Hid (∀ k, k ≤ i → (∀ j, j < k → ltP (X.getD j (0, 0)) (mn, mx)) → (k < i → ¬ ltP (X.getD k (0, 0)) (mn, mx)) → (X.take k ++ (mn, mx) :: X.drop k).Perm ((L.take (i + 1)).map nrm) ∧ SrtP (X.take k ++ (mn, mx) :: X.drop k)) := fun k hk h1 h2 => by
        obtain ⟨g1, g2⟩ := HX.out.2.ins (p := (mn, mx)) (k := k) (by rw [HXl.out]; exact hk) h1 (by rw [HXl.out]; exact h2)
        refine ⟨?_, g1⟩
        have e : nrm (L.getD i (0, 0)) = (mn, mx) := by rw [← HZ.out, Hmn.out, Hmx.out]; rfl
        rw [take_map_succ (by rw [← HN.out]; exact hlt), e]
        exact g2.trans ((List.Perm.cons _ HX.out.1).trans (List.perm_append_singleton _ _).symm)
      clear hs3 HO HB HW hc1 hc2 HBW
      go_wp2
      go_loopw [6] (fun v6 wq => ∃ k q : Nat, k ≤ i ∧ v6 = .int .i64 (k : Int) ∧ Hid (∀ j, j < k → ltP (X.getD j (0, 0)) (mn, mx)) ∧ wq = W.drewN q) (fun v6 _ => i - (intOf v6).toNat)
      case atStart => exact ⟨0, 0, Nat.zero_le _, rfl, fun j hj => absurd hj (Nat.not_lt_zero _), rfl⟩
      case round =>
        obtain ⟨k, q, hk, rfl, HK, rfl⟩ := hrel
        go_wp2
        by_cases hlk : k < i
        · have hlk' : (k : Int) < (i : Int) := by omega
          obtain ⟨b3, o3, x1, y1, rfl, -, HE, he1, he2⟩ := HS3.out.elem (k := k) (by rw [HXl.out]; exact hlk)
          by_cases hx : x1 < mn
          · go_quiet (fail)
            go_wp2
            go_roundw
            case rel => exact ⟨k + 1, _, by omega, by go_num, fun j hj => by
                rcases Nat.lt_or_ge j k with h | h
                · exact HK.out j h
                · obtain rfl : j = k := by omega
                  rw [← HE.out]; exact Or.inl hx, rfl⟩
            case measure => simp [intOf]; omega
          · by_cases hxe : x1 = mn
            · have hxb : (x1 == mn) = true := beq_iff_eq.2 hxe
              by_cases hy : y1 < mx
              · go_quiet (fail)
                go_wp2
                go_roundw
                case rel => exact ⟨k + 1, _, by omega, by go_num, fun j hj => by
                    rcases Nat.lt_or_ge j k with h | h
                    · exact HK.out j h
                    · obtain rfl : j = k := by omega
                      rw [← HE.out]; exact Or.inr ⟨hxe, hy⟩, rfl⟩
                case measure => simp [intOf]; omega
              · have hcl : Hid (¬ (x1 < mn ∨ x1 = mn ∧ y1 < mx)) := by show ¬ _; omega
                go_quiet (fail)
                go_wp2_with fail
                refine (Insert_at _ w.heap.size k _ mn mx X (W.drewN (q + nq)) (ownsRow_blocks HO2.out (fun _ _ => rfl)) (by rw [HXl.out]; exact hk) (by rw [HXl.out]; omega) rfl HBwW.out.size).mono ?_
                rintro e w5 ⟨v5, rfl, HO5, HB5⟩
                have HX5 := HStep.out k hk HK.out (fun _ => by rw [← HE.out]; exact hcl.out)
                have HX5' : Hid ((X.take k ++ (mn, mx) :: X.drop k).Perm ((L.take (i + 1)).map nrm) ∧ SrtP (X.take k ++ (mn, mx) :: X.drop k)) := HX5
                have HB5' : Hid (Below w.heap.size w w5) := (below_drewN HBwW.out (q + nq)).trans HB5.out
                clear HX5
                go_wp2
                go_roundw
                case rel => exact ⟨i + 1, _, by omega, by go_num, HX5', HO5, HB5'⟩
                case measure => simp [intOf]; omega
            · have hxb : (x1 == mn) = false := beq_eq_false_iff_ne.2 hxe
              have hcl : Hid (¬ (x1 < mn ∨ x1 = mn ∧ y1 < mx)) := by show ¬ _; omega
              go_quiet (fail)
              go_wp2_with fail
              refine (Insert_at _ w.heap.size k _ mn mx X (W.drewN (q + nq)) (ownsRow_blocks HO2.out (fun _ _ => rfl)) (by rw [HXl.out]; exact hk) (by rw [HXl.out]; omega) rfl HBwW.out.size).mono ?_
              rintro e w5 ⟨v5, rfl, HO5, HB5⟩
              have HX5 := HStep.out k hk HK.out (fun _ => by rw [← HE.out]; exact hcl.out)
              have HX5' : Hid ((X.take k ++ (mn, mx) :: X.drop k).Perm ((L.take (i + 1)).map nrm) ∧ SrtP (X.take k ++ (mn, mx) :: X.drop k)) := HX5
              have HB5' : Hid (Below w.heap.size w w5) := (below_drewN HBwW.out (q + nq)).trans HB5.out
              clear HX5
              go_wp2
              go_roundw
              case rel => exact ⟨i + 1, _, by omega, by go_num, HX5', HO5, HB5'⟩
              case measure => simp [intOf]; omega
        · have hkl : ¬ (k : Int) < (i : Int) := by omega
          go_quiet (fail)
          go_wp2_with fail
          refine (Insert_at _ w.heap.size k _ mn mx X (W.drewN (q + nq)) (ownsRow_blocks HO2.out (fun _ _ => rfl)) (by rw [HXl.out]; exact hk) (by rw [HXl.out]; omega) rfl HBwW.out.size).mono ?_
          rintro e w5 ⟨v5, rfl, HO5, HB5⟩
          have HX5 := HStep.out k hk HK.out (fun h => absurd h hlk)
          have HX5' : Hid ((X.take k ++ (mn, mx) :: X.drop k).Perm ((L.take (i + 1)).map nrm) ∧ SrtP (X.take k ++ (mn, mx) :: X.drop k)) := HX5
          have HB5' : Hid (Below w.heap.size w w5) := (below_drewN HBwW.out (q + nq)).trans HB5.out
          clear HX5
          go_wp2
          go_roundw
          case rel => exact ⟨i + 1, _, by omega, by go_num, HX5', HO5, HB5'⟩
          case measure => simp [intOf]; omega
    · obtain rfl : i = n := by omega
      go_wp2
      go_ret
      have e : L.take i = L := by rw [HN.out]; exact List.take_length
      rw [e] at HX
      exact ⟨_, X, rfl, HX, HO, HB⟩
end Go.Proofs.Ytihafckdaecgkaa
