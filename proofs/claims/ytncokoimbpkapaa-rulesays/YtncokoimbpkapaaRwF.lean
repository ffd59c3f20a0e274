/-
  The contracts of rule.number, rule.Number, rule.Fillings.
-/
import Derived.Test.YtncokoimbpkapaaRvL
import Derived.Test.YtncokoimbpkapaaRvQ
import Derived.Test.YtncokoimbpkapaaRvK
import Derived.Test.YtncokoimbpkapaaRwE
namespace Go.Proofs.Ytncokoimbpkapaa
open Go.RowKit Go.Shelf

/-- A partition of at most 16. -/
structure Pn (l : List Nat) : Prop where
  d : ∀ r, l.getD (r + 1) 0 ≤ l.getD r 0
  p : ∀ r, r < l.length → 0 < l.getD r 0
  s : l.sum ≤ 16
theorem len_le_sum : ∀ l : List Nat, (∀ r, r < l.length → 0 < l.getD r 0) → l.length ≤ l.sum := by
  intro l
  induction l with
  | nil => intro _; simp
  | cons a l ih =>
    intro h
    have h0 : 0 < a := h 0 (by simp)
    have := ih (fun r hr => by have := h (r + 1) (by simpa using hr); simpa [List.getD] using this)
    simp only [List.length_cons, List.sum_cons]; omega
theorem Pn.len {l : List Nat} (h : Pn l) : l.length ≤ 16 := Nat.le_trans (len_le_sum l h.p) h.s
/-- All right fillings, if there are any to look for. -/
def rgtF (al bl cl : List Nat) : List (List (List Nat)) := if al.sum + bl.sum = cl.sum ∧ inB al cl = true then rgt al bl cl else []
theorem tri_of {al bl cl : List Nat} (ha : Pn al) (hb : Pn bl) (hc : Pn cl) (h : al.sum + bl.sum = cl.sum ∧ inB al cl = true) : Tri al bl cl :=
  ⟨ha.d, ha.p, hb.d, hc.d, hc.p, (inB_iff al cl).1 h.2, h.1⟩

theorem each_num (aa ab ac : Option Addr) (ca cb cc : Nat) (al bl cl : List Nat) (fb : Nat) (w : World) (ha : Shows w aa (castL al)) (hb : Shows w ab (castL bl)) (hc : Shows w ac (castL cl)) (pa : Pn al) (pb : Pn bl) (pc : Pn cl) (hw : w.heap[fb]? = some (.cells #[.int .i64 0] 3 (0, 0))) :
    Calls Try.prog 11 #[.slice aa al.length ca, .slice ab bl.length cb, .slice ac cl.length cc, .func (.func 27) #[] #[ptr fb]] w fun e w' => e = .returned (.tuple #[]) ∧ (w'.heap[fb]? = some (.cells #[.int .i64 ((rgtF al bl cl).length : Int)] 3 (0, 0)) ∧ Below fb w w') := by
  have h1 := pa.s
  have h2 := pb.s
  have h3 := pc.s
  have l2 := pb.len
  have l3 := pc.len
  have hfb : fb < w.heap.size := (Array.getElem?_eq_some_iff.1 hw).1
  by_cases h : al.sum + bl.sum = cl.sum ∧ inB al cl = true
  · have T := tri_of pa pb pc h
    have hF : ∀ wx q R U Wb cw vb vs, BS w wx w.heap.size q R U (bl.length + 1) Wb cw vb (.func (.func 27) #[] #[ptr fb]) vs (bxs (fun r => al.getD r 0) (fun r => cl.getD r 0) cl.length) bl.length cl.length (castT (tabN (fun r => cl.getD r 0) cl.length fun _ _ => 0)) bl → Calls Try.prog 30 #[.pointer (some ⟨q, 0, none⟩), .int .i64 0] wx fun e w' => e = .returned (.tuple #[]) ∧ (w'.heap[fb]? = some (.cells #[.int .i64 ((rgtF al bl cl).length : Int)] 3 (0, 0)) ∧ Below fb w w') := fun wx q R U Wb cw vb vs hB => by
      have e : rgtF al bl cl = rgt al bl cl := if_pos h
      rw [e]
      exact num_from T h3 (by omega) (by omega) fb q R U Wb cw vb vs hfb hw hB
    rcases Nat.eq_zero_or_pos bl.length with h0 | h0
    · exact each_nil _ aa ab ac ca cb cc al bl cl 27 #[ptr fb] w ha hb hc T (by omega) h0 (by omega) (by omega) hF
    · exact each_fil _ aa ab ac ca cb cc al bl cl 27 #[ptr fb] w ha hb hc T (by omega) h0 (by omega) (by omega) hF
  · have e : rgtF al bl cl = [] := if_neg h
    rw [e]
    refine (each_no aa ab ac ca cb cc al bl cl _ w ha hb hc ?_ (by omega) (by omega) (by omega)).mono ?_
    · by_cases h4 : al.sum + bl.sum = cl.sum
      · right
        cases e2 : inB al cl with
        | false => rfl
        | true => exact absurd ⟨h4, e2⟩ h
      · exact Or.inl h4
    · rintro e w' ⟨rfl, rfl⟩
      exact ⟨rfl, hw, Below.refl _ _⟩
theorem each_cub (aa ab ac : Option Addr) (ca cb cc : Nat) (al bl cl : List Nat) (fb : Nat) (w : World) (ha : Shows w aa (castL al)) (hb : Shows w ab (castL bl)) (hc : Shows w ac (castL cl)) (pa : Pn al) (pb : Pn bl) (pc : Pn cl) (hw : w.heap[fb]? = some (.cells #[.slice none 0 0] 26 (0, 0))) :
    Calls Try.prog 11 #[.slice aa al.length ca, .slice ab bl.length cb, .slice ac cl.length cc, .func (.func 12) #[] #[ptr fb]] w fun e w' => e = .returned (.tuple #[]) ∧ (FC fb (fun _ => False) (rgtF al bl cl) w' ∧ Below fb w w') := by
  have h1 := pa.s
  have h2 := pb.s
  have h3 := pc.s
  have l2 := pb.len
  have l3 := pc.len
  have hfb : fb < w.heap.size := (Array.getElem?_eq_some_iff.1 hw).1
  by_cases h : al.sum + bl.sum = cl.sum ∧ inB al cl = true
  · have T := tri_of pa pb pc h
    have hF : ∀ wx q R U Wb cw vb vs, BS w wx w.heap.size q R U (bl.length + 1) Wb cw vb (.func (.func 12) #[] #[ptr fb]) vs (bxs (fun r => al.getD r 0) (fun r => cl.getD r 0) cl.length) bl.length cl.length (castT (tabN (fun r => cl.getD r 0) cl.length fun _ _ => 0)) bl → Calls Try.prog 30 #[.pointer (some ⟨q, 0, none⟩), .int .i64 0] wx fun e w' => e = .returned (.tuple #[]) ∧ (FC fb (fun _ => False) (rgtF al bl cl) w' ∧ Below fb w w') := fun wx q R U Wb cw vb vs hB => by
      have e : rgtF al bl cl = rgt al bl cl := if_pos h
      rw [e]
      exact fil_from T h3 (by omega) (by omega) fb q R U Wb cw vb vs hfb hw hB
    rcases Nat.eq_zero_or_pos bl.length with h0 | h0
    · exact each_nil _ aa ab ac ca cb cc al bl cl 12 #[ptr fb] w ha hb hc T (by omega) h0 (by omega) (by omega) hF
    · exact each_fil _ aa ab ac ca cb cc al bl cl 12 #[ptr fb] w ha hb hc T (by omega) h0 (by omega) (by omega) hF
  · have e : rgtF al bl cl = [] := if_neg h
    rw [e]
    refine (each_no aa ab ac ca cb cc al bl cl _ w ha hb hc ?_ (by omega) (by omega) (by omega)).mono ?_
    · by_cases h4 : al.sum + bl.sum = cl.sum
      · right
        cases e2 : inB al cl with
        | false => rfl
        | true => exact absurd ⟨h4, e2⟩ h
      · exact Or.inl h4
    · rintro e w' ⟨rfl, rfl⟩
      exact ⟨rfl, ⟨.slice none 0 0, [], hw, World.ownsRow_nil _ _ _ _, rfl, fun k hk => by simp at hk, fun h => h, fun j e => by cases e⟩, Below.refl _ _⟩

set_option maxHeartbeats 1000000 in
theorem number_c (v0 v1 v2 : Value) (c : Nat) (w : World)
    (H : Hid (Calls Try.prog 11 #[v0, v1, v2, .func (.func 27) #[] #[ptr w.heap.size]] (w.alloc (.cells #[.int .i64 0] 3)) fun e w' => e = .returned (.tuple #[]) ∧ (w'.heap[w.heap.size]? = some (.cells #[.int .i64 (c : Int)] 3 (0, 0)) ∧ Below w.heap.size (w.alloc (.cells #[.int .i64 0] 3)) w'))) :
    Calls Try.prog 10 #[v0, v1, v2] w fun e w' => e = .returned (.int .i64 (c : Int)) ∧ Below w.heap.size w w' := by
  have HB : Hid (Below w.heap.size w (w.alloc (.cells #[.int .i64 0] 3))) := (Below.refl _ _).alloc (Nat.le_refl _) _
  go_enter Try.func10, Try.ntmps10
  go_wp2_with fail
  refine H.out.mono ?_
  rintro e w1 ⟨rfl, h1, h2⟩
  have c0 := cell_of_one h1
  have HB1 : Hid (Below w.heap.size w w1) := HB.out.trans h2
  clear h1 h2
  go_wp2
  go_ret
  exact ⟨rfl, HB1.out⟩
theorem number_at (aa ab ac : Option Addr) (ca cb cc : Nat) (al bl cl : List Nat) (w : World) (ha : Shows w aa (castL al)) (hb : Shows w ab (castL bl)) (hc : Shows w ac (castL cl)) (pa : Pn al) (pb : Pn bl) (pc : Pn cl) :
    Calls Try.prog 10 #[.slice aa al.length ca, .slice ab bl.length cb, .slice ac cl.length cc] w fun e w' => e = .returned (.int .i64 ((rgtF al bl cl).length : Int)) ∧ Below w.heap.size w w' := by
  have hB : Below w.heap.size w (w.alloc (.cells #[.int .i64 0] 3)) := (Below.refl _ _).alloc (Nat.le_refl _) _
  exact number_c _ _ _ _ w (each_num aa ab ac ca cb cc al bl cl w.heap.size _ (ha.below hB) (hb.below hB) (hc.below hB) pa pb pc (heap_alloc_new _ _))

end Go.Proofs.Ytncokoimbpkapaa
