/-
  The law RuleSays.
-/
import Derived.Test.YtncokoimbpkapaaRyJ
namespace Go.Proofs.Ytncokoimbpkapaa
open Go.RowKit Go.Shelf Go.Sort

theorem Cub.showsB {X : Nat → Prop} {w : World} {lo : Nat} {v : Value} {us : List Value} {ts : List (List (List Int))} (h : Cub X w lo v us ts) : ∃ a c, v = .slice a ts.length c ∧ ∀ W, Below w.heap.size w W → CubT W a ts := by
  have ho := h.own
  have hl := h.len
  rcases ho.2 with ⟨hv, h0⟩ | ⟨g, cap, cur, hv, hg, hh, hnc, hcm, hcs, htk⟩
  · exact ⟨none, 0, by rw [hv]; congr 1; omega, fun W _ k hk => by omega⟩
  · rw [hl] at hv
    refine ⟨some ⟨g, 0, none⟩, cap, hv, fun W hW k hk => ?_⟩
    obtain ⟨a, c, e1, e2⟩ := h.el k hk
    rw [hv, hl] at ho
    refine ⟨g, 0, a, c, rfl, ?_, e2 W (fun j hj _ _ => hW.block j hj) hW.size⟩
    rw [Nat.zero_add, hW.cell (p := ⟨g, k, none⟩) (ho.lt g rfl).2, World.ownsRow.cellAt ho k (by omega), rowv_get (by omega), e1]

theorem rsays_at {ρ : Go.Shelf.Ren} (L : SlLaysF.n6 Try.prog ρ) (hρ : ρ.f 6 = 14) (a b c : Option Addr) (ca cb cc : Nat) (x y z : List Int) (w : World) (hx : Shows w a x) (hy : Shows w b y) (hz : Shows w c z) (ka : a = none → ca = 0) (kb : b = none → cb = 0) (kc : c = none → cc = 0) :
    Calls Try.prog 3 #[.slice a x.length ca, .slice b y.length cb, .slice c z.length cc] w fun e w' => e = .returned (.bool true) ∧ Below w.heap.size w w' := by
  refine rsays_c a b c x.length y.length z.length ca cb cc (chkL [x, y, z]) (numF x y z) w
    (fun v w2 => Below w.heap.size w w2 ∧ ((chkL [x, y, z] = 0 ∧ ∃ X lo us ts, ts.Perm ((rgtF (natL x) (natL y) (natL z)).map castT) ∧ Sorted ts ∧ Cub X w2 lo v us ts) ∨ (chkL [x, y, z] ≠ 0 ∧ v = .slice none 0 0)))
    (fun v w3 => ∃ w2, (Below w.heap.size w w2 ∧ ((chkL [x, y, z] = 0 ∧ ∃ X lo us ts, ts.Perm ((rgtF (natL x) (natL y) (natL z)).map castT) ∧ Sorted ts ∧ Cub X w2 lo v us ts) ∨ (chkL [x, y, z] ≠ 0 ∧ v = .slice none 0 0))) ∧ Below w2.heap.size w2 w3) ?_ ?_ ?_ ?_ ?_
  · exact Number_at a b c ca cb cc x y z w hx hy hz ka kb kc
  · intro w1 hb1
    refine (Fillings_at L hρ a b c ca cb cc x y z w1 (hx.below hb1) (hy.below hb1) (hz.below hb1) ka kb kc).mono ?_
    rintro e w2 (⟨h0, v, rfl, us, ts, hp, hs, hC, hb2⟩ | ⟨h0, rfl, hb2⟩)
    · exact ⟨v, by rw [h0], hb1.trans (hb2.mono hb1.size), Or.inl ⟨h0, _, _, us, ts, hp, hs, hC⟩⟩
    · exact ⟨_, rfl, hb1.trans (hb2.mono hb1.size), Or.inr ⟨h0, rfl⟩⟩
  · intro v w2 hP
    refine (ruled_at _ 3 3 [x, y, z] _ (three_table (hx.below hP.1) (hy.below hP.1) (hz.below hP.1) ka kb kc hx.nilx hy.nilx hz.nilx) rfl (by simp)).mono ?_
    rintro e w3 ⟨rfl, q, rfl⟩
    exact ⟨rfl, w2, hP, below_drewN ((Below.refl _ _).alloc (Nat.le_refl _) _) q⟩
  · rintro v w3 hk ⟨w2, ⟨hb2, h⟩, hb3⟩
    rcases h with ⟨h0, _⟩ | ⟨_, rfl⟩
    · exact absurd h0 hk
    · exact ⟨rfl, by unfold numF; rw [if_neg hk], hb2.trans (hb3.mono hb2.size)⟩
  · rintro v w3 hk ⟨w2, ⟨hb2, h⟩, hb3⟩
    rcases h with ⟨_, X, lo, us, ts, hp, hs, hC⟩ | ⟨h0, _⟩
    · have hbw : Below w.heap.size w w3 := hb2.trans (hb3.mono hb2.size)
      have hq := chk_zero hk
      obtain ⟨p1, e1⟩ := hq x (by simp)
      obtain ⟨p2, e2⟩ := hq y (by simp)
      obtain ⟨p3, e3⟩ := hq z (by simp)
      have l1 : x.length = (natL x).length := by simp [natL]
      have l2 : y.length = (natL y).length := by simp [natL]
      have l3 : z.length = (natL z).length := by simp [natL]
      refine (Rights_at L hρ a b c x.length y.length z.length ca cb cc (natL x) (natL y) (natL z) w3 (by rw [e1]; exact hx.below hbw) (by rw [e2]; exact hy.below hbw) (by rw [e3]; exact hz.below hbw) p1 p2 p3 l1 l2 l3).mono ?_
      rintro e w4 ⟨v', rfl, us', ts', hp', hs', hC', hb4⟩
      have hbw4 : Below w.heap.size w w4 := hbw.trans (hb4.mono hbw.size)
      have hst : ∀ t ∈ ts, t.length ≤ 1000 := fun t ht => by
        obtain ⟨s, hs, rfl⟩ := List.mem_map.1 (hp.mem_iff.1 ht)
        have := (rgt_shape hs).1
        have := p3.len
        rw [castT_len]; omega
      have hee : ts = ts' := by
        by_cases hh : (natL x).sum + (natL y).sum = (natL z).sum ∧ inB (natL x) (natL z) = true
        · have T := tri_of p1 p2 p3 hh
          unfold rgtF at hp
          unfold rightsF at hp'
          rw [if_pos hh] at hp hp'
          exact both_same T hp hp' hs hs'
        · unfold rgtF at hp
          unfold rightsF at hp'
          rw [if_neg hh] at hp hp'
          rw [List.Perm.eq_nil hp, List.Perm.eq_nil hp']
      subst hee
      obtain ⟨av, cv, rfl, hT⟩ := hC.showsB
      obtain ⟨a', c', rfl, hT'⟩ := hC'.shows
      have hln : numF x y z = ((ts.length : Nat) : Int) := by
        unfold numF
        rw [if_pos hk, hp.length_eq, List.length_map]
      have hle : ts.length ≤ 17592186044416 := by
        rw [hp.length_eq, List.length_map]
        unfold rgtF
        split
        · rename_i hh
          have := rgt_len (tri_of p1 p2 p3 hh) p3.s; omega
        · simp
      refine ⟨a', c', av, cv, ts.length, rfl, rfl, hln, ?_⟩
      refine (Tables_at av a' cv c' ts.length ts.length ts w4 (hT w4 (hb3.trans (hb4.mono hb3.size))) hT' rfl rfl hle hst).mono ?_
      rintro e w5 ⟨rfl, q, rfl⟩
      exact ⟨rfl, below_drewN hbw4 q⟩
    · exact absurd hk h0

end Go.Proofs.Ytncokoimbpkapaa
