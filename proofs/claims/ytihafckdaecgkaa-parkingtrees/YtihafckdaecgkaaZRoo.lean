/-
  Rooted: the tree of a list of cars; what is refused.
-/
import Derived.Test.YtihafckdaecgkaaZTrf
import Derived.Test.YtihafckdaecgkaaZPdl
import Derived.Test.YtihafckdaecgkaaZPar
import Derived.Test.YtihafckdaecgkaaZLif
namespace Go.Proofs.Ytihafckdaecgkaa
open Go.RowKit

theorem append_pairF {w : World} {base N g i cap : Nat} {x y : Int} {l : List (Int × Int)} {ops : Array Oper} {rest : List Oper} {o : Oper} {a : Act} {Q : Exit → Act → World → Prop} (hgd : o.guard = none) (s z : Operand)
    (ho : o.op = .call { callee := .builtin .append, args := #[s, z], argTypes := #[22, 22] }) (hs : a.eval s = .slice (some ⟨g, 0, none⟩) i cap) (hx : a.eval z = .slice (some ⟨N, 0, none⟩) 1 1) (hN : N = w.heap.size) (hown : OwnsP w base (.slice (some ⟨g, 0, none⟩) i cap) l) (hi : i = l.length) (hroom : i + 1 ≤ cap) (hg : g < w.heap.size)
    (h : ∀ w', OwnsP w' base (.slice (some ⟨g, 0, none⟩) (i + 1) cap) (l ++ [(x, y)]) → ButG g w w' → Below g w w' → wpList Try.prog ops Q rest (a.put o.dst (.slice (some ⟨g, 0, none⟩) (i + 1) cap)) w') :
    wpList Try.prog ops Q (o :: rest) a (w.alloc (.cells #[.int .i64 x, .int .i64 y] 34)) := by
  subst hN; subst hi
  refine wpList_plain hgd fun K hK => ?_
  obtain ⟨i0, hi, hz0, hz1, hz2⟩ := info_parts Try.infoP
  have hb : Below w.heap.size w (w.alloc (.cells #[.int .i64 x, .int .i64 y] 34)) := (Below.refl _ _).alloc (Nat.le_refl _) _
  have hown2 : (w.alloc (.cells #[.int .i64 x, .int .i64 y] 34)).ownsRow base 34 2 (.slice (some ⟨g, 0, none⟩) l.length cap) l.length (pc l) := hown.below hb
  obtain ⟨w', hrun, r1, r2⟩ := run_append_fits (P := Try.prog) (w.alloc (.cells #[.int .i64 x, .int .i64 y] 34)) base 22 o.type 34 i0 2 Try.underlyingP hi hz1 g l.length cap (pc l) hown2 ⟨w.heap.size, 0, none⟩ 1 1 [.int .i64 x, .int .i64 y] rfl
    (fun j u hj => by
      match j, hj with
      | 0, hj => simp at hj; subst hj; rw [Addr.add_lit, World.cell?_alloc_at _ _ _ _ rfl]; rfl
      | 1, hj => simp at hj; subst hj; rw [Addr.add_lit, World.cell?_alloc_at _ _ _ _ rfl]; rfl) (fun u hu => by simp at hu; rcases hu with rfl | rfl <;> rfl) hroom
  unfold Oper.wp
  simp [execOp, ho, resolve, invoke, builtin, hs, hx, hrun, Result.andThen]
  refine hK _ _ (h w' ?_ ⟨Nat.le_trans hb.size r2.size, fun k hk hne => ?_⟩ ?_)
  · unfold OwnsP
    rw [pc_snoc, List.length_append, List.length_singleton]; exact r1
  · rw [r2.block k (Nat.lt_of_lt_of_le hk hb.size) (fun e => hne (by cases e; rfl))]
    exact hb.block k hk
  · exact (hb.mono (Nat.le_of_lt hg)).trans ((Below.refl g _).grown r2 (Nat.le_trans (Nat.le_of_lt hg) hb.size) (fun k hk => by cases hk; exact Nat.le_refl _))

set_option maxHeartbeats 2000000 in
theorem Rooted_no (a : Option Addr) (n cap : Nat) (zs : List Int) (w : World) (E : Int) (hs : Shows w a zs) (hn : n = zs.length) (hE : pkE zs = E) (hno : ¬ (plC zs zs.length = 0 ∧ Free (lk zs) zs.length)) :
    Calls Try.prog 12 #[.slice a n cap] w fun e w' => e = .returned (.tuple #[.slice none 0 0, .int .i64 E]) ∧ Hid (Below w.heap.size w w') := by
  have HC := Park_no a n cap zs w E hs hn hE hno
  have hb : (E != 0) = true := bne_iff_ne.2 (by rw [← hE]; exact pkE_no)
  clear hs hn hE hno
  go_enter Try.func12, Try.ntmps12
  go_wp2_with fail
  refine HC.mono ?_
  rintro e w9 ⟨rfl, HB9⟩
  go_wp2
  go_ret2
  exact ⟨rfl, HB9⟩

/-- What the list likes. -/
def dOf (zs : List Int) : Nat → Int := fun t => zs.getD t 0
theorem lk_getD {zs : List Int} (h : ∀ z ∈ zs, 1 ≤ z ∧ z ≤ (zs.length : Int)) : ∀ t, t < (lk zs).length → dOf zs t = (((lk zs).getD t 0 : Nat) : Int) + 1 := by
  intro t ht
  rw [lk_length] at ht
  have := h _ (getD_mem ht)
  rw [List.getD_eq_getElem?_getD, lk_at ht]
  unfold dOf
  simp only [Option.getD_some]; omega
theorem long_of {zs : List Int} (h : plC zs zs.length = 0) (hf : Free (lk zs) zs.length) : Long (dOf zs) zs.length := by
  have h1 := (plC_ok.1 h).2
  have h2 := lk_getD h1
  have := free_long h2 (fun t ht => by
    have := h2 t ht
    rw [lk_length] at ht ⊢
    have := h1 _ (getD_mem ht)
    unfold dOf at *
    omega) (by rw [lk_length]; exact hf)
  rw [lk_length] at this
  exact this
theorem line_len {D : Nat → Int} {n k i : Nat} (hi : i ≤ n) : (lin D n k ++ addc D ((k : Int) + 1) i).length ≤ n + 1 := by
  have h1 : (lin D n k ++ addc D ((k : Int) + 1) i).Nodup := by
    have h2 := lin_nodup D n (k + 1)
    rw [lin] at h2
    rw [List.nodup_append] at h2 ⊢
    refine ⟨h2.1, addc_nodup _ _ _, fun x hx y hy => h2.2.2 x hx y ?_⟩
    obtain ⟨t, g1, g2, g3⟩ := mem_addc.1 hy
    exact mem_addc.2 ⟨t, by omega, g2, g3⟩
  have := nodup_len h1 (S := rgV 0 (n + 1)) (fun v hv => by
    rw [mem_rgV]
    rcases List.mem_append.1 hv with c | c
    · rcases mem_lin.1 c with c | ⟨t, g1, g2, g3, g4⟩ <;> omega
    · obtain ⟨t, g1, g2, g3⟩ := mem_addc.1 c
      omega)
  rw [rgV_length] at this
  exact this
theorem line_bd {D : Nat → Int} {n k i : Nat} (hi : i ≤ n) : ∀ z ∈ lin D n k ++ addc D ((k : Int) + 1) i, 0 ≤ z ∧ z ≤ (n : Int) := by
  intro v hv
  rcases List.mem_append.1 hv with c | c
  · rcases mem_lin.1 c with c | ⟨t, g1, g2, g3, g4⟩ <;> omega
  · obtain ⟨t, g1, g2, g3⟩ := mem_addc.1 c
    omega
theorem trl_line (D : Nat → Int) (n : Nat) : ∀ k, (trl D n k).length + 1 = (lin D n k).length
  | 0 => rfl
  | k + 1 => by
    have := trl_line D n k
    rw [trl, lin, List.length_append, List.length_append, List.length_map]; omega
end Go.Proofs.Ytihafckdaecgkaa
