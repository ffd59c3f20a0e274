/-
  ferref.Pruned: the code of a tree.
-/
import Derived.Test.YtihafckdaecgkaaZPrm
import Derived.Test.YtihafckdaecgkaaZItr
import Derived.Test.YtihafckdaecgkaaZPde
import Derived.Deep.RegionHeld3
namespace Go.Proofs.Ytihafckdaecgkaa
open Go.RowKit

/-- The length of a slice. -/
def slN : Value → Nat
  | .slice _ n _ => n
  | _ => 0
theorem step_prs {w : World} {base : Nat} {v : Value} {l ps : List (Int × Int)} {ad : Addr} {m c : Nat} {ops : Array Oper} {o : Oper} {a : Act} {K : Act → World → Prop} {Q : Exit → Act → World → Prop} {E : Prop} (hgd : o.guard = none) (s z : Operand)
    (ho : o.op = .call { callee := .builtin .append, args := #[s, z], argTypes := #[22, 22] }) (hs : a.eval s = v) (hx : a.eval z = .slice (some ad) m c) (hown : OwnsP w base v l) (hm : m = ps.length) (hsrc : ShowsP w (some ad) ps) (h63 : l.length + ps.length ≤ 1000) (hbase : base ≤ w.heap.size)
    (h : ∀ v' w', OwnsP w' base v' (l ++ ps) → Below base w w' → K (a.put o.dst v') w') :
    if Region.wanted o (yielded ops a.tmps) = true then Oper.wp Try.prog o a w K Q else E := by
  have hw : Region.wanted o (yielded ops a.tmps) = true := by simp [Region.wanted, hgd]
  rw [if_pos hw]
  obtain ⟨v', w', hrun, r1, r2⟩ := run_append_prs o.type hown hm (c := c) hsrc h63 hbase
  unfold Oper.wp
  simp [execOp, ho, resolve, invoke, builtin, hs, hx, hrun, Result.andThen]
  exact h v' w' r1 r2
theorem ShowsP.takeN {w : World} {a : Option Addr} {l : List (Int × Int)} (h : ShowsP w a l) (k : Nat) : ShowsP w a (l.take k) := by
  refine ⟨by rw [List.length_take]; have := h.len; omega, fun hne => ?_⟩
  obtain ⟨b, off, ha, hlt, hc⟩ := h.cells (fun e => hne (by rw [e]; simp))
  refine ⟨b, off, ha, hlt, fun i hi => ?_⟩
  rw [List.length_take] at hi
  have := hc i (by omega)
  rw [show (l.take k).getD i (0, 0) = l.getD i (0, 0) by simp [List.getD, show i < k by omega]]
  exact this

set_option maxHeartbeats 16000000 in
set_option maxRecDepth 100000 in
theorem Pruned_at (a : Option Addr) (n cap : Nat) (L : List (Int × Int)) (es0 : List Int) (w : World) (hs : ShowsP w a L) (hn : n = L.length) (h1 : 1 ≤ n) (h20 : n ≤ 20) (hT : Tr (rgV 1 (n + 1)) L) (hE : Ed es0 L) (hV : VB (rgV 1 (n + 1)) es0) :
    Calls Try.prog 8 #[.slice a n cap] w fun e w' => ∃ v c, e = .returned v ∧ Hid (CdR es0 c L) ∧ Hid (Owns w' w.heap.size v c) ∧ Hid (Below w.heap.size w w') := by
  have HS : Hid (ShowsP w a L) := hs
  have HN : Hid (n = L.length) := hn
  have HI0 : Hid (PrI es0 L [] L) := ⟨_, _, hT, hE, hV, rfl, fun d hd => hd⟩
  have HLb : Hid (∀ e ∈ L, (0 ≤ e.1 ∧ e.1 ≤ 21) ∧ 0 ≤ e.2 ∧ e.2 ≤ 21) := fun e he => by
    have h1 := hT.2.2.1 e he
    have h2 := mem_rgV.1 h1.1
    have h3 := mem_rgV.1 h1.2
    omega
  obtain ⟨b, off, x0, y0, rfl, -, -, -, -⟩ := hs.elem (k := 0) (by omega)
  obtain ⟨lo, Hlo⟩ : ∃ lo, Hid (lo = w.heap.size) := ⟨_, rfl⟩
  have HO0 : Hid (OwnsP w lo (.slice none 0 0) []) := World.ownsRow_nil _ _ _ _
  have Hn0 : Hid (([] : List (Int × Int)).length + L.length ≤ 1000) := by rw [← HN.out]; show 0 + n ≤ 1000; omega
  have Hl0 : Hid (lo ≤ w.heap.size) := by rw [Hlo.out]; exact Nat.le_refl _
  clear hs hn hT hE hV
  go_enter Try.func8, Try.ntmps8
  go_wp2_with (at_builtin; refine append_prs rfl _ _ rfl rfl rfl HO0.out HN.out HS.out Hn0.out Hl0.out ?_)
  intro v3 w1 hO1 hB1
  have HO1 : Hid (OwnsP w1 lo v3 L) := hO1
  have HB1 : Hid (Below w.heap.size w w1) := by rw [Hlo.out] at hB1; exact hB1
  have HC1 : Hid (Owns w1 lo (.slice none 0 0) []) := World.ownsRow_nil _ _ _ _
  clear hO1 hB1 HO0 Hn0 Hl0
  obtain ⟨a3, c3, rfl, -⟩ := HO1.out.shows (by rw [← HN.out]; omega)
  rw [← HN.out] at HO1 ⊢
  go_wp2
  go_loopw [3, 4, 5, 6, 7, 8, 10, 11, 12] (fun v3 v4 _ _ _ _ _ _ _ wr => ∃ x : Nat, ∃ K c, slN v3 = x ∧ 1 ≤ x ∧ x ≤ n ∧ Hid (K.length = x) ∧ Hid (c.length + x = n) ∧ Hid (∀ e ∈ K, e ∈ L) ∧ Hid (PrI es0 L c K) ∧ Hid (OwnsP wr lo v3 K) ∧ Hid (Owns wr lo v4 c) ∧ Hid (Below w.heap.size w wr)) (fun v3 _ _ _ _ _ _ _ _ _ => slN v3)
  case atStart => exact ⟨n, L, [], rfl, h1, Nat.le_refl _, HN.out.symm, by show 0 + n = n; omega, fun _ h => h, HI0, HO1, HC1, HB1⟩
  case round =>
    clear HO1 HC1 HB1 HI0
    obtain ⟨x, K, c, hx3, hx1, hxn, HK, Hcx, HKL, HI, HO, HC, HB⟩ := hrel
    obtain ⟨w0, hw0⟩ : ∃ w0, w0 = wr := ⟨_, rfl⟩
    subst hw0
    obtain ⟨a3, c3, hv3, hs3⟩ := HO.out.shows (by rw [HK.out]; omega)
    rw [HK.out] at hv3
    subst hv3
    clear hx3
    obtain ⟨b3, o3, x0, y0, rfl, -, -, -, -⟩ := hs3.elem (k := 0) (by rw [HK.out]; omega)
    have hx20 : x ≤ 20 := by omega
    by_cases hx2 : 2 ≤ x
    · have hx2' : (1 : Int) < (x : Int) := by omega
      have HSK : Hid (ShowsP w0 (some ⟨b3, o3, none⟩) K) := hs3
      have HB0 : Hid (BsI K 0 0 1073741824 0 0) := BsI.start K
      have HBr : Hid (Below w0.heap.size w0 w0) := Below.refl _ _
      clear hs3
      go_wp2
      go_loopw [5, 6, 7, 8, 10, 11, 12] (fun v5 v6 v7 v8 _ _ _ wq => ∃ i at_ : Nat, ∃ bs ot : Int, i ≤ x ∧ v8 = .int .i64 (i : Int) ∧ v5 = .int .i64 bs ∧ v6 = .int .i64 ot ∧ v7 = .int .i64 (at_ : Int) ∧ Hid (BsI K i 0 bs ot at_) ∧ Hid (Below w0.heap.size w0 wq)) (fun _ _ _ v8 _ _ _ _ => x - (intOf v8).toNat)
      case atStart => exact ⟨0, 0, 1073741824, 0, Nat.zero_le _, rfl, rfl, rfl, rfl, HB0, HBr⟩
      case round =>
        clear HB0 HBr
        obtain ⟨i, at_, bs, ot, hi, rfl, rfl, rfl, rfl, HBs, HBr⟩ := hrel
        by_cases hix : i < x
        · have hix' : (i : Int) < (x : Int) := by omega
          obtain ⟨b', o', p, q, ha, hbl, HZ, hc1, hc2⟩ := (HSK.out.below HBr.out).elem (k := i) (by rw [HK.out]; exact hix)
          simp only [Option.some.injEq, Addr.mk.injEq, and_true] at ha
          obtain ⟨rfl, rfl⟩ := ha
          have Hpq : Hid ((0 ≤ p ∧ p ≤ 21) ∧ 0 ≤ q ∧ q ≤ 21) := HLb.out (p, q) (HKL.out _ (by rw [HZ.out]; exact getD_memR (by rw [HK.out]; exact hix)))
          go_wp2
          go_region
          obtain ⟨E, HE⟩ : ∃ E, Hid (E = wr.heap.size) := ⟨_, rfl⟩
          obtain ⟨W, HW⟩ : ∃ W, Hid (W = (wr.alloc (.cells #[.int .i64 p, .int .i64 q, .int .i64 q, .int .i64 p] 34)).drew) := ⟨_, rfl⟩
          rw [← HW.out, ← HE.out]
          have hBW : Below wr.heap.size wr W := by rw [HW.out]; exact below_drewN ((Below.refl _ _).alloc (Nat.le_refl _) _) 1
          have HEb : Hid (W.heap[E]? = some (.cells #[.int .i64 p, .int .i64 q, .int .i64 q, .int .i64 p] 34 (0, 0))) := by rw [HW.out, HE.out]; exact heap_alloc_new _ _
          have HBW : Hid (Below w0.heap.size w0 W) := HBr.out.trans (hBW.mono HBr.out.size)
          clear HW HE hBW HBr hc1 hc2 hbl
          go_wp2
          go_loopw [5, 6, 7, 10, 11, 12, 41] (fun v5 v6 v7 _ _ _ v41 wq => ∃ jj at_ : Nat, ∃ bs ot : Int, jj ≤ 2 ∧ v41 = .int .i64 (jj : Int) ∧ v5 = .int .i64 bs ∧ v6 = .int .i64 ot ∧ v7 = .int .i64 (at_ : Int) ∧ Hid (BsI K i jj bs ot at_) ∧ Hid (wq.heap[E]? = some (.cells #[.int .i64 p, .int .i64 q, .int .i64 q, .int .i64 p] 34 (0, 0))) ∧ Hid (Below w0.heap.size w0 wq)) (fun _ _ _ _ _ _ v41 _ => 2 - (intOf v41).toNat)
          case atStart => exact ⟨0, at_, bs, ot, by omega, rfl, rfl, rfl, rfl, HBs, HEb, HBW⟩
          case round =>
            clear HBs HEb HBW
            obtain ⟨jj, at_, bs, ot, hjj, rfl, rfl, rfl, rfl, HBs, HEb, HBr⟩ := hrel
            by_cases hj2 : jj < 2
            · have hj2' : (jj : Int) < 2 := by omega
              obtain ⟨px, Hpx⟩ : ∃ px : Int, Hid (px = if jj = 0 then p else q) := ⟨_, rfl⟩
              obtain ⟨py, Hpy⟩ : ∃ py : Int, Hid (py = if jj = 0 then q else p) := ⟨_, rfl⟩
              obtain ⟨hp1, hp2⟩ := four_two wr E p q HEb.out jj hj2
              rw [← Hpx.out] at hp1
              rw [← Hpy.out] at hp2
              have hpx20 : px ≤ 1000 := by have := Hpq.out; rw [Hpx.out]; split <;> omega
              obtain ⟨P, HP⟩ : ∃ P, Hid (P = wr.heap.size) := ⟨_, rfl⟩
              obtain ⟨W2, HW2⟩ : ∃ W2, Hid (W2 = wr.alloc (.cells #[.int .i64 px, .int .i64 py] 34)) := ⟨_, rfl⟩
              have hB2 : Below wr.heap.size wr W2 := by rw [HW2.out]; exact (Below.refl _ _).alloc (Nat.le_refl _) _
              have HPb : Hid (W2.heap[P]? = some (.cells #[.int .i64 px, .int .i64 py] 34 (0, 0))) := by rw [HW2.out, HP.out]; exact heap_alloc_new _ _
              have HE2 : Hid (W2.heap[E]? = some (.cells #[.int .i64 p, .int .i64 q, .int .i64 q, .int .i64 p] 34 (0, 0))) := (hB2.block E (Array.getElem?_eq_some_iff.1 HEb.out).1).trans HEb.out
              have HB2 : Hid (Below w0.heap.size w0 W2) := HBr.out.trans (hB2.mono HBr.out.size)
              have hq1 : W2.cell? ⟨P, 0, none⟩ = some (.int .i64 px) := by rw [cell_of_row W2 P _ _ _ _ HPb.out]; rfl
              have hq2 : W2.cell? ⟨P, 1, none⟩ = some (.int .i64 py) := by rw [cell_of_row W2 P _ _ _ _ HPb.out]; rfl
              have HS2 : Hid (ShowsP W2 (some ⟨b3, o3, none⟩) K) := HSK.out.below HB2.out
              have Hc0 : Hid ((0 : Nat) = cn (K.take 0) px) := rfl
              go_upto_region 11 with fail
              rw [← HW2.out, ← HP.out]
              clear HW2 HP hB2 HEb HBr hp1 hp2 HPb
              go_wp2
              go_loopw [11, 12] (fun v11 v12 wq => ∃ k r ct : Nat, k ≤ x ∧ v12 = .int .i64 (k : Int) ∧ v11 = .int .i64 (ct : Int) ∧ Hid (ct = cn (K.take k) px) ∧ wq = W2.drewN r) (fun _ v12 _ => x - (intOf v12).toNat)
              case atStart => exact ⟨0, 0, 0, Nat.zero_le _, rfl, rfl, Hc0, rfl⟩
              case round =>
                clear Hc0
                obtain ⟨k, r, ct, hk, rfl, rfl, Hct, rfl⟩ := hrel
                have hct : ct ≤ 1000 := by
                  rw [Hct.out]
                  have := cn_le (K.take k) px
                  rw [List.length_take] at this
                  omega
                by_cases hkx : k < x
                · have hkx' : (k : Int) < (x : Int) := by omega
                  have hkK : k < K.length := by rw [HK.out]; exact hkx
                  obtain ⟨b', o', p1, q1, ha, hbl, HZ1, hc1, hc2⟩ := HS2.out.elem (k := k) hkK
                  simp only [Option.some.injEq, Addr.mk.injEq, and_true] at ha
                  obtain ⟨rfl, rfl⟩ := ha
                  have Hcs := cn_snoc hkK HZ1.out px
                  have Hcs' : Hid (cn (K.take (k + 1)) px = ct + if (p1 == px || q1 == px) then 1 else 0) := by rw [Hct.out]; exact Hcs
                  clear Hcs
                  go_wp2
                  by_cases g1 : p1 = px
                  · have bb1 : (p1 == px) = true := beq_iff_eq.2 g1
                    have Hn1 : Hid (ct + 1 = cn (K.take (k + 1)) px) := by show _ = _; rw [Hcs'.out, bb1]; rfl
                    go_quiet (fail)
                    go_wp2
                    go_roundw
                    case rel => exact ⟨k + 1, _, ct + 1, by omega, by go_num, by go_num, Hn1, rfl⟩
                    case measure => simp [intOf]; omega
                  · have bb1 : (p1 == px) = false := beq_eq_false_iff_ne.2 g1
                    by_cases g2 : q1 = px
                    · have bb2 : (q1 == px) = true := beq_iff_eq.2 g2
                      have Hn1 : Hid (ct + 1 = cn (K.take (k + 1)) px) := by show _ = _; rw [Hcs'.out, bb1, bb2]; rfl
                      go_quiet (fail)
                      go_wp2
                      go_roundw
                      case rel => exact ⟨k + 1, _, ct + 1, by omega, by go_num, by go_num, Hn1, rfl⟩
                      case measure => simp [intOf]; omega
                    · have bb2 : (q1 == px) = false := beq_eq_false_iff_ne.2 g2
                      have Hn1 : Hid (ct = cn (K.take (k + 1)) px) := by show _ = _; rw [Hcs'.out, bb1, bb2]; rfl
                      go_quiet (fail)
                      go_wp2
                      go_roundw
                      case rel => exact ⟨k + 1, _, ct, by omega, by go_num, rfl, Hn1, rfl⟩
                      case measure => simp [intOf]; omega
                · obtain rfl : k = x := by omega
                  have hkx' : ¬ (k : Int) < (k : Int) := by omega
                  have HcK : Hid (ct = cn K px) := by
                    have h := Hct.out
                    rw [List.take_of_length_le (by rw [HK.out]; exact Nat.le_refl _)] at h
                    exact h
                  have HE3 : Hid ((W2.drewN r).heap[E]? = some (.cells #[.int .i64 p, .int .i64 q, .int .i64 q, .int .i64 p] 34 (0, 0))) := HE2.out
                  have HB3 : Hid (Below w0.heap.size w0 (W2.drewN r)) := below_drewN HB2.out r
                  have HZ' : Hid (K.getD i (0, 0) = (p, q)) := HZ.out.symm
                  by_cases g1 : ct = 1
                  · have bb1 : ((ct : Int) == 1) = true := beq_iff_eq.2 (by omega)
                    by_cases g2 : px < bs
                    · have Ht1 : Hid (BsI K i (jj + 1) px py i) := HBs.out.take (by rw [HK.out]; exact hix) hj2 (by rw [← HZ.out]; exact Hpx.out) (by rw [← HZ.out]; exact Hpy.out) (by rw [← HcK.out]; exact g1) g2
                      go_wp2
                      go_quiet (fail)
                      have HE4 : Hid ((W2.drewN (r + nq)).heap[E]? = some (.cells #[.int .i64 p, .int .i64 q, .int .i64 q, .int .i64 p] 34 (0, 0))) := HE2.out
                      have HB4 : Hid (Below w0.heap.size w0 (W2.drewN (r + nq))) := below_drewN HB2.out _
                      go_wp2
                      go_roundw
                      case rel => exact ⟨jj + 1, i, px, py, by omega, by go_num, rfl, rfl, rfl, Ht1, HE4, HB4⟩
                      case measure => simp [intOf]; omega
                    · skip
                      have Hk1 : Hid (BsI K i (jj + 1) bs ot at_) := HBs.out.keep hj2 (by rw [← HZ.out]; exact Hpx.out) (fun _ => g2) hpx20
                      go_wp2
                      go_roundw
                      case rel => exact ⟨jj + 1, at_, bs, ot, by omega, by go_num, rfl, rfl, rfl, Hk1, HE3, HB3⟩
                      case measure => simp [intOf]; omega
                  · have bb1 : ((ct : Int) == 1) = false := beq_eq_false_iff_ne.2 (by omega)
                    have Hk1 : Hid (BsI K i (jj + 1) bs ot at_) := HBs.out.keep hj2 (by rw [← HZ.out]; exact Hpx.out) (fun h => absurd (HcK.out.trans h) g1) hpx20
                    go_wp2
                    go_roundw
                    case rel => exact ⟨jj + 1, at_, bs, ot, by omega, by go_num, rfl, rfl, rfl, Hk1, HE3, HB3⟩
                    case measure => simp [intOf]; omega
            · obtain rfl : jj = 2 := by omega
              have Hk1 : Hid (BsI K (i + 1) 0 bs ot at_) := HBs.out.next
              go_wp2
              go_roundw
              case rel => exact ⟨i + 1, at_, bs, ot, by omega, by go_num, rfl, rfl, rfl, Hk1, HBr⟩
              case measure => simp [intOf]; omega
        · obtain rfl : i = x := by omega
          have hix' : ¬ (i : Int) < (i : Int) := by omega
          have HBs' : Hid (BsI K K.length 0 bs ot at_) := by rw [HK.out]; exact HBs.out
          obtain ⟨hat, hPr⟩ := HI.out.step (by rw [HK.out]; exact hx2) HBs'.out
          rw [HK.out] at hat
          have HPr : Hid (PrI es0 L (c ++ [ot]) (K.take at_ ++ K.drop (at_ + 1))) := hPr
          clear hPr HBs' HBs
          have HOw : OwnsP w0 lo (.slice (some ⟨b3, o3, none⟩) i c3) K := HO.out
          obtain ⟨ho3, hic, hblo⟩ : o3 = 0 ∧ i ≤ c3 ∧ lo ≤ b3 := by
            have h1 : w0.ownsRow lo 34 2 (.slice (some ⟨b3, o3, none⟩) i c3) K.length (pc K) := HOw
            rcases h1.2 with ⟨h2, _⟩ | ⟨g, cp, cur, hv, hg, _, hnc, _⟩
            · cases h2
            · simp only [Value.slice.injEq, Option.some.injEq, Addr.mk.injEq, and_true] at hv
              obtain ⟨⟨rfl, rfl⟩, rfl, rfl⟩ := hv
              exact ⟨rfl, hnc, hg⟩
          subst ho3
          clear HOw
          obtain ⟨a1, Ha1⟩ : ∃ a1 : Nat, Hid (a1 = at_ + 1) := ⟨_, rfl⟩
          have ha1 : (at_ : Int) + 1 = (a1 : Int) := by have := Ha1.out; omega
          have ha1x : a1 ≤ i := by have := Ha1.out; omega
          have hatx : at_ ≤ i := by omega
          have hatc : at_ ≤ c3 := by omega
          have ha1c : a1 ≤ c3 := by omega
          have hwa : IntKind.i64.wrap ((a1 : Nat) : Int) = (a1 : Int) := by rw [IntKind.wrap_i64]; omega
          have ha1i : (a1 : Int) ≤ (i : Int) := by omega
          have hati : (at_ : Int) ≤ (i : Int) := by omega
          have HCr : Hid (Owns wr lo u4 c) := HC.out.below HBr.out
          have HV : Hid (wr.ownsRow lo 3 1 u4 (c.map (Value.int .i64)).length (c.map (Value.int .i64))) := vals_of_owns HCr.out
          have Hcl : Hid (c.length ≤ 20) := by have := Hcx.out; show _ ≤ _; omega
          have HBw : Hid (Below w.heap.size w wr) := HB.out.trans (HBr.out.mono HB.out.size)
          have Hlw : Hid (lo ≤ wr.heap.size) := by rw [Hlo.out]; exact HBw.out.size
          have HOr : Hid (OwnsP wr lo (.slice (some ⟨b3, 0, none⟩) i c3) K) := HO.out.below HBr.out
          go_wp2_with (at_builtin; refine append_one elem_int (x := .int .i64 ot) rfl _ _ rfl rfl rfl rfl HV.out rfl ?c1 ?c2 ?c3 ?_)
          case c1 => (try rw [List.length_map]); unfold maxLen; have := Hcl.out; omega
          case c2 => (try rw [List.length_map]); have := Hcl.out; omega
          case c3 => exact Hlw.out
          intro v4 w10 hC hBc hKc
          have HC10 : Hid (Owns w10 lo v4 (c ++ [ot])) := by
            refine owns_of_vals ?_
            simpa using hC
          have HO10 : Hid (OwnsP w10 lo (.slice (some ⟨b3, 0, none⟩) i c3) K) := hKc.pairs HCr.out _ _ _ HOr.out
          have HB10 : Hid (Below w.heap.size w w10) := by
            have h := hBc
            rw [Hlo.out] at h
            exact HBw.out.trans h
          clear hC hBc hKc HV HCr HBw Hlw HOr
          obtain ⟨B0, HB0⟩ : ∃ B0, Hid (B0 = w10.heap.size) := ⟨_, rfl⟩
          have hs10 : ShowsP w10.drew (some ⟨b3, 0, none⟩) K := by
            obtain ⟨a', c', e, h⟩ := HO10.out.shows (by rw [HK.out]; omega)
            simp only [Value.slice.injEq] at e
            rw [e.1]
            exact h.below (below_drewN (Below.refl _ _) 1)
          have HN0 : Hid (OwnsP w10.drew B0 (.slice none 0 0) []) := World.ownsRow_nil _ _ _ _
          have HM0 : Hid (at_ = (K.take at_).length) := by show _ = _; rw [List.length_take, HK.out]; omega
          have HSt : Hid (ShowsP w10.drew (some ⟨b3, 0, none⟩) (K.take at_)) := hs10.takeN at_
          have HL0 : Hid (([] : List (Int × Int)).length + (K.take at_).length ≤ 1000) := by show _ ≤ _; rw [List.length_take, HK.out]; simp; omega
          have HB00 : Hid (B0 ≤ w10.drew.heap.size) := by rw [HB0.out]; exact Nat.le_refl _
          have HM1 : Hid (i - a1 = (K.drop a1).length) := by show _ = _; rw [List.length_drop, HK.out]
          have HL1 : Hid (([] ++ K.take at_ : List (Int × Int)).length + (K.drop a1).length ≤ 1000) := by show _ ≤ _; rw [List.nil_append, List.length_take, List.length_drop, HK.out]; omega
          by_cases hca : c3 = a1
          · have hz : i - a1 = 0 := by omega
            have HSd : Hid (∀ w1, Below B0 w10.drew w1 → ShowsP w1 (some ⟨b3, 0, none⟩) (K.drop a1)) := fun w1 hb => by
              have e : K.drop a1 = [] := List.drop_of_length_le (by rw [HK.out]; omega)
              rw [e]
              exact ⟨by simp, fun h => absurd rfl h⟩
            have HMz : Hid (0 = (K.drop a1).length) := by rw [← hz]; exact HM1.out
            have hia : i = a1 := by omega
            have hci : i = c3 := by omega
            clear hca hz
            subst hia
            subst hci
            clear hs10
            go_wp2
            go_region_held3 (fun _ => True) (trivial) (first
              | (refine step_prs (w := w10.drew) (base := B0) (v := .slice none 0 0) (l := []) (ps := K.take at_) (ad := ⟨b3, 0, none⟩) (m := at_) (c := i) rfl (.const (.slice none 0 0)) (.tmp 91) rfl rfl (by first | rfl | (simp [Act.eval]; done)) HN0.out HM0.out HSt.out HL0.out HB00.out ?_; intro v1 w1 hO1 hB1)
              | (refine step_prs (w := w1) (base := B0) (v := v1) (l := [] ++ K.take at_) (ps := K.drop i) (ad := ⟨b3, 0, none⟩) (m := 0) (c := 0) rfl (.tmp 92) (.tmp 96) rfl (by first | (simp [Act.eval]; done) | (simp [Act.eval, Act.put]; done)) (by first | (simp [Act.eval]; done) | (simp [Act.eval, Act.put]; done)) hO1 HMz.out (HSd.out w1 hB1) HL1.out (Nat.le_trans HB00.out hB1.size) ?_; intro v2 w2 hO2 hB2))
            have HO2' : OwnsP w2 lo v2 (K.take at_ ++ K.drop (at_ + 1)) := by
              have h := hO2
              rw [List.nil_append, Ha1.out] at h
              exact h.mono (by rw [HB0.out, Hlo.out]; exact HB10.out.size)
            have hb2 : Below w10.drew.heap.size w10.drew w2 := by
              have h := hB1.trans hB2
              rw [HB0.out] at h
              exact h
            have HC2 : Hid (Owns w2 lo v4 (c ++ [ot])) := by
              have h : Owns w10.drew lo v4 (c ++ [ot]) := ownsRow_blocks HC10.out (fun _ _ => rfl)
              exact h.below hb2
            have HB2 : Hid (Below w.heap.size w w2) := (below_drewN HB10.out 1).trans (hb2.mono HB10.out.size)
            have hKl : (K.take at_ ++ K.drop (at_ + 1)).length = i - 1 := by rw [List.length_append, List.length_take, List.length_drop, HK.out]; omega
            obtain ⟨a5, c5, hv5, -⟩ := HO2'.shows (by rw [hKl]; omega)
            obtain ⟨x', Hx'⟩ : ∃ x' : Nat, Hid (x' = i - 1) := ⟨_, rfl⟩
            rw [hKl, ← Hx'.out] at hv5
            subst hv5
            have HO3 : Hid (OwnsP w2 lo (.slice a5 x' c5) (K.take at_ ++ K.drop (at_ + 1))) := HO2'
            have HK3 : Hid ((K.take at_ ++ K.drop (at_ + 1)).length = x') := by rw [Hx'.out]; exact hKl
            have Hcx3 : Hid ((c ++ [ot]).length + x' = n) := by
              have := Hcx.out
              have := Hx'.out
              show _ = _
              rw [List.length_append]; simp; omega
            have HKL3 : Hid (∀ e ∈ K.take at_ ++ K.drop (at_ + 1), e ∈ L) := fun e he => HKL.out e (by
              rcases List.mem_append.1 he with h | h
              · exact List.mem_of_mem_take h
              · exact List.mem_of_mem_drop h)
            have hx'i : x' < i := by have := Hx'.out; omega
            have hx'1 : 1 ≤ x' := by have := Hx'.out; omega
            clear hO1 hB1 hO2 hB2 HO2' hb2 hKl
            go_wp2
            go_roundw
            case rel => exact ⟨x', _, _, rfl, hx'1, by omega, HK3, Hcx3, HKL3, HPr, HO3, HC2, HB2⟩
            case measure => simp [slN]; omega
          · have HSd : Hid (∀ w1, Below B0 w10.drew w1 → ShowsP w1 (some ⟨b3, a1 * 2, none⟩) (K.drop a1)) := fun w1 hb => by
              rw [HB0.out] at hb
              exact (hs10.below hb).dropAt a1
            clear hs10
            go_wp2
            go_region_held3 (fun _ => True) (trivial) (first
              | (refine step_prs (w := w10.drew) (base := B0) (v := .slice none 0 0) (l := []) (ps := K.take at_) (ad := ⟨b3, 0, none⟩) (m := at_) (c := c3) rfl (.const (.slice none 0 0)) (.tmp 91) rfl rfl (by first | rfl | (simp [Act.eval]; done)) HN0.out HM0.out HSt.out HL0.out HB00.out ?_; intro v1 w1 hO1 hB1)
              | (refine step_prs (w := w1) (base := B0) (v := v1) (l := [] ++ K.take at_) (ps := K.drop a1) (ad := ⟨b3, a1 * 2, none⟩) (m := (i - a1)) (c := (c3 - a1)) rfl (.tmp 92) (.tmp 96) rfl (by first | (simp [Act.eval]; done) | (simp [Act.eval, Act.put]; done)) (by first | (simp [Act.eval]; done) | (simp [Act.eval, Act.put]; done)) hO1 HM1.out (HSd.out w1 hB1) HL1.out (Nat.le_trans HB00.out hB1.size) ?_; intro v2 w2 hO2 hB2))
            have HO2' : OwnsP w2 lo v2 (K.take at_ ++ K.drop (at_ + 1)) := by
              have h := hO2
              rw [List.nil_append, Ha1.out] at h
              exact h.mono (by rw [HB0.out, Hlo.out]; exact HB10.out.size)
            have hb2 : Below w10.drew.heap.size w10.drew w2 := by
              have h := hB1.trans hB2
              rw [HB0.out] at h
              exact h
            have HC2 : Hid (Owns w2 lo v4 (c ++ [ot])) := by
              have h : Owns w10.drew lo v4 (c ++ [ot]) := ownsRow_blocks HC10.out (fun _ _ => rfl)
              exact h.below hb2
            have HB2 : Hid (Below w.heap.size w w2) := (below_drewN HB10.out 1).trans (hb2.mono HB10.out.size)
            have hKl : (K.take at_ ++ K.drop (at_ + 1)).length = i - 1 := by rw [List.length_append, List.length_take, List.length_drop, HK.out]; omega
            obtain ⟨a5, c5, hv5, -⟩ := HO2'.shows (by rw [hKl]; omega)
            obtain ⟨x', Hx'⟩ : ∃ x' : Nat, Hid (x' = i - 1) := ⟨_, rfl⟩
            rw [hKl, ← Hx'.out] at hv5
            subst hv5
            have HO3 : Hid (OwnsP w2 lo (.slice a5 x' c5) (K.take at_ ++ K.drop (at_ + 1))) := HO2'
            have HK3 : Hid ((K.take at_ ++ K.drop (at_ + 1)).length = x') := by rw [Hx'.out]; exact hKl
            have Hcx3 : Hid ((c ++ [ot]).length + x' = n) := by
              have := Hcx.out
              have := Hx'.out
              show _ = _
              rw [List.length_append]; simp; omega
            have HKL3 : Hid (∀ e ∈ K.take at_ ++ K.drop (at_ + 1), e ∈ L) := fun e he => HKL.out e (by
              rcases List.mem_append.1 he with h | h
              · exact List.mem_of_mem_take h
              · exact List.mem_of_mem_drop h)
            have hx'i : x' < i := by have := Hx'.out; omega
            have hx'1 : 1 ≤ x' := by have := Hx'.out; omega
            clear hO1 hB1 hO2 hB2 HO2' hb2 hKl
            go_wp2
            go_roundw
            case rel => exact ⟨x', _, _, rfl, hx'1, by omega, HK3, Hcx3, HKL3, HPr, HO3, HC2, HB2⟩
            case measure => simp [slN]; omega
    · obtain rfl : x = 1 := by omega
      obtain ⟨V, es, hT, hE, hV, hel, hcd⟩ := HI.out
      have HCd : Hid (CdR es0 c L) := by
        have h := hcd [] HK.out
        rw [List.append_nil] at h
        exact h
      clear hcd hT hE hV hel
      go_wp2
      go_ret
      exact ⟨_, c, rfl, HCd, by rw [← Hlo.out]; exact HC, HB⟩
end Go.Proofs.Ytihafckdaecgkaa
