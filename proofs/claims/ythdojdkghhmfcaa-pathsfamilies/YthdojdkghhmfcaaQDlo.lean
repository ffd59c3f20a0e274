/-
  ferref.Looked.
-/
import Derived.Test.YthdojdkghhmfcaaQDwk
namespace Go.Proofs.Ythdojdkghhmfcaa
open Go.RowKit

theorem nine_allocs (w : World) (o0 o1 o2 o3 o4 o5 o6 o7 o8 : Obj) (W : World) (hW : W = ((((((((w.alloc o0).alloc o1).alloc o2).alloc o3).alloc o4).alloc o5).alloc o6).alloc o7).alloc o8) :
    W.heap.size = w.heap.size + 9 ∧ W.heap[w.heap.size]? = some o0 ∧ W.heap[w.heap.size + 1]? = some o1 ∧ W.heap[w.heap.size + 2]? = some o2 ∧ W.heap[w.heap.size + 3]? = some o3 ∧ W.heap[w.heap.size + 4]? = some o4 ∧ W.heap[w.heap.size + 5]? = some o5 ∧ W.heap[w.heap.size + 6]? = some o6 ∧ W.heap[w.heap.size + 7]? = some o7 ∧ W.heap[w.heap.size + 8]? = some o8 ∧ Below w.heap.size w W := by
  have hh : W.heap = ((((((((w.heap.push o0).push o1).push o2).push o3).push o4).push o5).push o6).push o7).push o8 := by rw [hW]; rfl
  refine ⟨by rw [hh]; simp, ?_, ?_, ?_, ?_, ?_, ?_, ?_, ?_, ?_, ?_⟩
  · rw [hh]; simp only [Array.getElem?_push, Array.size_push]; repeat (first | rw [if_pos trivial] | rw [if_pos (by omega)] | rw [if_neg (by omega)])
  · rw [hh]; simp only [Array.getElem?_push, Array.size_push]; repeat (first | rw [if_pos trivial] | rw [if_pos (by omega)] | rw [if_neg (by omega)])
  · rw [hh]; simp only [Array.getElem?_push, Array.size_push]; repeat (first | rw [if_pos trivial] | rw [if_pos (by omega)] | rw [if_neg (by omega)])
  · rw [hh]; simp only [Array.getElem?_push, Array.size_push]; repeat (first | rw [if_pos trivial] | rw [if_pos (by omega)] | rw [if_neg (by omega)])
  · rw [hh]; simp only [Array.getElem?_push, Array.size_push]; repeat (first | rw [if_pos trivial] | rw [if_pos (by omega)] | rw [if_neg (by omega)])
  · rw [hh]; simp only [Array.getElem?_push, Array.size_push]; repeat (first | rw [if_pos trivial] | rw [if_pos (by omega)] | rw [if_neg (by omega)])
  · rw [hh]; simp only [Array.getElem?_push, Array.size_push]; repeat (first | rw [if_pos trivial] | rw [if_pos (by omega)] | rw [if_neg (by omega)])
  · rw [hh]; simp only [Array.getElem?_push, Array.size_push]; repeat (first | rw [if_pos trivial] | rw [if_pos (by omega)] | rw [if_neg (by omega)])
  · rw [hh]; simp only [Array.getElem?_push, Array.size_push]; repeat (first | rw [if_pos trivial] | rw [if_pos (by omega)] | rw [if_neg (by omega)])
  · rw [hW]
    refine ⟨rfl, rfl, rfl, ?_, fun k hk => ?_⟩
    · show w.heap.size ≤ (((((((((w.heap.push o0).push o1).push o2).push o3).push o4).push o5).push o6).push o7).push o8).size
      simp; omega
    · show (((((((((w.heap.push o0).push o1).push o2).push o3).push o4).push o5).push o6).push o7).push o8)[k]? = _
      simp only [Array.getElem?_push, Array.size_push]
      rw [if_neg (by omega), if_neg (by omega), if_neg (by omega), if_neg (by omega), if_neg (by omega), if_neg (by omega), if_neg (by omega), if_neg (by omega), if_neg (by omega)]
/-- append(nil, points...): a list of the call's own. -/
theorem run_copy_pts {w : World} {a : Option Addr} {n c : Nat} {ps : List (Int × Int)} (ty : TypeId) (hs : PtI w a ps) (hn : n = ps.length) (hc : a = none → n = 0 ∧ c = 0) (hl : ps.length ≤ 8796093022208) :
    ∃ v' w', (Builtin.append_ #[22, 22] ty #[.slice none 0 0, .slice a n c]).run Try.prog w = .ok v' w' ∧ OwPt w' w.heap.size v' ps ∧ Below w.heap.size w w' := by
  cases a with
  | some ad =>
    obtain ⟨v', w', h1, h2, h3, _⟩ := run_append_pts (l := []) (base := w.heap.size) (v := .slice none 0 0) (c := c) ty (World.ownsRow_nil _ _ _ _) hn hs (by simpa using hl) (Nat.le_refl _)
    exact ⟨v', w', h1, h2, h3⟩
  | none =>
    obtain ⟨h1, h2⟩ := hc rfl
    subst h1 h2
    have hz : ps = [] := List.length_eq_zero_iff.1 hn.symm
    subst hz
    obtain ⟨i0, hi, hz0, hz1, hz2⟩ := info_parts infoPt
    exact ⟨.slice none 0 0, w, run_append_owned_none w w.heap.size 22 ty 39 i0 2 Try.underlying22 hi (.slice none 0 0) 0 [] (World.ownsRow_nil _ _ _ _), World.ownsRow_nil _ _ _ _, Below.refl _ _⟩
theorem append_copy {w : World} {ad : Option Addr} {n c : Nat} {ps : List (Int × Int)} {ops : Array Oper} {rest : List Oper} {o : Oper} {a : Act} {Q : Exit → Act → World → Prop} (hgd : o.guard = none) (s z : Operand)
    (ho : o.op = .call { callee := .builtin .append, args := #[s, z], argTypes := #[22, 22] }) (hs : a.eval s = .slice none 0 0) (hx : a.eval z = .slice ad n c) (hp : PtI w ad ps) (hn : n = ps.length) (hc : ad = none → n = 0 ∧ c = 0) (hl : ps.length ≤ 8796093022208)
    (h : ∀ v' w', OwPt w' w.heap.size v' ps → Below w.heap.size w w' → wpList Try.prog ops Q rest (a.put o.dst v') w') : wpList Try.prog ops Q (o :: rest) a w := by
  refine wpList_plain hgd fun K hK => ?_
  obtain ⟨v', w', hrun, r1, r2⟩ := run_copy_pts (c := c) o.type hp hn hc hl
  unfold Oper.wp
  simp [execOp, ho, resolve, invoke, builtin, hs, hx, hrun, Result.andThen]
  exact hK _ _ (h v' w' r1 r2)
theorem frC_all {V : DEn} (hV : V.ok) : ∀ f, FrC V f
  | 0 => fun k p path w gv nv fv gone now st φ fd cl tx _ hR => absurd hR.hfu (by unfold fuN; omega)
  | f + 1 => dlook_at hV (frC_all hV f)

theorem same_store {W : World} {x t : Nat} {v : Value} (h : W.heap[x]? = some (.cells #[v] t (0, 0))) (k : Nat) : (W.setCell ⟨x, 0, none⟩ v).heap[k]? = W.heap[k]? := by
  by_cases e : k = x
  · subst e; rw [heap_setCell_same W k 0 _ t _ h, h]; rfl
  · exact heap_setCell_other _ _ _ _ e
theorem way_at {zs : List Int} {sn i : Nat} (hi : i < sn) (hz : sn ≤ zs.length) (E : List (Int × Int)) : ptD (wayE (zs.take sn) E) i = ptD (toN E) (zs.getD i 0).toNat := by
  have hiz : i < zs.length := by omega
  have e : (wayE (zs.take sn) E)[i]? = some (ptD (toN E) (zs.getD i 0).toNat) := by
    unfold wayE
    rw [List.getElem?_map, List.getElem?_take_of_lt hi, List.getElem?_eq_getElem hiz]
    simp [List.getD, List.getElem?_eq_getElem hiz]
  unfold ptD at e ⊢
  rw [List.getD_eq_getElem?_getD, e]; rfl
theorem getD_toN {E : List (Int × Int)} {gw gh : Int} (hg : E.all (inG gw gh) = true) {z : Nat} (hz : z < E.length) : E.getD z (0, 0) = (((ptD (toN E) z).1 : Int), ((ptD (toN E) z).2 : Int)) := by
  have hm : E.getD z (0, 0) ∈ E := by simp [List.getD, List.getElem?_eq_getElem hz]
  have hin := (List.all_eq_true.1 hg) _ hm
  unfold inG at hin
  simp only [Bool.and_eq_true, decide_eq_true_eq] at hin
  have e : ptD (toN E) z = ((E.getD z (0, 0)).1.toNat, (E.getD z (0, 0)).2.toNat) := by
    simp [ptD, toN, List.getD, List.getElem?_map, List.getElem?_eq_getElem hz]
  rw [e]
  exact Prod.ext (by show (E.getD z (0, 0)).1 = (((E.getD z (0, 0)).1.toNat : Nat) : Int); omega) (by show (E.getD z (0, 0)).2 = (((E.getD z (0, 0)).2.toNat : Nat) : Int); omega)

set_option maxHeartbeats 16000000 in
set_option maxRecDepth 100000 in
theorem Looked_at (gw gh : Int) (ba sa ea za : Option Addr) (n c sn sc en ec zn zc : Nat) (bs S E : List (Int × Int)) (zs : List Int) (w : World) (hn : n = bs.length) (hl : n ≤ 8796093021952) (hnn : ba = none → n = 0 ∧ c = 0) (hsn : sn = S.length) (hsc : sn ≤ sc) (hs0 : 0 < sn) (hs4 : sn ≤ 4) (hen : en = E.length) (he4 : en ≤ 4) (hzn : zn = zs.length) (hz4 : zn ≤ 4) (hsz : sn ≤ zn) (hP : PtI w ba bs) (hS : PtI w sa S) (hE : PtI w ea E) (hZ : Shows w za zs) (hgS : S.all (inG gw gh) = true) (hgE : E.all (inG gw gh) = true) (hw8 : gw ≤ 8) (hh8 : gh ≤ 8) (hbs : ∀ p ∈ bs, inG gw gh p = true) (hzb : ∀ i, i < sn → 0 ≤ zs.getD i 0 ∧ zs.getD i 0 < (en : Int)) (cl : Nat → Bool) (hcl : ∀ q : Nat × Nat, q.1 < 8 → q.2 < 8 → cl (ixP8 q) = decide (q ∈ toN bs)) (r : Bool × Nat × (Nat × List (List UInt8))) (hr : r = runL cl (toN S) (wayE (zs.take sn) E)) :
    Calls Try.prog 8 #[.agg #[.int .i64 gw, .int .i64 gh, .slice ba n c], .slice sa sn sc, .slice ea en ec, .slice za zn zc, .int .i64 1000000] w fun e w' => ∃ (fv : Value) (fd : Nat), e = .returned (.tuple #[.int .i64 (r.2.2.1 : Int), fv, .int .i64 (fd : Int), .int .i64 (r.2.1 : Int)]) ∧ Hid (0 < fd ↔ 0 < r.2.2.1) ∧ Hid (OwTx w' 0 fv r.2.2.2) ∧ Hid (Below w.heap.size w w') := by
  have HP : Hid (PtI w ba bs) := hP
  have HN := hid_w (And.intro hn (And.intro hsn (And.intro hen hzn)))
  have HNn := hid_w hnn
  have HR := hid_w hr
  obtain ⟨mc, HMc⟩ : ∃ mc : Int, Hid (mc = 1000000) := ⟨_, rfl⟩
  obtain ⟨b, HB⟩ : ∃ b, Hid (b = w.heap.size) := ⟨_, rfl⟩
  obtain ⟨W0, HW0⟩ : ∃ W0, Hid (W0 = ((((((((w.alloc (.cells #[.int .i64 gw, .int .i64 gh, .slice ba n c] 24)).alloc (.cells #[.slice sa sn sc] 22)).alloc (.cells #[.slice ea en ec] 22)).alloc (.cells #[.slice za zn zc] 25)).alloc (.cells #[.int .i64 mc] 3)).alloc (.cells #[.int .i64 0] 3)).alloc (.cells #[.slice none 0 0] 29)).alloc (.cells #[.int .i64 0] 3)).alloc (.cells #[.int .i64 0] 3)) := ⟨_, rfl⟩
  have H9 := hid_w (nine_allocs w _ _ _ _ _ _ _ _ _ W0 HW0.out)
  rw [← HB.out] at H9
  have g2 : W0.cell? ⟨b, 2, none⟩ = some (.slice ba n c) := by rw [cell_of_row W0 b 2 _ _ _ H9.out.2.1]; rfl
  have HPb : Hid (PtI W0 ba bs) := hP.below (by have := H9.out.2.2.2.2.2.2.2.2.2.2; rw [HB.out] at this; exact this)
  have HLb : Hid (bs.length ≤ 8796093022208) := by show _ ≤ _; rw [← hn]; omega
  rw [← HMc.out]
  clear hP hn hsn hen hzn hnn hr
  go_enter Try.func8, Try.ntmps8
  go_upto_region 1 with fail
  obtain ⟨x8, HX8⟩ : ∃ x, Hid (x = w.heap.size + 1 + 1 + 1 + 1 + 1 + 1 + 1 + 1) := ⟨_, rfl⟩
  obtain ⟨x7, HX7⟩ : ∃ x, Hid (x = w.heap.size + 1 + 1 + 1 + 1 + 1 + 1 + 1) := ⟨_, rfl⟩
  obtain ⟨x6, HX6⟩ : ∃ x, Hid (x = w.heap.size + 1 + 1 + 1 + 1 + 1 + 1) := ⟨_, rfl⟩
  obtain ⟨x5, HX5⟩ : ∃ x, Hid (x = w.heap.size + 1 + 1 + 1 + 1 + 1) := ⟨_, rfl⟩
  obtain ⟨x4, HX4⟩ : ∃ x, Hid (x = w.heap.size + 1 + 1 + 1 + 1) := ⟨_, rfl⟩
  obtain ⟨x3, HX3⟩ : ∃ x, Hid (x = w.heap.size + 1 + 1 + 1) := ⟨_, rfl⟩
  obtain ⟨x2, HX2⟩ : ∃ x, Hid (x = w.heap.size + 1 + 1) := ⟨_, rfl⟩
  obtain ⟨x1, HX1⟩ : ∃ x, Hid (x = w.heap.size + 1) := ⟨_, rfl⟩
  rw [← HX8.out, ← HX7.out, ← HX6.out, ← HX5.out, ← HX4.out, ← HX3.out, ← HX2.out, ← HX1.out, ← HB.out, ← HW0.out]
  have HXs : Hid (x1 = b + 1 ∧ x2 = b + 2 ∧ x3 = b + 3 ∧ x4 = b + 4 ∧ x5 = b + 5 ∧ x6 = b + 6 ∧ x7 = b + 7 ∧ x8 = b + 8 ∧ W0.heap.size = b + 9) := by
    have h := H9.out.1
    rw [HX1.out, HX2.out, HX3.out, HX4.out, HX5.out, HX6.out, HX7.out, HX8.out, h, HB.out]
    exact ⟨rfl, rfl, rfl, rfl, rfl, rfl, rfl, rfl, rfl⟩
  go_wp2_with (at_builtin; refine append_copy rfl _ _ rfl rfl rfl HPb.out HN.out.1 HNn.out HLb.out ?_)
  intro v1 W1 hO1 hb1
  have HO1 := hid_w hO1
  have HB1 := hid_w hb1
  obtain ⟨a1, c1, hv1, -, -⟩ := hO1.open
  obtain ⟨n1, HN1⟩ : ∃ n1, Hid (n1 = bs.length) := ⟨_, rfl⟩
  rw [← HN1.out] at hv1
  obtain ⟨gv, HGv⟩ : ∃ gv, Hid (gv = v1) := ⟨_, rfl⟩
  rw [← HGv.out] at HO1
  subst hv1
  clear hO1 hb1 g2
  have HSh := hid_w hS
  have HEh := hid_w hE
  have HZh := hid_w hZ
  obtain ⟨xg, HXg⟩ : ∃ x, Hid (x = W1.heap.size) := ⟨_, rfl⟩
  obtain ⟨xn, HXn⟩ : ∃ x, Hid (x = W1.heap.size + 1) := ⟨_, rfl⟩
  obtain ⟨xf, HXf⟩ : ∃ x, Hid (x = W1.heap.size + 1 + 1) := ⟨_, rfl⟩
  obtain ⟨fn, HFn⟩ : ∃ fn, Hid (fn = Value.func (.func 20) #[] #[.pointer (some ⟨xg, 0, none⟩), .pointer (some ⟨x8, 0, none⟩), .pointer (some ⟨x4, 0, none⟩), .pointer (some ⟨x2, 0, none⟩), .pointer (some ⟨x3, 0, none⟩), .pointer (some ⟨xn, 0, none⟩), .pointer (some ⟨x1, 0, none⟩), .pointer (some ⟨xf, 0, none⟩), .pointer (some ⟨x5, 0, none⟩), .pointer (some ⟨x6, 0, none⟩), .pointer (some ⟨x7, 0, none⟩)]) := ⟨_, rfl⟩
  obtain ⟨W4, HW4⟩ : ∃ W4, Hid (W4 = ((W1.alloc (.cells #[gv] 22)).alloc (.cells #[.slice none 0 0] 29)).alloc (.cells #[fn] 54)) := ⟨_, rfl⟩
  have H3 : Hid (W4.heap.size = W1.heap.size + 3 ∧ W4.heap[xg]? = some (.cells #[gv] 22 (0, 0)) ∧ W4.heap[xn]? = some (.cells #[.slice none 0 0] 29 (0, 0)) ∧ W4.heap[xf]? = some (.cells #[fn] 54 (0, 0)) ∧ Below W1.heap.size W1 W4) := by
    have hh : W4.heap = ((W1.heap.push (.cells #[gv] 22)).push (.cells #[.slice none 0 0] 29)).push (.cells #[fn] 54) := by rw [HW4.out]; rfl
    refine ⟨by rw [hh]; simp, ?_, ?_, ?_, ?_⟩
    · rw [hh, HXg.out]; simp only [Array.getElem?_push, Array.size_push]; repeat (first | rw [if_pos trivial] | rw [if_pos (by omega)] | rw [if_neg (by omega)])
    · rw [hh, HXn.out]; simp only [Array.getElem?_push, Array.size_push]; repeat (first | rw [if_pos trivial] | rw [if_pos (by omega)] | rw [if_neg (by omega)])
    · rw [hh, HXf.out]; simp only [Array.getElem?_push, Array.size_push]; repeat (first | rw [if_pos trivial] | rw [if_pos (by omega)] | rw [if_neg (by omega)])
    · rw [HW4.out]
      refine ⟨rfl, rfl, rfl, ?_, fun k hk => ?_⟩
      · show W1.heap.size ≤ (((W1.heap.push _).push _).push _).size
        simp; omega
      · show (((W1.heap.push _).push _).push _)[k]? = _
        simp only [Array.getElem?_push, Array.size_push]
        rw [if_neg (by omega), if_neg (by omega), if_neg (by omega)]
  have HW1s : Hid (b + 9 ≤ W1.heap.size) := by show _ ≤ _; have h1 := HB1.out.size; have h2 := HXs.out.2.2.2.2.2.2.2.2; omega
  have HBl : Hid (∀ k, k < b + 9 → W4.heap[k]? = W0.heap[k]?) := fun k hk => by
    have h1 := HW1s.out
    have h2 := HXs.out.2.2.2.2.2.2.2.2
    rw [H3.out.2.2.2.2.block k (by omega), HB1.out.block k (by omega)]
  have HBw : Hid (Below w.heap.size w W4) := by
    have h0 : Below w.heap.size w W0 := by have := H9.out.2.2.2.2.2.2.2.2.2.2; rw [HB.out] at this; exact this
    exact (h0.trans (HB1.out.mono h0.size)).trans (H3.out.2.2.2.2.mono (Nat.le_trans h0.size HB1.out.size))
  obtain ⟨V, HVd⟩ : ∃ V : DEn, Hid (V = { lo := b + 9, hi := W4.heap.size, g := xg, s := x8, m := x4, e := x2, y := x3, n := xn, t := x1, f := xf, c := x5, r := x6, d := x7, w0 := W4, S := toN S, E := wayE (zs.take sn) E, ea := ea, en := en, ec := ec, sa := sa, sc := sc, ya := za, yn := zn, yc := zc, El := E, zs := zs }) := ⟨_, rfl⟩
  have HVok : Hid V.ok := by
    obtain ⟨y1, y2, y3, y4, y5, y6, y7, y8, y9⟩ := HXs.out
    have h1 := HW1s.out
    have h3 := H3.out.1
    have zg := HXg.out
    have zn' := HXn.out
    have zf := HXf.out
    have hb := HBl.out
    have hwb : w.heap.size = b := HB.out.symm
    have hq : ∀ q, q < w.heap.size → q < V.lo ∧ ¬ V.six q := fun q hq => by
      rw [HVd.out]
      refine ⟨by show q < b + 9; omega, ?_⟩
      rintro (h | h | h | h | h | h) <;> (dsimp only at h; omega)
    rw [HVd.out] at hq
    show V.ok
    rw [HVd.out]
    refine ⟨?_, ?_, ?_, Nat.le_refl _, ?_, ?_, ?_, ?_, ?_, ⟨HEh.out.below HBw.out, HN.out.2.2.1, he4⟩, ⟨HZh.out.below HBw.out, HN.out.2.2.2, ?_, hz4⟩, ?_, ?_, ?_, ⟨?_, ?_⟩, ?_, ?_⟩
    · rintro k ((h | h | h | h | h | h) | h | h | h | h | h) <;> (dsimp only at h ⊢; omega)
    · dsimp only; omega
    · dsimp only
      simp only [List.nodup_cons, List.mem_cons, List.not_mem_nil, not_or, or_false, not_false_eq_true, List.nodup_nil, and_true]
      repeat' apply And.intro
      all_goals omega
    · dsimp only
      rw [hb x4 (by omega), y4, H9.out.2.2.2.2.2.1, HMc.out]
    · dsimp only
      rw [hb x2 (by omega), y2, H9.out.2.2.2.1]
    · dsimp only
      rw [hb x3 (by omega), y3, H9.out.2.2.2.2.1]
    · dsimp only
      rw [hb x1 (by omega), y1, H9.out.2.2.1, toN_length, ← HN.out.2.1]
    · dsimp only
      rw [H3.out.2.2.2.1, HFn.out]; rfl
    · dsimp only
      rw [toN_length]; have := HN.out.2.1; omega
    · dsimp only
      rw [toN_length, ← HN.out.2.1]
      exact HSh.out.psh HBw.out gw gh hgS hq sc sn HN.out.2.1 hsc
    · intro b' off he hne
      obtain ⟨b2, o2, e2, hb2, -⟩ := HEh.out 0 (by dsimp only at hne; omega)
      dsimp only at he
      rw [e2] at he
      simp only [Option.some.injEq, Addr.mk.injEq, and_true] at he
      rw [← he.1]; exact hq b2 hb2
    · intro b' off he hne
      obtain ⟨b2, o2, e2, hb2, -⟩ := HZh.out.cells (by intro q; dsimp only at hne; rw [q] at hne; exact hne rfl)
      dsimp only at he
      rw [e2] at he
      simp only [Option.some.injEq, Addr.mk.injEq, and_true] at he
      rw [← he.1]; exact hq b2 hb2
    · dsimp only
      rw [toN_length]; have := HN.out.2.1; omega
    · dsimp only
      rw [toN_length, wayE, List.length_map, List.length_take]; have := HN.out; omega
    · intro i hi
      dsimp only at hi ⊢
      rw [toN_length] at hi
      have hzl := HN.out
      rw [way_at (zs := zs) (sn := sn) (i := i) (by omega) (by omega) E]
      have g1 := ptD_lt hgS hw8 hh8 i
      have g2 := ptD_lt hgE hw8 hh8 (zs.getD i 0).toNat
      exact ⟨g1.1, g1.2, g2.1, g2.2⟩
    · intro i hi
      dsimp only at hi ⊢
      rw [toN_length] at hi
      have hzl := HN.out
      have hz := hzb i (by omega)
      rw [way_at (zs := zs) (sn := sn) (i := i) (by omega) (by omega) E]
      exact ⟨hz.1, hz.2, getD_toN hgE (by omega)⟩
  have HD4 : Hid (DLk V W4 gv (.slice none 0 0) (.slice none 0 0) (toN bs) [] 0 (0, []) 0) := by
    obtain ⟨y1, y2, y3, y4, y5, y6, y7, y8, y9⟩ := HXs.out
    have h1 := HW1s.out
    have h3 := H3.out.1
    have zg := HXg.out
    have zn' := HXn.out
    have zf := HXf.out
    have hb := HBl.out
    show DLk V _ _ _ _ _ _ _ _ _
    rw [HVd.out]
    refine ⟨fun k _ _ => rfl, Nat.le_refl _, ?_, H3.out.2.1, ?_, H3.out.2.2.1, ?_, ?_, ?_, ?_, World.ownsRow_nil _ _ _ _, World.ownsRow_nil _ _ _ _, (fun k e => by cases e), ⟨Nat.le_refl _, Nat.le_refl _, Iff.rfl⟩⟩
    · rintro k (q | q | q)
      · have h5 := World.ownsRow.lt HO1.out k q
        refine ⟨?_, by dsimp only; omega⟩
        rintro (h | h | h | h | h | h) <;> (dsimp only at h; omega)
      · cases q
      · cases q
    · dsimp only
      rw [hb x8 (by omega), y8, H9.out.2.2.2.2.2.2.2.2.2.1]; rfl
    · dsimp only
      rw [hb x5 (by omega), y5, H9.out.2.2.2.2.2.2.1]; rfl
    · dsimp only
      rw [hb x6 (by omega), y6, H9.out.2.2.2.2.2.2.2.1]
    · dsimp only
      rw [hb x7 (by omega), y7, H9.out.2.2.2.2.2.2.2.2.1]; rfl
    · dsimp only
      rw [toI_toN bs hbs, ← y9]
      exact HO1.out.below H3.out.2.2.2.2
  have HRl : Hid (DRel V 0 (ptD (toN S) 0) 64 [] (toN bs) [] 0 cl (List.replicate sn [])) := by
    have el : ∀ i, (List.replicate sn ([] : List UInt8)).getD i [] = [] := fun i => by
      simp only [List.getD, List.getElem?_replicate]
      split <;> rfl
    have hS' : V.S = toN S := by rw [HVd.out]
    have hE' : V.E = wayE (zs.take sn) E := by rw [HVd.out]
    have hl4 : (toN S).length = sn := by rw [toN_length, HN.out.2.1]
    have hsm := HVok.out.small
    have g1 := ptD_lt hgS hw8 hh8 0
    refine ⟨by rw [hS', hl4]; exact hs0, g1, Nat.zero_le _, ?_, rfl, (el 0).symm, by rw [hS', hl4]; simp, fun j _ => el j, hcl, ?_, by simp⟩
    · have h1 := fuS_step V.S V.E 0 (by rw [hS', hl4]; exact hs0)
      have h2 := fuS_le V.S V.E hsm.1 (fun i hi => (HVok.out.pts i hi).2.2) V.S.length 0 (by omega)
      have h3 : fuN V.S V.E 0 (ptD (toN S) 0) = fuS V.S V.E 0 := by unfold fuN; rw [h1, hS']
      rw [h3]
      have h4 := hsm.1
      omega
    · rw [toN_length, ← HN.out.1]; omega
  have HSn : Hid (S.getD 0 (0, 0) = (((ptD (toN S) 0).1 : Int), ((ptD (toN S) 0).2 : Int))) := getD_toN hgS (by rw [← HN.out.2.1]; exact hs0)
  obtain ⟨sx, sy, HSx⟩ : ∃ sx sy, Hid (ptD (toN S) 0 = (sx, sy)) := ⟨_, _, rfl⟩
  obtain ⟨sb, so, hsa, hsb, k0, k1⟩ := (HSh.out.below HBw.out) 0 (by rw [← HN.out.2.1]; exact hs0)
  rw [HSn.out, HSx.out] at k0 k1
  have HF1 : Hid (W4.heap[x1]? = some (.cells #[.slice sa sn sc] 22 (0, 0))) := by
    show _ = _
    have hx := HXs.out
    rw [HBl.out x1 (by omega), hx.1, H9.out.2.2.1]
  have f1 : W4.cell? ⟨x1, 0, none⟩ = some (.slice sa sn sc) := by rw [cell_of_row W4 x1 0 _ _ _ HF1.out]; rfl
  have hsn0 : ((sn : Int) == 0) = false := by simp; omega
  have z0 : W4.drew.cell? ⟨xf, 0, none⟩ = some (.func (.func 20) #[] #[.pointer (some ⟨xg, 0, none⟩), .pointer (some ⟨x8, 0, none⟩), .pointer (some ⟨x4, 0, none⟩), .pointer (some ⟨x2, 0, none⟩), .pointer (some ⟨x3, 0, none⟩), .pointer (some ⟨xn, 0, none⟩), .pointer (some ⟨x1, 0, none⟩), .pointer (some ⟨xf, 0, none⟩), .pointer (some ⟨x5, 0, none⟩), .pointer (some ⟨x6, 0, none⟩), .pointer (some ⟨x7, 0, none⟩)]) := by
    rw [cell_of_row W4.drew xf 0 _ _ _ H3.out.2.2.2.1, HFn.out]; rfl
  have HDd := HD4.out.below HVok.out (below_drewN (Below.refl _ W4) 1)
  have HCs : Hid (Calls Try.prog 20 #[.int .i64 0, .agg #[.int .i64 (sx : Int), .int .i64 (sy : Int)], .string ⟨#[]⟩, .pointer (some ⟨xg, 0, none⟩), .pointer (some ⟨x8, 0, none⟩), .pointer (some ⟨x4, 0, none⟩), .pointer (some ⟨x2, 0, none⟩), .pointer (some ⟨x3, 0, none⟩), .pointer (some ⟨xn, 0, none⟩), .pointer (some ⟨x1, 0, none⟩), .pointer (some ⟨xf, 0, none⟩), .pointer (some ⟨x5, 0, none⟩), .pointer (some ⟨x6, 0, none⟩), .pointer (some ⟨x7, 0, none⟩)] W4.drew fun e w' => e = .returned (.bool r.1) ∧ Hid (∃ gv' nv' fv' fd', DLk V w' gv' nv' fv' (toN bs) [] r.2.1 r.2.2 fd' ∧ DFr V W4 gv (.slice none 0 0) (.slice none 0 0) w' gv' nv' fv')) := by
    have hc := frC_all HVok.out 64 0 (ptD (toN S) 0) [] W4.drew gv (.slice none 0 0) (.slice none 0 0) (toN bs) [] 0 (0, []) 0 cl (List.replicate sn []) HDd.1 HRl.out
    have er : goF V.S V.E fndL 64 0 (ptD (toN S) 0) cl (List.replicate sn []) 0 (0, []) = r := by
      rw [HR.out, HVd.out]; unfold runL
      rw [toN_length, ← HN.out.2.1]
    rw [er, HSx.out] at hc
    rw [HVd.out] at hc
    refine Calls.mono hc ?_
    rintro e w' ⟨he, g', n', f', d', q1, q2⟩
    rw [← HVd.out] at q1 q2
    exact ⟨he, g', n', f', d', q1.out, HDd.2.trans q2.out⟩
  go_upto_region 5 with fail
  rw [← HXf.out, ← HXn.out, ← HXg.out, ← HGv.out, ← HFn.out, ← HW4.out]
  go_upto_region 7 with fail
  subst hsa
  have z1 : W4.drew.cell? ⟨x1, 0, none⟩ = some (.slice (some ⟨sb, so, none⟩) sn sc) := f1
  have z2 : W4.drew.cell? ⟨sb, so, none⟩ = some (.int .i64 (sx : Int)) := k0
  have z3 : W4.drew.cell? ⟨sb, so + 1, none⟩ = some (.int .i64 (sy : Int)) := k1
  have hsn0' : (0 : Int) < (sn : Int) := by omega
  clear f1 k0 k1 HDd
  go_cut [28] (fun s28 wx => s28 = .bool r.1 ∧ Hid (∃ gv' nv' fv' fd', DLk V wx gv' nv' fv' (toN bs) [] r.2.1 r.2.2 fd' ∧ DFr V W4 gv (.slice none 0 0) (.slice none 0 0) wx gv' nv' fv'))
  case first =>
    go_region_with (go_at_call 20; (refine HCs.out.mono ?_); rintro e W5 ⟨rfl, H5⟩)
    all_goals (
      go_wp2_with fail
      go_meet
      exact ⟨rfl, H5⟩)
  obtain ⟨rfl, H5⟩ := hcut
  obtain ⟨gv5, nv5, fv5, fd5, hD5, hF5⟩ := H5.out
  obtain ⟨W5, hW5⟩ : ∃ W5 : World, W5 = wc := ⟨_, rfl⟩
  subst hW5
  obtain ⟨m5, HM5⟩ : ∃ m5, Hid (m5 = r.2.2.1) := ⟨_, rfl⟩
  obtain ⟨s5, HS5⟩ : ∃ s5, Hid (s5 = r.2.1) := ⟨_, rfl⟩
  have hc5 : W5.heap[x5]? = some (.cells #[.int .i64 (m5 : Int)] 3 (0, 0)) := by have h := hD5.c; rw [HVd.out] at h; rw [HM5.out]; exact h
  have hr5 : W5.heap[x6]? = some (.cells #[fv5] 29 (0, 0)) := by have h := hD5.r; rw [HVd.out] at h; exact h
  have hd5 : W5.heap[x7]? = some (.cells #[.int .i64 (fd5 : Int)] 3 (0, 0)) := by have h := hD5.d; rw [HVd.out] at h; exact h
  have hs5 : W5.heap[x8]? = some (.cells #[.int .i64 (s5 : Int)] 3 (0, 0)) := by have h := hD5.s; rw [HVd.out] at h; rw [HS5.out]; exact h
  have HOf : Hid (OwTx W5 0 fv5 r.2.2.2) := ownsRow_down hD5.of_ (Nat.zero_le _)
  have HNu := hid_w hD5.num.2.2
  have HBf : Hid (Below w.heap.size w W5) := by
    have hso := (SmO.of HBw.out).trans hF5.smo
    refine ⟨hso.1, hso.2.1, hso.2.2, Nat.le_trans HBw.out.size hF5.size, fun q hq => ?_⟩
    have hx := HXs.out
    have hwb := HB.out
    have h1 := HW1s.out
    have zg := HXg.out
    have zn' := HXn.out
    have h4 := HBw.out.size
    rw [hF5.block q (Nat.lt_of_lt_of_le hq h4) (fun h => by
      rw [HVd.out] at h
      rcases h with h | h | h | h | h | h <;> (dsimp only at h; omega)) (fun h => by
      have h5 := (HD4.out.bl h).1
      rw [HVd.out] at h5
      dsimp only at h5
      omega)]
    exact HBw.out.block q hq
  obtain ⟨fa, fc, hfv⟩ := HOf.out.shape
  obtain ⟨fl, HFl⟩ : ∃ fl, Hid (fl = r.2.2.2.length) := ⟨_, rfl⟩
  rw [← HFl.out] at hfv
  subst hfv
  have a1 : ∀ k, (W5.setCell ⟨x5, 0, none⟩ (.int .i64 (m5 : Int))).heap[k]? = W5.heap[k]? := same_store hc5
  have a2 : ∀ k, ((W5.setCell ⟨x5, 0, none⟩ (.int .i64 (m5 : Int))).setCell ⟨x6, 0, none⟩ (.slice fa fl fc)).heap[k]? = W5.heap[k]? := fun k => by rw [same_store (by rw [a1]; exact hr5) k]; exact a1 k
  have a3 : ∀ k, (((W5.setCell ⟨x5, 0, none⟩ (.int .i64 (m5 : Int))).setCell ⟨x6, 0, none⟩ (.slice fa fl fc)).setCell ⟨x7, 0, none⟩ (.int .i64 (fd5 : Int))).heap[k]? = W5.heap[k]? := fun k => by rw [same_store (by rw [a2]; exact hd5) k]; exact a2 k
  obtain ⟨A4, HA4⟩ : ∃ A4, Hid (A4 = ((((W5.setCell ⟨x5, 0, none⟩ (.int .i64 (m5 : Int))).setCell ⟨x6, 0, none⟩ (.slice fa fl fc)).setCell ⟨x7, 0, none⟩ (.int .i64 (fd5 : Int))).setCell ⟨x8, 0, none⟩ (.int .i64 (s5 : Int))).drew) := ⟨_, rfl⟩
  have a4 : ∀ k, A4.heap[k]? = W5.heap[k]? := fun k => by
    rw [HA4.out]
    exact (same_store (by rw [a3]; exact hs5) k).trans (a3 k)
  have b1 : W5.drew.cell? ⟨x5, 0, none⟩ = some (.int .i64 (m5 : Int)) := by rw [cell_of_row W5.drew x5 0 _ _ _ hc5]; rfl
  have b2 : W5.drew.cell? ⟨x6, 0, none⟩ = some (.slice fa fl fc) := by rw [cell_of_row W5.drew x6 0 _ _ _ hr5]; rfl
  have b3 : W5.drew.cell? ⟨x7, 0, none⟩ = some (.int .i64 (fd5 : Int)) := by rw [cell_of_row W5.drew x7 0 _ _ _ hd5]; rfl
  have b4 : W5.drew.cell? ⟨x8, 0, none⟩ = some (.int .i64 (s5 : Int)) := by rw [cell_of_row W5.drew x8 0 _ _ _ hs5]; rfl
  have b5 : W5.drew.frozen? ⟨x5, 0, none⟩ = false := frozen_of_row W5.drew x5 0 _ _ hc5
  have b6 : (W5.setCell ⟨x5, 0, none⟩ (.int .i64 (m5 : Int))).drew.cell? ⟨x6, 0, none⟩ = some (.slice fa fl fc) := by rw [cell_of_row (W5.setCell ⟨x5, 0, none⟩ (.int .i64 (m5 : Int))).drew x6 0 _ _ _ ((a1 x6).trans hr5)]; rfl
  have b7 : (W5.setCell ⟨x5, 0, none⟩ (.int .i64 (m5 : Int))).drew.frozen? ⟨x6, 0, none⟩ = false := frozen_of_row (W5.setCell ⟨x5, 0, none⟩ (.int .i64 (m5 : Int))).drew x6 0 _ _ ((a1 x6).trans hr5)
  have b8 : ((W5.setCell ⟨x5, 0, none⟩ (.int .i64 (m5 : Int))).setCell ⟨x6, 0, none⟩ (.slice fa fl fc)).drew.cell? ⟨x7, 0, none⟩ = some (.int .i64 (fd5 : Int)) := by rw [cell_of_row ((W5.setCell ⟨x5, 0, none⟩ (.int .i64 (m5 : Int))).setCell ⟨x6, 0, none⟩ (.slice fa fl fc)).drew x7 0 _ _ _ ((a2 x7).trans hd5)]; rfl
  have b9 : ((W5.setCell ⟨x5, 0, none⟩ (.int .i64 (m5 : Int))).setCell ⟨x6, 0, none⟩ (.slice fa fl fc)).drew.frozen? ⟨x7, 0, none⟩ = false := frozen_of_row ((W5.setCell ⟨x5, 0, none⟩ (.int .i64 (m5 : Int))).setCell ⟨x6, 0, none⟩ (.slice fa fl fc)).drew x7 0 _ _ ((a2 x7).trans hd5)
  have b10 : (((W5.setCell ⟨x5, 0, none⟩ (.int .i64 (m5 : Int))).setCell ⟨x6, 0, none⟩ (.slice fa fl fc)).setCell ⟨x7, 0, none⟩ (.int .i64 (fd5 : Int))).drew.cell? ⟨x8, 0, none⟩ = some (.int .i64 (s5 : Int)) := by rw [cell_of_row (((W5.setCell ⟨x5, 0, none⟩ (.int .i64 (m5 : Int))).setCell ⟨x6, 0, none⟩ (.slice fa fl fc)).setCell ⟨x7, 0, none⟩ (.int .i64 (fd5 : Int))).drew x8 0 _ _ _ ((a3 x8).trans hs5)]; rfl
  have b11 : (((W5.setCell ⟨x5, 0, none⟩ (.int .i64 (m5 : Int))).setCell ⟨x6, 0, none⟩ (.slice fa fl fc)).setCell ⟨x7, 0, none⟩ (.int .i64 (fd5 : Int))).drew.frozen? ⟨x8, 0, none⟩ = false := frozen_of_row (((W5.setCell ⟨x5, 0, none⟩ (.int .i64 (m5 : Int))).setCell ⟨x6, 0, none⟩ (.slice fa fl fc)).setCell ⟨x7, 0, none⟩ (.int .i64 (fd5 : Int))).drew x8 0 _ _ ((a3 x8).trans hs5)
  have b12 : (W5.setCell ⟨x5, 0, none⟩ (.int .i64 (m5 : Int))).drew.cell? ⟨x7, 0, none⟩ = some (.int .i64 (fd5 : Int)) := by rw [cell_of_row (W5.setCell ⟨x5, 0, none⟩ (.int .i64 (m5 : Int))).drew x7 0 _ _ _ ((a1 x7).trans hd5)]; rfl
  have b13 : (W5.setCell ⟨x5, 0, none⟩ (.int .i64 (m5 : Int))).drew.cell? ⟨x8, 0, none⟩ = some (.int .i64 (s5 : Int)) := by rw [cell_of_row (W5.setCell ⟨x5, 0, none⟩ (.int .i64 (m5 : Int))).drew x8 0 _ _ _ ((a1 x8).trans hs5)]; rfl
  have b14 : ((W5.setCell ⟨x5, 0, none⟩ (.int .i64 (m5 : Int))).setCell ⟨x6, 0, none⟩ (.slice fa fl fc)).drew.cell? ⟨x8, 0, none⟩ = some (.int .i64 (s5 : Int)) := by rw [cell_of_row ((W5.setCell ⟨x5, 0, none⟩ (.int .i64 (m5 : Int))).setCell ⟨x6, 0, none⟩ (.slice fa fl fc)).drew x8 0 _ _ _ ((a2 x8).trans hs5)]; rfl
  have c1 : A4.cell? ⟨x5, 0, none⟩ = some (.int .i64 (m5 : Int)) := by rw [cell_of_row A4 x5 0 _ _ _ ((a4 x5).trans hc5)]; rfl
  have c2 : A4.cell? ⟨x6, 0, none⟩ = some (.slice fa fl fc) := by rw [cell_of_row A4 x6 0 _ _ _ ((a4 x6).trans hr5)]; rfl
  have c3 : A4.cell? ⟨x7, 0, none⟩ = some (.int .i64 (fd5 : Int)) := by rw [cell_of_row A4 x7 0 _ _ _ ((a4 x7).trans hd5)]; rfl
  have c4 : A4.cell? ⟨x8, 0, none⟩ = some (.int .i64 (s5 : Int)) := by rw [cell_of_row A4 x8 0 _ _ _ ((a4 x8).trans hs5)]; rfl
  have HOA : Hid (OwTx A4 0 (.slice fa fl fc) r.2.2.2) := HOf.out.same fun q _ => a4 q
  have HBA : Hid (Below w.heap.size w A4) := by
    refine ⟨?_, ?_, ?_, ?_, fun q hq => by rw [a4 q]; exact HBf.out.block q hq⟩
    · rw [HA4.out]; exact HBf.out.os
    · rw [HA4.out]; exact HBf.out.tape
    · rw [HA4.out]; exact HBf.out.output
    · rw [HA4.out]; have h := HBf.out.size; simpa using h
  clear hD5 hF5 hc5 hr5 hd5 hs5 a1 a2 a3 a4 H5 HCs z0 z1 z2 z3
  go_upto_region 8 with fail
  go_region
  rw [← HA4.out]
  go_wp2_with fail
  refine bodyPost_ret (v := .tuple #[.int .i64 (m5 : Int), .slice fa fl fc, .int .i64 (fd5 : Int), .int .i64 (s5 : Int)]) ?_ rfl ⟨.slice fa fl fc, fd5, by rw [HM5.out, HS5.out], HNu, HOA, HBA⟩
  simp [results, Try.results8, go_sem, c1, c2, c3, c4]

end Go.Proofs.Ythdojdkghhmfcaa
