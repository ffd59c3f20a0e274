/-
  The contract of ferref.Rights.
-/
import Derived.Test.YtncokoimbpkapaaRyI
import Derived.BigQuiet
import Derived.Deep.DeepCutAuto
import Derived.Deep.RegionLaw
import Derived.Deep.LoopGhost
import Derived.Test.YtncokoimbpkapaaRxA
import Derived.Test.YtncokoimbpkapaaRxC
import Derived.Test.YtncokoimbpkapaaRxD
import Derived.Test.YtncokoimbpkapaaRxE
namespace Go.Proofs.Ytncokoimbpkapaa
open Go.RowKit

/-- What ferref.Rights lists ahead of sorting. -/
def rightsF (al bl cl : List Nat) : List (List (List Nat)) := if al.sum + bl.sum = cl.sum ∧ inB al cl = true then refL al (bOf bl) (fun r => cl.getD r 0) cl.length bl.length else []
/-- The first i rows of noughts. -/
def stR (al : List Nat) (i : Nat) : List (List Nat) := (al.take i).map fun k => List.replicate k 0
theorem stR_succ {al : List Nat} {i : Nat} (h : i < al.length) : stR al (i + 1) = stR al i ++ [List.replicate (al.getD i 0) 0] := by
  unfold stR
  rw [List.take_succ_eq_append_getElem h, List.map_append]
  simp [List.getD, h]
theorem castL_rep (k : Nat) : castL (List.replicate k 0) = List.replicate k 0 := by simp [castL]

theorem hid_h {p : Prop} (h : p) : Hid p := h
/-- What it shows. -/
theorem Cub.shows9 {w : World} {lo : Nat} {v : Value} {us : List Value} {ts : List (List (List Int))} (h : Cub noB w lo v us ts) : ∃ a c, v = .slice a ts.length c ∧ ∀ k, k < ts.length → ∃ b off ai ci, a = some ⟨b, off, none⟩ ∧ b < w.heap.size ∧ w.cell? ⟨b, off + k, none⟩ = some (.slice ai (ts.getD k []).length ci) ∧ Table w ai (ts.getD k []) := by
  have ho := h.own
  have hl := h.len
  rcases ho.2 with ⟨hv, h0⟩ | ⟨g, cap, cur, hv, hg, hh, hnc, hcm, hcs, htk⟩
  · exact ⟨none, 0, by rw [hv]; congr 1; omega, fun k hk => by omega⟩
  · rw [hl] at hv
    refine ⟨some ⟨g, 0, none⟩, cap, hv, fun k hk => ?_⟩
    obtain ⟨a, c, e1, e2⟩ := h.el k hk
    rw [hv, hl] at ho
    refine ⟨g, 0, a, c, rfl, (ho.lt g rfl).2, ?_, e2 w (fun _ _ _ _ => rfl) (Nat.le_refl _)⟩
    rw [Nat.zero_add, World.ownsRow.cellAt ho k (by omega), rowv_get (by omega), e1]
theorem Cub.mono {w : World} {lo lo' : Nat} {v : Value} {us : List Value} {ts : List (List (List Int))} (h : Cub noB w lo v us ts) (hl : lo' ≤ lo) : Cub noB w lo' v us ts := by
  refine ⟨⟨h.own.1, ?_⟩, h.len, h.el⟩
  rcases h.own.2 with q | ⟨g, cap, cur, hv, hg, r⟩
  · exact Or.inl q
  · exact Or.inr ⟨g, cap, cur, hv, by omega, r⟩
/-- A list of one table. -/
theorem Cub.one {w w1 : World} {u : Value} {t : List (List Nat)} (hb : Below w.heap.size w w1) (hT : Tbl w1 w.heap.size u (castT t)) (ht : ∀ r ∈ t, r.length ≤ 1000 ∧ ∀ z ∈ r, z ≤ 1000) : Cub noB (w1.alloc (.cells #[u] 35)) w.heap.size (.slice (some ⟨w1.heap.size, 0, none⟩) 1 1) [u] [castT t] := by
  have h := (Cub.nil w w.heap.size).push (w2 := w1.alloc (.cells #[u] 35)) (v2 := .slice (some ⟨w1.heap.size, 0, none⟩) 1 1) hb hT ht ⟨by simp, Or.inr ⟨w1.heap.size, 1, #[u], rfl, hb.size, heap_alloc_new _ _, by simp, by unfold maxLen; omega, by simp, by simp⟩⟩ ⟨by simp, fun k hk _ => Below.heap_alloc _ _ _ hk, fun g hg => Or.inr (by cases hg; exact Nat.le_refl _)⟩
  simpa using h

set_option maxHeartbeats 8000000 in
set_option maxRecDepth 100000 in
theorem Rights_c (aa ab ac : Option Addr) (na nb nc ca cb cc : Nat) (al bl cl : List Nat) (w : World) (Post : Value → World → Prop)
    (HA : Hid (Shows w aa (castL al))) (HNa : Hid (na = al.length)) (hna : na ≤ 1000) (hnb : nb ≤ 1000) (HAz : Hid (∀ z ∈ al, z ≤ 1000))
    (H1 : Hid (Calls Try.prog 17 #[.slice aa na ca] w fun e w' => e = .returned (.int .i64 (al.sum : Int)) ∧ w' = w))
    (H2 : Hid (Calls Try.prog 17 #[.slice ab nb cb] w fun e w' => e = .returned (.int .i64 (bl.sum : Int)) ∧ w' = w))
    (H3 : Hid (Calls Try.prog 17 #[.slice ac nc cc] w fun e w' => e = .returned (.int .i64 (cl.sum : Int)) ∧ w' = w))
    (H4 : Hid (Calls Try.prog 18 #[.slice aa na ca, .slice ac nc cc] w fun e w' => e = .returned (.bool true) ∧ ∃ q, w' = w.drewN q))
    (H6 : Hid (∀ v us W, Cub noB W w.heap.size v us ((refL al (bOf bl) (fun r => cl.getD r 0) cl.length nb).map castT) → Below w.heap.size w W → Calls Try.prog 14 #[v, .func (.func 23) #[] #[]] W fun e w2 => e = .returned (.tuple #[]) ∧ Hid (Post v w2)))
    (HLen : Hid (∀ x, x ≤ nb → (refL al (bOf bl) (fun r => cl.getD r 0) cl.length x).length ≤ 3000000000000))
    (HBs : Hid (Shows w ab (castL bl))) (HNb : Hid (nb = bl.length)) (HCs : Hid (Shows w ac (castL cl))) (HNc : Hid (nc = cl.length)) (HCl : Hid (cl.length ≤ 1000 ∧ ∀ z ∈ cl, z ≤ 1000)) (HBz : Hid (∀ z ∈ bl, z ≤ 1000))
    (HPF : Hid (∀ x, x ≤ nb → ∀ t ∈ refL al (bOf bl) (fun r => cl.getD r 0) cl.length x, t.length ≤ 1000 ∧ ∀ r ∈ t, r.length ≤ 1000 ∧ ∀ z ∈ r, z ≤ 1000))
    (HST : Hid (∀ x, x < nb → ∀ t ∈ refL al (bOf bl) (fun r => cl.getD r 0) cl.length x, (gwn (len2 t) (fun r => cl.getD r 0) cl.length (bOf bl (x + 1))).length ≤ 5000000000000 ∧ ∀ q ∈ gwn (len2 t) (fun r => cl.getD r 0) cl.length (bOf bl (x + 1)), q.length ≤ 1000 ∧ t.length ≤ q.length ∧ ∀ z ∈ q, z ≤ 1000))
    (hsum : IntKind.i64.wrap ((al.sum : Int) + (bl.sum : Int)) = (cl.sum : Int)) :
    Calls Try.prog 7 #[.slice aa na ca, .slice ab nb cb, .slice ac nc cc] w fun e w' => ∃ v, e = .returned v ∧ Post v w' := by
  obtain ⟨sa, HSa⟩ : ∃ sa : Int, Hid (sa = (al.sum : Int)) := ⟨_, rfl⟩
  obtain ⟨sb, HSb⟩ : ∃ sb : Int, Hid (sb = (bl.sum : Int)) := ⟨_, rfl⟩
  obtain ⟨sc, HSc⟩ : ∃ sc : Int, Hid (sc = (cl.sum : Int)) := ⟨_, rfl⟩
  rw [← HSa.out] at H1 hsum
  rw [← HSb.out] at H2 hsum
  rw [← HSc.out] at H3 hsum
  go_enter Try.func7, Try.ntmps7
  go_wp2_with fail
  refine H1.out.mono ?_
  rintro e w' ⟨rfl, hw⟩
  obtain rfl := hw
  go_wp2_with fail
  refine H2.out.mono ?_
  rintro e w' ⟨rfl, hw⟩
  obtain rfl := hw
  go_wp2_with fail
  refine H3.out.mono ?_
  rintro e w' ⟨rfl, hw⟩
  obtain rfl := hw
  go_wp2_with fail
  refine H4.out.mono ?_
  rintro e w0 ⟨rfl, q0, hw0⟩
  have HB0 : Hid (Below w'.heap.size w' w0) := by rw [hw0]; exact below_drewN (Below.refl _ _) _
  clear hw0 H1 H2 H3 H4
  go_wp2_with fail
  go_loopw [7, 8] (fun v i wr => ∃ k : Nat, k ≤ na ∧ i = .int .i64 k ∧ Hid (Tbl wr w'.heap.size v (castT (stR al k))) ∧ Hid (Below w'.heap.size w' wr)) (fun _ i _ => na - (intOf i).toNat)
  case atStart => exact ⟨0, Nat.zero_le _, rfl, Tbl.nil _ _, HB0⟩
  case round =>
    obtain ⟨k, hk, rfl, HT, HB⟩ := hrel
    by_cases hlt : k < na
    · have hlt' : (k : Int) < (na : Int) := by omega
      obtain ⟨b, off, rfl, hck⟩ := (HA.out.below HB.out).nat (i := k) (by rw [← HNa.out]; exact hlt)
      obtain ⟨m, HM⟩ : ∃ m, Hid (m = al.getD k 0) := ⟨_, rfl⟩
      have hm : m ≤ 1000 := by rw [HM.out]; exact getD_le HAz.out k
      rw [← HM.out] at hck
      have hmP : ∀ W, (Instr.makeSlice 22 (.int .i64 (m : Int)) (.int .i64 (m : Int))).run Try.prog W = .ok (.slice (some ⟨W.heap.size, 0, none⟩) m m) (W.alloc (.cells (madeCells #[Value.int .i64 0] m) 3)) := fun W =>
        run_make_row' (P := Try.prog) 22 3 (.int .i64 0) 8 Try.underlying22 (by kernel_rfl) rfl .i64 .i64 m (by omega) (by omega) W
      have hB1 : Below wr.heap.size wr (wr.alloc (.cells (madeCells #[Value.int .i64 0] m) 3)) := (Below.refl _ _).alloc (Nat.le_refl _) _
      have HB1 : Hid (Below wr.heap.size wr (wr.alloc (.cells (madeCells #[Value.int .i64 0] m) 3))) := hB1
      have hmade : (madeCells #[Value.int .i64 0] m) = (List.replicate m (Value.int .i64 0)).toArray := by
        apply Array.toList_inj.1
        rw [toList_madeCells_one]
      have HO : Hid (Owns (wr.alloc (.cells (madeCells #[Value.int .i64 0] m) 3)) wr.heap.size (.slice (some ⟨wr.heap.size, 0, none⟩) m m) (List.replicate m 0)) := by
        refine owns_of_row (by omega) ?_ (by simp) (by simp; omega)
        rw [heap_alloc_new wr, hmade]; simp
      obtain ⟨vs, hV⟩ := HT.out
      obtain ⟨a7, c7, h7⟩ : ∃ a7 c7, u7 = .slice a7 (castT (stR al k)).length c7 := by
        have := hV.own
        rw [hV.len] at this
        rcases this.2 with ⟨q, h0⟩ | ⟨g, cp, cur, q, _⟩
        · exact ⟨none, 0, by rw [q, h0]⟩
        · exact ⟨_, _, q⟩
      obtain ⟨n7, HN7⟩ : ∃ n7, Hid (n7 = (castT (stR al k)).length) := ⟨_, rfl⟩
      rw [← HN7.out] at h7
      subst h7
      have HV0 : Hid (TblV wr w'.heap.size (.slice a7 n7 c7) vs (castT (stR al k))) := hV
      have HV2 : Hid (TblV (wr.alloc (.cells (madeCells #[Value.int .i64 0] m) 3)) w'.heap.size (.slice a7 n7 c7) vs (castT (stR al k))) := hV.same (fun q _ hq => hB1.block q hq)
      have HLv : Hid (vs.length ≤ 1000) := by show _ ≤ _; rw [hV.len, castT_len]; unfold stR; rw [List.length_map, List.length_take]; omega
      have HSt : Hid (castT (stR al (k + 1)) = castT (stR al k) ++ [List.replicate m 0]) := by show _ = _; rw [stR_succ (by rw [← HNa.out]; exact hlt), castT_snoc, castL_rep, HM.out]
      clear hV hB1 hmade
      go_wp2_with (at_builtin; refine append_one elem_row (x := .slice (some ⟨wr.heap.size, 0, none⟩) m m) rfl _ _ rfl rfl rfl (by simp) HV2.out.own rfl ?c3 ?c4 ?c5 ?_)
      case c3 => have := HLv.out; unfold maxLen; omega
      case c4 => have := HLv.out; omega
      case c5 => exact Nat.le_trans HB.out.size HB1.out.size
      intro v2 w3 hO3 hb3 hk3
      have HT3 : Hid (Tbl w3 w'.heap.size v2 (castT (stR al (k + 1)))) := by
        show Tbl _ _ _ _
        rw [HSt.out]
        exact Tbl.push HV0.out HV2.out (Nat.le_refl _) HB.out.size HO.out (by simpa using hO3) hk3
      have HB3 : Hid (Below w'.heap.size w' w3) := (HB.out.trans (HB1.out.mono HB.out.size)).trans hb3
      clear hO3 hb3 hk3
      go_wp2
      go_roundw
      case rel => exact ⟨k + 1, by omega, by go_num, HT3, HB3⟩
      case measure => simp [intOf]; omega
    · obtain rfl : k = na := by omega
      obtain ⟨vs, hV⟩ := HT.out
      obtain ⟨a7, c7, h7⟩ : ∃ a7 c7, u7 = .slice a7 (castT (stR al k)).length c7 := by
        have := hV.own
        rw [hV.len] at this
        rcases this.2 with ⟨q, h0⟩ | ⟨g, cp, cur, q, _⟩
        · exact ⟨none, 0, by rw [q, h0]⟩
        · exact ⟨_, _, q⟩
      obtain ⟨n7, HN7⟩ : ∃ n7, Hid (n7 = (castT (stR al k)).length) := ⟨_, rfl⟩
      rw [← HN7.out] at h7
      subst h7
      have HC0 : Hid (Cub noB (wr.alloc (.cells #[.slice a7 n7 c7] 35)) w'.heap.size (.slice (some ⟨wr.heap.size, 0, none⟩) 1 1) [.slice a7 n7 c7] ((refL al (bOf bl) (fun r => cl.getD r 0) cl.length 0).map castT)) := by
        have he : stR al k = al.map fun k => List.replicate k 0 := by unfold stR; rw [HNa.out, List.take_length]
        have h1 := Cub.one HB.out HT.out (fun r hr => by
          rw [he] at hr
          obtain ⟨q, hq, rfl⟩ := List.mem_map.1 hr
          have := HAz.out q hq
          exact ⟨by rw [List.length_replicate]; exact this, fun z hz => by rw [List.mem_replicate] at hz; omega⟩)
        show Cub _ _ _ _ _ _
        rw [refL, List.map_cons, List.map_nil, ← he]
        exact h1
      have HB2 : Hid (Below w'.heap.size w' (wr.alloc (.cells #[.slice a7 n7 c7] 35))) := HB.out.alloc HB.out.size _
      clear hV HT HB HN7
      go_wp2_with fail
      go_loopw [9, 10] (fun nv xv wx => ∃ (x X : Nat) (us : List Value), x ≤ nb ∧ Hid (X = x + 1) ∧ xv = .int .i64 (X : Int) ∧ Hid (Cub noB wx w'.heap.size nv us ((refL al (bOf bl) (fun r => cl.getD r 0) cl.length x).map castT)) ∧ Hid (Below w'.heap.size w' wx)) (fun _ xv _ => nb + 1 - (intOf xv).toNat)
      case atStart => exact ⟨0, 1, _, Nat.zero_le _, rfl, rfl, HC0, HB2⟩
      case round =>
        obtain ⟨x, X, us, hx, HX, rfl, HC, HBx⟩ := hrel
        have hX1 : X ≤ 1001 := by have := HX.out; omega
        obtain ⟨wx, hwx⟩ : ∃ wx, wx = wr := ⟨_, rfl⟩
        subst hwx
        obtain ⟨a9, c9, h9, hsh9⟩ := HC.out.shows9
        obtain ⟨n9, HN9⟩ : ∃ n9, Hid (n9 = ((refL al (bOf bl) (fun r => cl.getD r 0) cl.length x).map castT).length) := ⟨_, rfl⟩
        rw [← HN9.out] at h9
        subst h9
        by_cases hlt : x < nb
        · have hlt' : (X : Int) ≤ (nb : Int) := by have := HX.out; omega
          have HSh9 : Hid _ := hsh9
          clear hsh9
          obtain ⟨now, HNow⟩ : ∃ now, Hid (now = refL al (bOf bl) (fun r => cl.getD r 0) cl.length x) := ⟨_, rfl⟩
          obtain ⟨b, HBb⟩ : ∃ b, Hid (b = bOf bl (x + 1)) := ⟨_, rfl⟩
          have HNn : Hid (n9 = now.length) := by show _ = _; rw [HN9.out, HNow.out, List.length_map]
          have hn9 : n9 ≤ 3000000000000 := by have := HLen.out x hx; rw [HNn.out, HNow.out]; exact this
          go_wp2_with fail
          go_loopw [11, 12] (fun nv iv wi => ∃ (i : Nat) (nus : List Value), i ≤ n9 ∧ iv = .int .i64 (i : Int) ∧ Hid (Cub noB wi wx.heap.size nv nus ((nxI (fun r => cl.getD r 0) cl.length b X now i).map castT)) ∧ Hid (Below wx.heap.size wx wi)) (fun _ iv _ => n9 - (intOf iv).toNat)
          case atStart => exact ⟨0, [], Nat.zero_le _, rfl, by rw [nxI_zero]; exact Cub.nil _ _, Below.refl _ _⟩
          case round =>
            obtain ⟨i, nus, hi, rfl, HCi, HBi⟩ := hrel
            obtain ⟨wi, hwi⟩ : ∃ wi, wi = wr := ⟨_, rfl⟩
            subst hwi
            by_cases hlti : i < n9
            · have hlti' : (i : Int) < (n9 : Int) := by omega
              obtain ⟨t, HTt⟩ : ∃ t, Hid (t = now.getD i []) := ⟨_, rfl⟩
              have HTm : Hid (t ∈ refL al (bOf bl) (fun r => cl.getD r 0) cl.length x) := by
                show _ ∈ _
                rw [HTt.out, ← HNow.out]
                have : i < now.length := by rw [← HNn.out]; exact hlti
                simp [List.getD, this]
              have HTb : Hid (t.length ≤ 1000 ∧ ∀ r ∈ t, r.length ≤ 1000 ∧ ∀ z ∈ r, z ≤ 1000) := HPF.out x hx t HTm.out
              obtain ⟨nt, HNt⟩ : ∃ nt, Hid (nt = t.length) := ⟨_, rfl⟩
              have hnt : nt ≤ 1000 := by rw [HNt.out]; exact HTb.out.1
              obtain ⟨L, HL⟩ : ∃ L, Hid (L = gwn (len2 t) (fun r => cl.getD r 0) cl.length b) := ⟨_, rfl⟩
              have HLq : Hid (L.length ≤ 5000000000000 ∧ ∀ q ∈ L, q.length ≤ 1000 ∧ t.length ≤ q.length ∧ ∀ z ∈ q, z ≤ 1000) := by
                show _ ∧ _
                rw [HL.out, HBb.out]; exact HST.out x hlt t HTm.out
              obtain ⟨nL, HNL⟩ : ∃ nL, Hid (nL = L.length) := ⟨_, rfl⟩
              have hnL : nL ≤ 5000000000000 := by rw [HNL.out]; exact HLq.out.1
              have HBx2 : Hid (b = bl.getD x 0) := by show _ = _; rw [HBb.out]; simp [bOf, List.getD]
              have hb1000 : b ≤ 1000 := by rw [HBx2.out]; exact getD_le HBz.out x
              obtain ⟨b9, o9, ai, ci, ha9, hb9, hc9, ht9⟩ := HSh9.out i (by rw [← HN9.out]; exact hlti)
              subst ha9
              have e9 : ((refL al (bOf bl) (fun r => cl.getD r 0) cl.length x).map castT).getD i [] = castT t := by
                rw [HTt.out, ← HNow.out]
                have : i < now.length := by rw [← HNn.out]; exact hlti
                simp [List.getD, this]
              rw [e9] at hc9 ht9
              rw [castT_len, ← HNt.out] at hc9
              have HR9 : Hid (∀ W, Below wx.heap.size wx W → W.cell? ⟨b9, o9 + i, none⟩ = some (.slice ai nt ci) ∧ Hid (Table W ai (castT t))) := fun W hW => ⟨(hW.cell (p := ⟨b9, o9 + i, none⟩) hb9).trans hc9, ht9.below hW⟩
              clear hb9 hc9 ht9 e9
              obtain ⟨b1, o1, ha1, -⟩ := HBs.out.nat (i := x) (by rw [← HNb.out]; exact hlt)
              subst ha1
              have HRb : Hid (∀ W, Below w'.heap.size w' W → W.cell? ⟨b1, o1 + x, none⟩ = some (.int .i64 (b : Int))) := fun W hW => by
                obtain ⟨b2, o2, e, h⟩ := (HBs.out.below hW).nat (i := x) (by rw [← HNb.out]; exact hlt)
                simp only [Option.some.injEq, Addr.mk.injEq, and_true] at e
                obtain ⟨rfl, rfl⟩ := e
                rw [HBx2.out]; exact h
              have HRows : Hid (∀ W, Below wi.heap.size wi W → Calls Try.prog 20 #[.slice ai nt ci] W fun e w1 => ∃ v, e = .returned v ∧ ∃ a1 c1, v = .slice a1 nt c1 ∧ w1.cell? ⟨b1, o1 + x, none⟩ = some (.int .i64 (b : Int)) ∧ Hid (Shows w1 a1 (castL (t.map List.length)) ∧ Below wi.heap.size wi w1)) := fun W hW => by
                have hWx : Below wx.heap.size wx W := HBi.out.trans (hW.mono HBi.out.size)
                refine (RRows_at ai nt ci (castT t) W (HR9.out W hWx).2.out (by rw [castT_len]; exact HNt.out) (by rw [castT_len]; exact HTb.out.1)).mono ?_
                rintro e w1 ⟨v, rfl, ho, hb⟩
                have hW1 : Below wi.heap.size wi w1 := hW.trans (hb.mono hW.size)
                have hmm : (castT t).map (fun l => (l.length : Int)) = castL (t.map List.length) := by simp [castT, castL]
                rw [hmm] at ho
                obtain ⟨a1, n1, c1, rfl, hs1, hn1, -⟩ := ho.open0 (by rw [castL_len, List.length_map]; have := HTb.out.1; omega) (fun z hz => by
                  have := castL_lt (b := 1000) (l := t.map List.length) (fun y hy => by obtain ⟨r, hr, rfl⟩ := List.mem_map.1 hy; exact (HTb.out.2 r hr).1) z hz
                  omega)
                rw [castL_len, List.length_map, ← HNt.out] at hn1
                subst hn1
                exact ⟨_, rfl, a1, c1, rfl, HRb.out w1 (HBx.out.trans ((HBi.out.trans (hW1.mono HBi.out.size)).mono HBx.out.size)), hs1, hW1⟩
              have HGr : Hid (∀ w1 a1 c1, Hid (Shows w1 a1 (castL (t.map List.length)) ∧ Below wi.heap.size wi w1) → Calls Try.prog 19 #[.slice a1 nt c1, .slice ac nc cc, .int .i64 (b : Int)] w1 fun e w2 => ∃ v, e = .returned v ∧ ∃ a13 c13, v = .slice a13 nL c13 ∧ Hid (Tbl w2 wi.heap.size (.slice a13 nL c13) (castT L)) ∧ Hid (Below wi.heap.size wi w2)) := fun w1 a1 c1 h1 => by
                obtain ⟨hs1, hW1⟩ := h1.out
                have hfun : (fun r => (t.map List.length).getD r 0) = len2 t := funext fun r => by
                  simp only [len2, nrow, List.getD, List.getElem?_map]
                  cases t[r]? <;> rfl
                have hg := Grown_at a1 nt c1 ac nc cc b (t.map List.length) cl w1 hs1 (HCs.out.below (HBx.out.trans ((HBi.out.trans (hW1.mono HBi.out.size)).mono HBx.out.size))) (by rw [List.length_map]; exact HNt.out) HNc.out HCl.out.1 (by rw [List.length_map]; exact HTb.out.1) (fun y hy => by obtain ⟨r, hr, rfl⟩ := List.mem_map.1 hy; exact (HTb.out.2 r hr).1) HCl.out.2 hb1000 (by rw [hfun, ← HL.out]; exact HLq.out.1)
                refine hg.mono ?_
                rintro e w2 ⟨v, rfl, hT, hb⟩
                rw [hfun, ← HL.out] at hT
                obtain ⟨a13, c13, hv⟩ := hT.shape
                rw [castT_len, ← HNL.out] at hv
                subst hv
                exact ⟨_, rfl, a13, c13, rfl, hT.mono hW1.size, hW1.trans (hb.mono hW1.size)⟩
              obtain ⟨hc9, -⟩ := HR9.out wi HBi.out
              have hcb := HRb.out wi (HBx.out.trans (HBi.out.mono HBx.out.size))
              have hsub : IntKind.i64.wrap ((X : Int) - 1) = (x : Int) := by have := HX.out; rw [IntWalk.i64_left, IntWalk.wrap64_in _ (by omega)]; omega
              have hxb : (x : Int) < (nb : Int) := by omega
              clear HTm HBx2 HN9 HA HAz HSa HSb HSc
              go_upto_region 16 with fail
              go_cut [13] (fun s13 wl => ∃ a13 c13, s13 = .slice a13 nL c13 ∧ Hid (Tbl wl wi.heap.size (.slice a13 nL c13) (castT L)) ∧ Hid (Below wi.heap.size wi wl))
              case first =>
                go_region_law (first | (refine step_rows (x := .slice ai nt ci) rfl (.tmp 62) rfl (by first | (simp [Act.eval]; done) | (simp [Act.eval, Act.put]; done)) (HRows.out _ (by first | exact Below.refl _ _ | exact below_drewN (Below.refl _ _) 1)) ?_; rintro v1 w1 ⟨a1, c1, rfl, hcb1, hs1⟩) | (refine step_grown (x := .slice a1 nt c1) (y := .slice ac nc cc) (z := .int .i64 (b : Int)) rfl (.tmp 63) (.tmp 64) (.tmp 69) rfl (by first | (simp [Act.eval]; done) | (simp [Act.eval, Act.put]; done)) (by first | (simp [Act.eval]; done) | (simp [Act.eval, Act.put]; done)) (by first | (simp [Act.eval]; done) | (simp [Act.eval, Act.put]; done)) (HGr.out w1 a1 c1 hs1) ?_; rintro v2 w2 ⟨a13, c13, rfl, HT2, HB2⟩))
                all_goals go_wp2_with fail
                all_goals go_meet
                all_goals exact ⟨_, _, rfl, HT2, HB2⟩
              case rest =>
                obtain ⟨a13, c13, rfl, HTl, HBl⟩ := hcut
                obtain ⟨wl, hwl⟩ : ∃ wl, wl = wc := ⟨_, rfl⟩
                subst hwl
                have HCl0 : Hid (Cub noB wl wx.heap.size u11 nus (nxA cl b X now t L i 0)) := by
                  show Cub _ _ _ _ _ _
                  rw [nxA, nxK_zero, List.append_nil]
                  exact HCi.out.below HBl.out
                have HBl0 : Hid (Below wx.heap.size wx wl) := HBi.out.trans (HBl.out.mono HBi.out.size)
                have HSl0 : Hid (StayL wi.heap.size wl wl u11) := StayL.start HCi.out rfl
                clear hc9 hcb HRows HGr HCi HBi HBl
                go_wp2_with fail
                go_loopw [11, 14] (fun nv kv wr => ∃ (k : Nat) (nus : List Value), k ≤ nL ∧ kv = .int .i64 (k : Int) ∧ Hid (Cub noB wr wx.heap.size nv nus (nxA cl b X now t L i k)) ∧ Hid (Below wx.heap.size wx wr) ∧ Hid (StayL wi.heap.size wl wr nv)) (fun _ kv _ => nL - (intOf kv).toNat)
                case atStart => exact ⟨0, _, Nat.zero_le _, rfl, HCl0, HBl0, HSl0⟩
                case round =>
                  clear HCl0 HBl0 HSl0
                  obtain ⟨k, kus, hk, rfl, HCk, HBk, HSk⟩ := hrel
                  obtain ⟨wk, hwk⟩ : ∃ wk, wk = wr := ⟨_, rfl⟩
                  subst hwk
                  by_cases hltk : k < nL
                  · have hltk' : (k : Int) < (nL : Int) := by omega
                    obtain ⟨q, HQ⟩ : ∃ q, Hid (q = L.getD k []) := ⟨_, rfl⟩
                    have HQb : Hid (q.length ≤ 1000 ∧ t.length ≤ q.length ∧ ∀ z ∈ q, z ≤ 1000) := by
                      refine HLq.out.2 q ?_
                      rw [HQ.out]
                      have : k < L.length := by rw [← HNL.out]; exact hltk
                      simp [List.getD, this]
                    obtain ⟨nq, HNq⟩ : ∃ nq, Hid (nq = q.length) := ⟨_, rfl⟩
                    have hnq : nq ≤ 1000 := by rw [HNq.out]; exact HQb.out.1
                    have htq : nt ≤ nq := by rw [HNq.out, HNt.out]; exact HQb.out.2.1
                    have hTk : Table wk a13 (castT L) := by
                      obtain ⟨a, n, c, e, h, -⟩ := (HSk.out.tbl HTl.out).table (castT_bd (fun r hr => ⟨(HLq.out.2 r hr).1, (HLq.out.2 r hr).2.2⟩))
                      cases e
                      exact h
                    obtain ⟨b13, o13, aq, cq, ha13, hb13, hcq, hsq, -⟩ := hTk k (by rw [castT_len, ← HNL.out]; exact hltk)
                    subst ha13
                    rw [castT_at, ← HQ.out] at hcq hsq
                    rw [castL_len, ← HNq.out] at hcq
                    have HRl : Hid (∀ W, Below wk.heap.size wk W → W.cell? ⟨b13, o13 + k, none⟩ = some (.slice aq nq cq) ∧ Hid (Shows W aq (castL q))) := fun W hW => ⟨(hW.cell (p := ⟨b13, o13 + k, none⟩) hb13).trans hcq, hsq.below hW⟩
                    clear hTk hb13 hcq hsq
                    obtain ⟨hc9, hT9⟩ := HR9.out wk HBk.out
                    have HTw : Hid (Calls Try.prog 21 #[.slice ai nt ci] wk fun e w1 => ∃ v, e = .returned v ∧ Hid (Tbl w1 wk.heap.size v (castT t)) ∧ Hid (Below wk.heap.size wk w1)) :=
                      (Twin_r ai nt ci (castT t) wk hT9.out (by rw [castT_len]; exact HNt.out) (by rw [castT_len]; exact HTb.out.1) (fun l hl => by
                        have := (castT_bd HTb.out.2 l hl).1
                        unfold castT at hl
                        obtain ⟨r, hr, rfl⟩ := List.mem_map.1 hl
                        rw [castL_len]; have := (HTb.out.2 r hr).1; omega)).mono fun e w1 h => h
                    clear hT9
                    go_wp2_with fail
                    refine HTw.out.mono ?_
                    rintro e w1 ⟨v15, rfl, HT1, HB1⟩
                    clear HTw hc9
                    obtain ⟨a15, c15, h15⟩ := HT1.out.shape
                    rw [castT_len, ← HNt.out] at h15
                    subst h15
                    go_wp2_with fail
                    go_loopw [15, 16] (fun tv rv wr => ∃ (r n15 : Nat) (a15 : Option Addr) (c15 : Nat) (vs : List Value), r ≤ nq ∧ rv = .int .i64 (r : Int) ∧ tv = .slice a15 n15 c15 ∧ Hid (n15 = max nt r) ∧ Hid (TblV wr wk.heap.size (.slice a15 n15 c15) vs (castT (gtR t X q r))) ∧ Hid (Below wk.heap.size wk wr)) (fun _ rv _ => nq - (intOf rv).toNat)
                    case atStart =>
                      obtain ⟨vs1, hV1⟩ := HT1.out
                      exact ⟨0, nt, a15, c15, vs1, Nat.zero_le _, rfl, rfl, by show _ = _; omega, by rw [gtR_zero]; exact hV1, HB1⟩
                    case round =>
                      clear HT1 HB1
                      obtain ⟨r, n15, a15, c15, vs, hr, rfl, rfl, HN15, HV, HB⟩ := hrel
                      obtain ⟨wq, hwq⟩ : ∃ wq, wq = wr := ⟨_, rfl⟩
                      subst hwq
                      obtain ⟨hcl, hsl⟩ := HRl.out wq HB.out
                      by_cases hltr : r < nq
                      · have hltr' : (r : Int) < (nq : Int) := by omega
                        have hn15 := HN15.out
                        have hn15b : n15 ≤ 1000 := by omega
                        clear hn15
                        obtain ⟨bq, oq, haq, -⟩ := hsl.out.nat (i := r) (by rw [← HNq.out]; exact hltr)
                        subst haq
                        obtain ⟨qr, HQr⟩ : ∃ qr, Hid (qr = q.getD r 0) := ⟨_, rfl⟩
                        have hqr : qr ≤ 1000 := by rw [HQr.out]; exact getD_le HQb.out.2.2 r
                        have HRq : Hid (∀ W, Below wk.heap.size wk W → W.cell? ⟨bq, oq + r, none⟩ = some (.int .i64 (qr : Int))) := fun W hW => by
                          obtain ⟨b2, o2, e, h⟩ := (HRl.out W hW).2.out.nat (i := r) (by rw [← HNq.out]; exact hltr)
                          simp only [Option.some.injEq, Addr.mk.injEq, and_true] at e
                          obtain ⟨rfl, rfl⟩ := e
                          rw [HQr.out]; exact h
                        clear hsl
                        go_upto_if 94 with fail
                        go_cut [15] (fun s15 wb => ∃ (a : Option Addr) (n c : Nat) (vs : List Value), s15 = .slice a n c ∧ Hid (TblV wb wk.heap.size (.slice a n c) vs (castT (gtB t X q r))) ∧ Hid (Below wk.heap.size wk wb))
                        case first =>
                          by_cases htr : r < nt
                          · have hne : ¬ ((r : Int) = (n15 : Int)) := by have := HN15.out; omega
                            have HV1 : Hid (TblV wq wk.heap.size (.slice a15 n15 c15) vs (castT (gtB t X q r))) := by
                              show TblV _ _ _ _ _
                              rw [gtB_lt (by rw [← HNt.out]; exact htr)]; exact HV.out
                            go_wp2_with fail
                            go_meet
                            exact ⟨_, _, _, _, rfl, HV1, HB⟩
                          · have heq : ((r : Int) == (n15 : Int)) = true := by have := HN15.out; simp; omega
                            have HLv : Hid (vs.length ≤ 1000) := by
                              show _ ≤ _
                              rw [HV.out.len, castT_len, gtR_len, ← HNt.out]; omega
                            have HGe : Hid (castT (gtB t X q r) = castT (gtR t X q r) ++ [[]]) := by
                              show _ = _
                              rw [gtB_ge (by rw [← HNt.out]; omega), castT_snoc]; rfl
                            go_wp2_with (at_builtin; refine append_one elem_row (x := .slice none 0 0) rfl _ _ rfl rfl rfl (by first | rfl | simp) HV.out.own rfl ?c3 ?c4 ?c5 ?_)
                            case c3 => have := HLv.out; unfold maxLen; omega
                            case c4 => have := HLv.out; omega
                            case c5 => exact HB.out.size
                            intro v2 w3 hO3 hb3 hk3
                            have HV3 : Hid (TblV w3 wk.heap.size v2 (vs ++ [.slice none 0 0]) (castT (gtB t X q r))) := by
                              show TblV _ _ _ _ _
                              rw [HGe.out]
                              exact HV.out.push (World.ownsRow_nil _ _ _ _) (fun j _ g h => by cases h) (fun g _ h => by cases h) (by simpa using hO3) hk3
                            have HB3 : Hid (Below wk.heap.size wk w3) := HB.out.trans hb3
                            obtain ⟨a2, c2, h2⟩ := (show Tbl w3 wk.heap.size v2 _ from ⟨_, HV3.out⟩).shape
                            subst h2
                            clear hO3 hb3 hk3
                            go_wp2_with fail
                            go_meet
                            exact ⟨_, _, _, _, rfl, HV3, HB3⟩
                        case rest =>
                          obtain ⟨a, n, c, vsb, rfl, HVb, HBb2⟩ := hcut
                          clear HV HB hcl HN15
                          obtain ⟨wb, hwb⟩ : ∃ wb, wb = wc := ⟨_, rfl⟩
                          subst hwb
                          have HLb : Hid (r < (gtB t X q r).length) := by show _ < _; rw [gtB_len]; omega
                          obtain ⟨g, n', c', hv, HNb2, hg, hgs, -, -⟩ := HVb.out.head (by rw [castT_len]; have := HLb.out; omega)
                          simp only [Value.slice.injEq] at hv
                          obtain ⟨rfl, rfl, rfl⟩ := hv
                          have hrn : (r : Int) < (n : Int) := by have := HNb2.out; rw [castT_len] at this; have := HLb.out; omega
                          obtain ⟨p, HP⟩ : ∃ p, Hid (p = len2 t r) := ⟨_, rfl⟩
                          have hp : p ≤ 1000 := by
                            rw [HP.out]; unfold len2 nrow
                            by_cases e : r < t.length
                            · have := (HTb.out.2 (t.getD r []) (by simp [List.getD, e])).1; exact this
                            · simp [List.getD, List.getElem?_eq_none (Nat.le_of_not_lt e)]
                          have HV0 : Hid (TblV wb wk.heap.size (.slice (some ⟨g, 0, none⟩) n c) vsb (castT ((gtB t X q r).set r (nrow t r ++ List.replicate 0 X)))) := by
                            have he : (gtB t X q r).set r (nrow t r ++ List.replicate 0 X) = gtB t X q r := by
                              have := set_self (d := []) HLb.out
                              rw [gtB_row] at this
                              simpa using this
                            show TblV _ _ _ _ _
                            rw [he]; exact HVb.out
                          have HN2 : Hid (n = max nt (r + 1)) := by show _ = _; have := HNb2.out; rw [castT_len, gtB_len, ← HNt.out] at this; exact this
                          clear hgs HNb2 HVb
                          go_wp2_with fail
                          go_loopg [] (qr - p) (fun z wr => ∃ (s : Nat) (vs : List Value), s ≤ qr - p ∧ z = qr - p - s ∧ Hid (TblV wr wk.heap.size (.slice (some ⟨g, 0, none⟩) n c) vs (castT ((gtB t X q r).set r (nrow t r ++ List.replicate s X)))) ∧ Hid (Below wk.heap.size wk wr))
                          case atStart => exact ⟨0, vsb, Nat.zero_le _, by omega, HV0, HBb2⟩
                          case round =>
                            obtain ⟨s, vs2, hs, hz, HV2, HB2⟩ := hrel
                            have hLb := HLb.out
                            have hO := HV2.out.rows r (by rw [castT_len, List.length_set]; exact hLb)
                            have hgr : ((gtB t X q r).set r (nrow t r ++ List.replicate s X)).getD r [] = nrow t r ++ List.replicate s X := by simp [List.getD, hLb]
                            rw [castT_at, hgr] at hO
                            obtain ⟨ar, cr, hrv⟩ := hO.shape
                            rw [castL_len, List.length_append, List.length_replicate, show (nrow t r).length = p from HP.out.symm] at hrv
                            obtain ⟨m, HM⟩ : ∃ m, Hid (m = p + s) := ⟨_, rfl⟩
                            rw [← HM.out] at hrv
                            have HRV : Hid (rowv vs2 r = .slice ar m cr) := hrv
                            rw [hrv] at hO
                            have HO : Hid (∀ W : World, W.heap = wr.heap → Owns W wk.heap.size (.slice ar m cr) (castL (nrow t r ++ List.replicate s X))) := fun W hW => ownsRow_blocks hO (fun k _ => by rw [hW])
                            obtain ⟨g2, n2, c2, hv2, -, -, hgs2, hfr2, hce2⟩ := HV2.out.head (by rw [castT_len, List.length_set]; omega)
                            simp only [Value.slice.injEq, Option.some.injEq, Addr.mk.injEq, and_true] at hv2
                            obtain ⟨rfl, rfl, rfl⟩ := hv2
                            have hcg : wr.cell? ⟨g, r, none⟩ = some (.slice ar m cr) := by rw [hce2 r (by rw [castT_len, List.length_set]; exact hLb), hrv]
                            have hfg : wr.frozen? ⟨g, r, none⟩ = false := hfr2 r
                            have HOff : Hid ((Value.slice ar m cr).ownBlock ≠ some g) := by
                              rw [← hrv]; exact fun e => HV2.out.off r (by rw [castT_len, List.length_set]; exact hLb) g rfl e
                            have HLr : Hid ((castL (nrow t r ++ List.replicate s X)).length ≤ 2000) := by
                              show _ ≤ _
                              rw [castL_len, List.length_append, List.length_replicate, show (nrow t r).length = p from HP.out.symm]; omega
                            obtain ⟨hcl, -⟩ := HRl.out wr HB2.out
                            have hcq := HRq.out wr HB2.out
                            clear hO hgr hce2 hfr2 hrv hLb
                            by_cases hss : s < qr - p
                            · have hlt3 : (m : Int) < (qr : Int) := by have := HM.out; omega
                              go_upto_region 26 with fail
                              go_quiet (fail)
                              go_wp2_with (at_builtin; refine append_one elem_int (x := .int .i64 (X : Int)) rfl _ _ rfl rfl rfl (by first | rfl | simp) (vals_of_owns (HO.out _ rfl)) rfl ?c3 ?c4 ?c5 ?_)
                              case c3 => have := HLr.out; unfold maxLen; rw [List.length_map]; omega
                              case c4 => have := HLr.out; rw [List.length_map]; omega
                              case c5 => exact HB2.out.size
                              intro v2 w3 hO3 hb3 hk3
                              have hO4 : Owns w3 wk.heap.size v2 (castL (nrow t r ++ List.replicate s X) ++ [(X : Int)]) := owns_of_vals (by simpa using hO3)
                              have hcg3 : w3.cell? ⟨g, r, none⟩ = some (.slice ar m cr) := (World.cell?_of_block (w := wr) (a := ⟨g, r, none⟩) (hk3.block g hgs2 HOff.out)).trans hcg
                              have hfg3 : w3.frozen? ⟨g, r, none⟩ = false := (World.frozen?_of_block (w := wr) (a := ⟨g, r, none⟩) (hk3.block g hgs2 HOff.out)).trans hfg
                              have HV4 : Hid (TblV (w3.setCell ⟨g, r, none⟩ v2) wk.heap.size (.slice (some ⟨g, 0, none⟩) n c) (vs2.set r v2) (castT ((gtB t X q r).set r (nrow t r ++ List.replicate (s + 1) X)))) :=
                                row_longer HV2.out HLb.out hO4 (by rw [HRV.out]; exact ⟨hk3.size, hk3.block, hk3.lies⟩)
                              have HB4 : Hid (Below wk.heap.size wk (w3.setCell ⟨g, r, none⟩ v2)) := ((below_drewN HB2.out _).trans hb3).setCell (p := ⟨g, r, none⟩) hg _
                              obtain ⟨a3, c3, h3⟩ := hO4.shape
                              generalize (castL (nrow t r ++ List.replicate s X) ++ [(X : Int)]).length = n3 at h3
                              subst h3
                              clear hO3 hb3 hk3 hO4
                              go_wp2_with fail
                              go_roundg (qr - p - (s + 1))
                              case measure => omega
                              case rel => exact ⟨s + 1, _, by omega, rfl, HV4, HB4⟩
                            · have hlt3 : ¬ ((m : Int) < (qr : Int)) := by have := HM.out; omega
                              have HV5 : Hid (∀ W : World, W.heap = wr.heap → TblV W wk.heap.size (.slice (some ⟨g, 0, none⟩) n c) vs2 (castT (gtR t X q (r + 1)))) := fun W hW => by
                                have h := HV2.out
                                have e : nrow t r ++ List.replicate s X = gRow t X q r := by
                                  unfold gRow; rw [← HQr.out, ← HP.out, show s = qr - p by omega]
                                rw [e, gtB_set] at h
                                exact h.same (fun k _ _ => by rw [hW])
                              go_upto_region 26 with fail
                              go_quiet (fail)
                              go_wp2
                              go_roundw
                              case rel => exact ⟨r + 1, n, _, c, vs2, by omega, by go_num, rfl, HN2, HV5.out _ rfl, below_drewN HB2.out _⟩
                              case measure => simp [intOf]; omega
                      · obtain rfl : r = nq := by omega
                        have hnlt : ¬ ((r : Int) < (r : Int)) := by omega
                        obtain ⟨G, HG⟩ : ∃ G, Hid (G = growT t X q) := ⟨_, rfl⟩
                        have HVG : Hid (TblV wq wk.heap.size (.slice a15 n15 c15) vs (castT G)) := by
                          have h := HV.out
                          have e := gtR_end (x := X) HQb.out.2.1
                          rw [← HNq.out, ← HG.out] at e
                          rw [e] at h
                          exact h
                        have HGb : Hid (G.length ≤ 1000 ∧ ∀ l ∈ G, l.length ≤ 1000 ∧ ∀ z ∈ l, z ≤ 1000) := by
                          refine ⟨?_, ?_⟩
                          · rw [HG.out]; simp only [growT, List.length_map, List.length_range]; exact HQb.out.1
                          · rw [HG.out]; exact growT_bd HTb.out.2 HQb.out.2.2 (by have := HX.out; omega)
                        have HN5 : Hid (n15 = G.length) := by
                          show _ = _
                          rw [HG.out]; simp only [growT, List.length_map, List.length_range]
                          have := HN15.out; have := HNq.out; omega
                        obtain ⟨ok, HOk⟩ : ∃ ok, Hid (ok = okT X G) := ⟨_, rfl⟩
                        have HEn : Hid (x ≠ 0 → Calls Try.prog 22 #[.slice a15 n15 c15, .int .i64 (X : Int)] wq fun e w' => e = .returned (.bool ok) ∧ w' = wq) := fun hx0 => by
                          obtain ⟨a, n, c, e, h, -⟩ := (show Tbl wq wk.heap.size _ _ from ⟨_, HVG.out⟩).table (castT_bd HGb.out.2)
                          cases e
                          have h2 := enough_at a15 n15 c15 X G wq h HN5.out HGb.out.1 (fun l hl => (HGb.out.2 l hl).1) (by have := HX.out; omega) (by have := HX.out; omega)
                          have e2 : ok = lat X 0 (rwd G) := by rw [HOk.out]; unfold okT; have := HX.out; simp; omega
                          rw [e2]; exact h2
                        have HCq : Hid (Cub noB wq wx.heap.size u11 kus (nxA cl b X now t L i k)) := HCk.out.below HB.out
                        have HBq : Hid (Below wx.heap.size wx wq) := HBk.out.trans (HB.out.mono HBk.out.size)
                        have HSq : Hid (StayL wi.heap.size wl wq u11) := HSk.out.below HB.out
                        have HKs : Hid (nxK X t L (k + 1) = nxK X t L k ++ if ok then [G] else []) := by
                          show _ = _
                          rw [nxK_succ (by rw [← HNL.out]; exact hltk), ← HQ.out, ← HG.out, ← HOk.out]
                        have HLk : Hid (kus.length ≤ 3000000000000) := by
                          show _ ≤ _
                          rw [HCk.out.len, nxA, List.length_map, List.length_append]
                          have h1 := HLen.out (x + 1) (by omega)
                          rw [refL_step, ← HNow.out, ← HBb.out, ← HX.out] at h1
                          have h2 := nxI_mono (fun r => cl.getD r 0) cl.length b X now (show i + 1 ≤ now.length by rw [← HNn.out]; omega)
                          rw [nxI_succ (by rw [← HNn.out]; exact hlti), List.length_append, ← HTt.out, ← HL.out] at h2
                          have h3 := nxK_mono X t L (show k ≤ L.length by rw [← HNL.out]; omega)
                          omega
                        clear hsl HV HN15
                        by_cases hx0 : x = 0
                        · obtain rfl : ok = true := by rw [HOk.out]; unfold okT; have := HX.out; simp; omega
                          have hx1 : ((X : Int) == 1) = true := by have := HX.out; simp; omega
                          clear hx0 HEn
                          go_wp2_with (at_builtin; refine append_one elem_cube (x := .slice a15 n15 c15) rfl _ _ rfl rfl rfl (by first | rfl | simp) HCq.out.own rfl ?c3 ?c4 ?c5 ?_)
                          case c3 => have := HLk.out; unfold maxLen; omega
                          case c4 => have := HLk.out; omega
                          case c5 => exact HBq.out.size
                          intro v2 w3 hO3 hb3 hk3
                          have HC3 : Hid (Cub noB w3 wx.heap.size v2 (kus ++ [.slice a15 n15 c15]) (nxA cl b X now t L i (k + 1))) := by
                            have h := HCk.out.push HB.out ⟨_, HVG.out⟩ HGb.out.2 (by simpa using hO3) hk3
                            show Cub _ _ _ _ _ _
                            unfold nxA at h ⊢
                            rw [HKs.out]
                            simpa using h
                          have HB3 : Hid (Below wx.heap.size wx w3) := HBq.out.trans hb3
                          have HS3 : Hid (StayL wi.heap.size wl w3 v2) := HSq.out.push hk3
                          clear hO3 hb3 hk3
                          go_wp2
                          go_roundw
                          case rel => exact ⟨k + 1, _, by omega, by go_num, HC3, HB3, HS3⟩
                          case measure => simp [intOf]; omega
                        · have hx1 : ((X : Int) == 1) = false := by have := HX.out; simp; omega
                          have HE2 := hid_h (HEn.out hx0)
                          clear HEn hx0
                          go_wp2_with fail
                          refine HE2.out.mono ?_
                          rintro e w9 ⟨rfl, hw9⟩
                          obtain rfl := hw9
                          cases ok with
                          | false =>
                            have HC3 : Hid (Cub noB w9 wx.heap.size u11 kus (nxA cl b X now t L i (k + 1))) := by
                              have h := HCq.out
                              show Cub _ _ _ _ _ _
                              unfold nxA at h ⊢
                              rw [HKs.out]; simpa using h
                            go_wp2
                            go_roundw
                            case rel => exact ⟨k + 1, kus, by omega, by go_num, HC3, HBq, HSq⟩
                            case measure => simp [intOf]; omega
                          | true =>
                            go_wp2_with (at_builtin; refine append_one elem_cube (x := .slice a15 n15 c15) rfl _ _ rfl rfl rfl (by first | rfl | simp) HCq.out.own rfl ?c3 ?c4 ?c5 ?_)
                            case c3 => have := HLk.out; unfold maxLen; omega
                            case c4 => have := HLk.out; omega
                            case c5 => exact HBq.out.size
                            intro v2 w3 hO3 hb3 hk3
                            have HC3 : Hid (Cub noB w3 wx.heap.size v2 (kus ++ [.slice a15 n15 c15]) (nxA cl b X now t L i (k + 1))) := by
                              have h := HCk.out.push HB.out ⟨_, HVG.out⟩ HGb.out.2 (by simpa using hO3) hk3
                              show Cub _ _ _ _ _ _
                              unfold nxA at h ⊢
                              rw [HKs.out]
                              simpa using h
                            have HB3 : Hid (Below wx.heap.size wx w3) := HBq.out.trans hb3
                            have HS3 : Hid (StayL wi.heap.size wl w3 v2) := HSq.out.push hk3
                            clear hO3 hb3 hk3
                            go_wp2
                            go_roundw
                            case rel => exact ⟨k + 1, _, by omega, by go_num, HC3, HB3, HS3⟩
                            case measure => simp [intOf]; omega
                  · obtain rfl : k = nL := by omega
                    have hnlt : ¬ ((k : Int) < (k : Int)) := by omega
                    have HC2 : Hid (Cub noB wk wx.heap.size u11 kus ((nxI (fun r => cl.getD r 0) cl.length b X now (i + 1)).map castT)) := by
                      have h := HCk.out
                      show Cub _ _ _ _ _ _
                      rw [nxI_succ (by rw [← HNn.out]; exact hlti), ← HTt.out, ← HL.out, ← HNL.out]
                      unfold nxA at h
                      exact h
                    go_wp2
                    go_roundw
                    case rel => exact ⟨i + 1, kus, by omega, by go_num, HC2, HBk⟩
                    case measure => simp [intOf]; omega
            · obtain rfl : i = n9 := by omega
              have HC2 : Hid (Cub noB wi w'.heap.size u11 nus ((refL al (bOf bl) (fun r => cl.getD r 0) cl.length (x + 1)).map castT)) := by
                have h := HCi.out
                rw [refL_step, ← HNow.out, ← HBb.out, ← HNn.out, ← HX.out]
                exact h.mono (by exact HBx.out.size)
              have HB3 : Hid (Below w'.heap.size w' wi) := HBx.out.trans (HBi.out.mono HBx.out.size)
              go_wp2
              go_roundw
              case rel => exact ⟨x + 1, X + 1, nus, by omega, by show _ = _; rw [HX.out], by go_num, HC2, HB3⟩
              case measure => simp [intOf]; omega
        · obtain rfl : x = nb := by omega
          have hlt' : ¬ ((X : Int) ≤ (x : Int)) := by have := HX.out; omega
          have HSo := hid_h (H6.out _ us _ HC.out HBx.out)
          clear H6 HC HBx hsh9 HN9 HC0 HB2
          go_wp2_with fail
          refine HSo.out.mono ?_
          rintro e w5 ⟨rfl, HP⟩
          go_wp2
          go_ret
          exact ⟨_, rfl, HP.out⟩

end Go.Proofs.Ytncokoimbpkapaa
