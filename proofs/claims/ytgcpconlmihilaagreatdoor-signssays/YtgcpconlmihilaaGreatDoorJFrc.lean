/-
  The closure in ferref.AllSigns.
-/
import Derived.Test.YtgcpconlmihilaaGreatDoorJFrk
import Derived.Deep.RegionLaw
namespace Go.Proofs.YtgcpconlmihilaaGreatDoor
open Go.RowKit

theorem step_allF {T E : TypeId} {z : Value} {bytes : Nat} (he : Elem T E z bytes) {w : World} {base : Nat} {v : Value} {xs news : List Value} {ops : Array Oper} {o : Oper} {a : Act} {K : Act → World → Prop} {Q : Exit → Act → World → Prop} {EE : Prop} (hgd : o.guard = none) (s y : Operand)
    (ho : o.op = .call { callee := .builtin .append, args := #[s, y], argTypes := #[T, T] }) (hs : a.eval s = v) (ad : Addr) (n c : Nat) (hx : a.eval y = .slice (some ad) n c) (hn : n = news.length) (hown : w.ownsRow base E 1 v xs.length xs)
    (hnews : ∀ j u, news[j]? = some u → w.cell? (ad.add j) = some u) (hone : ∀ u ∈ news, u.oneCell' = true) (h63 : xs.length + news.length ≤ maxLen) (hl : (xs.length + news.length) * bytes ≤ 140737488355328) (hbase : base ≤ w.heap.size)
    (h : ∀ v' w', w'.ownsRow base E 1 v' (xs ++ news).length (xs ++ news) → Below base w w' → KeepB v v' w w' → K (a.put o.dst v') w') :
    if Region.wanted o (yielded ops a.tmps) = true then Oper.wp Tryz.prog o a w K Q else EE := by
  subst hn
  have hw : Region.wanted o (yielded ops a.tmps) = true := by simp [Region.wanted, hgd]
  rw [if_pos hw]
  obtain ⟨v', w', hrun, r1, r2, r3⟩ := run_append_kb he o.type hown ad c hnews hone h63 hl hbase
  unfold Oper.wp
  simp [execOp, ho, resolve, invoke, builtin, hs, hx, hrun, Result.andThen]
  exact h v' w' r1 r2 r3

theorem step_frc {w : World} {x : Value} {l0 bF : Nat} {P : World → Prop} {ops : Array Oper} {o : Oper} {a : Act} {K : Act → World → Prop} {Q : Exit → Act → World → Prop} {EE : Prop} (hgd : o.guard = none) (c y : Operand)
    (ho : o.op = .call { callee := .value c, args := #[y], argTypes := #[22] }) (hcv : a.eval c = frV l0 bF) (hx : a.eval y = x) (hc : Calls Tryz.prog 28 #[x, bxS l0, bxS bF] w fun e w' => e = .returned (.tuple #[]) ∧ P w') (h : ∀ w', P w' → K (a.put o.dst (.tuple #[])) w') :
    if Region.wanted o (yielded ops a.tmps) = true then Oper.wp Tryz.prog o a w K Q else EE := by
  have hw : Region.wanted o (yielded ops a.tmps) = true := by simp [Region.wanted, hgd]
  rw [if_pos hw]
  unfold Oper.wp
  simp [execOp, ho, resolve, invoke, hcv, hx]
  simp [Deferred.ofValue, callFunc, Tryz.func28]
  refine hc.mono ?_
  rintro e w' ⟨rfl, hP⟩
  exact h w' hP

/-- the matrix that a triangle makes -/
abbrev mxF (ls : List (List Int)) : List (List Int) := tz ls.length ls.length (otr ls)
/-- what a call of the closure leaves -/
def FrQ (l0 bF lo : Nat) (vl : Value) (w : World) (L : List (List (List Int))) (w' : World) : Prop := ∃ vl' us', FX w' l0 bF lo vl' us' L ∧ KeepF l0 vl vl' w w'
/-- the closure's contract for triangles with d rows to come -/
def FrC (l0 bF lo d : Nat) : Prop := ∀ (ls : List (List Int)) (w : World) (vl t : Value) (us vs : List Value) (L : List (List (List Int))), FX w l0 bF lo vl us L → TW w l0 vl t vs ls → BdF ls → 1 ≤ ls.length → ls.length + d ≤ 5 → (row ls 0).length = d + 1 → (L ++ (frF d ls).map mxF).length ≤ 1000000 →
  Calls Tryz.prog 28 #[t, bxS l0, bxS bF] w fun e w' => e = .returned (.tuple #[]) ∧ FrQ l0 bF lo vl w (L ++ (frF d ls).map mxF) w'
theorem frC_zero (l0 bF lo : Nat) : FrC l0 bF lo 0 := fun ls w vl t us vs L hX hT hB h1 h5 hr hc => by
  refine (Fr_leaf hX hT hB.wf h1 (by omega) hr (by rw [List.length_append] at hc; omega)).mono ?_
  rintro e w' ⟨rfl, vl', us', h2, h3⟩
  exact ⟨rfl, vl', us', h2, h3⟩

theorem FX.heap {w w' : World} {l0 bF lo : Nat} {vl : Value} {us : List Value} {L : List (List (List Int))} (h : FX w l0 bF lo vl us L) (hs : w.heap.size ≤ w'.heap.size) (hb : ∀ k, k < w.heap.size → w'.heap[k]? = w.heap[k]?) : FX w' l0 bF lo vl us L := by
  obtain ⟨q1, q2, q3, q4⟩ := h.lt
  refine ⟨by rw [hb _ (by omega)]; exact h.lb, by rw [hb _ (by omega)]; exact h.fb, ⟨ownsRow_blocks h.cu.own (fun k e => hb k (h.cu.own.lt k e).2), h.cu.len, fun k hkk => ?_⟩, q1, q2, q3, by omega⟩
  obtain ⟨a, c, e1, e2⟩ := h.cu.el k hkk
  exact ⟨a, c, e1, fun w3 h3 h4 => e2 w3 (fun j a1 a2 a3 => by rw [h3 j (by omega) a2 a3, hb j a1]) (by omega)⟩
theorem TW.cellT {w : World} {l0 b o n c : Nat} {v : Value} {vs : List Value} {ls : List (List Int)} (h : TW w l0 v (.slice (some ⟨b, o, none⟩) n c) vs ls) {i : Nat} (hi : i < vs.length) : w.cell? ⟨b, o + i, none⟩ = vs[i]? := by
  have h0 := h.own
  rcases h.own.2 with ⟨hv, _⟩ | ⟨g, cap, cur, hv, _⟩
  · simp at hv
  · rw [hv] at h0
    simp only [Value.slice.injEq, Option.some.injEq, Addr.mk.injEq, and_true] at hv
    obtain ⟨⟨rfl, rfl⟩, _⟩ := hv
    rw [Nat.zero_add]
    exact World.ownsRow.cellAt h0 i (by omega)
theorem TW.one {w : World} {l0 : Nat} {v t : Value} {vs : List Value} {ls : List (List Int)} (h : TW w l0 v t vs ls) : ∀ u ∈ vs, u.oneCell' = true := fun u hu => by
  obtain ⟨i, hi, rfl⟩ := List.getElem_of_mem hu
  obtain ⟨a, c, e⟩ := (h.rows i (by rw [← h.len]; exact hi)).shape
  have : vs[i] = rowv vs i := by simp [rowv, List.getD, hi]
  rw [this, e]; rfl
/-- a row more, in front -/
theorem TW.front {w w' : World} {l0 k : Nat} {v t lv t' : Value} {vs lvs : List Value} {ls ms : List (List Int)} (hl0 : l0 < w.heap.size) (hvl : ∀ g, v.ownBlock = some g → g < w.heap.size) (h : TW w l0 v t vs ls) (hm : TW w l0 v lv lvs ms) (hk : k < ms.length) (hb : ∀ j, j < w.heap.size → w'.heap[j]? = w.heap[j]?)
    (ho : w'.ownsRow w.heap.size 36 1 t' ([rowv lvs k] ++ vs).length ([rowv lvs k] ++ vs)) : TW w' l0 v t' (rowv lvs k :: vs) (ms.getD k [] :: ls) := by
  refine ⟨ownsRow_down ho (Nat.zero_le _), by simp [h.len], fun i hi => ?_, fun j e => ?_, fun i hi j e => ?_⟩
  · cases i with
    | zero => exact ownsRow_blocks (hm.rows k hk) (fun j e => hb j ((hm.rows k hk).lt e).2)
    | succ i =>
      have hi' : i < ls.length := by simpa using hi
      exact ownsRow_blocks (h.rows i hi') (fun j e => hb j ((h.rows i hi').lt e).2)
  · have h1 := (ho.lt j e).1
    exact ⟨by omega, fun q => by have := hvl j q; omega⟩
  · cases i with
    | zero => exact hm.awr k hk j e
    | succ i => exact h.awr i (by simpa using hi) j e

/-- how far the last loop has come -/
def FrS (l0 bF lo : Nat) (vl : Value) (w : World) (L : List (List (List Int))) (t : Value) (vs : List Value) (ls : List (List Int)) (lv : Value) (lvs : List Value) (ms : List (List Int)) (d k : Nat) (W : World) : Prop :=
  ∃ vl' us', FX W l0 bF lo vl' us' (L ++ (nxF (fun l => frF d (l :: ls)) ms k).map mxF) ∧ KeepF l0 vl vl' w W ∧ TW W l0 vl' t vs ls ∧ TW W l0 vl' lv lvs ms

set_option maxHeartbeats 16000000 in
set_option maxRecDepth 100000 in
theorem frC_succ {l0 bF lo d : Nat} (ih : FrC l0 bF lo d) : FrC l0 bF lo (d + 1) := by
  intro ls w vl t us vs L hX hT hBd h1 h5 hr hc
  obtain ⟨ta, tc, ht, htab⟩ := hT.table hBd.wf
  obtain ⟨n, HN⟩ : ∃ n, Hid (n = ls.length) := ⟨_, rfl⟩
  rw [← HN.out] at ht
  subst ht
  obtain ⟨r, HR⟩ : ∃ r, Hid (r = row ls 0) := ⟨_, rfl⟩
  obtain ⟨b0, o0, a0, k0, q1, q2, q3, q4, _⟩ := htab 0 h1
  subst q1
  have hrl : ls.getD 0 [] = r := HR.out.symm
  rw [hrl] at q3 q4
  rw [← HR.out] at hr
  obtain ⟨m, HMm⟩ : ∃ m, Hid (m = d + 1) := ⟨_, rfl⟩
  have hrm : r.length = m + 1 := by rw [hr, HMm.out]
  rw [hrm] at q3
  have q3' : w.cell? ⟨b0, o0, none⟩ = some (.slice a0 (m + 1) k0) := by rw [← q3]; rfl
  have hbr : BdI r := by rw [HR.out]; exact (hBd _ (by unfold row; simp only [List.getD, List.getElem?_eq_getElem h1]; exact List.getElem_mem h1)).2
  have hm4 : m ≤ 4 := by rw [HMm.out]; omega
  have HX : Hid (FX w l0 bF lo vl us L) := hX
  have HT : Hid (TW w l0 vl (.slice (some ⟨b0, o0, none⟩) n tc) vs ls) := hT
  have HBd : Hid (BdF ls) := hBd
  have HBr : Hid (BdI r) := hbr
  have HIH : Hid (FrC l0 bF lo d) := ih
  have HLn : Hid (1 ≤ ls.length ∧ ls.length + (d + 1) ≤ 5) := ⟨h1, h5⟩
  have HLc : Hid ((L ++ (frF (d + 1) ls).map mxF).length ≤ 1000000) := hc
  have HSr : Hid (∀ W, Below w.heap.size w W → Shows W a0 r) := fun W hW => q4.below hW
  have hne1 : ((m : Int) + 1 == 1) = false := by rw [beq_eq_false_iff_ne]; have := HMm.out; omega
  have hn0 : (0 : Int) < (n : Int) := by have := HN.out; omega
  have hmc : ((m + 1 : Nat) : Int) = (m : Int) + 1 := by omega
  have HV0 : Hid (∃ vs, TblV (w.alloc (.cells #[.slice none 0 0] 36)) w.heap.size (.slice (some ⟨w.heap.size, 0, none⟩) 1 1) vs (lwF r 0)) := ⟨_, row_below _ rfl⟩
  have HB0 : Hid (Below w.heap.size w (w.alloc (.cells #[.slice none 0 0] 36))) := (Below.refl _ _).alloc (Nat.le_refl _) _
  have HLw : Hid (∀ j, j ≤ m → (lwF r j).length ≤ 1296) := fun j hj => by
    have e1 := lwF_len HBr.out j
    have e2 : (6 : Nat) ^ j ≤ 6 ^ 4 := Nat.pow_le_pow_right (by omega) (by omega)
    have e3 : (6 : Nat) ^ 4 = 1296 := by decide
    omega
  obtain ⟨rb, ro, hra, _, _⟩ := q4.cells (by intro e; rw [e] at hrm; simp at hrm)
  subst hra
  have HCr : Hid (∀ W, Below w.heap.size w W → ∀ i, i < m + 1 → W.cell? ⟨rb, ro + i, none⟩ = some (.int .i64 (r.getD i 0))) := fun W hW i hi => by
    obtain ⟨b2, o2, e, _, h⟩ := (HSr.out W hW).cells (by intro e; rw [e] at hrm; simp at hrm)
    simp only [Option.some.injEq, Addr.mk.injEq, and_true] at e
    obtain ⟨rfl, rfl⟩ := e
    exact h i (by rw [hrm]; exact hi)
  have HLm : Hid (∀ j, ∀ y ∈ lwF r j, y.length = j ∧ BdI y) := fun j y hy => lwF_mem HBr.out j y hy
  have HWl : Hid (∀ j, j ≤ m → ∀ y ∈ lwF r j, y.length ≤ 17592186044416 ∧ ∀ z ∈ y, -9223372036854775808 ≤ z ∧ z ≤ 9223372036854775807) := fun j hj y hy => by
    obtain ⟨e1, e2⟩ := HLm.out j y hy
    exact ⟨by omega, fun z hz => by have := e2 z hz; omega⟩
  have HNx : Hid (∀ j k, j < m → (nxF (stpF r j) (lwF r j) k).length ≤ 7776) := fun j k hj => by
    have e1 := nxF_le (stpF r j) (lwF r j) k
    have e2 := flat_leF (stpF_len HBr.out j) (lwF r j)
    have e3 := HLw.out j (by omega)
    omega
  clear hX hT hBd ih h1 h5 hr hc hrl hrm hbr htab q2 q3 q4 HSr
  go_enter Tryz.func28, Tryz.ntmps28
  go_wp2_with fail
  go_loopw [5, 6] (fun lv jv wr => ∃ j : Nat, j ≤ m ∧ jv = .int .i64 (j : Int) ∧ Hid (Tbl wr w.heap.size lv (lwF r j)) ∧ Hid (Below w.heap.size w wr)) (fun _ jv _ => m - (intOf jv).toNat)
  case atStart => exact ⟨0, Nat.zero_le _, rfl, HV0, HB0⟩
  case round =>
    clear HV0 HB0
    obtain ⟨j, hj, rfl, HV, HB⟩ := hrel
    by_cases hjm : j < m
    · have hjm' : (j : Int) + 1 < (m : Int) + 1 := by omega
      obtain ⟨la, N, lc, hlv, htl, HNl⟩ := HV.out.table (HWl.out j (by omega))
      subst hlv
      have hN : N ≤ 1296 := by rw [HNl.out]; exact HLw.out j (by omega)
      have HTl : Hid (∀ W, Below wr.heap.size wr W → Table W la (lwF r j)) := fun W hW => htl.below hW
      obtain ⟨wj, HWj⟩ : ∃ wj, Hid (wj = wr) := ⟨_, rfl⟩
      rw [← HWj.out] at HB HTl
      have HBj : Hid (Below wj.heap.size wj wr) := by rw [HWj.out]; exact Below.refl _ _
      obtain ⟨A, HA⟩ : ∃ A, Hid (A = r.getD j 0) := ⟨_, rfl⟩
      obtain ⟨B, HBb⟩ : ∃ B, Hid (B = r.getD (j + 1) 0) := ⟨_, rfl⟩
      have hA5 : 0 ≤ A ∧ A ≤ 5 := by rw [HA.out]; exact HBr.out.get j
      have hB5 : 0 ≤ B ∧ B ≤ 5 := by rw [HBb.out]; exact HBr.out.get (j + 1)
      have HAB : Hid (∀ W, Below wj.heap.size wj W → W.cell? ⟨rb, ro + j, none⟩ = some (.int .i64 A) ∧ W.cell? ⟨rb, ro + (j + 1), none⟩ = some (.int .i64 B)) := fun W hW => by
        have hW2 := HB.out.trans (hW.mono HB.out.size)
        exact ⟨by rw [HA.out]; exact HCr.out W hW2 j (by omega), by rw [HBb.out]; exact HCr.out W hW2 (j + 1) (by omega)⟩
      have HNil : Hid (Tbl wr wj.heap.size (.slice none 0 0) (nxF (stpF r j) (lwF r j) 0)) := by
        show Tbl _ _ _ _
        rw [show nxF (stpF r j) (lwF r j) 0 = [] from by simp [nxF]]; exact Tbl.nil _ _
      clear htl HV HWj
      go_wp2_with fail
      go_loopw [7, 8] (fun nv kv wq => ∃ k : Nat, k ≤ N ∧ kv = .int .i64 (k : Int) ∧ Hid (Tbl wq wj.heap.size nv (nxF (stpF r j) (lwF r j) k)) ∧ Hid (Below wj.heap.size wj wq)) (fun _ kv _ => N - (intOf kv).toNat)
      case atStart => exact ⟨0, Nat.zero_le _, rfl, HNil, HBj⟩
      case round =>
        clear HNil HBj
        obtain ⟨k, hk, rfl, HT7, HB7⟩ := hrel
        by_cases hkN : k < N
        · have hkN' : (k : Int) < (N : Int) := by omega
          obtain ⟨y, HY⟩ : ∃ y, Hid (y = (lwF r j).getD k []) := ⟨_, rfl⟩
          obtain ⟨C, HC⟩ : ∃ C : Nat, Hid (C = (B + 1 - A).toNat) := ⟨_, rfl⟩
          have hym : y ∈ lwF r j := by rw [HY.out]; simp only [List.getD, List.getElem?_eq_getElem (show k < (lwF r j).length by rw [← HNl.out]; exact hkN)]; exact List.getElem_mem _
          have HYl : Hid (y.length = j) := (HLm.out j y hym).1
          have hcA := (HAB.out wr HB7.out).1
          have HT0 : Hid (Tbl wr wj.heap.size u7 (nxF (stpF r j) (lwF r j) k ++ stpI A j y 0)) := by
            show Tbl _ _ _ _
            rw [show stpI A j y 0 = [] from rfl, List.append_nil]; exact HT7.out
          have HSn : Hid (nxF (stpF r j) (lwF r j) (k + 1) = nxF (stpF r j) (lwF r j) k ++ stpI A j y C) := by
            show _ = _
            rw [nxF_succ _ _ [] (by rw [← HNl.out]; exact hkN), ← HY.out, stpF_eq, HC.out, HA.out, HBb.out]
          have HLe : Hid (∀ i, i < C → (nxF (stpF r j) (lwF r j) k ++ stpI A j y i).length ≤ 10000) := fun i hi => by
            have e1 := HNx.out j k hjm
            have e2 := stpI_len A j y i
            have e3 := HC.out
            rw [List.length_append]; omega
          clear HT7 hym
          go_wp2_with fail
          go_loopw [7, 9] (fun nv xv ws => ∃ (i : Nat) (x : Int), i ≤ C ∧ Hid (x = A + (i : Int)) ∧ xv = .int .i64 x ∧ Hid (Tbl ws wj.heap.size nv (nxF (stpF r j) (lwF r j) k ++ stpI A j y i)) ∧ Hid (Below wj.heap.size wj ws)) (fun _ xv _ => (B + 1 - intOf xv).toNat)
          case atStart => exact ⟨0, A, Nat.zero_le _, by show A = _; omega, rfl, HT0, HB7⟩
          case round =>
            clear HT0 hcA HB7
            obtain ⟨i, x, hi, Hx, rfl, HT, HBx⟩ := hrel
            have hcB := (HAB.out wr HBx.out).2
            by_cases hiC : x ≤ B
            · have hi2 : i < C := by have := Hx.out; have := HC.out; omega
              have hx0 : 0 ≤ x := by have := Hx.out; omega
              obtain ⟨b1, o1, ai, ci, hla, -, hci, hsi, hni⟩ := HTl.out wr HBx.out k (by rw [← HNl.out]; exact hkN)
              subst hla
              rw [← HY.out] at hci hsi hni
              obtain ⟨mq, HMq⟩ : ∃ mq, Hid (mq = y.length) := ⟨_, rfl⟩
              rw [← HMq.out] at hci
              have HMj : Hid (mq = j) := by show _ = _; rw [HMq.out, HYl.out]
              have HSi : Hid (Shows wr ai y) := hsi
              have HNi : Hid (ai = none → y = [] ∧ ci = 0) := hni
              have HOk1 : Hid (okF j y x → stpI A j y (i + 1) = stpI A j y i ++ [y ++ [x]]) := fun h => by
                have e := Hx.out
                rw [stpI, ← e, if_pos h]
              have HOk0 : Hid (¬ okF j y x → stpI A j y (i + 1) = stpI A j y i) := fun h => by
                have e := Hx.out
                rw [stpI, ← e, if_neg h, List.append_nil]
              have HO0 : Hid (Owns wr wr.heap.size (.slice none 0 0) []) := World.ownsRow_nil _ _ _ _
              clear hsi hni
              by_cases hj0 : j = 0
              · have hok : okF j y x := Or.inl hj0
                have hjb : ((j : Int) == 0) = true := by simp [hj0]
                clear hj0
                have HTn : Hid (stpI A j y (i + 1) = stpI A j y i ++ [y ++ [x]]) := HOk1.out hok
                clear HOk1 HOk0 hok
                go_wp2_with (at_builtin; refine append_src rfl _ _ rfl rfl rfl HO0.out HSi.out HMq.out HNi.out ?c1 ?c2 ?_)
                case c1 => have := HYl.out; simp; omega
                case c2 => exact Nat.le_refl _
                intro v1 w2 hO2 hb2 _
                have HO2 : Hid (Owns w2 wr.heap.size v1 y) := hO2
                have HB2 : Hid (Below wr.heap.size wr w2) := hb2
                have hyl : y.length ≤ 10 := by rw [HYl.out]; omega
                clear hO2 hb2
                go_wp2_with (at_builtin; refine append_int_at (N := w2.heap.size) (x := x) rfl _ _ rfl rfl rfl rfl HO2.out ?c1 ?c2 ?_)
                case c1 => omega
                case c2 => exact HB2.out.size
                intro v2 w3 hO3 hb3 _
                have HO3 : Hid (Owns w3 wr.heap.size v2 (y ++ [x])) := hO3
                have HB3 : Hid (Below wr.heap.size wr w3) := HB2.out.trans hb3
                clear hO3 hb3
                obtain ⟨vs7, hV7⟩ := HT.out
                have HV7 : Hid (TblV wr wj.heap.size u7 vs7 (nxF (stpF r j) (lwF r j) k ++ stpI A j y i)) := hV7
                have HL7 : Hid (vs7.length ≤ 10000) := by show _ ≤ _; rw [hV7.len]; exact HLe.out i hi2
                have HV8 : Hid (TblV w3 wj.heap.size u7 vs7 (nxF (stpF r j) (lwF r j) k ++ stpI A j y i)) := HV7.out.same (fun q _ hq => HB3.out.block q hq)
                obtain ⟨a2, c2, hsh⟩ := HO3.out.shape
                obtain ⟨n2, HN2⟩ : ∃ n2, Hid (n2 = (y ++ [x]).length) := ⟨_, rfl⟩
                rw [← HN2.out] at hsh
                subst hsh
                clear hV7
                go_wp2_with (at_builtin; refine append_one elem_row (x := .slice a2 n2 c2) rfl _ _ rfl rfl rfl rfl HV8.out.own rfl ?c3 ?c4 ?c5 ?_)
                case c3 => have := HL7.out; unfold maxLen; omega
                case c4 => have := HL7.out; omega
                case c5 => exact Nat.le_trans HBx.out.size HB3.out.size
                intro v' w4 hO4 hb4 hk4
                have HT4 : Hid (Tbl w4 wj.heap.size v' (nxF (stpF r j) (lwF r j) k ++ stpI A j y (i + 1))) := by
                  show Tbl _ _ _ _
                  rw [HTn.out, ← List.append_assoc]
                  exact Tbl.push HV7.out HV8.out (Nat.le_refl _) HBx.out.size HO3.out (by simpa using hO4) hk4
                have HB4 : Hid (Below wj.heap.size wj w4) := (HBx.out.trans (HB3.out.mono HBx.out.size)).trans hb4
                clear hO4 hb4 hk4
                go_wp2_with fail
                go_roundw
                case rel => exact ⟨i + 1, x + 1, by omega, by show _ = _; have := Hx.out; omega, by go_num, HT4, HB4⟩
                case measure => simp [intOf]; omega
              · have hjb : ((j : Int) == 0) = false := by rw [beq_eq_false_iff_ne]; omega
                obtain ⟨q, HQ⟩ : ∃ q : Nat, Hid (j = q + 1) := ⟨j - 1, by show _ = _; omega⟩
                have hsub : (j : Int) - 1 = (q : Int) := by have := HQ.out; omega
                have hqm : (q : Int) < (mq : Int) := by have := HQ.out; have := HMj.out; omega
                obtain ⟨yb, yo, z, hai, HZ, hz1, hz2, hcz⟩ := HSi.out.elem (k := q) (by have := HYl.out; have := HQ.out; omega)
                subst hai
                have HOq : Hid (okF j y x ↔ z < x) := by
                  have e : j - 1 = q := by have := HQ.out; omega
                  constructor
                  · rintro (h | h)
                    · exact absurd h hj0
                    · rw [e, ← HZ.out] at h; exact h
                  · intro h
                    right; rw [e, ← HZ.out]; exact h
                clear hz1 hz2
                by_cases hzx : z < x
                · have hok : okF j y x := HOq.out.2 hzx
                  have HTn : Hid (stpI A j y (i + 1) = stpI A j y i ++ [y ++ [x]]) := HOk1.out hok
                  clear HOk1 HOk0 hok
                  go_wp2_with (at_builtin; refine append_src rfl _ _ rfl rfl rfl HO0.out HSi.out HMq.out HNi.out ?c1 ?c2 ?_)
                  case c1 => have := HYl.out; simp; omega
                  case c2 => exact Nat.le_refl _
                  intro v1 w2 hO2 hb2 _
                  have HO2 : Hid (Owns w2 wr.heap.size v1 y) := hO2
                  have HB2 : Hid (Below wr.heap.size wr w2) := hb2
                  have hyl : y.length ≤ 10 := by rw [HYl.out]; omega
                  clear hO2 hb2
                  go_wp2_with (at_builtin; refine append_int_at (N := w2.heap.size) (x := x) rfl _ _ rfl rfl rfl rfl HO2.out ?c1 ?c2 ?_)
                  case c1 => omega
                  case c2 => exact HB2.out.size
                  intro v2 w3 hO3 hb3 _
                  have HO3 : Hid (Owns w3 wr.heap.size v2 (y ++ [x])) := hO3
                  have HB3 : Hid (Below wr.heap.size wr w3) := HB2.out.trans hb3
                  clear hO3 hb3
                  obtain ⟨vs7, hV7⟩ := HT.out
                  have HV7 : Hid (TblV wr wj.heap.size u7 vs7 (nxF (stpF r j) (lwF r j) k ++ stpI A j y i)) := hV7
                  have HL7 : Hid (vs7.length ≤ 10000) := by show _ ≤ _; rw [hV7.len]; exact HLe.out i hi2
                  have HV8 : Hid (TblV w3 wj.heap.size u7 vs7 (nxF (stpF r j) (lwF r j) k ++ stpI A j y i)) := HV7.out.same (fun q _ hq => HB3.out.block q hq)
                  obtain ⟨a2, c2, hsh⟩ := HO3.out.shape
                  obtain ⟨n2, HN2⟩ : ∃ n2, Hid (n2 = (y ++ [x]).length) := ⟨_, rfl⟩
                  rw [← HN2.out] at hsh
                  subst hsh
                  clear hV7
                  go_wp2_with (at_builtin; refine append_one elem_row (x := .slice a2 n2 c2) rfl _ _ rfl rfl rfl rfl HV8.out.own rfl ?c3 ?c4 ?c5 ?_)
                  case c3 => have := HL7.out; unfold maxLen; omega
                  case c4 => have := HL7.out; omega
                  case c5 => exact Nat.le_trans HBx.out.size HB3.out.size
                  intro v' w4 hO4 hb4 hk4
                  have HT4 : Hid (Tbl w4 wj.heap.size v' (nxF (stpF r j) (lwF r j) k ++ stpI A j y (i + 1))) := by
                    show Tbl _ _ _ _
                    rw [HTn.out, ← List.append_assoc]
                    exact Tbl.push HV7.out HV8.out (Nat.le_refl _) HBx.out.size HO3.out (by simpa using hO4) hk4
                  have HB4 : Hid (Below wj.heap.size wj w4) := (HBx.out.trans (HB3.out.mono HBx.out.size)).trans hb4
                  clear hO4 hb4 hk4
                  go_wp2_with fail
                  go_roundw
                  case rel => exact ⟨i + 1, x + 1, by omega, by show _ = _; have := Hx.out; omega, by go_num, HT4, HB4⟩
                  case measure => simp [intOf]; omega
                · have hok : ¬ okF j y x := fun h => hzx (HOq.out.1 h)
                  have HT4 : Hid (Tbl wr wj.heap.size u7 (nxF (stpF r j) (lwF r j) k ++ stpI A j y (i + 1))) := by
                    show Tbl _ _ _ _
                    rw [HOk0.out hok]; exact HT.out
                  clear HOk1 HOk0 hok
                  go_wp2_with fail
                  go_roundw
                  case rel => exact ⟨i + 1, x + 1, by omega, by show _ = _; have := Hx.out; omega, by go_num, HT4, HBx⟩
                  case measure => simp [intOf]; omega
            · have hCi : i = C := by have := Hx.out; have := HC.out; omega
              have HTe : Hid (Tbl wr wj.heap.size u7 (nxF (stpF r j) (lwF r j) (k + 1))) := by
                show Tbl _ _ _ _
                rw [HSn.out, ← hCi]; exact HT.out
              go_wp2_with fail
              go_roundw
              case rel => exact ⟨k + 1, by omega, by go_num, HTe, HBx⟩
              case measure => simp [intOf]; omega
        · obtain rfl : k = N := by omega
          have hkN' : ¬ (k : Int) < (k : Int) := by omega
          have HTe : Hid (Tbl wr w.heap.size u7 (lwF r (j + 1))) := by
            show Tbl _ _ _ _
            rw [show lwF r (j + 1) = nxF (stpF r j) (lwF r j) (lwF r j).length from (nxF_all _ _).symm, ← HNl.out]
            exact HT7.out.mono HB.out.size
          have HBe : Hid (Below w.heap.size w wr) := HB.out.trans (HB7.out.mono HB.out.size)
          go_wp2_with fail
          go_roundw
          case rel => exact ⟨j + 1, by omega, by go_num, HTe, HBe⟩
          case measure => simp [intOf]; omega
    · obtain rfl : j = m := by omega
      have hjf : ¬ (j : Int) + 1 < (j : Int) + 1 := by omega
      obtain ⟨lvs, hVl⟩ := HV.out
      obtain ⟨la, N, lc, hlv, _, HNl⟩ := HV.out.table (HWl.out j (Nat.le_refl _))
      subst hlv
      obtain ⟨t, HTt⟩ : ∃ t, Hid (t = Value.slice (some ⟨b0, o0, none⟩) n tc) := ⟨_, rfl⟩
      have hlt := HX.out.lt
      have HS0 : Hid (FrS l0 bF lo vl w L t vs ls (.slice la N lc) lvs (lwF r j) d 0 wr) := by
        have hK : KeepF l0 vl vl w wr := KeepF.below HB.out
        refine ⟨vl, us, ?_, hK, by rw [HTt.out]; exact HT.out.keep hK, ownsRow_down hVl.own (Nat.zero_le _), hVl.len, fun i hi => (hVl.rows i hi).mono (Nat.zero_le _), fun q e => ?_, fun i hi q e => ?_⟩
        · rw [show nxF (fun l => frF d (l :: ls)) (lwF r j) 0 = [] from by simp [nxF], List.map_nil, List.append_nil]
          exact HX.out.below HB.out
        · have := (hVl.own.lt q e).1
          exact ⟨by omega, fun z => by have := (HX.out.cu.own.lt q z).2; omega⟩
        · have := ((hVl.rows i hi).lt e).1
          exact ⟨by omega, fun z => by have := (HX.out.cu.own.lt q z).2; omega⟩
      have HTot : Hid ((L ++ (nxF (fun l => frF d (l :: ls)) (lwF r j) N).map mxF) = L ++ (frF (d + 1) ls).map mxF) := by
        show _ = _
        rw [HNl.out, nxF_all, HR.out, HMm.out]; rfl
      have hN : N ≤ 1296 := by rw [HNl.out]; exact HLw.out j (Nat.le_refl _)
      clear hVl HV hlt q3'
      go_wp2_with fail
      go_loopw [10] (fun kv wq => ∃ k : Nat, k ≤ N ∧ kv = .int .i64 (k : Int) ∧ Hid (FrS l0 bF lo vl w L t vs ls (.slice la N lc) lvs (lwF r j) d k wq)) (fun kv _ => N - (intOf kv).toNat)
      case atStart => exact ⟨0, Nat.zero_le _, rfl, HS0⟩
      case round =>
        clear HS0 HB
        obtain ⟨k, hk, rfl, HS⟩ := hrel
        by_cases hkN : k < N
        · have hkN' : (k : Int) < (N : Int) := by omega
          have hkl : k < (lwF r j).length := by rw [← HNl.out]; exact hkN
          obtain ⟨vl', us', x1, x2, x3, x4⟩ := HS.out
          obtain ⟨ua, uc, hu⟩ := (x4.rows k hkl).shape
          obtain ⟨yl, HYl⟩ : ∃ yl, Hid (yl = ((lwF r j).getD k []).length) := ⟨_, rfl⟩
          rw [← HYl.out] at hu
          obtain ⟨lb, hlb⟩ : ∃ lb, la = some ⟨lb, 0, none⟩ := by
            rcases x4.own.2 with ⟨hv, hn⟩ | ⟨g, cap, cur, hv, _⟩
            · have := x4.len; omega
            · simp only [Value.slice.injEq] at hv
              exact ⟨g, hv.1⟩
          subst hlb
          have hck : wr.cell? ⟨lb, k, none⟩ = some (.slice ua yl uc) := by
            have h1 := x4.cellT (i := k) (by rw [x4.len]; exact hkl)
            rw [Nat.zero_add] at h1
            rw [h1, rowv_get (by rw [x4.len]; exact hkl), hu]
          have hfc : wr.cell? ⟨bF, 0, none⟩ = some (frV l0 bF) := (cell_oneS x1.fb).1
          obtain ⟨G, HG⟩ : ∃ G, Hid (G = wr.heap.size) := ⟨_, rfl⟩
          have HA : Hid (∀ W : World, W.heap = (wr.alloc (.cells #[.slice ua yl uc] 36)).heap → W.ownsRow G 36 1 (.slice (some ⟨G, 0, none⟩) 1 1) [Value.slice ua yl uc].length [Value.slice ua yl uc]) := fun W hW => by
            rw [HG.out]
            refine ⟨by simp, Or.inr ⟨wr.heap.size, 1, #[.slice ua yl uc], rfl, Nat.le_refl _, ?_, Nat.le_refl _, by unfold maxLen; omega, rfl, rfl⟩⟩
            rw [hW]; exact heap_alloc_new _ _
          have hold : ∀ W : World, W.heap = (wr.alloc (.cells #[.slice ua yl uc] 36)).heap → W.heap.size = wr.heap.size + 1 ∧ ∀ q, q < wr.heap.size → W.heap[q]? = wr.heap[q]? := fun W hW => by
            rw [hW]; exact ⟨by simp, fun q hq => Below.heap_alloc _ _ _ hq⟩
          have hbF : bF < wr.heap.size := by have := x1.lt; omega
          have hfa : (wr.alloc (.cells #[.slice ua yl uc] 36)).cell? ⟨bF, 0, none⟩ = some (frV l0 bF) := by rw [World.cell?_of_block (Below.heap_alloc wr _ bF hbF)]; exact hfc
          have HFw : Hid (∀ W w', W.heap = (wr.alloc (.cells #[.slice ua yl uc] 36)).heap → Below G W w' → w'.cell? ⟨bF, 0, none⟩ = some (frV l0 bF)) := fun W w' hW hBl => by
            have h2 : w'.heap[bF]? = wr.heap[bF]? := by rw [hBl.block bF (by rw [HG.out]; exact hbF), (hold W hW).2 bF hbF]
            rw [World.cell?_of_block (a := ⟨bF, 0, none⟩) h2]; exact hfc
          have HNw : Hid (∀ W : World, W.heap = (wr.alloc (.cells #[.slice ua yl uc] 36)).heap → ∀ i u, vs[i]? = some u → W.cell? ((⟨b0, o0, none⟩ : Addr).add i) = some u) := fun W hW i u hiu => by
            have hi : i < vs.length := (List.getElem?_eq_some_iff.1 hiu).1
            have x3' := x3
            rw [HTt.out] at x3'
            have h1 := x3'.cellT hi
            rw [hiu] at h1
            have hlt : b0 < wr.heap.size := World.block_lt_of_cell? wr _ h1
            have h2 : W.cell? ⟨b0, o0 + i, none⟩ = wr.cell? ⟨b0, o0 + i, none⟩ := World.cell?_of_block ((hold W hW).2 b0 hlt)
            rw [show (⟨b0, o0, none⟩ : Addr).add i = ⟨b0, o0 + i, none⟩ from by simp [Addr.add], h2, h1]
          have HOne : Hid (∀ u ∈ vs, u.oneCell' = true) := x3.one
          have HNv : Hid (n = vs.length) := by show _ = _; rw [HN.out, x3.len]
          have hvs : vs.length ≤ 5 := by rw [x3.len]; have := HLn.out.2; omega
          have HGs : Hid (∀ W : World, W.heap = (wr.alloc (.cells #[.slice ua yl uc] 36)).heap → G ≤ W.heap.size) := fun W hW => by rw [(hold W hW).1, HG.out]; omega
          have HEnd : Hid (∀ W v' w', W.heap = (wr.alloc (.cells #[.slice ua yl uc] 36)).heap → (W.os = wr.os ∧ W.tape = wr.tape ∧ W.output = wr.output) → w'.ownsRow G 36 1 v' ([Value.slice ua yl uc] ++ vs).length ([Value.slice ua yl uc] ++ vs) → Below G W w' → Calls Tryz.prog 28 #[v', bxS l0, bxS bF] w' fun e w2 => e = .returned (.tuple #[]) ∧ Hid (FrS l0 bF lo vl w L t vs ls (.slice (some ⟨lb, 0, none⟩) N lc) lvs (lwF r j) d (k + 1) w2)) := fun W v' w' hW hio hO hBl => by
            rw [HG.out] at hO hBl
            obtain ⟨z1, z2⟩ := hold W hW
            have hz := hBl.size
            have hb : ∀ q, q < wr.heap.size → w'.heap[q]? = wr.heap[q]? := fun q hq => by rw [hBl.block q hq, z2 q hq]
            have hK1 : KeepF l0 vl' vl' wr w' := ⟨by omega, fun q hq _ _ => hb q hq, fun _ e => Or.inl e, hBl.os.trans hio.1, hBl.tape.trans hio.2.1, hBl.output.trans hio.2.2⟩
            obtain ⟨y1, y2, y3, y4⟩ := x1.lt
            rw [← hu] at hO
            have hTf := TW.front (by omega) (fun g e => (x1.cu.own.lt g e).2) x3 x4 hkl hb hO
            have hym : (lwF r j).getD k [] ∈ lwF r j := by simp only [List.getD, List.getElem?_eq_getElem hkl]; exact List.getElem_mem _
            have hyb := HLm.out j _ hym
            have hsc := nxF_succ (fun l => frF d (l :: ls)) (lwF r j) [] hkl
            have hle : (nxF (fun l => frF d (l :: ls)) (lwF r j) (k + 1)).length ≤ (frF (d + 1) ls).length := by
              have h1 := nxF_le (fun l => frF d (l :: ls)) (lwF r j) (k + 1)
              have h2 : (lwF r j).flatMap (fun l => frF d (l :: ls)) = frF (d + 1) ls := by rw [HR.out, HMm.out]; rfl
              rw [h2] at h1; exact h1
            refine (HIH.out ((lwF r j).getD k [] :: ls) w' vl' v' us' (rowv lvs k :: vs) _ (x1.heap (by omega) hb) hTf (fun l hl => ?_) (by simp) (by have := HLn.out.2; simp; omega) ?_ ?_).mono ?_
            · rcases List.mem_cons.1 hl with rfl | hl
              · exact ⟨by omega, hyb.2⟩
              · exact HBd.out l hl
            · show ((lwF r j).getD k []).length = d + 1
              rw [hyb.1]; exact HMm.out
            · have h3 := HLc.out
              rw [hsc] at hle
              simp only [List.length_append, List.length_map] at h3 hle ⊢
              omega
            · rintro e w2 ⟨rfl, vl2, us2, g1, g2⟩
              refine ⟨rfl, vl2, us2, ?_, (x2.trans hK1).trans g2, (x3.keep hK1).keep g2, (x4.keep hK1).keep g2⟩
              rw [hsc, List.map_append, ← List.append_assoc]; exact g1
          clear x1 x2 x3 x4 hold hu HS
          go_upto_region 20 with fail
          go_region_law (first | (refine step_allF elem_row (base := G) (xs := [.slice ua yl uc]) (news := vs) (v := .slice (some ⟨G, 0, none⟩) 1 1) rfl (.tmp 86) (.tmp 87) rfl (by rw [HG.out]; first | (simp [Act.eval]; done) | (simp [Act.eval, Act.put]; done)) ⟨b0, o0, none⟩ n tc (by first | (simp [Act.eval]; done) | (simp [Act.eval, Act.put]; done)) HNv.out (HA.out _ (by rfl)) (HNw.out _ (by rfl)) HOne.out (by unfold maxLen; simp; omega) (by simp; omega) (HGs.out _ (by rfl)) ?_; intro v2 w2 hO2 hb2 _; have HCc := hid_w (HEnd.out _ v2 w2 (by rfl) (by exact ⟨rfl, rfl, rfl⟩) hO2 hb2); have hfw := HFw.out _ w2 (by rfl) hb2; clear hO2 hb2) | (refine step_frc (l0 := l0) (bF := bF) (x := v2) rfl (.tmp 81) (.tmp 88) rfl (by first | (simp [Act.eval]; done) | (simp [Act.eval, Act.put]; done)) (by first | (simp [Act.eval]; done) | (simp [Act.eval, Act.put]; done)) HCc.out ?_; intro w9 HS9))
          all_goals go_wp2
          all_goals go_roundw
          all_goals (first | exact ⟨k + 1, by omega, by go_num, HS9⟩ | (simp [intOf]; omega))
        · obtain rfl : k = N := by omega
          have hkN' : ¬ (k : Int) < (k : Int) := by omega
          have HQe : Hid (FrQ l0 bF lo vl w (L ++ (frF (d + 1) ls).map mxF) wr) := by
            obtain ⟨vl', us', x1, x2, _⟩ := HS.out
            rw [HTot.out] at x1
            exact ⟨vl', us', x1, x2⟩
          go_wp2
          first | go_end0 | (refine bodyPost_ret (results_none rfl _ _ _) rfl ?_)
          exact ⟨rfl, HQe.out⟩
end Go.Proofs.YtgcpconlmihilaaGreatDoor
