/-
  The contract of ferref.Unfolded: a function that calls itself.
-/
import Derived.Test.YtnjbkiegeielhabFFld
namespace Go.Proofs.Ytnjbkiegeielhab
open Go.RowKit

theorem unfold_app : ∀ (n : Nat) (b t : List Int), n ≤ b.length → unfold n (b ++ t) = unfold n b ++ t := by
  intro n
  induction n with
  | zero => intro b t _; rfl
  | succ n ih =>
    intro b t h
    have e : stepB n (b ++ t) = stepB n b ++ t := by
      unfold stepB
      have e1 : (b ++ t).getD n 0 = b.getD n 0 := by
        rw [List.getD_eq_getElem?_getD, List.getD_eq_getElem?_getD, List.getElem?_append_left (by omega)]
      rw [e1, List.take_append_of_le_length (by omega), List.drop_append_of_le_length (by omega), List.append_assoc]
    rw [unfold, unfold, e, ih _ _ (by rw [stepB_length]; omega)]

/-- The blocks of a word, their last letters in front. -/
theorem bwd_blocks (x : Int) (u : List Int) : ∃ bs, Good (cut x (u.headD 0)) bs ∧ u = flatF bs ∧ bwd x u = flatB bs := by
  cases u with
  | nil => exact ⟨[], by simp [Good], rfl, rfl⟩
  | cons r u =>
    obtain ⟨b, bs, hb, hg, he⟩ := to_flatF (P := cut x r) (r :: u)
    cases b with
    | cons z b =>
      exfalso
      have : r = z := by have := congrArg (List.headD · 0) he; simpa using this
      have h := hb z (by simp); rw [← this, cut_self] at h; cases h
    | nil =>
      refine ⟨bs, hg, by simpa using he, ?_⟩
      unfold bwd
      show back (cut x r) (r :: u).reverse [] [] = _
      rw [he]
      have := back_flat bs hg [] []
      simp only [List.append_nil, List.nil_append] at this ⊢
      rw [this]; rfl

theorem unfold_last {zs : List Int} {n : Nat} (h : zs.length = n + 1) : unfold zs.length zs = unfold n (bwd (zs.getD n 0) (zs.take n)) ++ [zs.getD n 0] := by
  rw [h, unfold]
  have e : stepB n zs = bwd (zs.getD n 0) (zs.take n) ++ [zs.getD n 0] := by
    unfold stepB
    rw [drop_cons zs n (by omega), List.drop_of_length_le (by omega)]
  rw [e, unfold_app n _ _ (by rw [bwd_length, List.length_take]; omega)]

theorem cut_ne (x r y : Int) : (decide (y > x) != decide (r > x)) = !cut x r y := by rw [← cut_gt]; rfl

theorem bwd_mem' (x : Int) (u : List Int) (z : Int) (h : z ∈ bwd x u) : z ∈ u := by
  obtain ⟨bs, _, h1, h2⟩ := bwd_blocks x u
  have : ∀ bs : List (List Int × Int), z ∈ flatB bs → z ∈ flatF bs := by
    intro bs
    induction bs with
    | nil => intro h; exact h
    | cons b bs ih =>
      intro h
      simp only [flatF, flatB, List.mem_cons, List.mem_append] at h ⊢
      rcases h with h | h | h
      · exact Or.inr (Or.inl h)
      · exact Or.inl h
      · exact Or.inr (Or.inr (ih h))
  rw [h1]; rw [h2] at h; exact this bs h

set_option maxHeartbeats 4000000 in
theorem Unfolded_ok : ∀ (n : Nat) (a : Option Addr) (cap : Nat) (zs : List Int) (w : World), zs.length = n → Shows w a zs → zs.length ≤ cap → zs.length ≤ 40 → (∀ z ∈ zs, 1 ≤ z ∧ z ≤ 99) →
    Calls Try.prog 30 #[.slice a zs.length cap] w fun e w' => ∃ v, e = .returned v ∧ Owns w' w.heap.size v (unfold zs.length zs) ∧ Below w.heap.size w w' := by
  intro n
  induction n with
  | zero =>
    intro a cap zs w hn hs hcap h40 hlet
    obtain rfl : zs = [] := List.eq_nil_of_length_eq_zero hn
    go_enter Try.func30, Try.ntmps30
    go_wp2
    go_ret
    exact ⟨_, rfl, World.ownsRow_nil _ _ _ _, Below.refl _ _⟩
  | succ n ih =>
    intro a cap zs w hn hs hcap h40 hlet
    have HLe : Hid (∀ z ∈ zs, 1 ≤ z ∧ z ≤ 99) := hlet
    have HIH : Hid (∀ (a : Option Addr) (cap : Nat) (zs : List Int) (w : World), zs.length = n → Shows w a zs → zs.length ≤ cap → zs.length ≤ 40 → (∀ z ∈ zs, 1 ≤ z ∧ z ≤ 99) →
        Calls Try.prog 30 #[.slice a zs.length cap] w fun e w' => ∃ v, e = .returned v ∧ Owns w' w.heap.size v (unfold zs.length zs) ∧ Below w.heap.size w w') := ih
    have HN : Hid (zs.length = n + 1) := hn
    obtain ⟨x, HX⟩ : ∃ x, Hid (x = zs.getD n 0) := ⟨_, rfl⟩
    obtain ⟨u, HU⟩ : ∃ u, Hid (u = zs.take n) := ⟨_, rfl⟩
    have HUl : Hid (u.length = n) := by show _ = _; rw [HU.out, List.length_take]; omega
    have HRes : Hid (unfold zs.length zs = unfold n (bwd x u) ++ [x]) := by show _ = _; rw [unfold_last hn, HX.out, HU.out]
    obtain ⟨r, HR⟩ : ∃ r, Hid (r = u.headD 0) := ⟨_, rfl⟩
    obtain ⟨bs0, hg0, hf0, hb0⟩ := bwd_blocks x u
    rw [← HR.out] at hg0
    have HG0 : Hid (Good (cut x r) bs0) := hg0
    have HF0 : Hid (u = flatF bs0) := hf0
    have HB0 : Hid (bwd x u = flatB bs0) := hb0
    have HUw : Hid (∀ z ∈ u, 1 ≤ z ∧ z ≤ 99) := fun z hz => by rw [HU.out] at hz; exact HLe.out z (List.mem_of_mem_take hz)
    obtain ⟨bz, oz, xx, rfl, HXX, -, -, hcx⟩ := hs.elem (k := n) (by omega)
    obtain rfl : x = xx := by rw [HXX.out, HX.out]
    have SU : Shows w (some ⟨bz, oz, none⟩) u := by rw [HU.out]; exact hs.take n
    have hb : ((zs.length : Int) == 0) = false := beq_eq_false_iff_ne.2 (by omega)
    have hw1 : IntKind.i64.wrap ((zs.length : Int) - 1) = (n : Int) := by rw [IntWalk.i64_left, IntWalk.wrap64_in _ (by omega)]; omega
    have bn : n ≤ cap := by omega
    have hnl : (n : Int) < (zs.length : Int) := by omega
    have hn40 : n ≤ 39 := by omega
    have hncap : n + 1 ≤ cap := by omega
    clear ih hn hg0 hf0 hb0 hlet
    go_enter Try.func30, Try.ntmps30
    go_wp2_with fail
    go_quiet (fail)
    go_wp2
    go_loopw [5, 6] (fun v i wr => ∃ (I : Nat) (bf : List Int) (bs : List (List Int × Int)), I ≤ n ∧ i = .int .i64 I ∧ Hid (u.drop I = flatF bs) ∧ Hid (Good (cut x r) bs) ∧ Hid (bf ++ flatB bs = bwd x u) ∧ Hid (bf.length = I) ∧ Hid (Owns wr w.heap.size v bf) ∧ Hid (Below w.heap.size w wr)) (fun _ i _ => n - (intOf i).toNat)
    case atStart => exact ⟨0, [], bs0, Nat.zero_le _, rfl, HF0, HG0, by show _ = _; rw [HB0.out]; rfl, rfl, World.ownsRow_nil _ _ _ _, below_drewN (Below.refl _ _) _⟩
    case round =>
      obtain ⟨I, bf, bs, hI, rfl, HFl, HGd, HBf, HBl, HO, HB⟩ := hrel
      by_cases hlt : I < n
      · have hlt' : (I : Int) < (n : Int) := by omega
        have HLT : Hid (I < n) := hlt
        cases bs with
        | nil =>
          exfalso
          have := congrArg List.length HFl.out
          rw [List.length_drop, HUl.out] at this
          simp [flatF] at this; omega
        | cons b bs =>
          obtain ⟨q, y⟩ := b
          have HFl2 : Hid (u.drop I = y :: (q ++ flatF bs)) := HFl.out
          have HP : Hid (cut x r y = true ∧ (∀ z ∈ q, cut x r z = false)) := HGd.out (q, y) (by simp)
          have hqlen : I + 1 + q.length ≤ n := by
            have := congrArg List.length HFl2.out
            rw [List.length_drop, HUl.out] at this
            simp at this; omega
          have HYI : Hid (u.getD I 0 = y) := by
            have h1 := drop_cons u I (by rw [HUl.out]; exact hlt)
            rw [HFl2.out] at h1
            have := (List.cons.inj h1).1
            exact this.symm
          have HQ : Hid (u.drop (I + 1) = q ++ flatF bs) := by
            have h1 := drop_cons u I (by rw [HUl.out]; exact hlt)
            rw [HFl2.out] at h1
            exact (List.cons.inj h1).2.symm
          have HQj : Hid (∀ j, j < q.length → cut x r (u.getD (I + 1 + j) 0) = false) := fun j hj => by
            have h1 : (u.drop (I + 1)).getD j 0 = q.getD j 0 := by
              rw [HQ.out, List.getD_eq_getElem?_getD, List.getD_eq_getElem?_getD, List.getElem?_append_left hj]
            have h2 : (u.drop (I + 1)).getD j 0 = u.getD (I + 1 + j) 0 := by
              rw [List.getD_eq_getElem?_getD, List.getD_eq_getElem?_getD, List.getElem?_drop]
            rw [← h2, h1]; exact HP.out.2 _ (getD_mem hj)
          have HQe : Hid (I + 1 + q.length < n → cut x r (u.getD (I + 1 + q.length) 0) = true) := fun hj => by
            cases bs with
            | nil =>
              exfalso
              have := congrArg List.length HQ.out
              rw [List.length_drop, HUl.out] at this
              simp [flatF] at this; omega
            | cons c bs =>
              have h1 : (u.drop (I + 1)).getD q.length 0 = c.2 := by rw [HQ.out]; simp [flatF, List.getD]
              have h2 : (u.drop (I + 1)).getD q.length 0 = u.getD (I + 1 + q.length) 0 := by
                rw [List.getD_eq_getElem?_getD, List.getD_eq_getElem?_getD, List.getElem?_drop]
              rw [← h2, h1]; exact (HGd.out c (by simp)).1
          have HRu : Hid (u.getD 0 0 = r) := by
            rw [HR.out]
            cases hu : u with
            | nil => rfl
            | cons z u => rfl
          obtain ⟨q0, HQ0⟩ : ∃ q0, Hid (q0 = q.length) := ⟨_, rfl⟩
          rw [← HQ0.out] at hqlen HQj HQe
          go_wp2
          go_loopw [7] (fun i wq => ∃ j : Nat, j ≤ q0 ∧ i = .int .i64 ((I + 1 + j : Nat) : Int) ∧ Hid (Owns wq w.heap.size u5 bf) ∧ Hid (Below w.heap.size w wq)) (fun i _ => n - (intOf i).toNat)
          case atStart => exact ⟨0, Nat.zero_le _, by first | rfl | go_num, HO, HB⟩
          case round =>
            obtain ⟨j, hj, rfl, HO2, HB2⟩ := hrel
            obtain ⟨K, HK⟩ : ∃ K, Hid (K = I + 1 + j) := ⟨_, rfl⟩
            rw [← HK.out]
            by_cases hjl : j < q0
            · have hKn : K < n := by have := HK.out; omega
              have hKn' : decide ((K : Int) < (n : Int)) = true := by simp; omega
              have hKn2 : (K : Int) < (n : Int) := by omega
              have hn0 : (0 : Int) < (n : Int) := by omega
              obtain ⟨b1, o1, zk, hbb, HZk, -, -, hcz⟩ := (SU.below HB2.out).elem (k := K) (by rw [HUl.out]; exact hKn)
              simp only [Option.some.injEq, Addr.mk.injEq, and_true] at hbb
              obtain ⟨rfl, rfl⟩ := hbb
              obtain ⟨b1, o1, r2, hbb, HZr, -, -, hcr⟩ := (SU.below HB2.out).elem (k := 0) (by rw [HUl.out]; omega)
              simp only [Option.some.injEq, Addr.mk.injEq, and_true] at hbb
              obtain ⟨rfl, rfl⟩ := hbb
              rw [Nat.add_zero] at hcr
              obtain rfl : r = r2 := by rw [HZr.out, HRu.out]
              have hcut : (decide (zk > x) != decide (r > x)) = true := by
                rw [cut_ne, HZk.out, HK.out, HQj.out j hjl]; rfl
              have hcut2 : (decide (zk > x) == decide (r > x)) = false := by rw [cut_gt, HZk.out, HK.out]; exact HQj.out j hjl
              have HJL : Hid (j < q0) := hjl
              clear hjl
              go_wp2_with fail
              go_quiet (fail)
              go_wp2
              go_roundw
              case rel => exact ⟨j + 1, HJL.out, by have := HK.out; go_num, HO2.out.below (below_drewN (Below.refl _ _) _), HB2.out.trans (below_drewN (Below.refl _ _) _)⟩
              case measure => have := HK.out; have := HJL.out; simp [intOf]; omega
            · obtain rfl : j = q0 := by omega
              have hcapI : I + 1 ≤ cap := by omega
              obtain ⟨I1, hI1⟩ : ∃ I1, I1 = I + 1 := ⟨_, rfl⟩
              have hwI : IntKind.i64.wrap ((I : Int) + 1) = (I1 : Int) := by rw [IntWalk.i64_left, IntWalk.wrap64_in _ (by omega)]; omega
              have HI1 : Hid (I1 = I + 1) := hI1
              have bI : I1 ≤ K := by have := HK.out; omega
              have bK : K ≤ cap := by have := HK.out; omega
              have bI2 : I1 ≤ cap := by omega
              have hKI : Hid (K - I1 = q.length) := by have := HK.out; have := HI1.out; have := HQ0.out; show _ = _; omega
              have hqw : Hid (q.length ≤ 40) := by have := HQ0.out; show _ ≤ _; omega
              have HSq : Hid (Shows wr (some ⟨bz, oz + I1, none⟩) q) := by
                have h1 := SU.below HB2.out
                refine ⟨by have := hqw.out; omega, fun z hz => ?_, fun hne => ?_⟩
                · have : z ∈ u.drop (I + 1) := by rw [HQ.out]; exact List.mem_append_left _ hz
                  have := HUw.out z (List.mem_of_mem_drop this); omega
                · obtain ⟨b9, o9, h9, hl9, hc9⟩ := h1.cells (by intro e; rw [e] at HUl; have := HUl.out; simp at this; omega)
                  simp only [Option.some.injEq, Addr.mk.injEq, and_true] at h9
                  obtain ⟨rfl, rfl⟩ := h9
                  refine ⟨bz, oz + I1, rfl, hl9, fun t ht => ?_⟩
                  have := hc9 (I + 1 + t) (by rw [HUl.out]; have := HQ0.out; omega)
                  rw [HI1.out, Nat.add_assoc, this]
                  have h2 : (u.drop (I + 1)).getD t 0 = q.getD t 0 := by
                    rw [HQ.out, List.getD_eq_getElem?_getD, List.getD_eq_getElem?_getD, List.getElem?_append_left ht]
                  have h3 : (u.drop (I + 1)).getD t 0 = u.getD (I + 1 + t) 0 := by
                    rw [List.getD_eq_getElem?_getD, List.getD_eq_getElem?_getD, List.getElem?_drop]
                  rw [← h3, h2]
              have HFin : Hid (u.drop K = flatF bs ∧ bf ++ q ++ [y] ++ flatB bs = bwd x u ∧ (bf ++ q ++ [y]).length = K) := by
                refine ⟨?_, ?_, ?_⟩
                · have h1 : u.drop K = (u.drop (I + 1)).drop q.length := by rw [List.drop_drop]; congr 1; have := HK.out; have := HQ0.out; omega
                  rw [h1, HQ.out]; simp
                · have := HBf.out
                  rw [← this]; simp [flatB]
                · have := HBl.out; have := HK.out; have := HQ0.out; simp; omega
              have HKn : Hid (K ≤ n ∧ I < K) := ⟨by have := HK.out; omega, by have := HK.out; omega⟩
              have hbfl : bf.length ≤ 40 := by have := HBl.out; omega
              have hI' : (I : Int) < (n : Int) := by have := HLT.out; omega
              have HGd2 : Hid (Good (cut x r) bs) := HGd.out.tail
              have hgo : ∀ W : World, Below w.heap.size w W → ∃ z, z = y ∧ W.cell? ⟨bz, oz + I, none⟩ = some (.int .i64 z) := fun W hW => by
                obtain ⟨b9, o9, z9, hbb, HZ9, -, -, hc9⟩ := (SU.below hW).elem (k := I) (by rw [HUl.out]; exact HLT.out)
                simp only [Option.some.injEq, Addr.mk.injEq, and_true] at hbb
                obtain ⟨rfl, rfl⟩ := hbb
                exact ⟨z9, by rw [HZ9.out, HYI.out], hc9⟩
              have HGo : Hid (∀ W : World, Below w.heap.size w W → ∃ z, z = y ∧ W.cell? ⟨bz, oz + I, none⟩ = some (.int .i64 z)) := hgo
              clear hgo hI1
              have HTest : Hid (¬ K < n ∨ K < n ∧ cut x r (u.getD K 0) = true) := by
                by_cases h : K < n
                · exact Or.inr ⟨h, by have h2 := HQe.out; rw [HK.out] at h ⊢; exact h2 h⟩
                · exact Or.inl h
              have HL0 : Hid (cap = I1 → Shows wr (some ⟨bz, oz, none⟩) q) := fun hcs => by
                have hq0' : q = [] := List.eq_nil_of_length_eq_zero (by have := hKI.out; omega)
                rw [hq0']; exact ⟨by simp, fun z h => (by cases h), fun h => absurd rfl h⟩
              by_cases hcs : cap = I1
              · have HSz := HL0.out hcs
                have hKI0 : Hid (0 = q.length) := by have := hKI.out; show _ = _; omega
                rcases HTest.out with hKK | hKK
                · have hcs2 : cap = I1 := hcs
                  subst hcs2
                  have hKd : decide ((K : Int) < (n : Int)) = false := by simp; omega
                  go_wp2_with fail
                  go_quiet (fail)
                  have HO3 : Hid (Owns (wr.drewN nq) w.heap.size u5 bf) := HO2.out.below (below_drewN (Below.refl _ _) nq)
                  have HB3 : Hid (Below w.heap.size w (wr.drewN nq)) := HB2.out.trans (below_drewN (Below.refl _ _) nq)
                  have Sq3 := HSq.out.below (below_drewN (Below.refl _ _) nq)
                  go_wp2_with (at_builtin; refine append_src rfl _ _ rfl rfl rfl HO3.out (HSz.below (below_drewN (Below.refl _ _) nq)) (by have := hKI.out; omega) (fun h => by cases h) ?c1 ?c2 ?_)
                  case c1 => have := hqw.out; omega
                  case c2 => exact HB3.out.size
                  intro v5 w5 hO5 hb5 _
                  have HO5 : Hid (Owns w5 w.heap.size v5 (bf ++ q)) := hO5
                  have HB5 : Hid (Below w.heap.size w w5) := HB3.out.trans hb5
                  obtain ⟨z5, rfl, hc5⟩ := HGo.out w5 HB5.out
                  clear hO5 hb5
                  go_wp2_with (at_builtin; refine append_int (x := z5) rfl _ _ rfl rfl HO5.out rfl ?c3 ?c4 ?_)
                  case c3 => have := hqw.out; simp; omega
                  case c4 => exact HB5.out.size
                  intro v6 w6 hO6 hb6
                  have HO6 : Hid (Owns w6 w.heap.size v6 (bf ++ q ++ [z5])) := by show Owns _ _ _ _; simpa using hO6
                  have HB6 : Hid (Below w.heap.size w w6) := HB5.out.trans hb6
                  clear hO6 hb6
                  go_wp2
                  go_roundw
                  case rel => exact ⟨K, bf ++ q ++ [z5], bs, HKn.out.1, rfl, HFin.out.1, HGd2, HFin.out.2.1, HFin.out.2.2, HO6, HB6⟩
                  case measure => have := HKn.out; simp [intOf]; omega
                · exfalso
                  omega
              · have hcs' : (cap == I1) = false := by simpa using hcs
                rcases HTest.out with hKK | hKK
                · have hKd : decide ((K : Int) < (n : Int)) = false := by simp; omega
                  go_wp2_with fail
                  go_quiet (fail)
                  have HO3 : Hid (Owns (wr.drewN nq) w.heap.size u5 bf) := HO2.out.below (below_drewN (Below.refl _ _) nq)
                  have HB3 : Hid (Below w.heap.size w (wr.drewN nq)) := HB2.out.trans (below_drewN (Below.refl _ _) nq)
                  have Sq3 := HSq.out.below (below_drewN (Below.refl _ _) nq)
                  go_wp2_with (at_builtin; refine append_src rfl _ _ rfl rfl rfl HO3.out Sq3 hKI.out (fun h => by cases h) ?c1 ?c2 ?_)
                  case c1 => have := hqw.out; omega
                  case c2 => exact HB3.out.size
                  intro v5 w5 hO5 hb5 _
                  have HO5 : Hid (Owns w5 w.heap.size v5 (bf ++ q)) := hO5
                  have HB5 : Hid (Below w.heap.size w w5) := HB3.out.trans hb5
                  obtain ⟨z5, rfl, hc5⟩ := HGo.out w5 HB5.out
                  clear hO5 hb5
                  go_wp2_with (at_builtin; refine append_int (x := z5) rfl _ _ rfl rfl HO5.out rfl ?c3 ?c4 ?_)
                  case c3 => have := hqw.out; simp; omega
                  case c4 => exact HB5.out.size
                  intro v6 w6 hO6 hb6
                  have HO6 : Hid (Owns w6 w.heap.size v6 (bf ++ q ++ [z5])) := by show Owns _ _ _ _; simpa using hO6
                  have HB6 : Hid (Below w.heap.size w w6) := HB5.out.trans hb6
                  clear hO6 hb6
                  go_wp2
                  go_roundw
                  case rel => exact ⟨K, bf ++ q ++ [z5], bs, HKn.out.1, rfl, HFin.out.1, HGd2, HFin.out.2.1, HFin.out.2.2, HO6, HB6⟩
                  case measure => have := HKn.out; simp [intOf]; omega
                · have hKd : decide ((K : Int) < (n : Int)) = true := by simp; omega
                  have hKn2 : (K : Int) < (n : Int) := by omega
                  have hn0 : (0 : Int) < (n : Int) := by omega
                  obtain ⟨b1, o1, zk, hbb, HZk, -, -, hcz⟩ := (SU.below HB2.out).elem (k := K) (by rw [HUl.out]; exact hKK.1)
                  simp only [Option.some.injEq, Addr.mk.injEq, and_true] at hbb
                  obtain ⟨rfl, rfl⟩ := hbb
                  obtain ⟨b1, o1, r2, hbb, HZr, -, -, hcr⟩ := (SU.below HB2.out).elem (k := 0) (by rw [HUl.out]; omega)
                  simp only [Option.some.injEq, Addr.mk.injEq, and_true] at hbb
                  obtain ⟨rfl, rfl⟩ := hbb
                  rw [Nat.add_zero] at hcr
                  obtain rfl : r = r2 := by rw [HZr.out, HRu.out]
                  have hcut : (decide (zk > x) != decide (r > x)) = false := by rw [cut_ne, HZk.out, hKK.2]; rfl
                  have hcut2 : (decide (zk > x) == decide (r > x)) = true := by rw [cut_gt, HZk.out]; exact hKK.2
                  clear hKK
                  go_wp2_with fail
                  go_quiet (fail)
                  have HO3 : Hid (Owns (wr.drewN nq) w.heap.size u5 bf) := HO2.out.below (below_drewN (Below.refl _ _) nq)
                  have HB3 : Hid (Below w.heap.size w (wr.drewN nq)) := HB2.out.trans (below_drewN (Below.refl _ _) nq)
                  have Sq3 := HSq.out.below (below_drewN (Below.refl _ _) nq)
                  go_wp2_with (at_builtin; refine append_src rfl _ _ rfl rfl rfl HO3.out Sq3 hKI.out (fun h => by cases h) ?c1 ?c2 ?_)
                  case c1 => have := hqw.out; omega
                  case c2 => exact HB3.out.size
                  intro v5 w5 hO5 hb5 _
                  have HO5 : Hid (Owns w5 w.heap.size v5 (bf ++ q)) := hO5
                  have HB5 : Hid (Below w.heap.size w w5) := HB3.out.trans hb5
                  obtain ⟨z5, rfl, hc5⟩ := HGo.out w5 HB5.out
                  clear hO5 hb5
                  go_wp2_with (at_builtin; refine append_int (x := z5) rfl _ _ rfl rfl HO5.out rfl ?c3 ?c4 ?_)
                  case c3 => have := hqw.out; simp; omega
                  case c4 => exact HB5.out.size
                  intro v6 w6 hO6 hb6
                  have HO6 : Hid (Owns w6 w.heap.size v6 (bf ++ q ++ [z5])) := by show Owns _ _ _ _; simpa using hO6
                  have HB6 : Hid (Below w.heap.size w w6) := HB5.out.trans hb6
                  clear hO6 hb6
                  go_wp2
                  go_roundw
                  case rel => exact ⟨K, bf ++ q ++ [z5], bs, HKn.out.1, rfl, HFin.out.1, HGd2, HFin.out.2.1, HFin.out.2.2, HO6, HB6⟩
                  case measure => have := HKn.out; simp [intOf]; omega
      · obtain rfl : I = n := by omega
        have HE : Hid (bf = bwd x u) := by
          have h1 := HFl.out
          rw [List.drop_of_length_le (by rw [HUl.out]; exact Nat.le_refl _)] at h1
          cases bs with
          | nil => have := HBf.out; rw [flatB, List.append_nil] at this; exact this
          | cons b bs => rw [flatF] at h1; cases h1
        have hbl : bf.length = I := HBl.out
        obtain ⟨av, nv, cv, rfl, Sv, hnv, hcv⟩ := HO.out.opened (by omega) (fun z hz => by
          rw [HE.out] at hz
          have := HUw.out z (bwd_mem' _ _ _ hz); omega)
        have HLw : Hid (∀ z ∈ bf, 1 ≤ z ∧ z ≤ 99) := fun z hz => by
          rw [HE.out] at hz
          exact HUw.out z (bwd_mem' _ _ _ hz)
        have HBLn : Hid (bf.length = I) := hbl
        have HR2 : Hid (unfold zs.length zs = unfold bf.length bf ++ [x]) := by show _ = _; rw [HRes.out, HBLn.out, HE.out]
        subst hnv
        have hbf40 : bf.length ≤ 40 := by omega
        clear hbl
        go_wp2_with fail
        refine (HIH.out _ _ bf _ HBLn.out Sv hcv hbf40 HLw.out).mono ?_
        rintro e w5 ⟨v5, rfl, hO5, hb5⟩
        have HO5 : Hid (Owns w5 w.heap.size v5 (unfold bf.length bf)) := hO5.mono HB.out.size
        have HB5 : Hid (Below w.heap.size w w5) := HB.out.trans (hb5.mono HB.out.size)
        clear hO5 hb5
        go_wp2_with (at_builtin; refine append_int (x := x) rfl _ _ rfl rfl HO5.out rfl ?c1 ?c2 ?_)
        case c1 => rw [unfold_length]; omega
        case c2 => exact HB5.out.size
        intro v6 w6 hO6 hb6
        have HO6 : Hid (Owns w6 w.heap.size v6 (unfold zs.length zs)) := by show Owns _ _ _ _; rw [HR2.out]; exact hO6
        have HB6 : Hid (Below w.heap.size w w6) := HB5.out.trans hb6
        clear hO6 hb6
        go_wp2
        go_ret
        exact ⟨_, rfl, HO6.out, HB6.out⟩

end Go.Proofs.Ytnjbkiegeielhab
