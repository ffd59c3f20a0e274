/-
  The contract of ferref.Merged.
-/
import Derived.Test.YtopdmbgfdlnfdaaMov
import Derived.Deep.RegionLaw
namespace Go.Proofs.Ytopdmbgfdlnfdaa
open Go.RowKit

set_option maxHeartbeats 1000000 in
theorem Merged_even (a : Option Addr) (cap : Nat) (zs : List Int) (w : World) (hs : Shows w a zs) (hp : IsPart zs) (hev : Hid (evenB zs = true)) :
    Calls Try.prog 24 #[.slice a zs.length cap] w fun e w' => e = .returned (.tuple #[.slice none 0 0, .int .i64 3]) ∧ ∃ n, w' = w.drewN n := by
  have hl := hp.len
  go_enter Try.func24, Try.ntmps24
  go_wp2
  go_loop [4] (fun i => ∃ k : Nat, k ≤ zs.length ∧ i = .int .i64 k ∧ Hid (∀ j, j < k → ¬ zs.getD j 0 % 2 = 0)) (fun i => zs.length - (intOf i).toNat)
  case atStart => exact ⟨0, Nat.zero_le _, rfl, fun j hj => by omega⟩
  case round =>
    obtain ⟨k, hk, rfl, HR⟩ := hrel
    by_cases hlt : k < zs.length
    · obtain ⟨b, off, z, rfl, HZ, hz1, hz2, hc⟩ := hs.elem hlt
      have hz0 : 1 ≤ z ∧ z ≤ 40 := hp.range z (by rw [HZ.out]; exact getD_mem hlt)
      obtain ⟨hz3, hz4⟩ := hz0
      have hltI : (k : Int) < (zs.length : Int) := by omega
      by_cases he : z % 2 = 0
      · have hb : (z % 2 == 0) = true := by simpa using he
        clear he
        go_wp2
        go_ret2
        exact ⟨rfl, 0, rfl⟩
      · have hb : (z % 2 == 0) = false := by simpa using he
        have HE : Hid (¬ z % 2 = 0) := he
        clear he
        go_wp2
        go_round
        case rel => exact ⟨k + 1, by omega, by go_num, fun j hj => by
                      by_cases hj' : j < k
                      · exact HR.out j hj'
                      · obtain rfl : j = k := by omega
                        rw [← HZ.out]; exact HE.out⟩
        case measure => simp [intOf]; omega
    · exfalso
      have := hev.out
      unfold evenB at this
      rw [List.any_eq_true] at this
      obtain ⟨z, hz, he⟩ := this
      obtain ⟨j, hj, rfl⟩ := List.getElem_of_mem hz
      have := HR.out j (by omega)
      simp [List.getD, List.getElem?_eq_getElem hj] at this
      simp at he
      omega

theorem Shows.dropN {w : World} {g : Nat} {zs : List Int} (h : Shows w (some ⟨g, 0, none⟩) zs) (i : Nat) (a : Option Addr) (ha : i < zs.length → a = some ⟨g, i, none⟩) : Shows w a (zs.drop i) := by
  refine ⟨by have := h.len; simp; omega, fun z hz => h.wf z (List.mem_of_mem_drop hz), fun hne => ?_⟩
  have hi : i < zs.length := by
    rcases Nat.lt_or_ge i zs.length with h | h
    · exact h
    · exact absurd (List.drop_of_length_le h) hne
  obtain ⟨b, off, hb, hlt, hc⟩ := h.cells (fun e => by subst e; simp at hi)
  cases hb
  refine ⟨g, i, ha hi, hlt, fun j hj => ?_⟩
  rw [List.length_drop] at hj
  have := hc (i + j) (by omega)
  rw [Nat.zero_add] at this
  rw [this]; simp [List.getD]

theorem Shows.dropAt {w : World} {g : Nat} {zs : List Int} (h : Shows w (some ⟨g, 0, none⟩) zs) (i : Nat) : Shows w (some ⟨g, i, none⟩) (zs.drop i) := h.dropN i _ (fun _ => rfl)
theorem Shows.dropNil {w : World} {g : Nat} {zs : List Int} (h : Shows w (some ⟨g, 0, none⟩) zs) (i : Nat) (hi : Hid (zs.length ≤ i)) : Shows w (some ⟨g, 0, none⟩) (zs.drop i) := h.dropN i _ (fun h' => by have := hi.out; omega)

theorem some_none {a : Addr} {p : Prop} (h : some a = none) : p := by cases h

/-- In the middle of the region: what has been gathered; what q shows; nothing older has turned. -/
def Mid (wr W : World) (g : Nat) (q : List Int) (v : Value) (zs : List Int) : Prop := Owns W wr.heap.size v zs ∧ Shows W (some ⟨g, 0, none⟩) q ∧ Below wr.heap.size wr W ∧ g < wr.heap.size
/-- The one number that lies in a block of its own. -/
def Bld (wr W : World) (N : Nat) (x : Int) (v : Value) : Prop := Owns W wr.heap.size (.slice (some ⟨N, 0, none⟩) 1 1) [x] ∧ Apart v (.slice (some ⟨N, 0, none⟩) 1 1)

theorem mid_step {wr W : World} {g : Nat} {q zs : List Int} {ops : Array Oper} {o : Oper} {a : Act} {K : Act → World → Prop} {Q : Exit → Act → World → Prop} {E : Prop} (hgd : o.guard = none) (s y : Operand)
    (ho : o.op = .call { callee := .builtin .append, args := #[s, y], argTypes := #[22, 22] }) (v : Value) (ad : Option Addr) (m c : Nat) (ys : List Int) (hs : a.eval s = v) (hx : a.eval y = .slice ad m c) (hM : Mid wr W g q v zs) (hsrc : Shows W ad ys) (hm : m = ys.length) (hn : ad = none → ys = [] ∧ c = 0)
    (hl : zs.length + ys.length ≤ 17592186044414)
    (h : ∀ v' W', Hid (Mid wr W' g q v' (zs ++ ys)) → Hid (∀ N x, Bld wr W N x v → Bld wr W' N x v') → K (a.put o.dst v') W') :
    if Region.wanted o (yielded ops a.tmps) = true then Oper.wp Try.prog o a W K Q else E := by
  refine step_src hgd s y ho hs hx hM.1 hsrc hm hn hl hM.2.2.1.size (fun v' W' r1 r2 r3 => h v' W' ⟨r1, ?_, hM.2.2.1.trans r2, hM.2.2.2⟩ (fun N x hB => r3 _ _ hB.1 hB.2))
  obtain ⟨l1, l2, l3⟩ := hM.2.1
  refine ⟨l1, l2, fun hne => ?_⟩
  obtain ⟨b, off, e, hlt, hc⟩ := l3 hne
  cases e
  exact ⟨g, 0, rfl, Nat.lt_of_lt_of_le hlt r2.size, fun j hj => (r2.cell (p := ⟨g, 0 + j, none⟩) hM.2.2.2).trans (hc j hj)⟩

theorem Mid.alloc {wr W : World} {g : Nat} {q zs : List Int} {v : Value} (h : Mid wr W g q v zs) (x : Int) : Mid wr (W.alloc (.cells #[.int .i64 x] 3)) g q v zs ∧ Bld wr (W.alloc (.cells #[.int .i64 x] 3)) W.heap.size x v := by
  have hb : Below W.heap.size W (W.alloc (.cells #[.int .i64 x] 3)) := (Below.refl _ _).alloc (Nat.le_refl _) _
  refine ⟨⟨h.1.below hb, h.2.1.below hb, h.2.2.1.alloc h.2.2.1.size _, h.2.2.2⟩, ?_, fun g' h1 h2 => ?_⟩
  · refine owns_of_row h.2.2.1.size ?_ rfl (by simp)
    exact heap_alloc_new W _
  · have := (h.1.lt h1).2
    simp [Value.ownBlock] at h2; omega
theorem Mid.drewN {wr W : World} {g : Nat} {q zs : List Int} {v : Value} (h : Mid wr W g q v zs) (n : Nat) : Mid wr (W.drewN n) g q v zs :=
  ⟨h.1.below (below_drewN (Below.refl _ _) n), h.2.1.below (below_drewN (Below.refl _ _) n), below_drewN h.2.2.1 n, h.2.2.2⟩
theorem Bld.drewN {wr W : World} {N : Nat} {x : Int} {v : Value} (h : Bld wr W N x v) (n : Nat) : Bld wr (W.drewN n) N x v := ⟨h.1.below (below_drewN (Below.refl _ _) n), h.2⟩
theorem Bld.shows {wr W : World} {N : Nat} {x : Int} {v : Value} (h : Bld wr W N x v) (hx : -9223372036854775808 ≤ x ∧ x ≤ 9223372036854775807) : Shows W (some ⟨N, 0, none⟩) [x] := by
  obtain ⟨a, cap, hv, hs⟩ := h.1.shows (by simp) (fun z hz => by rw [List.mem_singleton] at hz; rw [hz]; exact hx)
  simp only [Value.slice.injEq] at hv
  rw [hv.1]; exact hs

set_option maxHeartbeats 16000000 in
theorem Merged_ok (a : Option Addr) (cap : Nat) (zs : List Int) (w : World) (hs : Shows w a zs) (hnone : Hid (a = none → zs = [] ∧ cap = 0)) (hp : IsPart zs) (hev : Hid (evenB zs = false)) :
    Calls Try.prog 24 #[.slice a zs.length cap] w fun e w' => ∃ v, e = .returned (.tuple #[v, .int .i64 0]) ∧ Owns w' w.heap.size v (listed (mergeTo (cnt zs) 40)) ∧ Below w.heap.size w w' := by
  have hl := hp.len
  go_enter Try.func24, Try.ntmps24
  go_wp2
  go_loop [4] (fun i => ∃ k : Nat, k ≤ zs.length ∧ i = .int .i64 k) (fun i => zs.length - (intOf i).toNat)
  case atStart => exact ⟨0, Nat.zero_le _, rfl⟩
  case round =>
    obtain ⟨k, hk, rfl⟩ := hrel
    by_cases hlt : k < zs.length
    · obtain ⟨b, off, z, rfl, HZ, hz1, hz2, hc⟩ := hs.elem hlt
      have hmem : z ∈ zs := by rw [HZ.out]; exact getD_mem hlt
      have hz0 : 1 ≤ z ∧ z ≤ 40 := hp.range z hmem
      obtain ⟨hz3, hz4⟩ := hz0
      have hltI : (k : Int) < (zs.length : Int) := by omega
      have hb : (z % 2 == 0) = false := by
        have := hev.out
        unfold evenB at this
        rw [List.any_eq_false] at this
        simpa using this z hmem
      clear hmem
      go_wp2
      go_round
      case rel => exact ⟨k + 1, by omega, by go_num⟩
      case measure => simp [intOf]; omega
    · have hd : decide ((k : Int) < (zs.length : Int)) = false := by simp; omega
      go_wp2_with (at_builtin; refine append_src (zs := []) (ys := zs) rfl _ _ rfl rfl rfl (World.ownsRow_nil _ w.heap.size _ _) hs rfl hnone.out (by rw [List.length_nil]; omega) (Nat.le_refl _) ?_)
      intro v w1 hown hb1 _
      have HO : Hid (Owns w1 w.heap.size v zs) := hown
      have HB1 : Hid (Below w.heap.size w w1) := hb1
      clear hown hb1
      go_wp2_with fail
      go_loopw [5] (fun v wr => ∃ q : List Int, Hid (Owns wr w.heap.size v q) ∧ Hid (IsPart q) ∧ Hid (splitTo (cnt q) 40 = splitTo (cnt zs) 40) ∧ Hid (Below w.heap.size w wr)) (fun v _ => lenOf v)
      case atStart => exact ⟨zs, HO, hp, rfl, HB1⟩
      case round =>
        obtain ⟨q, HOq, HPq, HSq, HBq⟩ := hrel
        obtain ⟨aq, nq, cq, rfl, Sq, hnq, hnoneq⟩ := HOq.out.src (by have := HPq.out.len; omega) (part_wf HPq.out)
        have hlq := HPq.out.len
        rcases twiceV_spec q with htw | ⟨t, ht1, ht2, ht3, ht4⟩
        · have E : Hid (twiceV q = -1) := htw
          clear htw
          go_wp2_with fail
          refine (Twice_is _ _ _ _ _ Sq hnq E).mono ?_
          rintro e w2 ⟨rfl, hdr⟩
          have HB2 : Hid (Below wr.heap.size wr w2) := by obtain ⟨n, rfl⟩ := hdr; exact below_drewN (Below.refl _ _) n
          clear hdr
          go_wp2_with fail
          go_ret2
          refine ⟨_, rfl, ?_, HBq.out.trans (HB2.out.mono HBq.out.size)⟩
          rw [← merged_end hev.out HSq.out ((twice_dist HPq.out).1 E.out)]
          exact HOq.out.below HB2.out
        · have E : Hid (twiceV q = (t : Int)) := ht3
          have HE4 : Hid (q.getD t 0 = q.getD (t - 1) 0) := ht4
          have htI : (0 : Int) < (t : Int) := by omega
          obtain ⟨g, cp, hvq, hgB, hglt, hfz, hcl⟩ := HOq.out.head (by omega)
          simp only [Value.slice.injEq] at hvq
          obtain ⟨rfl, rfl, rfl⟩ := hvq
          have hmo := made_one HPq.out.small ht1 ht2 ht4
          have hcpq : q.length ≤ cq := (HOq.out.block rfl).2.choose_spec.2.2.1
          have hct := hcl t ht2
          obtain ⟨m, HM⟩ : ∃ m, Hid (m = q.getD t 0) := ⟨_, rfl⟩
          rw [← HM.out] at hct hmo
          obtain ⟨hmo1, hmo2, hmo3, hmo4⟩ := hmo
          have HM1 : Hid _ := hmo1
          have HM2 : Hid _ := hmo2
          have HM4 : Hid _ := hmo4
          have hm0 : 1 ≤ m := by rw [HM.out]; exact (HPq.out.range _ (getD_mem ht2)).1
          clear ht3 ht4 hcl hfz hmo1 hmo2 hmo4
          go_wp2_with fail
          refine (Twice_is _ _ _ _ _ Sq rfl E).mono ?_
          rintro e w2 ⟨rfl, n2, rfl⟩
          go_wp2_with fail
          refine (Twice_is _ _ _ _ _ (Sq.below (below_drewN (Below.refl _ _) n2)) rfl E).mono ?_
          rintro e w3 ⟨rfl, n3, rfl⟩
          obtain ⟨s1, hs1⟩ : ∃ s1, s1 = t - 1 := ⟨_, rfl⟩
          obtain ⟨s2, hs2⟩ : ∃ s2, s2 = t + 1 := ⟨_, rfl⟩
          have hw1 : IntKind.i64.wrap ((t : Int) - 1) = (s1 : Int) := by rw [IntWalk.i64_left, IntWalk.wrap64_in _ (by omega)]; omega
          have hw2 : IntKind.i64.wrap ((t : Int) + 1) = (s2 : Int) := by rw [IntWalk.i64_left, IntWalk.wrap64_in _ (by omega)]; omega
          have HS1 : Hid (s1 = t - 1) := hs1
          have HS2 : Hid (s2 = t + 1) := hs2
          have hb1 : s1 ≤ cq := by omega
          have hb2 : s2 ≤ q.length := by omega
          have hb3 : s1 ≤ q.length := by omega
          clear hs1 hs2
          have h0 : Mid wr wr g q (.slice none 0 0) [] := ⟨World.ownsRow_nil _ _ _ _, Sq, Below.refl _ _, hglt⟩
          obtain ⟨W0, hW0⟩ : ∃ W0, W0 = (wr.drewN n2).drewN n3 := ⟨_, rfl⟩
          have hW1 : Mid wr W0 g q (.slice none 0 0) [] := by rw [hW0]; exact (h0.drewN _).drewN _
          have hct0 : W0.cell? ⟨g, t, none⟩ = some (.int .i64 m) := by rw [hW0]; exact hct
          have HM0 : Hid (Mid wr W0.drew g q (.slice none 0 0) []) := hW1.drewN 1
          have HMA : Hid (Mid wr (W0.drew.alloc (.cells #[.int .i64 (2 * m)] 3)) g q (.slice none 0 0) [] ∧ Bld wr (W0.drew.alloc (.cells #[.int .i64 (2 * m)] 3)) W0.heap.size (2 * m) (.slice none 0 0)) := (hW1.drewN 1).alloc _
          have HMB : Hid (Mid wr ((W0.alloc (.cells #[.int .i64 (2 * m)] 3)).drew) g q (.slice none 0 0) [] ∧ Bld wr ((W0.alloc (.cells #[.int .i64 (2 * m)] 3)).drew) W0.heap.size (2 * m) (.slice none 0 0)) := ⟨(hW1.alloc _).1.drewN 1, (hW1.alloc _).2.drewN 1⟩
          rw [← hW0]
          clear hct hW0 h0 hW1
          obtain ⟨L, HL⟩ : ∃ L, Hid (L = q.take s1 ++ q.drop s2 ++ [2 * m]) := ⟨_, rfl⟩
          have HML : Hid (Small L) := by show Small _; rw [HL.out, HS1.out, HS2.out]; exact HM1.out
          have HML2 : Hid (splitTo (cnt L) 40 = splitTo (cnt q) 40) := by show _ = _; rw [HL.out, HS1.out, HS2.out]; exact HM2.out
          have HML4 : Hid (L.length + 1 = q.length) := by show _ = _; rw [HL.out, HS1.out, HS2.out]; exact HM4.out
          clear HM1 HM2 HM4
          have HSUB : Hid (q.length - s2 = (q.drop s2).length) := by show _ = _; simp
          have htk : Hid (s1 = (q.take s1).length) := by show _ = _; simp; omega
          have hl1 : Hid (([] : List Int).length + (q.take s1).length ≤ 17592186044414) := by show _ ≤ _; simp; omega
          have hl2 : Hid (([] ++ q.take s1).length + (q.drop s2).length ≤ 17592186044414) := by show _ ≤ _; simp; omega
          have hl3 : Hid (([] ++ q.take s1 ++ q.drop s2).length + [2 * m].length ≤ 17592186044414) := by show _ ≤ _; simp; omega
          have hmb : Hid (-9223372036854775808 ≤ 2 * m ∧ 2 * m ≤ 9223372036854775807) := by show _ ∧ _; omega
          by_cases hcs : cq = s2
          · have hnil : Hid (q.length ≤ s2) := by show _ ≤ _; omega
            subst hcs
            have HSUB0 : Hid (0 = (q.drop cq).length) := by have := hnil.out; show _ = _; simp; omega
            go_wp2_with fail
            go_region_law (first | (refine mid_step rfl (.const (.slice none 0 0)) (.tmp 35) rfl (.slice none 0 0) (some ⟨g, 0, none⟩) (s1) (cq) (q.take s1) (by first | (simp [Act.eval]; done) | simp [Act.eval, Act.put]) (by first | (simp [Act.eval]; done) | simp [Act.eval, Act.put]) HM0.out (HM0.out.2.1.take s1) htk.out (fun h => some_none h) hl1.out ?_; intro v1 W1 HMid1 HBld1) | (refine mid_step rfl (.const (.slice none 0 0)) (.tmp 35) rfl (.slice none 0 0) (some ⟨g, 0, none⟩) (s1) (cq) (q.take s1) (by first | (simp [Act.eval]; done) | simp [Act.eval, Act.put]) (by first | (simp [Act.eval]; done) | simp [Act.eval, Act.put]) HMA.out.1 (HMA.out.1.2.1.take s1) htk.out (fun h => some_none h) hl1.out ?_; intro v1 W1 HMid1 HBld1) | (refine mid_step rfl (.const (.slice none 0 0)) (.tmp 35) rfl (.slice none 0 0) (some ⟨g, 0, none⟩) (s1) (cq) (q.take s1) (by first | (simp [Act.eval]; done) | simp [Act.eval, Act.put]) (by first | (simp [Act.eval]; done) | simp [Act.eval, Act.put]) HMB.out.1 (HMB.out.1.2.1.take s1) htk.out (fun h => some_none h) hl1.out ?_; intro v1 W1 HMid1 HBld1) | (refine mid_step rfl (.tmp 36) (.tmp 40) rfl v1 (some ⟨g, 0, none⟩) (0) (0) (q.drop cq) (by first | (simp [Act.eval]; done) | simp [Act.eval, Act.put]) (by first | (simp [Act.eval]; done) | simp [Act.eval, Act.put]) HMid1.out (HMid1.out.2.1.dropNil cq hnil) HSUB0.out (fun h => some_none h) hl2.out ?_; intro v2 W2 HMid2 HBld2) | (refine mid_step rfl (.tmp 36) (.tmp 40) rfl v1 (some ⟨g, 0, none⟩) (0) (0) (q.drop cq) (by first | (simp [Act.eval]; done) | simp [Act.eval, Act.put]) (by first | (simp [Act.eval]; done) | simp [Act.eval, Act.put]) (HMid1.out.alloc (2 * m)).1 ((HMid1.out.alloc (2 * m)).1.2.1.dropNil cq hnil) HSUB0.out (fun h => some_none h) hl2.out ?_; intro v2 W2 HMid2 HBld2) | (refine mid_step rfl (.tmp 41) (.tmp 43) rfl v2 (some ⟨W0.heap.size, 0, none⟩) (1) (1) ([2 * m]) (by first | (simp [Act.eval]; done) | simp [Act.eval, Act.put]) (by first | (simp [Act.eval]; done) | simp [Act.eval, Act.put]) HMid2.out (Bld.shows (HBld2.out _ _ (HBld1.out _ _ HMA.out.2)) hmb.out) rfl (fun h => some_none h) hl3.out ?_; intro v3 W3 HMid3 HBld3) | (refine mid_step rfl (.tmp 41) (.tmp 43) rfl v2 (some ⟨W0.heap.size, 0, none⟩) (1) (1) ([2 * m]) (by first | (simp [Act.eval]; done) | simp [Act.eval, Act.put]) (by first | (simp [Act.eval]; done) | simp [Act.eval, Act.put]) HMid2.out (Bld.shows (HBld2.out _ _ (HBld1.out _ _ HMB.out.2)) hmb.out) rfl (fun h => some_none h) hl3.out ?_; intro v3 W3 HMid3 HBld3) | (refine mid_step rfl (.tmp 41) (.tmp 43) rfl v2 (some ⟨W1.heap.size, 0, none⟩) (1) (1) ([2 * m]) (by first | (simp [Act.eval]; done) | simp [Act.eval, Act.put]) (by first | (simp [Act.eval]; done) | simp [Act.eval, Act.put]) HMid2.out (Bld.shows (HBld2.out _ _ (HMid1.out.alloc (2 * m)).2) hmb.out) rfl (fun h => some_none h) hl3.out ?_; intro v3 W3 HMid3 HBld3) | (refine mid_step rfl (.tmp 41) (.tmp 43) rfl v2 (some ⟨W2.heap.size, 0, none⟩) (1) (1) ([2 * m]) (by first | (simp [Act.eval]; done) | simp [Act.eval, Act.put]) (by first | (simp [Act.eval]; done) | simp [Act.eval, Act.put]) (HMid2.out.alloc (2 * m)).1 (Bld.shows (HMid2.out.alloc (2 * m)).2 hmb.out) rfl (fun h => some_none h) hl3.out ?_; intro v3 W3 HMid3 HBld3))
            all_goals
              have hO3 : Owns W3 wr.heap.size v3 L := by
                have := HMid3.out.1
                rw [HL.out]
                simpa using this
              have HB3 : Hid (Below w.heap.size w W3) := HBq.out.trans (HMid3.out.2.2.1.mono HBq.out.size)
              obtain ⟨a3, l3, c3, rfl, S3, hl3', hnn3⟩ := hO3.src (by have := HML.out.len; omega) (small_wf' HML.out)
              clear hO3 HMid3 HBld3
              go_wp2_with fail
              refine (Fallen_any _ _ _ L _ S3 hl3' hnn3 (by have := HML.out.len; omega)).mono ?_
              rintro e W4 ⟨v4, r, rfl, hown4, hperm, hdesc, hb4⟩
              have hfl := fallen_listed HML.out hperm hdesc
              have HP4 : Hid (IsPart r) := hfl.1
              have HS4 : Hid (splitTo (cnt r) 40 = splitTo (cnt zs) 40) := by show _ = _; rw [cnt_perm hperm, HML2.out, HSq.out]
              have hlen4 : r.length + 1 = q.length := by rw [hperm.length_eq]; exact HML4.out
              have HL4 : Hid (r.length + 1 = q.length) := hlen4
              have HO4 : Hid (Owns W4 w.heap.size v4 r) := hown4.mono HB3.out.size
              have HB4 : Hid (Below w.heap.size w W4) := HB3.out.trans (hb4.mono HB3.out.size)
              clear hown4 hperm hdesc hb4 hfl hlen4
              obtain ⟨a4, c4, rfl⟩ := HO4.out.shape
              go_wp2_with fail
              go_roundw
              case rel => exact ⟨r, HO4, HP4, HS4, HB4⟩
              case measure => have := HL4.out; simp [lenOf]; omega
          · go_wp2_with fail
            go_region_law (first | (refine mid_step rfl (.const (.slice none 0 0)) (.tmp 35) rfl (.slice none 0 0) (some ⟨g, 0, none⟩) (s1) (cq) (q.take s1) (by first | (simp [Act.eval]; done) | simp [Act.eval, Act.put]) (by first | (simp [Act.eval]; done) | simp [Act.eval, Act.put]) HM0.out (HM0.out.2.1.take s1) htk.out (fun h => some_none h) hl1.out ?_; intro v1 W1 HMid1 HBld1) | (refine mid_step rfl (.const (.slice none 0 0)) (.tmp 35) rfl (.slice none 0 0) (some ⟨g, 0, none⟩) (s1) (cq) (q.take s1) (by first | (simp [Act.eval]; done) | simp [Act.eval, Act.put]) (by first | (simp [Act.eval]; done) | simp [Act.eval, Act.put]) HMA.out.1 (HMA.out.1.2.1.take s1) htk.out (fun h => some_none h) hl1.out ?_; intro v1 W1 HMid1 HBld1) | (refine mid_step rfl (.const (.slice none 0 0)) (.tmp 35) rfl (.slice none 0 0) (some ⟨g, 0, none⟩) (s1) (cq) (q.take s1) (by first | (simp [Act.eval]; done) | simp [Act.eval, Act.put]) (by first | (simp [Act.eval]; done) | simp [Act.eval, Act.put]) HMB.out.1 (HMB.out.1.2.1.take s1) htk.out (fun h => some_none h) hl1.out ?_; intro v1 W1 HMid1 HBld1) | (refine mid_step rfl (.tmp 36) (.tmp 40) rfl v1 (some ⟨g, s2, none⟩) (q.length - s2) (cq - s2) (q.drop s2) (by first | (simp [Act.eval]; done) | simp [Act.eval, Act.put]) (by first | (simp [Act.eval]; done) | simp [Act.eval, Act.put]) HMid1.out (HMid1.out.2.1.dropAt s2) HSUB.out (fun h => some_none h) hl2.out ?_; intro v2 W2 HMid2 HBld2) | (refine mid_step rfl (.tmp 36) (.tmp 40) rfl v1 (some ⟨g, s2, none⟩) (q.length - s2) (cq - s2) (q.drop s2) (by first | (simp [Act.eval]; done) | simp [Act.eval, Act.put]) (by first | (simp [Act.eval]; done) | simp [Act.eval, Act.put]) (HMid1.out.alloc (2 * m)).1 ((HMid1.out.alloc (2 * m)).1.2.1.dropAt s2) HSUB.out (fun h => some_none h) hl2.out ?_; intro v2 W2 HMid2 HBld2) | (refine mid_step rfl (.tmp 41) (.tmp 43) rfl v2 (some ⟨W0.heap.size, 0, none⟩) (1) (1) ([2 * m]) (by first | (simp [Act.eval]; done) | simp [Act.eval, Act.put]) (by first | (simp [Act.eval]; done) | simp [Act.eval, Act.put]) HMid2.out (Bld.shows (HBld2.out _ _ (HBld1.out _ _ HMA.out.2)) hmb.out) rfl (fun h => some_none h) hl3.out ?_; intro v3 W3 HMid3 HBld3) | (refine mid_step rfl (.tmp 41) (.tmp 43) rfl v2 (some ⟨W0.heap.size, 0, none⟩) (1) (1) ([2 * m]) (by first | (simp [Act.eval]; done) | simp [Act.eval, Act.put]) (by first | (simp [Act.eval]; done) | simp [Act.eval, Act.put]) HMid2.out (Bld.shows (HBld2.out _ _ (HBld1.out _ _ HMB.out.2)) hmb.out) rfl (fun h => some_none h) hl3.out ?_; intro v3 W3 HMid3 HBld3) | (refine mid_step rfl (.tmp 41) (.tmp 43) rfl v2 (some ⟨W1.heap.size, 0, none⟩) (1) (1) ([2 * m]) (by first | (simp [Act.eval]; done) | simp [Act.eval, Act.put]) (by first | (simp [Act.eval]; done) | simp [Act.eval, Act.put]) HMid2.out (Bld.shows (HBld2.out _ _ (HMid1.out.alloc (2 * m)).2) hmb.out) rfl (fun h => some_none h) hl3.out ?_; intro v3 W3 HMid3 HBld3) | (refine mid_step rfl (.tmp 41) (.tmp 43) rfl v2 (some ⟨W2.heap.size, 0, none⟩) (1) (1) ([2 * m]) (by first | (simp [Act.eval]; done) | simp [Act.eval, Act.put]) (by first | (simp [Act.eval]; done) | simp [Act.eval, Act.put]) (HMid2.out.alloc (2 * m)).1 (Bld.shows (HMid2.out.alloc (2 * m)).2 hmb.out) rfl (fun h => some_none h) hl3.out ?_; intro v3 W3 HMid3 HBld3))
            all_goals
              have hO3 : Owns W3 wr.heap.size v3 L := by
                have := HMid3.out.1
                rw [HL.out]
                simpa using this
              have HB3 : Hid (Below w.heap.size w W3) := HBq.out.trans (HMid3.out.2.2.1.mono HBq.out.size)
              obtain ⟨a3, l3, c3, rfl, S3, hl3', hnn3⟩ := hO3.src (by have := HML.out.len; omega) (small_wf' HML.out)
              clear hO3 HMid3 HBld3
              go_wp2_with fail
              refine (Fallen_any _ _ _ L _ S3 hl3' hnn3 (by have := HML.out.len; omega)).mono ?_
              rintro e W4 ⟨v4, r, rfl, hown4, hperm, hdesc, hb4⟩
              have hfl := fallen_listed HML.out hperm hdesc
              have HP4 : Hid (IsPart r) := hfl.1
              have HS4 : Hid (splitTo (cnt r) 40 = splitTo (cnt zs) 40) := by show _ = _; rw [cnt_perm hperm, HML2.out, HSq.out]
              have hlen4 : r.length + 1 = q.length := by rw [hperm.length_eq]; exact HML4.out
              have HL4 : Hid (r.length + 1 = q.length) := hlen4
              have HO4 : Hid (Owns W4 w.heap.size v4 r) := hown4.mono HB3.out.size
              have HB4 : Hid (Below w.heap.size w W4) := HB3.out.trans (hb4.mono HB3.out.size)
              clear hown4 hperm hdesc hb4 hfl hlen4
              obtain ⟨a4, c4, rfl⟩ := HO4.out.shape
              go_wp2_with fail
              go_roundw
              case rel => exact ⟨r, HO4, HP4, HS4, HB4⟩
              case measure => have := HL4.out; simp [lenOf]; omega

#print axioms Merged_ok
end Go.Proofs.Ytopdmbgfdlnfdaa
