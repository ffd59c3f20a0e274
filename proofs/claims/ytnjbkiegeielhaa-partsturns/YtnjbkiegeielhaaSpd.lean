/-
  The contract of ferref.Splitted.
-/
import Derived.Test.YtnjbkiegeielhaaSMath
namespace Go.Proofs.Ytnjbkiegeielhaa
open Go.RowKit

def lenOf : Value → Nat
  | .slice _ n _ => n
  | _ => 0

theorem Twice_is {c : Int} (a : Option Addr) (n cap : Nat) (zs : List Int) (w : World) (hs : Shows w a zs) (hn : Hid (n = zs.length)) (E : Hid (twiceV zs = c)) :
    Calls Try.prog 39 #[.slice a n cap] w fun e w' => e = .returned (.int .i64 c) ∧ ∃ n, w' = w.drewN n := by
  have := Twice_any a cap zs w hs
  rw [E.out, ← hn.out] at this; exact this

theorem small_wf' {q : List Int} (h : Small q) : ∀ z ∈ q, -9223372036854775808 ≤ z ∧ z ≤ 9223372036854775807 := fun z hz => by have := h.le z hz; omega

/-- The parts of a slice of the call's own, as a source. -/
theorem Owns.src {w : World} {base : Nat} {v : Value} {zs : List Int} (h : Owns w base v zs) (hl : zs.length ≤ 17592186044416) (hwf : ∀ z ∈ zs, -9223372036854775808 ≤ z ∧ z ≤ 9223372036854775807) :
    ∃ a n cap, v = .slice a n cap ∧ Shows w a zs ∧ Hid (n = zs.length) ∧ Hid (a = none → zs = [] ∧ cap = 0) := by
  rcases h.2 with ⟨h2, h3⟩ | ⟨g, cap', cur, hv', _, _, hc, _⟩
  · obtain rfl : zs = [] := List.eq_nil_of_length_eq_zero h3
    exact ⟨none, 0, 0, h2, ⟨hl, hwf, fun hne => absurd rfl hne⟩, rfl, fun _ => ⟨rfl, rfl⟩⟩
  · obtain ⟨a, n, cap, hv, hs, hn, _⟩ := h.opened hl hwf
    refine ⟨a, n, cap, hv, hs, hn, fun e => ?_⟩
    rw [hv', e] at hv; cases hv

/-- 'append(out, x)', the new block's number said by the caller. -/
theorem append_int_at {w : World} {base N : Nat} {v : Value} {zs : List Int} {x : Int} {ops : Array Oper} {rest : List Oper} {o : Oper} {a : Act} {Q : Exit → Act → World → Prop} (hgd : o.guard = none) (s y : Operand)
    (ho : o.op = .call { callee := .builtin .append, args := #[s, y], argTypes := #[22, 22] }) (hs : a.eval s = v) (hx : a.eval y = .slice (some ⟨N, 0, none⟩) 1 1) (hN : N = w.heap.size) (hown : Owns w base v zs)
    (hl : zs.length ≤ 17592186044414) (hbase : base ≤ w.heap.size)
    (h : ∀ v' w', Owns w' base v' (zs ++ [x]) → Below base w w' → Keeps base v v' w w' → wpList Try.prog ops Q rest (a.put o.dst v') w') :
    wpList Try.prog ops Q (o :: rest) a (w.alloc (.cells #[.int .i64 x] 3)) := by
  subst hN
  exact append_int_own hgd s y ho hs hown hx hl hbase h

set_option maxHeartbeats 1000000 in
theorem Splitted_err (a : Option Addr) (cap : Nat) (zs : List Int) (w : World) (hs : Shows w a zs) (k : Int) (hk : 0 < k) (E : Hid (twiceV zs = k)) :
    Calls Try.prog 25 #[.slice a zs.length cap] w fun e w' => e = .returned (.tuple #[.slice none 0 0, .int .i64 3]) ∧ ∃ n, w' = w.drewN n := by
  go_enter Try.func25, Try.ntmps25
  go_wp2_with (go_at_call 39; refine (Twice_is _ _ _ _ _ hs rfl E).mono ?_; rintro e w1 ⟨rfl, hd⟩)
  go_ret2
  exact ⟨rfl, hd⟩

set_option maxHeartbeats 4000000 in
theorem Splitted_ok (a : Option Addr) (cap : Nat) (zs : List Int) (w : World) (hs : Shows w a zs) (hnone : Hid (a = none → zs = [] ∧ cap = 0)) (hp : Small zs) (E : Hid (twiceV zs = -1)) :
    Calls Try.prog 25 #[.slice a zs.length cap] w fun e w' => ∃ v, e = .returned (.tuple #[v, .int .i64 0]) ∧ Owns w' w.heap.size v (listed (splitTo (cnt zs) 40)) ∧ Below w.heap.size w w' := by
  have hl := hp.len
  go_enter Try.func25, Try.ntmps25
  go_wp2_with fail
  refine (Twice_is _ _ _ _ _ hs rfl E).mono ?_
  rintro e w1 ⟨rfl, hd⟩
  have hb1 : Below w.heap.size w w1 := by obtain ⟨n, rfl⟩ := hd; exact below_drewN (Below.refl _ _) n
  have hs1 := hs.below hb1
  have HB1 : Hid (Below w.heap.size w w1) := hb1
  have hsz1 := hb1.size
  clear hd hb1
  go_wp2_with (at_builtin; refine append_src (zs := []) (ys := zs) rfl _ _ rfl rfl rfl (World.ownsRow_nil _ w.heap.size _ _) hs1 rfl hnone.out ?c1 ?c2 ?_)
  case c1 => simp; omega
  case c2 => exact hsz1
  intro v w2 hown hb2 _
  have HO : Hid (Owns w2 w.heap.size v zs) := hown
  have HB2 : Hid (Below w.heap.size w w2) := HB1.out.trans hb2
  clear hown hb2
  go_wp2
  go_loopw [4, 5] (fun v i wr => ∃ (k : Nat) (q : List Int), k ≤ q.length ∧ i = .int .i64 k ∧ Hid (Owns wr w.heap.size v q) ∧ Hid (Small q) ∧ Hid (splitTo (cnt q) 40 = splitTo (cnt zs) 40) ∧ Hid (∀ j, j < k → q.getD j 0 % 2 ≠ 0) ∧ Hid (Below w.heap.size w wr)) (fun _ i _ => 41 - (intOf i).toNat)
  case atStart => exact ⟨0, zs, Nat.zero_le _, rfl, HO, hp, rfl, fun j hj => by omega, HB2⟩
  case round =>
    obtain ⟨k, q, hk, rfl, HOk, HSm, HSp, HOd, HB⟩ := hrel
    obtain ⟨av, cv, rfl⟩ := HOk.out.shape
    have hq40 := HSm.out.len
    by_cases hlt : k < q.length
    · have hltI : (k : Int) < (q.length : Int) := by omega
      go_wp2
      go_loopw [4] (fun v wq => ∃ (o : List Int), k < o.length ∧ o.length ≤ 40 ∧ Hid (Owns wq w.heap.size v o) ∧ Hid (Small o) ∧ Hid (splitTo (cnt o) 40 = splitTo (cnt zs) 40) ∧ Hid (∀ j, j < k → o.getD j 0 % 2 ≠ 0) ∧ Hid (Below w.heap.size w wq)) (fun v _ => 41 - lenOf v)
      case atStart => exact ⟨q, hlt, hq40, HOk, HSm, HSp, HOd, HB⟩
      case round =>
        obtain ⟨o, hko, ho40, HOo, HSmo, HSpo, HOdo, HBo⟩ := hrel
        obtain ⟨g, cp, rfl, hgB, hglt, hfz, hcl⟩ := HOo.out.head (by omega)
        have hck := hcl k hko
        have hfk := hfz k
        obtain ⟨x, HX⟩ : ∃ x, Hid (x = o.getD k 0) := ⟨_, rfl⟩
        rw [← HX.out] at hck
        have hx : 1 ≤ x ∧ x ≤ 40 := by rw [HX.out]; exact HSmo.out.le _ (getD_mem hko)
        obtain ⟨hx1, hx2⟩ := hx
        have hkoI : (k : Int) < (o.length : Int) := by omega
        clear hcl hfz
        by_cases he : x % 2 = 0
        · obtain ⟨m, hm⟩ : ∃ m : Nat, x = 2 * m := ⟨(x / 2).toNat, by omega⟩
          have hb : (x % 2 == 0) = true := beq_iff_eq.2 he
          have HX2 : Hid (x / 2 = (m : Int)) := by show _ = _; omega
          have hcut := cut_two HSmo.out hko (m := m) (by rw [← HX.out]; exact hm)
          have HC1 : Hid (Small ((o.set k (m : Int)) ++ [(m : Int)])) := hcut.1
          have HC2 : Hid (splitTo (cnt ((o.set k (m : Int)) ++ [(m : Int)])) 40 = splitTo (cnt o) 40) := hcut.2
          have hA := HOo.out.store rfl k (x / 2)
          have HA : Hid (Owns (wr.setCell ⟨g, k, none⟩ (.int .i64 (x / 2))) w.heap.size (.slice (some ⟨g, 0, none⟩) o.length cp) (o.set k (x / 2))) := hA
          have hlen' := hcut.1.len
          have hl2 : o.length + 1 ≤ 40 := by simpa using hlen'
          have hsz : w.heap.size ≤ wr.heap.size := HBo.out.size
          clear hcut he hm hlen' hA
          go_wp2_with (at_builtin; refine append_int_at (x := x / 2) (w := wr.setCell ⟨g, k, none⟩ (.int .i64 (x / 2))) rfl _ _ rfl rfl rfl ?d0 HA.out ?d1 ?d2 ?_)
          case d0 => simp
          case d1 => rw [List.length_set]; omega
          case d2 => simpa using hsz
          intro v' w3 hown3 hb3 _
          have HO3 : Hid (Owns w3 w.heap.size v' ((o.set k (m : Int)) ++ [(m : Int)])) := by
            have := hown3
            rw [HX2.out] at this; exact this
          have HB3 : Hid (Below w.heap.size w w3) := (HBo.out.setCell hgB _).trans hb3
          clear hown3 hb3 hck hfk
          obtain ⟨av3, cv3, rfl⟩ := HO3.out.shape
          go_wp2
          go_roundw
          case rel =>
            refine ⟨(o.set k (m : Int)) ++ [(m : Int)], by simp; omega, by simpa using hl2, HO3, HC1, HC2.out.trans HSpo.out, fun j hj => ?_, HB3⟩
            rw [getD_append_left' (by simp; omega), set_getD _ _ _ _ (by omega), if_neg (by omega)]
            exact HOdo.out j hj
          case measure => simp [lenOf]; omega
        · have hb : (x % 2 == 0) = false := beq_eq_false_iff_ne.2 he
          have HE : Hid (x % 2 ≠ 0) := he
          clear he
          go_wp2
          go_roundw
          case rel => exact ⟨k + 1, o, by omega, by go_num, HOo, HSmo, HSpo, fun j hj => by
                        by_cases hj' : j < k
                        · exact HOdo.out j hj'
                        · obtain rfl : j = k := by omega
                          rw [← HX.out]; exact HE.out, HBo⟩
          case measure => simp [intOf]; omega
    · have hd : decide ((k : Int) < (q.length : Int)) = false := by simp; omega
      obtain ⟨aq, nq, cq, hvq, hsq, hnq, hnn⟩ := HOk.out.src (by omega) (small_wf' HSm.out)
      simp only [Value.slice.injEq] at hvq
      obtain ⟨rfl, rfl, rfl⟩ := hvq
      have hall : Hid (∀ z ∈ q, z % 2 ≠ 0) := fun z hz => by
        obtain ⟨j, hj, rfl⟩ := List.getElem_of_mem hz
        have := HOd.out j (by omega)
        simpa [List.getD, List.getElem?_eq_getElem hj] using this
      go_wp2_with (go_at_call 40; refine (Fallen_any _ _ _ q _ hsq rfl hnn (by omega)).mono ?_; rintro e w4 ⟨v4, r, rfl, hown4, hperm, hdesc, hb4⟩)
      have HF := splitted_end HSm.out HSp.out hall.out hperm hdesc
      go_ret2
      refine ⟨_, rfl, ?_, HB.out.trans (hb4.mono HB.out.size)⟩
      rw [← HF]; exact hown4.mono HB.out.size

#print axioms Splitted_ok
end Go.Proofs.Ytnjbkiegeielhaa
