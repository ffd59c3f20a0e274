/-
  A run draws forwards.
-/
import Derived.Test.YtgcpconlmihilaaGreatDoorRwE
import Derived.Test.YtgcpconlmihilaaGreatDoorRwD
namespace Go.Proofs.YtgcpconlmihilaaGreatDoor
open Go.RowKit Go.Shelf Go.Sort

theorem ask_drawn {α : Type} (q : Ask α) : ∀ w : World, w.drawn ≤ (w.ask q).2.drawn := by
  induction q with
  | done a => intro w; exact Nat.le_refl _
  | ask what range k ih =>
    intro w
    rw [World.ask]
    split
    · exact ih _ w
    · exact Nat.le_trans (Nat.le_succ _) (ih _ { w with drawn := w.drawn + 1 })
theorem sys_drawn (w : World) (c : Sys) : w.drawn ≤ (w.sys c).2.drawn := by
  have h := ask_drawn (Kernel.perform c w.os) w
  unfold World.sys
  split
  · exact Nat.le_refl _
  · rename_i heq; rw [heq] at h; exact h
theorem view_drawn {P : Program} {w : World} {x : Addr} {u : TypeId} {k : Addr} {v : Value} {b : Bool} {r : World × List Addr} (h : w.viewStore P x u k v b = .ok r) : r.1.drawn = w.drawn := by
  unfold World.viewStore at h
  simp only [bind, Except.bind, pure, Except.pure] at h
  repeat' split at h
  all_goals first | (cases h; rfl) | (cases h; done)
theorem far_drawn {P : Program} {w : World} {a : Addr} {v : Value} {b : Bool} {r : World × List Addr} (h : w.farStore P a v b = .ok r) : r.1.drawn = w.drawn := by
  unfold World.farStore at h
  split at h
  · split at h
    · rename_i hv; cases h; exact view_drawn hv
    · cases h
  · cases h
theorem freeze_drawn (w : World) (a : Addr) (n : Nat) : (w.freeze a n).drawn = w.drawn := by
  unfold World.freeze; split <;> rfl
theorem run_drawn {α : Type} (P : Program) (m : Sem α) : ∀ (w w' : World) (a : α), m.run P w = .ok a w' → w.drawn ≤ w'.drawn := by
  induction m with
  | pure a => intro w w' b h; rw [Sem.run] at h; cases h; exact Nat.le_refl _
  | load m a k ih =>
    intro w w' b h
    rw [Sem.run] at h
    split at h
    · exact ih _ _ _ _ h
    · split at h
      · exact ih _ _ _ _ h
      · cases h
  | store m a v k ih =>
    intro w w' b h
    cases v
    all_goals first
      | (rw [Sem.run] at h; cases h; done)
      | (rw [Sem.run] at h
         · split at h
           · split at h
             · cases h
             · exact ih (w.setCell a _) _ _ h
           · split at h
             · rename_i hf
               have h2 := ih _ _ _ h
               have h3 := far_drawn hf
               simp only at h3
               omega
             · cases h
         · intro _ e; cases e
         · intro _ e; cases e)
  | new o k ih => intro w w' b h; rw [Sem.run] at h; exact ih _ { w with heap := w.heap.push o } _ _ h
  | shape r k ih => intro w w' b h; rw [Sem.run] at h; exact ih _ _ _ _ h
  | freeze a n k ih => intro w w' b h; rw [Sem.run] at h; have := ih _ _ _ h; rw [freeze_drawn] at this; exact this
  | frozen a k ih => intro w w' b h; rw [Sem.run] at h; exact ih _ _ _ _ h
  | getObj r k ih =>
    intro w w' b h
    rw [Sem.run] at h
    split at h
    · cases h
    · exact ih _ _ _ _ h
    · cases h
  | setObj r o k ih =>
    intro w w' b h
    rw [Sem.run] at h
    split at h
    · cases h
    · exact ih { w with heap := w.heap.setIfInBounds r o } _ _ h
    · cases h
  | choose q k ih =>
    intro w w' b h
    rw [Sem.run] at h
    split at h
    · exact ih _ _ _ _ h
    · exact Nat.le_trans (Nat.le_succ _) (ih _ { w with drawn := w.drawn + 1 } _ _ h)
  | sys c k ih => intro w w' b h; rw [Sem.run] at h; exact Nat.le_trans (sys_drawn w c) (ih _ _ _ _ h)
  | program k ih => intro w w' b h; rw [Sem.run] at h; exact ih _ _ _ _ h
  | mark m k ih => intro w w' b h; rw [Sem.run] at h; exact ih _ _ _ h
  | halt h => intro w w' b e; rw [Sem.run] at e; cases e

/-- What is as it was below, and has drawn forwards, is the old world with more behind it. -/
theorem grow_of {w w' : World} (hb : Below w.heap.size w w') (hd : w.drawn ≤ w'.drawn) : ∃ q os', w' = grow (w.drewN q) os' := by
  refine ⟨w'.drawn - w.drawn, w'.heap.extract w.heap.size w'.heap.size, ?_⟩
  have hh : w'.heap = w.heap ++ w'.heap.extract w.heap.size w'.heap.size := by
    apply Array.ext_getElem?
    intro k
    rw [Array.getElem?_append]
    split
    · rename_i hk; exact hb.block k hk
    · rename_i hk
      rw [Array.getElem?_extract]
      by_cases h2 : k < w'.heap.size
      · rw [if_pos (by omega)]; congr 1; omega
      · rw [if_neg (by omega), Array.getElem?_eq_none (by omega)]
  have h1 := hb.os
  have h2 := hb.tape
  have h3 := hb.output
  cases w; cases w'
  simp only [grow, World.drewN] at *
  subst h1 h2 h3
  congr 1
  omega
theorem append_srcD {w : World} {base : Nat} {v : Value} {zs ys : List Int} {ad : Option Addr} {m c : Nat} {ops : Array Oper} {rest : List Oper} {o : Oper} {a : Act} {Q : Exit → Act → World → Prop} (hgd : o.guard = none) (s y : Operand)
    (ho : o.op = .call { callee := .builtin .append, args := #[s, y], argTypes := #[36, 36] }) (hs : a.eval s = v) (hx : a.eval y = .slice ad m c) (hown : Owns w base v zs) (hsrc : Shows w ad ys) (hm : m = ys.length) (hn : ad = none → ys = [] ∧ c = 0)
    (hl : zs.length + ys.length ≤ 17592186044414) (hbase : base ≤ w.heap.size)
    (h : ∀ v' w', Owns w' base v' (zs ++ ys) → Below base w w' → w.drawn ≤ w'.drawn → wpList Tryz.prog ops Q rest (a.put o.dst v') w') :
    wpList Tryz.prog ops Q (o :: rest) a w := by
  subst hm
  refine wpList_plain hgd fun K hK => ?_
  obtain ⟨v', w', hrun, r1, r2, r3⟩ := run_append_src o.type hown hsrc hn hl hbase
  have hd := run_drawn _ _ _ _ _ hrun
  unfold Oper.wp
  simp [execOp, ho, resolve, invoke, builtin, hs, hx, hrun, Result.andThen]
  exact hK _ _ (h v' w' r1 r2 hd)
set_option maxHeartbeats 2000000 in
theorem Joined_d (a : Option Addr) (cap : Nat) (ls : List (List Int)) (w : World) (hs : Table w a ls) (hl : ls.length ≤ 2000000) (hf : ls.flatten.length ≤ 2000000) :
    Calls Tryz.prog 52 #[.slice a ls.length cap] w fun e w' => ∃ v, e = .returned v ∧ Owns w' w.heap.size v ls.flatten ∧ Below w.heap.size w w' ∧ w.drawn ≤ w'.drawn := by
  have HF : Hid (ls.flatten.length ≤ 2000000) := hf
  have HS : Hid (Table w a ls) := hs
  clear hf hs
  go_enter Tryz.func52, Tryz.ntmps52
  go_wp2
  go_loopw [3, 4] (fun v i wr => ∃ k : Nat, k ≤ ls.length ∧ i = .int .i64 k ∧ Hid (Owns wr w.heap.size v (ls.take k).flatten) ∧ Hid (Below w.heap.size w wr) ∧ Hid (w.drawn ≤ wr.drawn)) (fun _ i _ => ls.length - (intOf i).toNat)
  case atStart => exact ⟨0, Nat.zero_le _, rfl, World.ownsRow_nil _ _ _ _, Below.refl _ _, Nat.le_refl _⟩
  case round =>
    obtain ⟨k, hk, rfl, HO, HB, HD⟩ := hrel
    by_cases hlt : k < ls.length
    · have hlt' : (k : Int) < (ls.length : Int) := by omega
      obtain ⟨b, off, ai, ci, rfl, -, hc, hS, hN⟩ := (HS.out.below HB.out) k hlt
      have hT := take_flat ls k hlt
      obtain ⟨r, hr⟩ : ∃ r, r = ls.getD k [] := ⟨_, rfl⟩
      rw [← hr] at hc hS hN hT
      clear hr
      have HSk : Hid (Shows wr ai r) := hS
      have HNk : Hid (ai = none → r = [] ∧ ci = 0) := hN
      obtain ⟨m, HM⟩ : ∃ m, Hid (m = r.length) := ⟨_, rfl⟩
      rw [← HM.out] at hc
      have HT : Hid ((ls.take (k + 1)).flatten = (ls.take k).flatten ++ r) := hT
      clear hT
      clear hS hN
      go_wp2_with (at_builtin; refine append_srcD rfl _ _ rfl rfl rfl HO.out HSk.out HM.out HNk.out ?c1 ?c2 ?_)
      case c1 =>
        have h1 := take_flat_le ls (k + 1)
        rw [HT.out, List.length_append] at h1
        have := HF.out; omega
      case c2 => exact HB.out.size
      intro v' w' hO hb hd
      have HO' : Hid (Owns w' w.heap.size v' (ls.take (k + 1)).flatten) := by show Owns _ _ _ _; rw [HT.out]; exact hO
      have HB' : Hid (Below w.heap.size w w') := HB.out.trans hb
      have HD' : Hid (w.drawn ≤ w'.drawn) := Nat.le_trans HD.out hd
      clear hO hb hd
      go_wp2
      go_roundw
      case rel => exact ⟨k + 1, by omega, by go_num, HO', HB', HD'⟩
      case measure => simp [intOf]; omega
    · obtain rfl : k = ls.length := by omega
      have HE : Hid (Owns wr w.heap.size u3 ls.flatten) := by have := HO.out; rw [List.take_length] at this; exact this
      go_wp2
      go_ret
      exact ⟨_, rfl, HE.out, HB.out, HD.out⟩
/-- ferref.Less, as the sort wants it. -/
theorem RLess_d (a b : Option Addr) (ca cb : Nat) (s t : List (List Int)) (w : World) (hs : Table w a s) (ht : Table w b t) (hl1 : s.length ≤ 1000) (hl2 : t.length ≤ 1000) (hf1 : s.flatten.length ≤ 1000000) (hf2 : t.flatten.length ≤ 1000000) (hz1 : ∀ z ∈ s.flatten, -9223372036854775808 ≤ z ∧ z ≤ 9223372036854775807) (hz2 : ∀ z ∈ t.flatten, -9223372036854775808 ≤ z ∧ z ≤ 9223372036854775807) :
    Calls Tryz.prog 32 #[.slice a s.length ca, .slice b t.length cb] w fun e w' => e = .returned (.int .i64 (cmpL s.flatten t.flatten)) ∧ ∃ q os', w' = grow (w.drewN q) os' := by
  refine RLess_c a b s.length t.length ca cb _ w (fun v w' => Owns w' w.heap.size v s.flatten ∧ Below w.heap.size w w' ∧ w.drawn ≤ w'.drawn) _ (Joined_d a ca s w hs (by omega) (by omega)) (fun v1 w1 hP => ?_)
  refine (Joined_d b cb t w1 (ht.below hP.2.1) (by omega) (by omega)).mono ?_
  rintro e w2 ⟨v2, rfl, ho2, hb2, hd2⟩
  have ho1 := hP.1.below hb2
  obtain ⟨a1, c1, e1, hs1⟩ := ho1.shows (by omega) hz1
  obtain ⟨a2, c2, e2, hs2⟩ := ho2.shows (by omega) hz2
  refine ⟨v2, rfl, a1, _, c1, a2, _, c2, e1, e2, ?_⟩
  exact (CompareL_at a1 a2 _ _ c1 c2 s.flatten t.flatten w2 hs1 hs2 rfl rfl).mono (fun e w' h => ⟨h.1, h.2, grow_of (hP.2.1.trans (hb2.mono hP.2.1.size)) (Nat.le_trans hP.2.2 hd2)⟩)

end Go.Proofs.YtgcpconlmihilaaGreatDoor
