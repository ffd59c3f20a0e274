/-
  The contract of ferrersbig.twin; slices of bytes of the call's own.
-/
import Derived.Test.YthfbkangjpcpgaaDoorASml
import Derived.Lib.ItoaNum
namespace Go.Proofs.YthfbkangjpcpgaaDoor
open Go.RowKit

/-- 'append(s, xs...)' at a slice of the call's own, no list of the operations said. -/
theorem append_all {T E : TypeId} {z : Value} {bytes : Nat} (he : Elem T E z bytes) {w : World} {base : Nat} {v : Value} {xs news : List Value} {ops : Array Oper} {rest : List Oper} {o : Oper} {a : Act} {Q : Exit → Act → World → Prop} (hgd : o.guard = none) (s y : Operand)
    (ho : o.op = .call { callee := .builtin .append, args := #[s, y], argTypes := #[T, T] }) (hs : a.eval s = v) (ad : Addr) (n c : Nat) (hx : a.eval y = .slice (some ad) n c) (hn : n = news.length) (hown : w.ownsRow base E 1 v xs.length xs)
    (hnews : ∀ j u, news[j]? = some u → w.cell? (ad.add j) = some u) (hone : ∀ u ∈ news, u.oneCell' = true) (h63 : xs.length + news.length ≤ maxLen) (hl : (xs.length + news.length) * bytes ≤ 140737488355328) (hbase : base ≤ w.heap.size)
    (h : ∀ v' w', w'.ownsRow base E 1 v' (xs ++ news).length (xs ++ news) → Below base w w' → KeepB v v' w w' → wpList Tryd.prog ops Q rest (a.put o.dst v') w') :
    wpList Tryd.prog ops Q (o :: rest) a w := by
  subst hn
  refine wpList_plain hgd fun K hK => ?_
  obtain ⟨v', w', hrun, r1, r2, r3⟩ := run_append_kb he o.type hown ad c hnews hone h63 hl hbase
  unfold Oper.wp
  simp [execOp, ho, resolve, invoke, builtin, hs, hx, hrun, Result.andThen]
  exact hK _ _ (h v' w' r1 r2 r3)

set_option maxHeartbeats 2000000 in
theorem twin_at (a : Option Addr) (ca n : Nat) (xs : List Nat) (x : Nat) (w : World) (ha : ShowsW w a ca xs) (hn : n = xs.length) (h0 : 0 < n) (hx : Num xs x) :
    Calls Tryd.prog 51 #[.slice a n ca] w fun e w' => ∃ v, e = .returned v ∧ OwnsN w' w.heap.size v xs x ∧ Below w.heap.size w w' := by
  obtain ⟨_, b, off, rfl, hlt, hc⟩ := ha.cells (fun e => by have := ha.nil e; have := ha.len; omega)
  have hf := ha.few
  have HN : Hid (n = (xs.map wv).length) := by show _ = _; rw [List.length_map]; exact hn
  have HC : Hid (∀ j u, (xs.map wv)[j]? = some u → w.cell? ((⟨b, off, none⟩ : Addr).add j) = some u) := fun j u hj => by
    obtain ⟨hj', rfl⟩ := List.getElem?_eq_some_iff.1 hj
    rw [List.length_map] at hj'
    rw [Addr.add_lit, hc j hj']
    simp [List.getD, List.getElem?_eq_getElem hj']
  have H1 : Hid (∀ u ∈ xs.map wv, u.oneCell' = true) := fun u hu => by
    obtain ⟨z, _, rfl⟩ := List.mem_map.1 hu
    rfl
  have HNx : Hid (Num xs x) := hx
  have HX : Hid (n = xs.length) := hn
  clear hc hx ha hn
  go_enter Tryd.func51, Tryd.ntmps51
  go_wp2_with (at_builtin; refine append_all elem_word (xs := []) (news := xs.map wv) (base := w.heap.size) rfl _ _ rfl rfl ⟨b, off, none⟩ n ca rfl HN.out (World.ownsRow_nil _ _ _ _) HC.out H1.out ?c1 ?c2 ?c3 ?_)
  case c1 => simp; unfold maxLen; omega
  case c2 => simp; omega
  case c3 => exact Nat.le_refl _
  intro v' w' hO hb hk
  have hO2 : OwnsW w' w.heap.size v' xs := by unfold OwnsW; simpa using hO
  have hr : ∀ a n cap, v' = .slice a n cap → a ≠ none → 0 < cap := fun a1 n1 cap1 e hne => by
    rcases hO2.2 with ⟨h2, h3⟩ | ⟨g, cap, cur, hv, hg, hh, h4, _⟩
    · rw [h2] at e; simp only [Value.slice.injEq] at e; exact absurd e.1.symm hne
    · rw [hv] at e; simp only [Value.slice.injEq] at e; have := HX.out; omega
  have HO : Hid (OwnsN w' w.heap.size v' xs x) := ⟨hO2, HNx.out, hr⟩
  have HB : Hid (Below w.heap.size w w') := hb
  clear hO hO2 hb hk hr
  go_wp2
  go_ret
  exact ⟨_, rfl, HO.out, HB.out⟩

theorem Tryd.infoB : (Tryd.prog.info? 5).map (fun i => (i.zero, i.size, i.bytes)) = some (some (.int .u8 0), 1, 1) := by kernel_rfl
theorem elem_byte : Elem 49 5 (.int .u8 0) 1 := ⟨Tryd.underlying49, Tryd.infoB, rfl⟩
def bv (u : Nat) : Value := .int .u8 (u : Int)
/-- v owns the bytes us. -/
def OwnsB (w : World) (base : Nat) (v : Value) (us : List Nat) : Prop := w.ownsRow base 5 1 v us.length (us.map bv)

/-- The decimal digits of y, nothing of 0. -/
def dig (y : Nat) : List UInt8 := if y = 0 then [] else Lib.decDigits y
theorem dig_step {y : Nat} (h : 0 < y) : dig y = dig (y / 10) ++ [UInt8.ofNat (48 + y % 10)] := by
  unfold dig
  rw [if_neg (by omega)]
  by_cases h10 : y < 10
  · rw [if_pos (by omega), Lib.decDigits, dif_pos h10, Nat.mod_eq_of_lt h10]; rfl
  · rw [if_neg (by omega), Lib.decDigits, dif_neg h10]
theorem dig_pos {y : Nat} (h : 0 < y) : 0 < (dig y).length := by rw [dig_step h]; simp

end Go.Proofs.YthfbkangjpcpgaaDoor
