/-
  The long division of whole numbers by words, as plain mathematics: what a first guess is worth, and what a step leaves.
  The contract of ferrersbig.twin; slices of bytes of the call's own.
-/
import Derived.Test.YtgcpconlmihilaaGreatDoorASml
import Derived.Lib.ItoaNum
namespace Go.Proofs.YtgcpconlmihilaaGreatDoor

theorem val_split : ∀ (l : List Nat) (k : Nat), val l = val (l.take k) + 4294967296 ^ k * val (l.drop k)
  | l, 0 => by simp [val]
  | [], k + 1 => by simp [val]
  | u :: l, k + 1 => by
    have ih := val_split l k
    simp only [List.take_succ_cons, List.drop_succ_cons, val, Nat.pow_succ]
    rw [Nat.mul_comm (4294967296 ^ k) 4294967296, Nat.mul_assoc]
    omega
theorem wd_take {l : List Nat} (h : Wd l) (k : Nat) : Wd (l.take k) := fun u hu => h u (List.mem_of_mem_take hu)
theorem wd_drop {l : List Nat} (h : Wd l) (k : Nat) : Wd (l.drop k) := fun u hu => h u (List.mem_of_mem_drop hu)
theorem val_take_lt {l : List Nat} (h : Wd l) (k : Nat) : val (l.take k) < 4294967296 ^ k := by
  refine Nat.lt_of_lt_of_le (val_lt _ (wd_take h k)) ?_
  exact Nat.pow_le_pow_right (by omega) (by simp; omega)
theorem wd_getD {l : List Nat} (h : Wd l) (k : Nat) : l.getD k 0 < 4294967296 := by
  by_cases hk : k < l.length
  · have e : l.getD k 0 = l[k] := by simp [List.getD, List.getElem?_eq_getElem hk]
    rw [e]; exact h _ (List.getElem_mem hk)
  · simp [List.getD, List.getElem?_eq_none (Nat.le_of_not_lt hk)]
/-- What is less than a power has noughts above. -/
theorem drop_zero_of_lt {l : List Nat} {k : Nat} (h : val l < 4294967296 ^ k) : val (l.drop k) = 0 := by
  have e := val_split l k
  rcases Nat.eq_zero_or_pos (val (l.drop k)) with h0 | h0
  · exact h0
  · have : 4294967296 ^ k * 1 ≤ 4294967296 ^ k * val (l.drop k) := Nat.mul_le_mul_left _ h0
    omega
/-- The three words on top. -/
theorem val_three {l : List Nat} {k : Nat} (hk : k + 2 < l.length) (h0 : val (l.drop (k + 3)) = 0) :
    val l = val (l.take k) + 4294967296 ^ k * ((l.getD (k + 2) 0 * 4294967296 + l.getD (k + 1) 0) * 4294967296 + l.getD k 0) := by
  have e := val_split l (k + 3)
  rw [h0, Nat.mul_zero, Nat.add_zero, val_take hk, val_take (by omega : k + 1 < l.length), val_take (by omega : k < l.length)] at e
  rw [e, show k + 2 = k + 1 + 1 from rfl]
  simp only [Nat.pow_succ]
  generalize 4294967296 ^ k = P
  generalize l.getD k 0 = x
  generalize l.getD (k + 1) 0 = y
  generalize l.getD (k + 1 + 1) 0 = z
  rw [Nat.mul_add, Nat.add_mul, Nat.mul_add]
  have h1 : P * 4294967296 * y = P * (y * 4294967296) := by rw [Nat.mul_assoc, Nat.mul_comm 4294967296 y]
  have h2 : P * 4294967296 * 4294967296 * z = P * (z * 4294967296 * 4294967296) := by
    rw [Nat.mul_assoc, Nat.mul_assoc, Nat.mul_comm z, Nat.mul_comm _ 4294967296]
  omega
theorem val_two {l : List Nat} {n : Nat} (hn : n + 2 = l.length) :
    val l = val (l.take n) + 4294967296 ^ n * (l.getD (n + 1) 0 * 4294967296 + l.getD n 0) := by
  have e : val (l.take (n + 2)) = val l := by rw [List.take_of_length_le (by omega)]
  rw [val_take (by omega : n + 1 < l.length), val_take (by omega : n < l.length), Nat.pow_succ] at e
  rw [← e, Nat.mul_add]
  have : 4294967296 ^ n * 4294967296 * l.getD (n + 1) 0 = 4294967296 ^ n * (l.getD (n + 1) 0 * 4294967296) := by rw [Nat.mul_assoc, Nat.mul_comm 4294967296]
  omega

/-- A guess that is enough. -/
theorem kn_hi {P Q T ul U V D vl k : Nat} (hU : U = ul + P * Q * T) (hul : ul < P * Q) (hV : V = vl + Q * D) (h : T + 1 ≤ k * D) : U < k * V * P := by
  have h1 : P * Q * (T + 1) ≤ P * Q * (k * D) := Nat.mul_le_mul_left _ h
  have h2 : k * (Q * D) * P ≤ k * V * P := Nat.mul_le_mul_right _ (Nat.mul_le_mul_left _ (by omega))
  have h3 : P * Q * (k * D) = k * (Q * D) * P := by simp only [Nat.mul_comm, Nat.mul_left_comm]
  rw [Nat.mul_add] at h1
  omega
/-- A guess that is one too much at most. -/
theorem kn_lo {P Q T ul U V D vl g : Nat} (hU : U = ul + P * Q * T) (hV : V = vl + Q * D) (hvl : vl < Q) (h : g * D ≤ T) (hg : g * Q ≤ V) : g * V * P ≤ U + V * P := by
  have h1 : g * V * P = g * vl * P + P * Q * (g * D) := by
    rw [hV, Nat.mul_add, Nat.add_mul]
    congr 1
    simp only [Nat.mul_comm, Nat.mul_left_comm]
  have h2 : P * Q * (g * D) ≤ P * Q * T := Nat.mul_le_mul_left _ h
  have h3 : g * vl * P ≤ g * Q * P := Nat.mul_le_mul_right _ (Nat.mul_le_mul_left _ (by omega))
  have h4 : g * Q * P ≤ V * P := Nat.mul_le_mul_right _ hg
  omega
/-- The first guess. -/
theorem kn_first {h g r top next x B : Nat} (hg : g * top + r = h) (hr : r < top) (hx : x < B) : h * B + x + 1 ≤ (g + 1) * (top * B + next) := by
  have h1 : (h + 1) * B ≤ (g + 1) * top * B := Nat.mul_le_mul_right _ (by rw [Nat.add_mul]; omega)
  have h2 : (g + 1) * (top * B) ≤ (g + 1) * (top * B + next) := Nat.mul_le_mul_left _ (by omega)
  rw [← Nat.mul_assoc] at h2
  rw [Nat.add_mul] at h1
  omega
/-- A guess that the second word finds too great. -/
theorem kn_down {h g r top next x B : Nat} (hg : g * top + r = h) (hx : r * B + x < g * next) : h * B + x + 1 ≤ g * (top * B + next) := by
  rw [Nat.mul_add, ← Nat.mul_assoc, ← hg, Nat.add_mul]
  omega
/-- A guess that stands. -/
theorem kn_stay {h g r top next x B : Nat} (hg : g * top + r = h) (hx : g * next ≤ r * B + x) : g * (top * B + next) ≤ h * B + x := by
  rw [Nat.mul_add, ← Nat.mul_assoc, ← hg, Nat.add_mul]
  omega

/-- One step of taking away g times the divisor. -/
theorem msub_step {us : List Nat} {j i g p c d z r q lo e W X : Nat} (hl : i + j < us.length) (hz : z = us.getD (i + j) 0) (h : val us + W * 4294967296 ^ j = X + (c + d) * 4294967296 ^ (i + j)) (hc : q * 4294967296 + lo = c + g * p) (he : z + e * 4294967296 = r + lo + d) :
    val (us.set (i + j) r) + (W + 4294967296 ^ i * (g * p)) * 4294967296 ^ j = X + (q + e) * 4294967296 ^ (i + 1 + j) := by
  have s := val_set us (i + j) r hl
  rw [← hz] at s
  have e1 : 4294967296 ^ (i + 1 + j) = 4294967296 ^ (i + j) * 4294967296 := by rw [← Nat.pow_succ]; congr 1; omega
  have e2 : 4294967296 ^ i * (g * p) * 4294967296 ^ j = 4294967296 ^ (i + j) * (g * p) := by rw [Nat.pow_add]; simp only [Nat.mul_comm, Nat.mul_left_comm]
  rw [Nat.add_mul, e2, e1]
  generalize 4294967296 ^ (i + j) = P at *
  have h1 : P * (q * 4294967296 + lo) = P * (c + g * p) := by rw [hc]
  have h2 : P * (z + e * 4294967296) = P * (r + lo + d) := by rw [he]
  have h3 : (q + e) * (P * 4294967296) = P * (q * 4294967296) + P * (e * 4294967296) := by rw [← Nat.mul_add]; simp only [Nat.mul_left_comm, Nat.add_mul, Nat.mul_add]
  have h4 : (c + d) * P = P * c + P * d := by rw [Nat.mul_comm, Nat.mul_add]
  simp only [Nat.mul_add] at h1 h2
  rw [h3]
  rw [h4] at h
  omega
/-- The last word of it. -/
theorem msub_last {us : List Nat} {k c d z r e W X : Nat} (hl : k < us.length) (hz : z = us.getD k 0) (h : val us + W = X + (c + d) * 4294967296 ^ k) (he : z + e * 4294967296 = r + c + d) :
    val (us.set k r) + W = X + e * 4294967296 ^ (k + 1) := by
  have s := val_set us k r hl
  rw [← hz] at s
  rw [Nat.pow_succ]
  generalize 4294967296 ^ k = P at *
  have h2 : P * (z + e * 4294967296) = P * (r + c + d) := by rw [he]
  have h4 : (c + d) * P = P * c + P * d := by rw [Nat.mul_comm, Nat.mul_add]
  have h3 : e * (P * 4294967296) = P * (e * 4294967296) := by simp only [Nat.mul_left_comm]
  simp only [Nat.mul_add] at h2
  rw [h4] at h
  rw [h3]
  omega
/-- What a step leaves where nothing was lacking. -/
theorem kn_end0 {U U' g V P : Nat} (hhi : U < (g + 1) * V * P) (h : U' + g * V * P = U) : U' < V * P := by
  rw [Nat.add_mul, Nat.add_mul, Nat.one_mul] at hhi
  omega
/-- What a step leaves where one was put back. -/
theorem kn_end1 {U U' U4 g V P R o : Nat} (hlo : g * V * P ≤ U + V * P) (h : U' + g * V * P = U + R) (hU' : U' < R) (h4 : U4 + o * R = U' + V * P) (hU4 : U4 < R) (ho : o ≤ 1) : ∃ g', g = g' + 1 ∧ U4 + g' * V * P = U ∧ U4 < V * P := by
  have hg : 0 < g := by
    rcases Nat.eq_zero_or_pos g with e | e
    · subst e; simp at h; omega
    · exact e
  refine ⟨g - 1, by omega, ?_⟩
  have e1 : g * V * P = (g - 1) * V * P + V * P := by
    conv => lhs; rw [show g = g - 1 + 1 by omega]
    rw [Nat.add_mul, Nat.add_mul, Nat.one_mul]
  have h1 : o = 0 ∨ o = 1 := by omega
  rcases h1 with rfl | rfl <;> omega

end Go.Proofs.YtgcpconlmihilaaGreatDoor

namespace Go.Proofs.YtgcpconlmihilaaGreatDoor
open Go.RowKit

/-- 'append(s, xs...)' at a slice of the call's own, no list of the operations said. -/
theorem append_all {T E : TypeId} {z : Value} {bytes : Nat} (he : Elem T E z bytes) {w : World} {base : Nat} {v : Value} {xs news : List Value} {ops : Array Oper} {rest : List Oper} {o : Oper} {a : Act} {Q : Exit → Act → World → Prop} (hgd : o.guard = none) (s y : Operand)
    (ho : o.op = .call { callee := .builtin .append, args := #[s, y], argTypes := #[T, T] }) (hs : a.eval s = v) (ad : Addr) (n c : Nat) (hx : a.eval y = .slice (some ad) n c) (hn : n = news.length) (hown : w.ownsRow base E 1 v xs.length xs)
    (hnews : ∀ j u, news[j]? = some u → w.cell? (ad.add j) = some u) (hone : ∀ u ∈ news, u.oneCell' = true) (h63 : xs.length + news.length ≤ maxLen) (hl : (xs.length + news.length) * bytes ≤ 140737488355328) (hbase : base ≤ w.heap.size)
    (h : ∀ v' w', w'.ownsRow base E 1 v' (xs ++ news).length (xs ++ news) → Below base w w' → KeepB v v' w w' → wpList Tryz.prog ops Q rest (a.put o.dst v') w') :
    wpList Tryz.prog ops Q (o :: rest) a w := by
  subst hn
  refine wpList_plain hgd fun K hK => ?_
  obtain ⟨v', w', hrun, r1, r2, r3⟩ := run_append_kb he o.type hown ad c hnews hone h63 hl hbase
  unfold Oper.wp
  simp [execOp, ho, resolve, invoke, builtin, hs, hx, hrun, Result.andThen]
  exact hK _ _ (h v' w' r1 r2 r3)

set_option maxHeartbeats 2000000 in
theorem twin_at (a : Option Addr) (ca n : Nat) (xs : List Nat) (x : Nat) (w : World) (ha : ShowsW w a ca xs) (hn : n = xs.length) (h0 : 0 < n) (hx : Num xs x) :
    Calls Tryz.prog 59 #[.slice a n ca] w fun e w' => ∃ v, e = .returned v ∧ OwnsN w' w.heap.size v xs x ∧ Below w.heap.size w w' := by
  obtain ⟨_, b, off, rfl, hlt, hc⟩ := ha.cells (fun e => by have := ha.nil e; have := ha.len; omega)
  have hf := ha.few
  have HN : Hid (n = (xs.map wv).length) := by show _ = _; rw [List.length_map]; exact hn
  have HC : Hid (∀ j u, (xs.map wv)[j]? = some u → w.cell? ((⟨b, off, none⟩ : Addr).add j) = some u) := fun j u hj => by
    obtain ⟨hj', rfl⟩ := List.getElem?_eq_some_iff.1 hj
    rw [List.length_map] at hj'
    rw [Addr.add_lit, hc j hj']
    simp [List.getD, List.getElem?_eq_getElem hj']
  have H1 : Hid (∀ u ∈ xs.map wv, u.oneCell' = true) := fun u hu => by
    obtain ⟨z, _, rfl⟩ := List.mem_map.1 hu
    rfl
  have HNx : Hid (Num xs x) := hx
  have HX : Hid (n = xs.length) := hn
  clear hc hx ha hn
  go_enter Tryz.func59, Tryz.ntmps59
  go_wp2_with (at_builtin; refine append_all elem_word (xs := []) (news := xs.map wv) (base := w.heap.size) rfl _ _ rfl rfl ⟨b, off, none⟩ n ca rfl HN.out (World.ownsRow_nil _ _ _ _) HC.out H1.out ?c1 ?c2 ?c3 ?_)
  case c1 => simp; unfold maxLen; omega
  case c2 => simp; omega
  case c3 => exact Nat.le_refl _
  intro v' w' hO hb hk
  have hO2 : OwnsW w' w.heap.size v' xs := by unfold OwnsW; simpa using hO
  have hr : ∀ a n cap, v' = .slice a n cap → a ≠ none → 0 < cap := fun a1 n1 cap1 e hne => by
    rcases hO2.2 with ⟨h2, h3⟩ | ⟨g, cap, cur, hv, hg, hh, h4, _⟩
    · rw [h2] at e; simp only [Value.slice.injEq] at e; exact absurd e.1.symm hne
    · rw [hv] at e; simp only [Value.slice.injEq] at e; have := HX.out; omega
  have HO : Hid (OwnsN w' w.heap.size v' xs x) := ⟨hO2, HNx.out, hr⟩
  have HB : Hid (Below w.heap.size w w') := hb
  clear hO hO2 hb hk hr
  go_wp2
  go_ret
  exact ⟨_, rfl, HO.out, HB.out⟩

theorem Tryz.infoB : (Tryz.prog.info? 5).map (fun i => (i.zero, i.size, i.bytes)) = some (some (.int .u8 0), 1, 1) := by kernel_rfl
theorem elem_byte : Elem 109 5 (.int .u8 0) 1 := ⟨Tryz.underlying109, Tryz.infoB, rfl⟩
def bv (u : Nat) : Value := .int .u8 (u : Int)
/-- v owns the bytes us. -/
def OwnsB (w : World) (base : Nat) (v : Value) (us : List Nat) : Prop := w.ownsRow base 5 1 v us.length (us.map bv)

/-- The decimal digits of y, nothing of 0. -/
def dig (y : Nat) : List UInt8 := if y = 0 then [] else Lib.decDigits y
theorem dig_step {y : Nat} (h : 0 < y) : dig y = dig (y / 10) ++ [UInt8.ofNat (48 + y % 10)] := by
  unfold dig
  rw [if_neg (by omega)]
  by_cases h10 : y < 10
  · rw [if_pos (by omega), Lib.decDigits, dif_pos h10, Nat.mod_eq_of_lt h10]; rfl
  · rw [if_neg (by omega), Lib.decDigits, dif_neg h10]
theorem dig_pos {y : Nat} (h : 0 < y) : 0 < (dig y).length := by rw [dig_step h]; simp

end Go.Proofs.YtgcpconlmihilaaGreatDoor
