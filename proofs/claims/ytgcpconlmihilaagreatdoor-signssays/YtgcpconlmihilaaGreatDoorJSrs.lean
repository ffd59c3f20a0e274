/-
  The contract of signs.copied.
  All matrices of n rows, place by place: the program's search as a list; how many there are.
-/
import Derived.Test.YtgcpconlmihilaaGreatDoorJChk
import Derived.Deep.DeepCutAuto
import Derived.Deep.RegionLaw
namespace Go.Proofs.YtgcpconlmihilaaGreatDoor
open Go.RowKit

theorem run_copy_on {w : World} {a : Option Addr} {cap g n : Nat} {zs old : List Int} (hs : Shows w a zs) (hn : n = zs.length) (hl : old.length = zs.length) (hrow : w.heap[g]? = some (.cells (old.map (Value.int .i64)).toArray 3 (0, 0))) :
    ∃ w2, Sem.run Tryz.prog (Builtin.copy_ #[36, 36] 3 #[.slice (some ⟨g, 0, none⟩) n n, .slice a n cap]) w = .ok (.int .i64 n) w2 ∧
      Hid (w2.heap[g]? = some (.cells (zs.map (Value.int .i64)).toArray 3 (0, 0)) ∧ Below g w w2 ∧ ∀ k, k ≠ g → w2.heap[k]? = w.heap[k]?) := by
  subst hn
  by_cases hne : zs = []
  · subst hne
    have : old = [] := List.eq_nil_of_length_eq_zero (by simpa using hl)
    subst this
    exact ⟨w, run_copy_none (P := Tryz.prog) w 36 36 3 3 _ _ _ _ _ _ Tryz.underlying36 Tryz.sz3 (by simp), by simpa [Hid] using hrow, Below.refl _ _, fun _ _ => rfl⟩
  · obtain ⟨b, off, ha, _, hc⟩ := hs.cells hne
    subst ha
    have hrun := run_copy_row (P := Tryz.prog) w 36 36 3 3 g 0 zs.length zs.length ⟨b, off, none⟩ zs.length cap _ 3 (zs.map (Value.int .i64)) Tryz.underlying36 Tryz.sz3 hrow (by simp) (fun j v hj => by
      have hj' : j < zs.length := by have := (List.getElem?_eq_some_iff.1 hj).1; simpa using this
      rw [Addr.add_lit, hc j hj', ← hj]; simp [List.getD, List.getElem?_eq_getElem hj']) (by simp [hl]) (ints_oneCell _ _)
    refine ⟨_, by rw [hrun]; simp only [List.length_map]; rfl, ?_, below_setRow (Below.refl _ _) (Nat.le_refl _) _, fun k hk => ?_⟩
    · show _ = _
      rw [setRow_heap w g _ _ 3 _ hrow]
      rw [List.take_zero, List.nil_append, List.drop_of_length_le (by rw [List.length_map]; omega), List.append_nil]
    · unfold World.setRow
      simp [Array.getElem?_modify, Ne.symm hk]

set_option maxHeartbeats 2000000 in
set_option maxRecDepth 100000 in
theorem sgcopied_at (a : Option Addr) (n cap r : Nat) (P : Nat → Nat → Int) (w : World) (hs : Table w a (tz r r P)) (hn : n = r) (r1 : 1 ≤ r) (r8 : r ≤ 8) :
    Calls Tryz.prog 25 #[.slice a n cap] w fun e w' => ∃ v, e = .returned v ∧ Tbl w' w.heap.size v (tz r r P) ∧ Below w.heap.size w w' := by
  subst hn
  have HS : Hid (Table w a (tz n n P)) := hs
  clear hs
  have n0' : (0 : Int) < (n : Int) := by omega
  obtain ⟨b, off, ai0, ci0, rfl, HC0, -⟩ := HS.out.rowZ (i := 0) (by omega)
  go_enter Tryz.func25, Tryz.ntmps25
  go_wp2_with fail
  refine (noughts_at n w r1 (by omega)).mono ?_
  rintro e w2 ⟨gs, rfl, HR, HB2⟩
  clear HC0
  obtain ⟨R, HRe⟩ : ∃ R, Hid (R = w.heap.size) := ⟨_, rfl⟩
  have HR2 : Hid (Rez w2 R R n n gs (fun i j => if i < 0 then P i j else 0)) := by rw [HRe.out]; exact HR.out.congr (fun i _ j _ => by rw [if_neg (by omega)])
  rw [← HRe.out]
  go_wp2
  go_loopw [11] (fun q wr => ∃ i : Nat, i ≤ n ∧ q = .int .i64 i ∧ Hid (Rez wr R R n n gs (fun a b => if a < i then P a b else 0)) ∧ Hid (Below w.heap.size w wr)) (fun q _ => n - (intOf q).toNat)
  case atStart => exact ⟨0, Nat.zero_le _, rfl, HR2, HB2⟩
  case round =>
    clear HR2 HB2 HR
    obtain ⟨i, hi, rfl, HR, HB⟩ := hrel
    by_cases hil : i < n
    · have hil' : (i : Int) < (n : Int) := by omega
      obtain ⟨b9, off9, ai, ci, e9, HCi, HSi⟩ := HS.out.rowZ (i := i) hil
      simp only [Option.some.injEq, Addr.mk.injEq, and_true] at e9
      obtain ⟨rfl, rfl⟩ := e9
      have hc := HCi.out wr HB.out
      have cR := HR.out.head (i := i) hil
      have hsh := HSi.out wr HB.out
      have hOw := HR.out.t.rows i (by rw [tz_len]; exact hil)
      rw [rvs_at hil, tz_get hil] at hOw
      obtain ⟨hlo, cur, hcur, hsz, _, _, htk⟩ := hOw.block (by rw [tab_length])
      have hrow : wr.heap[gs i]? = some (.cells ((tab n fun j => (if i < i then P i j else 0)).map (Value.int .i64)).toArray 3 (0, 0)) := by
        rw [hcur]
        congr 2
        rw [← htk, List.take_of_length_le (by rw [Array.length_toList, hsz]; exact Nat.le_refl _)]
      obtain ⟨w3, hrun, HW3⟩ := run_copy_on (cap := ci) hsh (n := n) (by rw [tab_length]) (by rw [tab_length, tab_length]) hrow
      have HR3 : Hid (Rez w3 R R n n gs (fun a b => if a < i + 1 then P a b else 0)) := by
        have h := HR.out.t.refill (i := i) (w' := w3) (zs := tab n fun j => (P i j)) (by rw [tz_len]; exact hil) (fun q hq hlt => HW3.out.2.2 q (fun e => hq (by rw [rvs_at hil, e]; rfl))) (by
          rw [rvs_at hil]
          exact owns_of_row hlo HW3.out.1 (by rw [tab_length]) (by rw [tab_length]; omega))
        have e : (tz n n fun a b => if a < i then P a b else 0).set i (tab n fun j => (P i j)) = tz n n fun a b => if a < i + 1 then P a b else 0 := by
          refine ext_row (by simp [tz_len]) (fun a ha => ?_)
          rw [List.length_set, tz_len] at ha
          unfold row
          rw [getD_set_rows _ _ _ _ (by rw [tz_len]; exact ha), tz_get ha, tz_get ha]
          by_cases e2 : a = i
          · subst e2
            rw [if_pos rfl]
            exact tab_congr (fun j _ => by rw [if_pos (by omega)])
          · rw [if_neg e2]
            refine tab_congr (fun j _ => ?_)
            by_cases e3 : a < i
            · rw [if_pos e3, if_pos (by omega)]
            · rw [if_neg e3, if_neg (by omega)]
        rw [e] at h
        exact ⟨h⟩
      have HB3 : Hid (Below w.heap.size w w3) := HB.out.trans (HW3.out.2.1.mono (by rw [← HRe.out]; exact hlo))
      clear hOw hcur hsz htk hrow hsh
      go_wp2
      go_roundw
      case rel => exact ⟨i + 1, by omega, by go_num, HR3, HB3⟩
      case measure => simp [intOf]; omega
    · obtain rfl : i = n := by omega
      have HT : Hid (Tbl wr w.heap.size (.slice (some ⟨R, 0, none⟩) i i) (tz i i P)) := by
        have h := (HR.out.congr (Q := P) (fun a ha b _ => by rw [if_pos ha])).tbl
        rw [← HRe.out]; exact h
      go_wp2
      go_ret
      exact ⟨_, rfl, HT.out, HB.out⟩

end Go.Proofs.YtgcpconlmihilaaGreatDoor

namespace Go.Proofs.YtgcpconlmihilaaGreatDoor
open Go.RowKit

/-- what row i, column j come to so far -/
def rwS (n : Nat) (X : List Int) (i : Nat) : Int := sum (X.drop (i * n))
def clS (n : Nat) (X : List Int) : Nat → Nat → Int
  | 0, _ => 0
  | i + 1, j => clS n X i j + X.getD (i * n + j) 0
/-- may z come next? -/
def okS (n : Nat) (X : List Int) (z : Int) : Bool :=
  mayB (rwS n X (X.length / n) + z) (decide (X.length % n = n - 1)) && mayB (clS n X (X.length / n) (X.length % n) + z) (decide (X.length / n = n - 1))
def srS (n : Nat) : Nat → List Int → List (List Int)
  | 0, X => [X]
  | d + 1, X => [-1, 0, 1].flatMap fun z => if okS n X z = true then srS n d (X ++ [z]) else []
theorem asm_list : ∀ n, n < 6 → 1 ≤ n → (srS n (n * n) []).length = [1, 1, 2, 7, 42, 429].getD n 0 := by decide +kernel

end Go.Proofs.YtgcpconlmihilaaGreatDoor
