/-
  Whole numbers of ferrersbig, told by their value alone.
-/
import Derived.Test.YtmbpcapjldbkbaaGreatDoorAWho
import Derived.Test.YtmbpcapjldbkbaaGreatDoorABigB
import Derived.Test.YtmbpcapjldbkbaaGreatDoorHDec
import Derived.Test.YtmbpcapjldbkbaaGreatDoorWBen
namespace Go.Proofs.YtmbpcapjldbkbaaGreatDoor
open Go.RowKit

/-- A number in block p, its words in blocks from lo on. -/
def Bg (w : World) (lo p x : Nat) : Prop := (∃ v us, IntAt w lo p v us x) ∧ lo ≤ p
theorem Bg.lt {w : World} {lo p x : Nat} (h : Bg w lo p x) : p < w.heap.size := by
  obtain ⟨⟨v, us, h1⟩, _⟩ := h
  exact (Array.getElem?_eq_some_iff.1 h1.row).1
theorem Bg.mono {w : World} {lo lo' p x : Nat} (h : Bg w lo p x) (hl : lo' ≤ lo) : Bg w lo' p x := by
  obtain ⟨⟨v, us, h1⟩, h2⟩ := h
  exact ⟨⟨v, us, h1.row, h1.own.mono hl⟩, by omega⟩
theorem Bg.below {w w' : World} {lo p x : Nat} (h : Bg w lo p x) (hb : Below w.heap.size w w') : Bg w' lo p x := by
  have hlt := h.lt
  obtain ⟨⟨v, us, h1⟩, h2⟩ := h
  exact ⟨⟨v, us, by rw [hb.block p hlt]; exact h1.row, h1.own.below hb⟩, h2⟩
theorem Bg.put {w w' : World} {lo lz p q x : Nat} {c : Array Value} (h : Bg w lo p x) (hp : Put w w' lz q) (hq : w.heap[q]? = some (.cells c 48 (0, 0))) (hne : p ≠ q) : Bg w' lo p x := by
  have hlt := h.lt
  obtain ⟨⟨v, us, h1⟩, h2⟩ := h
  refine ⟨⟨v, us, by rw [hp.block p hlt hne]; exact h1.row, ⟨h1.own.own.blocks fun k hk => ?_, h1.own.num, h1.own.room⟩⟩, h2⟩
  refine hp.block k (h1.own.own.lt hk).2 (fun e => ?_)
  subst e
  rcases h1.own.own.2 with ⟨e1, _⟩ | ⟨g, cap, cur, e1, _, hh, _⟩
  · rw [e1] at hk; cases hk
  · rw [e1] at hk
    have hg : g = k := by simpa [Value.ownBlock] using hk
    subst hg
    rw [hh] at hq
    simp at hq
theorem Bg.of {w' : World} {W : World} {lo p x : Nat} {v : Value} {us : List Nat} (hr : w'.heap[p]? = some (.cells #[.bool false, v] 48 (0, 0))) (ho : OwnsN w' W.heap.size v us x) (hl : lo ≤ W.heap.size) (hp : lo ≤ p) : Bg w' lo p x := ⟨⟨v, us, hr, ho.mono hl⟩, hp⟩
theorem Bg.row {w : World} {lo p x : Nat} (h : Bg w lo p x) : ∃ c, w.heap[p]? = some (.cells c 48 (0, 0)) := by
  obtain ⟨⟨v, us, h1⟩, _⟩ := h
  exact ⟨_, h1.row⟩
theorem Bg.len {w : World} {lo p x : Nat} {v : Value} {us : List Nat} (h : IntAt w lo p v us x) (hx : x < 4294967296 ^ 100) : us.length ≤ 100 := num_len h.own.num hx
theorem bgAdd {W : World} {lo p q x y : Nat} (hx : Bg W lo p x) (hy : Bg W lo q y) (h1 : x < 4294967296 ^ 100) (h2 : y < 4294967296 ^ 100) :
    Calls Tryz.prog 24 #[.pointer (some ⟨p, 0, none⟩), .pointer (some ⟨p, 0, none⟩), .pointer (some ⟨q, 0, none⟩)] W fun e w' => e = .returned (.pointer (some ⟨p, 0, none⟩)) ∧ Bg w' lo p (x + y) ∧ Put W w' lo p := by
  have hlt := hx.lt
  obtain ⟨⟨vx, xs, ax⟩, hl⟩ := hx
  obtain ⟨⟨vy, ys, ay⟩, _⟩ := hy
  have b1 := Bg.len ax h1
  have b2 := Bg.len ay h2
  refine (BAdd_at p p q lo lo false vx vx vy xs ys x y W ax ay ax.row hl (by omega)).mono ?_
  rintro e w' ⟨v, us, rfl, r1, r2, r3⟩
  exact ⟨rfl, Bg.of r1 r2 (by omega) hl, r3⟩
theorem bgSq {W : World} {lo p x : Nat} (hx : Bg W lo p x) (h1 : x < 4294967296 ^ 100) :
    Calls Tryz.prog 31 #[.pointer (some ⟨p, 0, none⟩), .pointer (some ⟨p, 0, none⟩), .pointer (some ⟨p, 0, none⟩)] W fun e w' => e = .returned (.pointer (some ⟨p, 0, none⟩)) ∧ Bg w' lo p (x * x) ∧ Put W w' lo p := by
  have hlt := hx.lt
  obtain ⟨⟨vx, xs, ax⟩, hl⟩ := hx
  have b1 := Bg.len ax h1
  refine (BMul_at p p p lo lo false vx vx vx xs xs x x W ax ax ax.row hl (by omega)).mono ?_
  rintro e w' ⟨v, us, rfl, r1, r2, r3⟩
  exact ⟨rfl, Bg.of r1 r2 (by omega) hl, r3⟩
theorem bgFac {W : World} {lo p x N : Nat} (hx : Bg W lo p x) (hN : N ≤ 20) :
    Calls Tryz.prog 32 #[.pointer (some ⟨p, 0, none⟩), .int .i64 1, .int .i64 (N : Int)] W fun e w' => e = .returned (.pointer (some ⟨p, 0, none⟩)) ∧ Bg w' lo p (fcN N) ∧ Put W w' lo p := by
  have hlt := hx.lt
  obtain ⟨⟨vx, xs, ax⟩, hl⟩ := hx
  refine (MulRange_at p lo false vx N W ax.row hl hN).mono ?_
  rintro e w' ⟨v, us, rfl, r1, r2, r3⟩
  exact ⟨rfl, Bg.of r1 r2 (by omega) hl, r3⟩
theorem fcN_upTo : ∀ n, pL (upTo n) = fcN n
  | 0 => rfl
  | n + 1 => by
    have h := fcN_upTo n
    unfold upTo at h ⊢
    rw [List.range_succ, List.map_append, pL_app, h, fcN]
    simp [pL]
theorem stdN_lt {zs : List Int} (h : IsPt zs) : stdN zs < 10 ^ 48 := by
  have h1 := stdN_prod h
  have h2 : 0 < pL (hkR zs).flatten := pL_pos fun a ha => hkR_pos zs a ha
  have h3 : stdN zs ≤ pL (upTo (szN zs)) := by rw [← h1]; exact Nat.le_mul_of_pos_right _ h2
  rw [fcN_upTo] at h3
  have h4 := fcN_mono (a := szN zs) (40 - szN zs)
  rw [show szN zs + (40 - szN zs) = 40 by have := szN_le h; omega] at h4
  have h5 : fcN 40 < 10 ^ 48 := by decide +kernel
  omega
theorem ten48 : 10 ^ 48 < 4294967296 ^ 5 := by decide +kernel
theorem pow_up {x k : Nat} (hk : k ≤ 100) (h : x < 4294967296 ^ k) : x < 4294967296 ^ 100 := Nat.lt_of_lt_of_le h (Nat.pow_le_pow_right (by omega) hk)
theorem stdN_fit {zs : List Int} (h : IsPt zs) : stdN zs < 4294967296 ^ 100 := pow_up (k := 5) (by omega) (by have := stdN_lt h; have := ten48; omega)
theorem bgWhole {W : World} {lo : Nat} {zs : List Int} (h : IsPt zs) (hl : lo ≤ W.heap.size) :
    Calls Tryz.prog 25 #[.string ⟨(numT (stdN zs)).toArray⟩] W fun e w' => e = .returned (.pointer (some ⟨W.heap.size, 0, none⟩)) ∧ Bg w' lo W.heap.size (stdN zs) ∧ Below W.heap.size W w' := by
  rw [numT_dec]
  have hd := dec_len (k := 47) (stdN_lt h)
  have hz : (⟨(Lib.decDigits (stdN zs)).toArray⟩ : ByteArray).size = (Lib.decDigits (stdN zs)).length := by show (Lib.decDigits (stdN zs)).toArray.size = _; simp
  refine (whole_at ⟨(Lib.decDigits (stdN zs)).toArray⟩ W (by rw [hz]; omega) (by rw [hz]; omega) (fun c hc => dec_digits (stdN zs) c (by simpa using hc))).mono ?_
  rintro e w' ⟨v, us, rfl, h1, _, h3⟩
  have h4 : Bg w' W.heap.size W.heap.size (stdN zs) := ⟨⟨v, us, by
    have := h1
    rw [show (⟨(Lib.decDigits (stdN zs)).toArray⟩ : ByteArray).data.toList = Lib.decDigits (stdN zs) by simp, dec_val] at this
    exact this⟩, Nat.le_refl _⟩
  exact ⟨rfl, h4.mono hl, h3⟩

end Go.Proofs.YtmbpcapjldbkbaaGreatDoor
