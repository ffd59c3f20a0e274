/-
  Codes are told in one way; the document's own words for leaves (plain).
  The tree of a code, as the document makes it (plain).
-/
import Derived.Test.YtihafckdaecgkaaZPrv
namespace Go.Proofs.Ytihafckdaecgkaa
open Go.RowKit

theorem trr_uniq : ∀ {c V es : List Int} {M N : List (Int × Int)}, St V es c → TrR es c M → TrR es c N → M = N
  | [], V, es, M, N, hS, hM, hN => by
    obtain ⟨a, b, h1, h2, h3, h4, rfl⟩ := hM
    obtain ⟨p, q, g1, g2, g3, g4, rfl⟩ := hN
    obtain rfl := h1.uniq g1
    have ha := (hS.mem h1.1 h1.2.1).1
    have hb := (hS.mem h3 h4).1
    have hq := (hS.mem g3 g4).1
    obtain ⟨x, y, rfl⟩ := two_of hS.2.1
    simp only [List.mem_cons, List.not_mem_nil, or_false] at ha hb hq
    have : b = q := by omega
    rw [this]
  | o :: c, V, es, M, N, hS, hM, hN => by
    obtain ⟨x, M', h1, rfl, h3⟩ := hM
    obtain ⟨y, N', g1, rfl, g3⟩ := hN
    obtain rfl := h1.uniq g1
    rw [trr_uniq (hS.next h1).1 h3 g3]

theorem dg_mem {L : List (Int × Int)} {e : Int × Int} {v : Int} (he : e ∈ L) (hv : e.1 = v ∨ e.2 = v) : 1 ≤ dg L v := by
  obtain ⟨A, B, rfl⟩ := List.append_of_mem he
  rw [dg_append, dg_cons]
  rcases hv with h | h
  · rw [if_pos h]; omega
  · rw [if_pos h]; omega
theorem cut_uniq {v : Int} : ∀ {A B K M : List (Int × Int)} {e f : Int × Int}, A ++ e :: B = K ++ f :: M → dg (A ++ e :: B) v = 1 → (e.1 = v ∨ e.2 = v) → (f.1 = v ∨ f.2 = v) → A = K ∧ e = f ∧ B = M
  | [], B, [], M, e, f, h, _, _, _ => by simp only [List.nil_append, List.cons.injEq] at h; exact ⟨rfl, h.1, h.2⟩
  | [], B, k :: K, M, e, f, h, hd, he, hf => by
    simp only [List.nil_append, List.cons_append, List.cons.injEq] at h
    obtain ⟨rfl, rfl⟩ := h
    rw [List.nil_append, dg_cons, dg_append, dg_cons] at hd
    exfalso
    rcases he with h1 | h1 <;> rcases hf with h2 | h2 <;> rw [if_pos h1, if_pos h2] at hd <;> omega
  | a :: A, B, [], M, e, f, h, hd, he, hf => by
    simp only [List.nil_append, List.cons_append, List.cons.injEq] at h
    obtain ⟨rfl, rfl⟩ := h
    rw [List.cons_append, dg_cons, dg_append, dg_cons] at hd
    exfalso
    rcases he with h1 | h1 <;> rcases hf with h2 | h2 <;> rw [if_pos h1, if_pos h2] at hd <;> omega
  | a :: A, B, k :: K, M, e, f, h, hd, he, hf => by
    simp only [List.cons_append, List.cons.injEq] at h
    obtain ⟨rfl, h⟩ := h
    rw [List.cons_append, dg_cons] at hd
    have h1 : 1 ≤ dg (A ++ e :: B) v := dg_mem (by simp) he
    obtain ⟨rfl, rfl, rfl⟩ := cut_uniq h (by omega) he hf
    exact ⟨rfl, rfl, rfl⟩
theorem cdr_uniq : ∀ {c d V es : List Int} {L : List (Int × Int)}, Tr V L → Ed es L → VB V es → CdR es c L → CdR es d L → c = d
  | [], [], _, _, _, _, _, _, _, _ => rfl
  | [], o :: d, V, es, L, _, _, _, hc, hd => by
    have h1 : L.length = 1 := hc
    have := hd.len
    simp at this; omega
  | o :: c, [], V, es, L, _, _, _, hc, hd => by
    have h1 : L.length = 1 := hd
    have := hc.len
    simp at this; omega
  | o :: c, p :: d, V, es, L, hT, hE, hV, hc, hd => by
    obtain ⟨x, e, A, B, h1, rfl, h3, h4⟩ := hc
    obtain ⟨y, f, K, M, g1, g2, g3, g4⟩ := hd
    obtain rfl := h1.uniq g1
    have hdx : dg (A ++ e :: B) (x : Int) = 1 := by
      have := hE x h1.1
      rw [h1.2.1] at this; omega
    obtain ⟨rfl, rfl, rfl⟩ := cut_uniq g2 hdx h3.ends g3.ends
    obtain rfl := h3.uniq g3
    have hn := Tr.next hT hE hV h1 h3
    rw [cdr_uniq hn.1 hn.2.1 hn.2.2.1 h4 g4]

theorem tre_loop : ∀ {L : List (Int × Int)} {m : Int → Int}, tre m L = true → ∀ e ∈ L, e.1 ≠ e.2
  | [], _, _, e, he => by cases he
  | f :: L, m, h, e, he => by
    simp only [tre] at h
    rcases List.mem_cons.1 he with rfl | he
    · intro e2
      rw [e2] at h
      simp at h
    · have h2 : tre (mrg m f) L = true := by
        rw [Bool.and_eq_true] at h; exact h.2
      exact tre_loop h2 e he
theorem Tr.loop {V : List Int} {L : List (Int × Int)} (h : Tr V L) : ∀ e ∈ L, e.1 ≠ e.2 :=
  tre_loop ((tre_iff h.1 h.2.1 h.2.2.1).2 h)
/-- How many edges end there. -/
def cn (L : List (Int × Int)) (v : Int) : Nat := L.countP fun e => e.1 == v || e.2 == v
theorem cn_dg {v : Int} : ∀ {L : List (Int × Int)}, (∀ e ∈ L, e.1 ≠ e.2) → cn L v = dg L v
  | [], _ => rfl
  | e :: L, h => by
    have h1 := h e (by simp)
    rw [dg_cons, ← cn_dg (L := L) (fun e he => h e (by simp [he]))]
    unfold cn
    rw [List.countP_cons]
    by_cases a : e.1 = v
    · have b : ¬ e.2 = v := fun b => h1 (a.trans b.symm)
      simp [a, b]; omega
    · by_cases b : e.2 = v
      · simp [a, b]; omega
      · simp [a, b]
end Go.Proofs.Ytihafckdaecgkaa

namespace Go.Proofs.Ytihafckdaecgkaa
open Go.RowKit

/-- x is the least of 1 to n that is in neither list. -/
def LeastR (n : Nat) (l T : List Int) (x : Nat) : Prop := 1 ≤ x ∧ x ≤ n ∧ (x : Int) ∉ l ∧ (x : Int) ∉ T ∧ ∀ y : Nat, 1 ≤ y → y < x → (y : Int) ∈ l ∨ (y : Int) ∈ T
structure CI (c : List Int) (i : Nat) (T : List Int) (O : List (Int × Int)) (V es : List Int) : Prop where
  st : St V es (c.drop i)
  mem : ∀ v, v ∈ V ↔ (1 ≤ v ∧ v ≤ (c.length : Int) + 2) ∧ v ∉ T
  len : es.length = c.length + 3
  tr : ∀ N, TrR es (c.drop i) N → TrR (tst c) c (O.map nrm ++ N)
def CIx (c : List Int) (i : Nat) (T : List Int) (O : List (Int × Int)) : Prop := ∃ V es, CI c i T O V es
theorem CI.start {c : List Int} (hc : ∀ z ∈ c, 1 ≤ z ∧ z ≤ (c.length : Int) + 2) : CIx c 0 [] [] :=
  ⟨_, _, St_start hc, fun v => by rw [mem_rgV]; simp; omega, tst_length c, fun _ h => h⟩
theorem CI.one {c : List Int} {i : Nat} {T : List Int} {O : List (Int × Int)} {V es : List Int} (h : CI c i T O V es) {v : Nat} (h1 : 1 ≤ v) (h2 : v ≤ c.length + 2) : es.getD v 0 = 1 ↔ (v : Int) ∉ c.drop i ∧ (v : Int) ∉ T := by
  have hl := h.len
  constructor
  · intro hv
    obtain ⟨g1, g2⟩ := h.st.mem (by omega) hv
    exact ⟨List.count_eq_zero.1 g2, ((h.mem _).1 g1).2⟩
  · rintro ⟨g1, g2⟩
    have hv : (v : Int) ∈ V := (h.mem _).2 ⟨by omega, g2⟩
    have := h.st.2.2.2.1 _ hv
    rw [Int.toNat_natCast, List.count_eq_zero.2 g1] at this
    omega
theorem CI.zero {c : List Int} {i : Nat} {T : List Int} {O : List (Int × Int)} {V es : List Int} (h : CI c i T O V es) : es.getD 0 0 = 0 :=
  h.st.2.2.2.2.1 0 (by rw [h.len]; omega) (fun e => by have := ((h.mem _).1 e).1; omega)
theorem CI.lf {c : List Int} {i : Nat} {T : List Int} {O : List (Int × Int)} {V es : List Int} (h : CI c i T O V es) {x : Nat} (hx : LeastR (c.length + 2) (c.drop i) T x) : Lf es x := by
  obtain ⟨h1, h2, h3, h4, h5⟩ := hx
  refine ⟨by rw [h.len]; omega, (h.one h1 h2).2 ⟨h3, h4⟩, fun j hj => ?_⟩
  rcases Nat.eq_zero_or_pos j with rfl | hp
  · rw [h.zero]; decide
  · intro e
    have := (h.one hp (by omega)).1 e
    rcases h5 j hp hj with g | g
    · exact this.1 g
    · exact this.2 g
theorem CI.least {c : List Int} {i : Nat} {T : List Int} {O : List (Int × Int)} {V es : List Int} (h : CI c i T O V es) : ∃ x, LeastR (c.length + 2) (c.drop i) T x := by
  obtain ⟨x, hx⟩ := h.st.leaf
  have hm := (h.st.mem hx.1 hx.2.1).1
  have hb := ((h.mem _).1 hm).1
  have h1 := (h.one (v := x) (by omega) (by omega)).1 hx.2.1
  refine ⟨x, by omega, by omega, h1.1, h1.2, fun y hy hyx => ?_⟩
  refine Classical.byContradiction (fun hn => ?_)
  exact hx.2.2 y hyx ((h.one hy (by omega)).2 ⟨fun g => hn (Or.inl g), fun g => hn (Or.inr g)⟩)
theorem drop_consZ {c : List Int} {i : Nat} (hi : i < c.length) : c.drop i = c.getD i 0 :: c.drop (i + 1) := by
  rw [List.drop_eq_getElem_cons hi]; simp [List.getD, hi]
theorem CI.step {c : List Int} {i : Nat} {T : List Int} {O : List (Int × Int)} {V es : List Int} (h : CI c i T O V es) (hi : i < c.length) {x : Nat} (hx : LeastR (c.length + 2) (c.drop i) T x) : CIx c (i + 1) (T ++ [(x : Int)]) (O ++ [((x : Int), c.getD i 0)]) := by
  have hl := h.lf hx
  have hs := h.st
  rw [drop_consZ hi] at hs
  obtain ⟨g1, g2, g3, g4⟩ := hs.next hl
  refine ⟨_, _, g1, fun v => ?_, by rw [dn_length]; exact h.len, fun N hN => ?_⟩
  · rw [h.st.1.mem_erase_iff, h.mem]
    simp only [List.mem_append, List.mem_cons, List.not_mem_nil, or_false, not_or]
    constructor
    · rintro ⟨a, b, d⟩; exact ⟨b, d, a⟩
    · rintro ⟨b, d, a⟩; exact ⟨a, b, d⟩
  · rw [List.map_append, List.append_assoc]
    refine h.tr _ ?_
    rw [drop_consZ hi]
    exact ⟨x, N, hl, rfl, hN⟩
theorem CI.last {c : List Int} {T : List Int} {O : List (Int × Int)} {V es : List Int} (h : CI c c.length T O V es) {a : Nat} (ha : LeastR (c.length + 2) [] T a) :
    ∃ b, LeastR (c.length + 2) [] (T ++ [(a : Int)]) b ∧ TrR (tst c) c ((O ++ [((a : Int), (b : Int))]).map nrm) := by
  have hd : c.drop c.length = [] := List.drop_length
  have ha' : LeastR (c.length + 2) (c.drop c.length) T a := by rw [hd]; exact ha
  have hl := h.lf ha'
  have hs := h.st
  rw [hd] at hs
  have haV := (hs.mem hl.1 hl.2.1).1
  obtain ⟨d, h1, h2, h3⟩ := hs.two hl
  have hbV := (hs.mem h2 h3).1
  have hbb := (h.mem _).1 hbV
  have hall : ∀ v ∈ V, v = (a : Int) ∨ v = ((a + 1 + d : Nat) : Int) := by
    intro v hv
    obtain ⟨p, q, e⟩ := two_of hs.2.1
    rw [e] at hv haV hbV
    simp only [List.mem_cons, List.not_mem_nil, or_false] at hv haV hbV
    omega
  refine ⟨a + 1 + d, ⟨by omega, by omega, by simp, ?_, fun y hy hyb => Or.inr ?_⟩, ?_⟩
  · simp only [List.mem_append, List.mem_cons, List.not_mem_nil, or_false, not_or]
    exact ⟨hbb.2, by omega⟩
  · simp only [List.mem_append, List.mem_cons, List.not_mem_nil, or_false]
    by_cases e : (y : Int) ∈ T
    · exact Or.inl e
    · right
      have := hall y ((h.mem _).2 ⟨by omega, e⟩)
      omega
  · rw [List.map_append]
    refine h.tr _ ?_
    rw [hd]
    refine ⟨a, a + 1 + d, hl, by omega, h2, h3, ?_⟩
    have e : nrm ((a : Int), ((a + 1 + d : Nat) : Int)) = ((a : Int), ((a + 1 + d : Nat) : Int)) := by
      unfold nrm; simp only [Prod.mk.injEq]; omega
    simp only [List.map_cons, List.map_nil]
    rw [e]
end Go.Proofs.Ytihafckdaecgkaa
