/-
  parking.Tree, Code, Rooted, Unrooted: each in one form, refused or not.
-/
import Derived.Test.YtihafckdaecgkaaZBkm
namespace Go.Proofs.Ytihafckdaecgkaa
open Go.RowKit

def WfP (l : List (Int × Int)) : Prop := ∀ e ∈ l, (-9223372036854775808 ≤ e.1 ∧ e.1 ≤ 9223372036854775807) ∧ -9223372036854775808 ≤ e.2 ∧ e.2 ≤ 9223372036854775807

/-- What Tree answers. -/
def TrZ (c : List Int) (w : World) (lo : Nat) (v : Value) (E : Int) : Prop :=
  (((18 < c.length ∧ E = 2) ∨ (c.length ≤ 18 ∧ inIv c 1 ((c.length + 2 : Nat) : Int) = false ∧ E = 1)) ∧ v = .slice none 0 0) ∨
  (E = 0 ∧ c.length ≤ 18 ∧ inIv c 1 ((c.length + 2 : Nat) : Int) = true ∧ ∃ M X, TrR (tst c) c M ∧ X.Perm M ∧ SrtP X ∧ OwnsP w lo v X)
theorem Tree_c (HSC : SortC) (a : Option Addr) (n cap : Nat) (c : List Int) (w : World) (hs : Shows w a c) (hn : n = c.length) :
    Calls Try.prog 9 #[.slice a n cap] w fun e w' => ∃ v E, e = .returned (.tuple #[v, .int .i64 E]) ∧ Hid (TrZ c w' w.heap.size v E) ∧ Hid (Below w.heap.size w w') := by
  by_cases h18 : n ≤ 18
  · cases hi : inIv c 1 ((n + 2 : Nat) : Int) with
    | true =>
      refine (Tree_ok HSC a n cap c w hs hn h18 hi).mono ?_
      rintro e w' ⟨v, M, X, rfl, h1, h2, h3⟩
      subst hn
      exact ⟨v, 0, rfl, Or.inr ⟨rfl, h18, hi, M, X, h1.out.1, h1.out.2.1, h1.out.2.2, h2.out⟩, h3⟩
    | false =>
      refine (Tree_no a n cap c 1 w hs hn (Or.inr ⟨h18, hi, rfl⟩)).mono ?_
      rintro e w' ⟨rfl, rfl⟩
      subst hn
      exact ⟨_, 1, rfl, Or.inl ⟨Or.inr ⟨h18, hi, rfl⟩, rfl⟩, Below.refl _ _⟩
  · refine (Tree_no a n cap c 2 w hs hn (Or.inl ⟨by omega, rfl⟩)).mono ?_
    rintro e w' ⟨rfl, rfl⟩
    subst hn
    exact ⟨_, 2, rfl, Or.inl ⟨Or.inl ⟨by omega, rfl⟩, rfl⟩, Below.refl _ _⟩

/-- What Code answers. -/
def CoZ (L : List (Int × Int)) (w : World) (lo : Nat) (v : Value) (E : Int) : Prop :=
  (((19 < L.length ∧ E = 2) ∨ (L.length ≤ 19 ∧ (L.length = 0 ∨ ¬ Tr (rgV 1 (L.length + 1)) L) ∧ E = 1)) ∧ v = .slice none 0 0) ∨
  (E = 0 ∧ 1 ≤ L.length ∧ L.length ≤ 19 ∧ Tr (rgV 1 (L.length + 1)) L ∧ ∃ c es, Ed es L ∧ es.length = L.length + 2 ∧ CdR es c L ∧ Owns w lo v c)
theorem Code_c (a : Option Addr) (n cap : Nat) (L : List (Int × Int)) (w : World) (hs : ShowsP w a L) (hwf : WfP L) (hn : n = L.length) :
    Calls Try.prog 5 #[.slice a n cap] w fun e w' => ∃ v E, e = .returned (.tuple #[v, .int .i64 E]) ∧ Hid (CoZ L w' w.heap.size v E) ∧ Hid (Below w.heap.size w w') := by
  have hlen := hs.len
  have hno : ∀ E : Int, ((19 < n ∧ E = 2) ∨ (n ≤ 19 ∧ (n = 0 ∨ itr (1 : Nat) ((1 + n : Nat) : Int) id L = false) ∧ E = 1)) → Calls Try.prog 5 #[.slice a n cap] w fun e w' => ∃ v E, e = .returned (.tuple #[v, .int .i64 E]) ∧ Hid (CoZ L w' w.heap.size v E) ∧ Hid (Below w.heap.size w w') := fun E hE => by
    refine (Code_no a n cap L E w hs hwf hn (by omega) hE).mono ?_
    rintro e w' ⟨rfl, h⟩
    refine ⟨_, E, rfl, Or.inl ⟨?_, rfl⟩, h⟩
    rw [← hn]
    rcases hE with h1 | ⟨h1, h2, h3⟩
    · exact Or.inl h1
    · refine Or.inr ⟨h1, ?_, h3⟩
      rcases h2 with h2 | h2
      · exact Or.inl h2
      · refine Or.inr (fun hT => ?_)
        rw [(itr_tr hn).2 hT] at h2
        cases h2
  by_cases h19 : n ≤ 19
  · by_cases h0 : n = 0
    · exact hno 1 (Or.inr ⟨h19, Or.inl h0, rfl⟩)
    · cases hi : itr (1 : Nat) ((1 + n : Nat) : Int) id L with
      | true =>
        refine (Code_ok a n cap L w hs hwf hn (by omega) h19 hi).mono ?_
        rintro e w' ⟨v, c, es, rfl, h1, h2, h3⟩
        have hT := (itr_tr hn).1 hi
        subst hn
        exact ⟨v, 0, rfl, Or.inr ⟨rfl, by omega, h19, hT, c, es, h1.out.1, h1.out.2.1, h1.out.2.2, h2.out⟩, h3⟩
      | false => exact hno 1 (Or.inr ⟨h19, Or.inr hi, rfl⟩)
  · exact hno 2 (Or.inl ⟨by omega, rfl⟩)

/-- What Rooted answers. -/
def RoZ (zs : List Int) (w : World) (lo : Nat) (v : Value) (E : Int) : Prop :=
  (E = pkE zs ∧ ¬ (plC zs zs.length = 0 ∧ Free (lk zs) zs.length) ∧ v = .slice none 0 0) ∨
  (E = 0 ∧ plC zs zs.length = 0 ∧ Free (lk zs) zs.length ∧ ∃ X, X.Perm (trl (dOf zs) zs.length zs.length) ∧ SrtP X ∧ OwnsP w lo v X)
theorem Rooted_c (HSC : SortC) (a : Option Addr) (n cap : Nat) (zs : List Int) (w : World) (hs : Shows w a zs) (hn : n = zs.length) :
    Calls Try.prog 12 #[.slice a n cap] w fun e w' => ∃ v E, e = .returned (.tuple #[v, .int .i64 E]) ∧ Hid (RoZ zs w' w.heap.size v E) ∧ Hid (Below w.heap.size w w') := by
  by_cases h : plC zs zs.length = 0 ∧ Free (lk zs) zs.length
  · refine (Rooted_ok HSC a n cap zs w hs hn h.1 h.2).mono ?_
    rintro e w' ⟨v, X, rfl, h1, h2, h3⟩
    subst hn
    exact ⟨v, 0, rfl, Or.inr ⟨rfl, h.1, h.2, X, h1.out.1, h1.out.2, h2.out⟩, h3⟩
  · refine (Rooted_no a n cap zs w (pkE zs) hs hn rfl h).mono ?_
    rintro e w' ⟨rfl, h3⟩
    exact ⟨_, pkE zs, rfl, Or.inl ⟨rfl, h, rfl⟩, h3⟩

/-- What Unrooted answers. -/
def UnZ (L : List (Int × Int)) (w : World) (lo : Nat) (v : Value) (E : Int) : Prop :=
  (((20 < L.length ∧ E = 2) ∨ (L.length ≤ 20 ∧ ¬ Tr (rgV 0 (L.length + 1)) L ∧ E = 1)) ∧ v = .slice none 0 0) ∨
  (E = 0 ∧ L.length ≤ 20 ∧ Tr (rgV 0 (L.length + 1)) L ∧ UnE L.length L w lo v)
theorem Unrooted_c (a : Option Addr) (n cap : Nat) (L : List (Int × Int)) (w : World) (hs : ShowsP w a L) (hwf : WfP L) (hn : n = L.length) :
    Calls Try.prog 16 #[.slice a n cap] w fun e w' => ∃ v E, e = .returned (.tuple #[v, .int .i64 E]) ∧ Hid (UnZ L w' w.heap.size v E) ∧ Hid (Below w.heap.size w w') := by
  have hlen := hs.len
  by_cases h20 : n ≤ 20
  · cases hi : itr (0 : Nat) ((0 + n : Nat) : Int) id L with
    | true =>
      refine (Unrooted_ok a n cap L w hs hwf hn h20 hi).mono ?_
      rintro e w' ⟨v, rfl, h1, h3⟩
      have hT := (itr_tr hn).1 hi
      subst hn
      exact ⟨v, 0, rfl, Or.inr ⟨rfl, h20, hT, h1.out⟩, h3⟩
    | false =>
      refine (Unrooted_no a n cap L 1 w hs hwf hn (by omega) (Or.inr ⟨h20, hi, rfl⟩)).mono ?_
      rintro e w' ⟨rfl, h3⟩
      refine ⟨_, 1, rfl, Or.inl ⟨Or.inr ⟨by omega, fun hT => ?_, rfl⟩, rfl⟩, h3⟩
      have := (itr_tr (f := 0) hn).2 (by rw [hn]; exact hT)
      rw [this] at hi; cases hi
  · refine (Unrooted_no a n cap L 2 w hs hwf hn (by omega) (Or.inl ⟨by omega, rfl⟩)).mono ?_
    rintro e w' ⟨rfl, h3⟩
    exact ⟨_, 2, rfl, Or.inl ⟨Or.inl ⟨by omega, rfl⟩, rfl⟩, h3⟩

theorem Tr.wf {f n : Nat} {L : List (Int × Int)} (h : Tr (rgV f n) L) (hf : f ≤ 1) (hn : n ≤ 100) : WfP L := fun e he => by
  have h1 := h.2.2.1 e he
  have h2 := mem_rgV.1 h1.1
  have h3 := mem_rgV.1 h1.2
  omega
end Go.Proofs.Ytihafckdaecgkaa
