/-
  Cycles of a permutation: plain facts on lists of numbers.
-/
import Derived.Test.YtnjbkiegeielhabPMath
namespace Go.Proofs.Ytnjbkiegeielhab

/-- What p has at place x, counted from 1 on. -/
def app (p : List Int) (x : Int) : Int := p.getD (x.toNat - 1) 0

theorem IsPerm.app_bounds {p : List Int} (h : IsPerm p) {x : Int} (h1 : 1 ≤ x) (h2 : x ≤ p.length) : 1 ≤ app p x ∧ app p x ≤ p.length := h.bounds (by omega)
theorem IsPerm.app_inj {p : List Int} (h : IsPerm p) {x y : Int} (h1 : 1 ≤ x) (h2 : x ≤ p.length) (h3 : 1 ≤ y) (h4 : y ≤ p.length) (e : app p x = app p y) : x = y := by
  have := h.inj (i := x.toNat - 1) (j := y.toNat - 1) (by omega) (by omega) e
  omega

/-- From n on, so many steps. -/
def iter (p : List Int) (n : Int) : Nat → Int
  | 0 => n
  | j + 1 => app p (iter p n j)

theorem iter_bounds {p : List Int} (h : IsPerm p) {n : Int} (h1 : 1 ≤ n) (h2 : n ≤ p.length) : ∀ j, 1 ≤ iter p n j ∧ iter p n j ≤ p.length := by
  intro j
  induction j with
  | zero => exact ⟨h1, h2⟩
  | succ j ih => exact h.app_bounds ih.1 ih.2

theorem iter_add (p : List Int) (n : Int) : ∀ i j, iter p n (i + j) = iter p (iter p n i) j := by
  intro i j
  induction j with
  | zero => rfl
  | succ j ih => show app p (iter p n (i + j)) = app p (iter p (iter p n i) j); rw [ih]

theorem iter_back {p : List Int} (h : IsPerm p) {n : Int} (h1 : 1 ≤ n) (h2 : n ≤ p.length) : ∀ a d, iter p n a = iter p n (a + d) → n = iter p n d := by
  intro a
  induction a with
  | zero => intro d e; simpa [iter] using e
  | succ a ih =>
    intro d e
    have b1 := iter_bounds h h1 h2 a
    have b2 := iter_bounds h h1 h2 (a + d)
    rw [show a + 1 + d = (a + d) + 1 by omega] at e
    exact ih d (h.app_inj b1.1 b1.2 b2.1 b2.2 e)

/-- It comes back, within as many steps as there are numbers. -/
theorem comes_back {p : List Int} (h : IsPerm p) {n : Int} (h1 : 1 ≤ n) (h2 : n ≤ p.length) : ∃ m, 1 ≤ m ∧ m ≤ p.length ∧ iter p n m = n := by
  have hs := S_counts p.length ((List.range (p.length + 1)).map (iter p n)) (by
    intro z hz
    obtain ⟨j, _, rfl⟩ := List.mem_map.1 hz
    exact iter_bounds h h1 h2 j)
  by_cases hd : ((List.range (p.length + 1)).map (iter p n)).Nodup
  · exfalso
    have := S_le (n := p.length) (f := fun v => ((List.range (p.length + 1)).map (iter p n)).countP (fun z => decide (z = (v : Int) + 1))) (g := fun _ => 1) (fun i _ => nodup_count hd _)
    rw [hs, S_one] at this
    simp at this
    omega
  · rw [List.Nodup, List.pairwise_iff_getElem] at hd
    have : ∃ a b, a < b ∧ b ≤ p.length ∧ iter p n a = iter p n b := by
      apply Classical.byContradiction
      intro hc
      apply hd
      intro i j hi hj hij e
      simp only [List.length_map, List.length_range] at hi hj
      simp only [List.getElem_map, List.getElem_range] at e
      exact hc ⟨i, j, hij, by omega, e⟩
    obtain ⟨a, b, hab, hb, e⟩ := this
    have := iter_back h h1 h2 a (b - a) (by rw [show a + (b - a) = b by omega]; exact e)
    exact ⟨b - a, by omega, by omega, this.symm⟩

/-- The first time. -/
theorem first_time {q : Nat → Prop} : ∀ m, q m → ∃ k, k ≤ m ∧ q k ∧ ∀ j, j < k → ¬ q j := by
  intro m
  induction m using Nat.strongRecOn with
  | _ m ih =>
    intro hm
    by_cases h : ∃ j, j < m ∧ q j
    · obtain ⟨j, hj, hq⟩ := h
      obtain ⟨k, h1, h2, h3⟩ := ih j hj hq
      exact ⟨k, by omega, h2, h3⟩
    · exact ⟨m, Nat.le_refl m, hm, fun j hj hq => h ⟨j, hj, hq⟩⟩

/-- m numbers: the length of n's cycle. -/
def Turns (p : List Int) (n : Int) (m : Nat) : Prop := 1 ≤ m ∧ m ≤ p.length ∧ iter p n m = n ∧ ∀ j, 1 ≤ j → j < m → iter p n j ≠ n

theorem turns_ex {p : List Int} (h : IsPerm p) {n : Int} (h1 : 1 ≤ n) (h2 : n ≤ p.length) : ∃ m, Turns p n m := by
  obtain ⟨m, a, b, c⟩ := comes_back h h1 h2
  obtain ⟨k, d, e, f⟩ := first_time (q := fun m => 1 ≤ m ∧ iter p n m = n) m ⟨a, c⟩
  exact ⟨k, e.1, by omega, e.2, fun j hj hk hi => f j hk ⟨hj, hi⟩⟩

/-- The cycle of n, m numbers long. -/
def path (p : List Int) (n : Int) (m : Nat) : List Int := (List.range m).map (iter p n)

theorem path_succ (p : List Int) (n : Int) (m : Nat) : path p n (m + 1) = path p n m ++ [iter p n m] := by
  unfold path; rw [List.range_succ, List.map_append]; rfl
theorem path_length (p : List Int) (n : Int) (m : Nat) : (path p n m).length = m := by simp [path]
theorem path_getD {p : List Int} {n : Int} {m j : Nat} (h : j < m) : (path p n m).getD j 0 = iter p n j := by
  unfold path; rw [List.getD_eq_getElem?_getD, List.getElem?_map, List.getElem?_range h]; rfl
theorem mem_path {p : List Int} {n : Int} {m : Nat} {x : Int} : x ∈ path p n m ↔ ∃ j, j < m ∧ iter p n j = x := by
  unfold path; simp [List.mem_map, List.mem_range]

theorem Turns.nodup {p : List Int} {n : Int} {m : Nat} (h : IsPerm p) (h1 : 1 ≤ n) (h2 : n ≤ p.length) (ht : Turns p n m) : (path p n m).Nodup := by
  rw [List.Nodup, List.pairwise_iff_getElem]
  intro i j hi hj hij e
  simp only [path_length] at hi hj
  simp only [path, List.getElem_map, List.getElem_range] at e
  have := iter_back h h1 h2 i (j - i) (by rw [show i + (j - i) = j by omega]; exact e)
  exact ht.2.2.2 (j - i) (by omega) (by omega) this.symm

theorem Turns.mod {p : List Int} {n : Int} {m : Nat} (ht : Turns p n m) : ∀ k j, iter p n (k * m + j) = iter p n j := by
  intro k j
  induction k with
  | zero => simp
  | succ k ih =>
    rw [show (k + 1) * m + j = m + (k * m + j) by rw [Nat.add_mul]; omega, iter_add, ht.2.2.1, ih]

theorem Turns.iter_mem {p : List Int} {n : Int} {m : Nat} (ht : Turns p n m) (j : Nat) : iter p n j ∈ path p n m := by
  refine mem_path.2 ⟨j % m, Nat.mod_lt _ (by have := ht.1; omega), ?_⟩
  have := ht.mod (j / m) (j % m)
  rw [Nat.mul_comm, Nat.div_add_mod] at this
  exact this.symm

/-- Whatever is in n's cycle, n is in its. -/
theorem Turns.symm {p : List Int} {n : Int} {m : Nat} (ht : Turns p n m) {x : Int} (hx : x ∈ path p n m) : ∃ j, iter p x j = n := by
  obtain ⟨j, hj, rfl⟩ := mem_path.1 hx
  refine ⟨m - j, ?_⟩
  rw [← iter_add, show j + (m - j) = m by omega, ht.2.2.1]

theorem Turns.uniq {p : List Int} {n : Int} {m m' : Nat} (ht : Turns p n m) (ht' : Turns p n m') : m = m' := by
  rcases Nat.lt_trichotomy m m' with h | h | h
  · exact absurd ht.2.2.1 (ht'.2.2.2 m ht.1 h)
  · exact h
  · exact absurd ht'.2.2.1 (ht.2.2.2 m' ht'.1 h)

/-- A block: a cycle, from its greatest number on. -/
structure Block (p : List Int) (b : List Int) : Prop where
  n : ∃ n m, Turns p n m ∧ b = path p n m ∧ 1 ≤ n ∧ n ≤ p.length
  top : ∀ x ∈ b, x ≤ b.headD 0

theorem path_head {p : List Int} {n : Int} {m : Nat} (h : 1 ≤ m) : (path p n m).headD 0 = n := by
  obtain ⟨k, rfl⟩ : ∃ k, m = k + 1 := ⟨m - 1, by omega⟩
  unfold path; rw [List.range_succ_eq_map]; rfl

/-- The numbers of p by its cycles, as they are written. -/
structure Blocks (p : List Int) (bs : List (List Int)) : Prop where
  each : ∀ b ∈ bs, Block p b
  rise : bs.Pairwise (fun b c => b.headD 0 < c.headD 0)
  all : ∀ x : Int, 1 ≤ x → x ≤ p.length → ∃ b ∈ bs, x ∈ b

theorem Block.ne {p b : List Int} (h : Block p b) : b ≠ [] := by
  obtain ⟨n, m, ht, rfl, _⟩ := h.n
  intro e
  have := congrArg List.length e
  rw [path_length] at this
  have := ht.1
  simp at *; omega

theorem Block.head_mem {p b : List Int} (h : Block p b) : b.headD 0 ∈ b := by
  cases b with
  | nil => exact absurd rfl h.ne
  | cons x b => simp

theorem Block.bounds {p b : List Int} (hp : IsPerm p) (h : Block p b) {x : Int} (hx : x ∈ b) : 1 ≤ x ∧ x ≤ p.length := by
  obtain ⟨n, m, ht, rfl, h1, h2⟩ := h.n
  obtain ⟨j, _, rfl⟩ := mem_path.1 hx
  exact iter_bounds hp h1 h2 j

/-- Two blocks that have a number in common are one. -/
theorem Block.meet {p b c : List Int} (hb : Block p b) (hc : Block p c) {x : Int} (h1 : x ∈ b) (h2 : x ∈ c) : b = c := by
  obtain ⟨n, m, ht, eb, hn1, hn2⟩ := hb.n
  obtain ⟨k, l, hu, ec, hk1, hk2⟩ := hc.n
  have ebh : b.headD 0 = n := by rw [eb, path_head ht.1]
  have ech : c.headD 0 = k := by rw [ec, path_head hu.1]
  obtain ⟨j, hj⟩ := ht.symm (eb ▸ h1)
  obtain ⟨i, hi⟩ := hu.symm (ec ▸ h2)
  have hnk : n ∈ c := by
    obtain ⟨a, _, ha⟩ := mem_path.1 (ec ▸ h2)
    rw [← ha, ← iter_add] at hj
    rw [ec, ← hj]; exact hu.iter_mem _
  have hkn : k ∈ b := by
    obtain ⟨a, _, ha⟩ := mem_path.1 (eb ▸ h1)
    rw [← ha, ← iter_add] at hi
    rw [eb, ← hi]; exact ht.iter_mem _
  have a1 := hb.top k hkn
  have a2 := hc.top n hnk
  have : n = k := by omega
  subst this
  rw [eb, ec, ht.uniq hu]

/-- Each permutation has its blocks. -/
theorem head_of {p : List Int} (hp : IsPerm p) {x : Int} (h1 : 1 ≤ x) (h2 : x ≤ p.length) : ∃ b, Block p b ∧ x ∈ b := by
  obtain ⟨m, ht⟩ := turns_ex hp h1 h2
  -- the greatest number of the cycle
  have hmax : ∀ (l : List Int), l ≠ [] → ∃ y ∈ l, ∀ z ∈ l, z ≤ y := by
    intro l
    induction l with
    | nil => intro h; exact absurd rfl h
    | cons a l ih =>
      intro _
      by_cases e : l = []
      · subst e; exact ⟨a, by simp, by simp⟩
      · obtain ⟨y, hy, hz⟩ := ih e
        by_cases ha : a ≤ y
        · exact ⟨y, by simp [hy], by intro z h; rcases List.mem_cons.1 h with rfl | h; exact ha; exact hz z h⟩
        · exact ⟨a, by simp, by intro z h; rcases List.mem_cons.1 h with rfl | h; exact Int.le_refl _; have := hz z h; omega⟩
  obtain ⟨y, hy, hz⟩ := hmax (path p x m) (by intro e; have := congrArg List.length e; rw [path_length] at this; have := ht.1; simp at *; omega)
  obtain ⟨j, hj, ej⟩ := mem_path.1 hy
  have by_ := iter_bounds hp h1 h2 j
  rw [ej] at by_
  obtain ⟨k, hk⟩ := turns_ex hp by_.1 by_.2
  refine ⟨path p y k, ⟨⟨y, k, hk, rfl, by_.1, by_.2⟩, ?_⟩, ?_⟩
  · intro z hz2
    rw [path_head hk.1]
    obtain ⟨i, _, rfl⟩ := mem_path.1 hz2
    apply hz
    rw [← ej, ← iter_add]; exact ht.iter_mem _
  · obtain ⟨i, hi⟩ := ht.symm hy
    rw [← hi]; exact hk.iter_mem _

/-- Rounds: the number n's own cycle, where n is the greatest of it, else nothing. -/
def Own1 (p : List Int) (n : Int) (c : List Int) : Prop := (Block p c ∧ c.headD 0 = n) ∨ (c = [] ∧ ∀ b, Block p b → b.headD 0 ≠ n)

/-- The blocks with heads up to k. -/
structure UpTo (p : List Int) (k : Nat) (bs : List (List Int)) : Prop where
  each : ∀ b ∈ bs, Block p b ∧ b.headD 0 ≤ k
  rise : bs.Pairwise (fun b c => b.headD 0 < c.headD 0)
  all : ∀ b, Block p b → b.headD 0 ≤ k → b ∈ bs

theorem UpTo.zero {p : List Int} (hp : IsPerm p) : UpTo p 0 [] := by
  refine ⟨by simp, by simp, ?_⟩
  intro b hb h
  have := hb.bounds hp hb.head_mem
  simp only [Int.natCast_zero] at h; omega
theorem UpTo.more {p : List Int} {k : Nat} {bs : List (List Int)} (h : UpTo p k bs) {c : List Int} (hc : Block p c) (e : c.headD 0 = (k : Int) + 1) : UpTo p (k + 1) (bs ++ [c]) := by
  refine ⟨?_, ?_, ?_⟩
  · intro b hb
    rcases List.mem_append.1 hb with hb | hb
    · have := h.each b hb; exact ⟨this.1, by have := this.2; omega⟩
    · simp at hb; subst hb; exact ⟨hc, by omega⟩
  · rw [List.pairwise_append]
    refine ⟨h.rise, by simp, ?_⟩
    intro b hb d hd
    simp at hd; subst hd
    have := (h.each b hb).2; omega
  · intro b hb hk
    by_cases e2 : b.headD 0 ≤ k
    · exact List.mem_append_left _ (h.all b hb e2)
    · have h1 : b.headD 0 = c.headD 0 := by omega
      have : b = c := hb.meet hc hb.head_mem (by rw [h1]; exact hc.head_mem)
      subst this; simp
theorem UpTo.same {p : List Int} {k : Nat} {bs : List (List Int)} (h : UpTo p k bs) (hn : ∀ b, Block p b → b.headD 0 ≠ (k : Int) + 1) : UpTo p (k + 1) bs := by
  refine ⟨fun b hb => ⟨(h.each b hb).1, by have := (h.each b hb).2; omega⟩, h.rise, ?_⟩
  intro b hb hk
  have := hn b hb
  exact h.all b hb (by omega)

theorem UpTo.blocks {p : List Int} (hp : IsPerm p) {bs : List (List Int)} (h : UpTo p p.length bs) : Blocks p bs := by
  refine ⟨fun b hb => (h.each b hb).1, h.rise, ?_⟩
  intro x h1 h2
  obtain ⟨b, hb, hx⟩ := head_of hp h1 h2
  exact ⟨b, h.all b hb (hb.bounds hp hb.head_mem).2, hx⟩

/-- Blocks are told by the permutation. -/
theorem pairwise_uniq : ∀ {bs cs : List (List Int)}, bs.Pairwise (fun b c => b.headD 0 < c.headD 0) → cs.Pairwise (fun b c => b.headD 0 < c.headD 0) → (∀ b, b ∈ bs ↔ b ∈ cs) → bs = cs := by
  intro bs
  induction bs with
  | nil =>
    intro cs _ _ h
    cases cs with
    | nil => rfl
    | cons c cs => have := (h c).2 (by simp); simp at this
  | cons b bs ih =>
    intro cs h1 h2 h
    cases cs with
    | nil => have := (h b).1 (by simp); simp at this
    | cons c cs =>
      rw [List.pairwise_cons] at h1 h2
      have hbc : b = c := by
        have i1 := (h b).1 (by simp)
        have i2 := (h c).2 (by simp)
        rcases List.mem_cons.1 i1 with e | e
        · exact e
        · rcases List.mem_cons.1 i2 with e2 | e2
          · exact e2.symm
          · have := h1.1 c e2; have := h2.1 b e; omega
      subst hbc
      rw [ih h1.2 h2.2]
      intro d
      constructor
      · intro hd
        rcases List.mem_cons.1 ((h d).1 (by simp [hd])) with e | e
        · subst e; have := h1.1 d hd; omega
        · exact e
      · intro hd
        rcases List.mem_cons.1 ((h d).2 (by simp [hd])) with e | e
        · subst e; have := h2.1 d hd; omega
        · exact e

theorem Blocks.uniq {p : List Int} (hp : IsPerm p) {bs cs : List (List Int)} (h : Blocks p bs) (h2 : Blocks p cs) : bs = cs := by
  refine pairwise_uniq h.rise h2.rise (fun b => ⟨fun hb => ?_, fun hb => ?_⟩)
  · have hb1 := h.each b hb
    have := hb1.bounds hp hb1.head_mem
    obtain ⟨c, hc, hm⟩ := h2.all _ this.1 this.2
    rw [hb1.meet (h2.each c hc) hb1.head_mem hm]; exact hc
  · have hb1 := h2.each b hb
    have := hb1.bounds hp hb1.head_mem
    obtain ⟨c, hc, hm⟩ := h.all _ this.1 this.2
    rw [hb1.meet (h.each c hc) hb1.head_mem hm]; exact hc

theorem Blocks.nodup {p : List Int} (hp : IsPerm p) {bs : List (List Int)} (h : Blocks p bs) : bs.flatten.Nodup := by
  have key : ∀ cs : List (List Int), (∀ b ∈ cs, Block p b) → cs.Pairwise (fun b c => b.headD 0 < c.headD 0) → cs.flatten.Nodup := by
    intro cs
    induction cs with
    | nil => intro _ _; simp
    | cons c cs ih =>
      intro he hr
      rw [List.pairwise_cons] at hr
      rw [List.flatten_cons, List.nodup_append]
      refine ⟨?_, ih (fun b hb => he b (by simp [hb])) hr.2, ?_⟩
      · obtain ⟨n, m, ht, rfl, h1, h2⟩ := (he c (by simp)).n
        exact ht.nodup hp h1 h2
      · intro x hx y hy e
        subst e
        obtain ⟨d, hd, hxd⟩ := List.mem_flatten.1 hy
        have := (he c (by simp)).meet (he d (by simp [hd])) hx hxd
        subst this
        have := hr.1 c hd; omega
  exact key bs h.each h.rise

theorem Blocks.perm {p : List Int} (hp : IsPerm p) {bs : List (List Int)} (h : Blocks p bs) : bs.flatten.length = p.length ∧ IsPerm bs.flatten := by
  have hb : ∀ z ∈ bs.flatten, 1 ≤ z ∧ z ≤ (p.length : Nat) := by
    intro z hz
    obtain ⟨b, hb, hzb⟩ := List.mem_flatten.1 hz
    exact (h.each b hb).bounds hp hzb
  have hs := S_counts p.length bs.flatten hb
  have hn := h.nodup hp
  have hl : bs.flatten.length = p.length := by
    rw [← hs, S_congr (g := fun _ => 1), S_one]
    intro v hv
    have h1 := nodup_count hn ((v : Int) + 1)
    have h2 : 0 < bs.flatten.countP (fun z => decide (z = (v : Int) + 1)) := by
      rw [List.countP_pos_iff]
      obtain ⟨b, hb, hx⟩ := h.all ((v : Int) + 1) (by omega) (by omega)
      exact ⟨_, List.mem_flatten.2 ⟨b, hb, hx⟩, by simp⟩
    omega
  exact ⟨hl, by rw [hl]; exact hp.len, fun z hz => (hb z hz).1, fun z hz => by rw [hl]; exact (hb z hz).2, hn⟩

/-- Unrounds: what it writes: (the number, what comes behind it), g the greatest so far. -/
def edges : Int → List Int → List (Int × Int)
  | _, [] => []
  | g, x :: xs => (x, if xs ≠ [] ∧ xs.headD 0 < max g x then xs.headD 0 else max g x) :: edges (max g x) xs

theorem edges_block {p : List Int} {n : Int} {m : Nat} (rest : List Int) (hr : rest ≠ [] → n < rest.headD 0) (htop : ∀ j, 1 ≤ j → j < m → iter p n j < n) (hback : iter p n m = n) :
    ∀ d i, i + d = m → 0 < i → ∀ e ∈ edges n (((List.range' i d).map (iter p n)) ++ rest), e.2 = app p e.1 ∨ e ∈ edges n rest := by
  intro d
  induction d with
  | zero => intro i _ _ e he; exact Or.inr (by simpa using he)
  | succ d ih =>
    intro i him hi e he
    rw [List.range'_succ, List.map_cons, List.cons_append, edges] at he
    have hlt := htop i (by omega) (by omega)
    have hmx : max n (iter p n i) = n := by omega
    rw [hmx] at he
    rcases List.mem_cons.1 he with he | he
    · left
      subst he
      show (if _ then _ else _) = app p (iter p n i)
      cases d with
      | zero =>
        have e1 : app p (iter p n i) = n := by show iter p n (i + 1) = n; rw [show i + 1 = m by omega]; exact hback
        rw [e1]
        split
        · rename_i h
          simp only [List.range'_zero, List.map_nil, List.nil_append] at h
          have := hr h.1; omega
        · rfl
      | succ d =>
        rw [List.range'_succ, List.map_cons, List.cons_append]
        rw [if_pos ⟨by simp, by simpa using htop (i + 1) (by omega) (by omega)⟩]
        rfl
    · exact ih (i + 1) (by omega) (by omega) e he

theorem edges_blocks {p : List Int} : ∀ (bs : List (List Int)) (g : Int), (∀ b ∈ bs, Block p b) → (∀ b ∈ bs, b.Nodup) → bs.Pairwise (fun b c => b.headD 0 < c.headD 0) → (∀ b ∈ bs, g < b.headD 0) → ∀ e ∈ edges g bs.flatten, e.2 = app p e.1 := by
  intro bs
  induction bs with
  | nil => intro g _ _ _ _ e he; simp [edges] at he
  | cons b bs ih =>
    intro g h1 hnd h2 h3 e he
    rw [List.pairwise_cons] at h2
    have hb := h1 b (by simp)
    obtain ⟨n, m, ht, eb, hn1, hn2⟩ := hb.n
    have hh : b.headD 0 = n := by rw [eb, path_head ht.1]
    have hg := h3 b (by simp)
    rw [hh] at hg
    have htop : ∀ j, 1 ≤ j → j < m → iter p n j < n := by
      intro j h4 h5
      have a1 := hb.top (iter p n j) (by rw [eb]; exact mem_path.2 ⟨j, h5, rfl⟩)
      have a2 := ht.2.2.2 j h4 h5
      rw [hh] at a1; omega
    obtain ⟨k, rfl⟩ : ∃ k, m = k + 1 := ⟨m - 1, by have := ht.1; omega⟩
    have eb2 : b = n :: (List.range' 1 k).map (iter p n) := by
      rw [eb]; unfold path
      rw [List.range_eq_range', List.range'_succ, List.map_cons]; rfl
    have hrest : bs.flatten ≠ [] → n < bs.flatten.headD 0 := by
      intro hne
      cases bs with
      | nil => simp at hne
      | cons c cs =>
        have := h2.1 c (by simp)
        have hc := (h1 c (by simp)).ne
        rw [hh] at this
        cases c with
        | nil => exact absurd rfl hc
        | cons y c => simpa using this
    rw [List.flatten_cons, eb2, List.cons_append, edges] at he
    have hmx : max g n = n := by omega
    rw [hmx] at he
    have ih' : ∀ e ∈ edges n bs.flatten, e.2 = app p e.1 := ih n (fun c hc => h1 c (by simp [hc])) (fun c hc => hnd c (by simp [hc])) h2.2 (fun c hc => by have := h2.1 c hc; rw [hh] at this; exact this)
    rcases List.mem_cons.1 he with he | he
    · subst he
      show (if _ then _ else _) = app p n
      cases k with
      | zero =>
        have e1 : app p n = n := ht.2.2.1
        rw [e1]
        split
        · rename_i h
          simp only [List.range'_zero, List.map_nil, List.nil_append] at h
          have := hrest h.1; omega
        · rfl
      | succ k =>
        rw [List.range'_succ, List.map_cons, List.cons_append]
        rw [if_pos ⟨by simp, by simpa using htop 1 (by omega) (by omega)⟩]
        rfl
    · rcases edges_block bs.flatten hrest htop ht.2.2.1 k 1 (by omega) (by omega) e he with h | h
      · exact h
      · exact ih' e h

end Go.Proofs.Ytnjbkiegeielhab
