/-
  All tableaux with letters up to M, letter by letter: as many as the numbers between tell.
-/
import Derived.Test.YtpdlhnniibjfaaiDoorHHok
import Derived.Test.YtpdlhnniibjfaaiDoorRuC
namespace Go.Proofs.YtpdlhnniibjfaaiDoor

/-- All y with a i <= y i < a i + w i, i being under k. -/
def bxN : Nat → (Nat → Nat) → (Nat → Nat) → List (Nat → Nat)
  | 0, _, _ => [fun _ => 0]
  | k + 1, a, w => (List.range (w k)).flatMap fun t => (bxN k a w).map fun y => fun i => if i = k then a k + t else y i
theorem mem_bxN : ∀ k (a w y : Nat → Nat), y ∈ bxN k a w ↔ (∀ i, i < k → a i ≤ y i ∧ y i < a i + w i) ∧ ∀ i, k ≤ i → y i = 0
  | 0, a, w, y => by
    simp only [bxN, List.mem_singleton]
    constructor
    · rintro rfl; exact ⟨fun i hi => by omega, fun _ _ => rfl⟩
    · rintro ⟨_, h⟩; exact funext fun i => h i (Nat.zero_le _)
  | k + 1, a, w, y => by
    simp only [bxN, List.mem_flatMap, List.mem_map, List.mem_range]
    constructor
    · rintro ⟨t, ht, y', hy', rfl⟩
      have h := (mem_bxN k a w y').1 hy'
      refine ⟨fun i hi => ?_, fun i hi => ?_⟩
      · by_cases e : i = k
        · subst e; simp only [if_pos]; omega
        · simp only [if_neg e]; exact h.1 i (by omega)
      · dsimp only; rw [if_neg (by omega)]; exact h.2 i (by omega)
    · rintro ⟨h1, h2⟩
      have hk := h1 k (by omega)
      refine ⟨y k - a k, by omega, fun i => if i = k then 0 else y i, (mem_bxN k a w _).2 ⟨fun i hi => by rw [if_neg (by omega)]; exact h1 i (by omega), fun i hi => ?_⟩, funext fun i => ?_⟩
      · by_cases e : i = k
        · rw [if_pos e]
        · rw [if_neg e]; exact h2 i (by omega)
      · by_cases e : i = k
        · subst e; simp only [if_pos]; omega
        · simp only [if_neg e]
theorem nodup_mapI {α β : Type} (f : α → β) : ∀ l : List α, (∀ x ∈ l, ∀ y ∈ l, f x = f y → x = y) → l.Nodup → (l.map f).Nodup := by
  intro l
  induction l with
  | nil => intro _ _; simp
  | cons a l ih =>
    intro h hn
    obtain ⟨ha, hl⟩ := List.nodup_cons.1 hn
    rw [List.map_cons, List.nodup_cons]
    refine ⟨fun hm => ?_, ih (fun x hx y hy => h x (by simp [hx]) y (by simp [hy])) hl⟩
    obtain ⟨b, hb, e⟩ := List.mem_map.1 hm
    exact ha (by rw [← h b (by simp [hb]) a (by simp) e]; exact hb)
theorem nodup_bxN : ∀ k (a w : Nat → Nat), (bxN k a w).Nodup
  | 0, a, w => by simp [bxN]
  | k + 1, a, w => by
    rw [bxN]
    refine nodup_flat _ _ List.nodup_range (fun t _ => ?_) (fun t _ t' _ hne y hy hy' => ?_)
    · refine nodup_mapI _ _ (fun y hy y' hy' e => funext fun i => ?_) (nodup_bxN k a w)
      by_cases q : i = k
      · rw [((mem_bxN k a w y).1 hy).2 i (by omega), ((mem_bxN k a w y').1 hy').2 i (by omega)]
      · have := congrFun e i
        simpa [q] using this
    · obtain ⟨z, _, rfl⟩ := List.mem_map.1 hy
      obtain ⟨z', _, e⟩ := List.mem_map.1 hy'
      have := congrFun e k
      simp at this
      omega
theorem sum_range (f : Nat → Nat) : ∀ n, ((((List.range n).map f).sum : Nat) : Int) = sZ (fun t => (f t : Int)) n
  | 0 => rfl
  | n + 1 => by rw [List.range_succ, List.map_append, List.sum_append, sZ, ← sum_range f n]; simp
theorem sum_flat {α β : Type} (f : α → List β) (F : β → Nat) : ∀ l : List α, ((l.flatMap f).map F).sum = (l.map fun a => ((f a).map F).sum).sum
  | [] => rfl
  | a :: l => by rw [List.flatMap_cons, List.map_append, List.sum_append, sum_flat f F l, List.map_cons, List.sum_cons]
theorem bxN_sum : ∀ k (a w : Nat → Nat) (F : (Nat → Nat) → Nat) (G : (Nat → Int) → Int), (∀ y ∈ bxN k a w, (F y : Int) = G (fun i => (y i : Int))) → ((((bxN k a w).map F).sum : Nat) : Int) = bxS k (fun i => (a i : Int)) w G
  | 0, a, w, F, G, h => by
    simp only [bxN, List.map_cons, List.map_nil, List.sum_cons, List.sum_nil, Nat.add_zero, bxS]
    exact h _ (by simp [bxN])
  | k + 1, a, w, F, G, h => by
    rw [bxN, sum_flat, sum_range, bxS]
    refine sZ_congr _ fun t ht => ?_
    rw [List.map_map]
    refine bxN_sum k a w (F ∘ fun y i => if i = k then a k + t else y i) _ (fun y hy => ?_)
    have e := h (fun i => if i = k then a k + t else y i) (by rw [bxN]; exact List.mem_flatMap.2 ⟨t, List.mem_range.2 ht, List.mem_map.2 ⟨y, hy, rfl⟩⟩)
    simp only [Function.comp]
    rw [e]
    refine congrArg G (funext fun i => ?_)
    unfold upF
    by_cases q : i = k
    · rw [if_pos q, if_pos q]; omega
    · rw [if_neg q, if_neg q]

/-- The table t, its rows filled up to P with x. -/
def fillU (t : List (List Nat)) (P : Nat → Nat) (x n : Nat) : List (List Nat) := (List.range n).map fun r => nrow t r ++ List.replicate (P r - len2 t r) x
/-- The tableaux of numbers x, with letters up to M. -/
def stL : Nat → (Nat → Nat) → List (List (List Nat))
  | 0, _ => [[]]
  | M + 1, x => (bxN M x (fun i => x (i + 1) - x i)).flatMap fun y => (stL M y).map fun t => fillU t (fun r => x (M - r) - (M - r)) (M + 1) (M + 1)
theorem bxS_w : ∀ (k : Nat) (a : Nat → Int) {w w' : Nat → Nat}, (∀ i, i < k → w i = w' i) → ∀ G, bxS k a w G = bxS k a w' G
  | 0, _, _, _, _, _ => rfl
  | k + 1, a, w, w', h, G => by
    rw [bxS, bxS, h k (by omega)]
    exact sZ_congr _ fun t _ => bxS_w k a (fun i hi => h i (by omega)) _
theorem stL_len : ∀ M (x : Nat → Nat), (∀ i, i + 1 < M → x i ≤ x (i + 1)) → ((stL M x).length : Int) = cntG M (fun i => (x i : Int))
  | 0, x, _ => rfl
  | M + 1, x, h => by
    rw [stL, List.length_flatMap, cntG]
    rw [bxN_sum M x _ _ (cntG M) (fun y hy => by
      rw [List.length_map]
      have hb := ((mem_bxN _ _ _ _).1 hy).1
      refine stL_len M y fun i hi => ?_
      have h1 := hb i (by omega)
      have h2 := hb (i + 1) (by omega)
      have h3 := h i (by omega)
      omega)]
    refine bxS_w M _ (fun i hi => ?_) _
    have := h i (by omega)
    omega
end Go.Proofs.YtpdlhnniibjfaaiDoor
