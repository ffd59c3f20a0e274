/-
  FOATA'S blocks: plain facts on lists of numbers: turned and turned back; pairs that stand the wrong way round.
-/
namespace Go.Proofs.YtfdhbnbmobmlpaaDoor

/-- Each block's last letter to its front: blk is the block so far. -/
def turn (P : Int → Bool) : List Int → List Int → List Int
  | blk, [] => blk
  | blk, y :: ys => if P y then y :: (blk ++ turn P [] ys) else turn P (blk ++ [y]) ys

/-- From the right: what is ahead (the nearest first), the block so far, what is done. -/
def back (P : Int → Bool) : List Int → List Int → List Int → List Int
  | [], blk, d => blk ++ d
  | y :: ps, blk, d => if P y then back P ps [] (blk ++ y :: d) else back P ps (y :: blk) d

/-- Blocks with their last letters behind, and in front. -/
def flatB : List (List Int × Int) → List Int
  | [] => []
  | b :: bs => b.1 ++ b.2 :: flatB bs
def flatF : List (List Int × Int) → List Int
  | [] => []
  | b :: bs => b.2 :: (b.1 ++ flatF bs)

def Good (P : Int → Bool) (bs : List (List Int × Int)) : Prop := ∀ b ∈ bs, P b.2 = true ∧ ∀ y ∈ b.1, P y = false

theorem Good.tail {P : Int → Bool} {b : List Int × Int} {bs : List (List Int × Int)} (h : Good P (b :: bs)) : Good P bs := fun c hc => h c (List.mem_cons_of_mem _ hc)

theorem turn_block {P : Int → Bool} : ∀ (b blk : List Int) (y : Int) (ys : List Int), (∀ z ∈ b, P z = false) → P y = true → turn P blk (b ++ y :: ys) = y :: (blk ++ b ++ turn P [] ys) := by
  intro b
  induction b with
  | nil => intro blk y ys _ hy; simp [turn, hy]
  | cons z b ih =>
    intro blk y ys hb hy
    have hz : P z = false := hb z (by simp)
    show turn P blk (z :: (b ++ y :: ys)) = _
    rw [turn, if_neg (by rw [hz]; simp), ih (blk ++ [z]) y ys (fun u hu => hb u (by simp [hu])) hy]
    simp

theorem turn_flat {P : Int → Bool} : ∀ (bs : List (List Int × Int)), Good P bs → turn P [] (flatB bs) = flatF bs := by
  intro bs
  induction bs with
  | nil => intro _; rfl
  | cons b bs ih =>
    intro h
    show turn P [] (b.1 ++ b.2 :: flatB bs) = b.2 :: (b.1 ++ flatF bs)
    rw [turn_block b.1 [] b.2 (flatB bs) (h b (by simp)).2 (h b (by simp)).1, ih h.tail]
    simp

theorem back_block {P : Int → Bool} : ∀ (rb : List Int) (ps blk d : List Int), (∀ z ∈ rb, P z = false) → back P (rb ++ ps) blk d = back P ps (rb.reverse ++ blk) d := by
  intro rb
  induction rb with
  | nil => intro ps blk d _; simp
  | cons z rb ih =>
    intro ps blk d h
    show back P (z :: (rb ++ ps)) blk d = _
    rw [back, if_neg (by rw [h z (by simp)]; simp), ih ps (z :: blk) d (fun u hu => h u (by simp [hu]))]
    simp

theorem back_flat {P : Int → Bool} : ∀ (bs : List (List Int × Int)), Good P bs → ∀ ps d, back P ((flatF bs).reverse ++ ps) [] d = back P ps [] (flatB bs ++ d) := by
  intro bs
  induction bs with
  | nil => intro _ ps d; rfl
  | cons b bs ih =>
    intro h ps d
    have e : (flatF (b :: bs)).reverse ++ ps = (flatF bs).reverse ++ (b.1.reverse ++ (b.2 :: ps)) := by simp [flatF]
    rw [e, ih h.tail, back_block b.1.reverse _ [] _ (fun z hz => (h b (by simp)).2 z (by simpa using hz))]
    rw [back, if_pos (h b (by simp)).1]
    simp [flatB]

theorem to_flatB {P : Int → Bool} : ∀ (u : List Int), (∀ y ∈ u.getLast?, P y = true) → ∀ blk, (∀ z ∈ blk, P z = false) → (u = [] → blk = []) → ∃ bs, Good P bs ∧ flatB bs = blk ++ u := by
  intro u
  induction u with
  | nil => intro _ blk _ h2; exact ⟨[], by simp [Good], by simp [h2 rfl, flatB]⟩
  | cons y u ih =>
    intro hl blk hb _
    have hl' : ∀ z ∈ u.getLast?, P z = true := by
      cases u with
      | nil => simp
      | cons a u => simpa using hl
    by_cases hy : P y = true
    · obtain ⟨bs, hg, he⟩ := ih hl' [] (by simp) (by simp)
      refine ⟨(blk, y) :: bs, ?_, ?_⟩
      · intro c hc
        rcases List.mem_cons.1 hc with rfl | hc
        · exact ⟨hy, hb⟩
        · exact hg c hc
      · simp [flatB, he]
    · have hy' : P y = false := by cases h : P y <;> simp_all
      obtain ⟨bs, hg, he⟩ := ih hl' (blk ++ [y]) (by
        intro z hz
        rcases List.mem_append.1 hz with hz | hz
        · exact hb z hz
        · simp at hz; subst hz; exact hy') (by
        intro hu; subst hu; simp at hl; rw [hl] at hy'; cases hy')
      exact ⟨bs, hg, by rw [he]; simp⟩

theorem to_flatF {P : Int → Bool} : ∀ (u : List Int), ∃ (b : List Int) (bs : List (List Int × Int)), (∀ z ∈ b, P z = false) ∧ Good P bs ∧ u = b ++ flatF bs := by
  intro u
  induction u with
  | nil => exact ⟨[], [], by simp, by simp [Good], rfl⟩
  | cons y u ih =>
    obtain ⟨b, bs, hb, hg, he⟩ := ih
    by_cases hy : P y = true
    · refine ⟨[], (b, y) :: bs, by simp, ?_, by simp [flatF, he]⟩
      intro c hc
      rcases List.mem_cons.1 hc with rfl | hc
      · exact ⟨hy, hb⟩
      · exact hg c hc
    · have hy' : P y = false := by cases h : P y <;> simp_all
      refine ⟨y :: b, bs, ?_, hg, by simp [he]⟩
      intro z hz
      rcases List.mem_cons.1 hz with rfl | hz
      · exact hy'
      · exact hb z hz

/-- The letters at which the cuts are made. -/
def cut (x r : Int) (y : Int) : Bool := decide (y ≤ x) == decide (r ≤ x)

theorem cut_self (x r : Int) : cut x r r = true := by simp [cut]
theorem cut_same {x r s : Int} (h : cut x r s = true) : cut x s = cut x r := by
  funext y; simp only [cut, beq_iff_eq] at *; rw [h]

/-- The word u before x comes: its blocks turned; and turned back. -/
def fwd (x : Int) (u : List Int) : List Int := turn (cut x (u.getLastD 0)) [] u
def bwd (x : Int) (u : List Int) : List Int := back (cut x (u.headD 0)) u.reverse [] []

theorem flatF_ne {b : List Int × Int} {bs : List (List Int × Int)} : flatF (b :: bs) = b.2 :: (b.1 ++ flatF bs) := rfl

theorem fwd_blocks (x : Int) (u : List Int) : ∃ bs, Good (cut x (u.getLastD 0)) bs ∧ u = flatB bs ∧ fwd x u = flatF bs := by
  obtain ⟨bs, hg, he⟩ := to_flatB (P := cut x (u.getLastD 0)) u (by
    intro y hy
    have : u.getLastD 0 = y := by cases u with
      | nil => simp at hy
      | cons a u => rw [List.getLastD_eq_getLast?, Option.mem_def.1 hy]; rfl
    rw [this]; exact cut_self x y) [] (by simp) (by simp)
  refine ⟨bs, hg, by simpa using he.symm, ?_⟩
  unfold fwd
  rw [show u = flatB bs by simpa using he.symm] at hg ⊢
  exact turn_flat bs hg

theorem flatB_last {b : List Int × Int} {bs : List (List Int × Int)} {P : Int → Bool} (h : Good P (b :: bs)) : P ((flatB (b :: bs)).getLastD 0) = true := by
  induction bs generalizing b with
  | nil => simp [flatB, (h b (by simp)).1]
  | cons c bs ih =>
    have := ih h.tail
    show P ((b.1 ++ b.2 :: flatB (c :: bs)).getLastD 0) = true
    rw [← this]; congr 1
    have hne : flatB (c :: bs) ≠ [] := by simp [flatB]
    obtain ⟨l, hl⟩ : ∃ l, (flatB (c :: bs)).getLast? = some l := by
      cases h : (flatB (c :: bs)).getLast? with
      | none => exact absurd (List.getLast?_eq_none_iff.1 h) hne
      | some l => exact ⟨l, rfl⟩
    simp [List.getLastD_eq_getLast?, List.getLast?_append, List.getLast?_cons, hl]

theorem bwd_fwd (x : Int) (u : List Int) : bwd x (fwd x u) = u := by
  obtain ⟨bs, hg, he, hf⟩ := fwd_blocks x u
  cases bs with
  | nil => rw [hf, he]; rfl
  | cons b bs =>
    have hc : cut x ((fwd x u).headD 0) = cut x (u.getLastD 0) := by
      rw [hf]; exact cut_same (hg b (by simp)).1
    unfold bwd
    rw [hc, hf]
    have := back_flat (b :: bs) hg [] []
    simp only [List.append_nil] at this
    rw [this, ← he]; rfl

theorem fwd_bwd (x : Int) (u : List Int) : fwd x (bwd x u) = u := by
  cases u with
  | nil => rfl
  | cons r u =>
    obtain ⟨b, bs, hb, hg, he⟩ := to_flatF (P := cut x r) (r :: u)
    cases b with
    | cons z b =>
      exfalso
      have : r = z := by have := congrArg (List.headD · 0) he; simpa using this
      have h := hb z (by simp); rw [← this, cut_self] at h; cases h
    | nil =>
      have e1 : bwd x (r :: u) = flatB bs := by
        unfold bwd
        show back (cut x r) (r :: u).reverse [] [] = _
        rw [he]
        have := back_flat bs hg [] []
        simp only [List.append_nil, List.nil_append] at this ⊢
        rw [this]; rfl
      rw [e1]
      cases bs with
      | nil => simp [flatF] at he
      | cons c bs =>
        unfold fwd
        rw [cut_same (flatB_last hg), turn_flat _ hg]
        simpa using he.symm

theorem back_length (P : Int → Bool) : ∀ ps blk d, (back P ps blk d).length = ps.length + blk.length + d.length := by
  intro ps
  induction ps with
  | nil => intro blk d; simp [back]
  | cons y ps ih =>
    intro blk d
    rw [back]
    split
    · rw [ih]; simp; omega
    · rw [ih]; simp; omega

theorem bwd_length (x : Int) (u : List Int) : (bwd x u).length = u.length := by simp [bwd, back_length]
theorem fwd_length (x : Int) (u : List Int) : (fwd x u).length = u.length := by
  have := bwd_length x (fwd x u); rw [bwd_fwd] at this; exact this.symm

/-- Steps on the whole row: the first n numbers before the number at n. -/
def stepF (n : Nat) (v : List Int) : List Int := fwd (v.getD n 0) (v.take n) ++ v.drop n
def stepB (n : Nat) (v : List Int) : List Int := bwd (v.getD n 0) (v.take n) ++ v.drop n

theorem stepF_length {n : Nat} {v : List Int} : (stepF n v).length = v.length := by
  simp only [stepF, List.length_append, fwd_length, List.length_take, List.length_drop]; omega
theorem stepB_length {n : Nat} {v : List Int} : (stepB n v).length = v.length := by
  simp only [stepB, List.length_append, bwd_length, List.length_take, List.length_drop]; omega

theorem stepF_getD {n : Nat} {v : List Int} (hn : n ≤ v.length) {k : Nat} (hk : n ≤ k) : (stepF n v).getD k 0 = v.getD k 0 := by
  have h1 : (fwd (v.getD n 0) (v.take n)).length = n := by rw [fwd_length, List.length_take]; omega
  show (fwd (v.getD n 0) (v.take n) ++ v.drop n).getD k 0 = v.getD k 0
  generalize fwd (v.getD n 0) (v.take n) = t at h1
  simp only [List.getD_eq_getElem?_getD]
  rw [List.getElem?_append_right (by omega), h1, List.getElem?_drop, show n + (k - n) = k by omega]
theorem stepB_getD {n : Nat} {v : List Int} (hn : n ≤ v.length) {k : Nat} (hk : n ≤ k) : (stepB n v).getD k 0 = v.getD k 0 := by
  have h1 : (bwd (v.getD n 0) (v.take n)).length = n := by rw [bwd_length, List.length_take]; omega
  show (bwd (v.getD n 0) (v.take n) ++ v.drop n).getD k 0 = v.getD k 0
  generalize bwd (v.getD n 0) (v.take n) = t at h1
  simp only [List.getD_eq_getElem?_getD]
  rw [List.getElem?_append_right (by omega), h1, List.getElem?_drop, show n + (k - n) = k by omega]

theorem stepF_take {n : Nat} {v : List Int} (hn : n ≤ v.length) : (stepF n v).take n = fwd (v.getD n 0) (v.take n) := by
  have h1 : (fwd (v.getD n 0) (v.take n)).length = n := by rw [fwd_length, List.length_take]; omega
  unfold stepF; rw [List.take_append_of_le_length (by omega), List.take_of_length_le (by omega)]
theorem stepB_take {n : Nat} {v : List Int} (hn : n ≤ v.length) : (stepB n v).take n = bwd (v.getD n 0) (v.take n) := by
  have h1 : (bwd (v.getD n 0) (v.take n)).length = n := by rw [bwd_length, List.length_take]; omega
  unfold stepB; rw [List.take_append_of_le_length (by omega), List.take_of_length_le (by omega)]
theorem stepF_drop {n : Nat} {v : List Int} (hn : n ≤ v.length) : (stepF n v).drop n = v.drop n := by
  have h1 : (fwd (v.getD n 0) (v.take n)).length = n := by rw [fwd_length, List.length_take]; omega
  unfold stepF; rw [List.drop_append_of_le_length (by omega), List.drop_of_length_le (by omega)]; rfl
theorem stepB_drop {n : Nat} {v : List Int} (hn : n ≤ v.length) : (stepB n v).drop n = v.drop n := by
  have h1 : (bwd (v.getD n 0) (v.take n)).length = n := by rw [bwd_length, List.length_take]; omega
  unfold stepB; rw [List.drop_append_of_le_length (by omega), List.drop_of_length_le (by omega)]; rfl

theorem stepB_stepF {n : Nat} {v : List Int} (hn : n ≤ v.length) : stepB n (stepF n v) = v := by
  rw [stepB, stepF_getD hn (Nat.le_refl n), stepF_take hn, stepF_drop hn, bwd_fwd, List.take_append_drop]
theorem stepF_stepB {n : Nat} {v : List Int} (hn : n ≤ v.length) : stepF n (stepB n v) = v := by
  rw [stepF, stepB_getD hn (Nat.le_refl n), stepB_take hn, stepB_drop hn, fwd_bwd, List.take_append_drop]

/-- Folded up to the numbers ahead of n; and unfolded from n numbers down. -/
def fold : Nat → List Int → List Int
  | 0, v => v
  | n + 1, v => stepF n (fold n v)
def unfold : Nat → List Int → List Int
  | 0, v => v
  | n + 1, v => unfold n (stepB n v)

theorem fold_length : ∀ (n : Nat) (v : List Int), (fold n v).length = v.length := by
  intro n
  induction n with
  | zero => intro v; rfl
  | succ n ih => intro v; rw [fold, stepF_length, ih]
theorem unfold_length : ∀ (n : Nat) (v : List Int), (unfold n v).length = v.length := by
  intro n
  induction n with
  | zero => intro v; rfl
  | succ n ih => intro v; rw [unfold, ih, stepB_length]

theorem unfold_fold : ∀ (n : Nat) (v : List Int), n ≤ v.length → unfold n (fold n v) = v := by
  intro n
  induction n with
  | zero => intro v _; rfl
  | succ n ih => intro v h; rw [fold, unfold, stepB_stepF (by rw [fold_length]; omega), ih v (by omega)]
theorem fold_unfold : ∀ (n : Nat) (v : List Int), n ≤ v.length → fold n (unfold n v) = v := by
  intro n
  induction n with
  | zero => intro v _; rfl
  | succ n ih => intro v h; rw [fold, unfold, ih _ (by rw [stepB_length]; omega), stepF_stepB (by omega)]

theorem fold_getD : ∀ (n : Nat) (v : List Int), n ≤ v.length → ∀ k, n ≤ k + 1 → (fold n v).getD k 0 = v.getD k 0 := by
  intro n
  induction n with
  | zero => intro v _ k _; rfl
  | succ n ih =>
    intro v h k hk
    rw [fold, stepF_getD (by rw [fold_length]; omega) (by omega), ih v (by omega) k (by omega)]

/-- Pairs that stand the wrong way round. -/
def above (x : Int) (u : List Int) : Nat := u.countP (fun y => decide (x < y))
def wrongs : List Int → Nat
  | [] => 0
  | y :: ys => ys.countP (fun z => decide (z < y)) + wrongs ys
def cross : List Int → List Int → Nat
  | [], _ => 0
  | y :: ys, b => b.countP (fun z => decide (z < y)) + cross ys b

theorem cross_app (a b c : List Int) : cross a (b ++ c) = cross a b + cross a c := by
  induction a with
  | nil => rfl
  | cons y a ih => simp only [cross, List.countP_append, ih]; omega
theorem cross_left (a b c : List Int) : cross (a ++ b) c = cross a c + cross b c := by
  induction a with
  | nil => simp [cross]
  | cons y a ih => simp only [cross, List.cons_append, ih]; omega
theorem wrongs_app (a b : List Int) : wrongs (a ++ b) = wrongs a + wrongs b + cross a b := by
  induction a with
  | nil => simp [wrongs, cross]
  | cons y a ih => simp only [wrongs, cross, List.cons_append, List.countP_append, ih]; omega
theorem cross_one (a : List Int) (x : Int) : cross a [x] = above x a := by
  induction a with
  | nil => rfl
  | cons y a ih =>
    have h1 : cross (y :: a) [x] = [x].countP (fun z => decide (z < y)) + cross a [x] := rfl
    have h2 : above x (y :: a) = above x a + if decide (x < y) = true then 1 else 0 := by unfold above; rw [List.countP_cons]
    rw [h1, h2, ih, List.countP_cons]; simp; omega
theorem wrongs_snoc (a : List Int) (x : Int) : wrongs (a ++ [x]) = wrongs a + above x a := by
  rw [wrongs_app, cross_one]; simp [wrongs]

/-- How many letters do not end a block. -/
def rest (bs : List (List Int × Int)) : Nat := (bs.map (fun b => b.1.length)).sum

theorem flat_cross_right (a : List Int) : ∀ bs, cross a (flatB bs) = cross a (flatF bs) := by
  intro bs
  induction bs with
  | nil => rfl
  | cons b bs ih =>
    show cross a (b.1 ++ b.2 :: flatB bs) = cross a (b.2 :: (b.1 ++ flatF bs))
    rw [show b.2 :: flatB bs = [b.2] ++ flatB bs from rfl, show b.2 :: (b.1 ++ flatF bs) = [b.2] ++ (b.1 ++ flatF bs) from rfl]
    simp only [cross_app, ih]; omega

theorem above_flat (x : Int) (bs : List (List Int × Int)) : above x (flatB bs) = above x (flatF bs) := by
  rw [← cross_one, ← cross_one]
  induction bs with
  | nil => rfl
  | cons b bs ih =>
    show cross (b.1 ++ ([b.2] ++ flatB bs)) [x] = cross ([b.2] ++ (b.1 ++ flatF bs)) [x]
    simp only [cross_left, ih]; omega

theorem cross_one_left (y : Int) (b : List Int) : cross [y] b = b.countP (fun z => decide (z < y)) := by simp [cross]

theorem wrongs_low {x r : Int} (hr : r ≤ x) : ∀ bs, Good (cut x r) bs → wrongs (flatF bs) + above x (flatF bs) = wrongs (flatB bs) := by
  intro bs
  induction bs with
  | nil => intro _; rfl
  | cons b bs ih =>
    intro h
    have ih := ih h.tail
    have hy : b.2 ≤ x := by have := (h b (by simp)).1; simpa [cut, hr] using this
    have hb : ∀ z ∈ b.1, x < z := by
      intro z hz
      have := (h b (by simp)).2 z hz
      simp only [cut, hr, decide_true, beq_true, decide_eq_false_iff_not] at this; omega
    have e1 : wrongs (flatF (b :: bs)) = wrongs ([b.2] ++ (b.1 ++ flatF bs)) := rfl
    have e2 : wrongs (flatB (b :: bs)) = wrongs (b.1 ++ ([b.2] ++ flatB bs)) := rfl
    have e3 : above x (flatF (b :: bs)) = cross ([b.2] ++ (b.1 ++ flatF bs)) [x] := (cross_one _ _).symm
    have c1 : cross [b.2] b.1 = 0 := by
      rw [cross_one_left]; apply List.countP_eq_zero.2; intro z hz; have := hb z hz; simp; omega
    have c2 : cross b.1 [b.2] = b.1.length := by
      rw [cross_one]; unfold above; rw [List.countP_eq_length.2]; intro z hz; have := hb z hz; simp; omega
    have c3 : cross [b.2] [x] = 0 := by rw [cross_one]; simp [above, List.countP_cons]; omega
    have c4 : cross b.1 [x] = b.1.length := by
      rw [cross_one]; unfold above; rw [List.countP_eq_length.2]; intro z hz; have := hb z hz; simp; omega
    have c5 : cross (flatF bs) [x] = above x (flatF bs) := cross_one _ _
    have c6 : wrongs [b.2] = 0 := rfl
    rw [e1, e2, e3]
    simp only [wrongs_app, cross_app, cross_left, flat_cross_right, c1, c2, c3, c4, c5, c6]
    omega

theorem wrongs_high {x r : Int} (hr : ¬ r ≤ x) : ∀ bs, Good (cut x r) bs → wrongs (flatF bs) + above x (flatF bs) = wrongs (flatB bs) + (flatB bs).length := by
  intro bs
  induction bs with
  | nil => intro _; rfl
  | cons b bs ih =>
    intro h
    have ih := ih h.tail
    have hy : x < b.2 := by have := (h b (by simp)).1; simp only [cut, hr, decide_false, beq_false, Bool.not_eq_true', decide_eq_false_iff_not] at this; omega
    have hb : ∀ z ∈ b.1, z ≤ x := by
      intro z hz
      have := (h b (by simp)).2 z hz
      simp only [cut, hr, decide_false, beq_false, Bool.not_eq_false', decide_eq_true_eq] at this; omega
    have e1 : wrongs (flatF (b :: bs)) = wrongs ([b.2] ++ (b.1 ++ flatF bs)) := rfl
    have e2 : wrongs (flatB (b :: bs)) = wrongs (b.1 ++ ([b.2] ++ flatB bs)) := rfl
    have e3 : above x (flatF (b :: bs)) = cross ([b.2] ++ (b.1 ++ flatF bs)) [x] := (cross_one _ _).symm
    have e4 : (flatB (b :: bs)).length = b.1.length + (1 + (flatB bs).length) := by simp [flatB]; omega
    have c1 : cross [b.2] b.1 = b.1.length := by
      rw [cross_one_left, List.countP_eq_length.2]; intro z hz; have := hb z hz; simp; omega
    have c2 : cross b.1 [b.2] = 0 := by
      rw [cross_one]; unfold above; apply List.countP_eq_zero.2; intro z hz; have := hb z hz; simp; omega
    have c3 : cross [b.2] [x] = 1 := by rw [cross_one]; simp [above, List.countP_cons]; omega
    have c4 : cross b.1 [x] = 0 := by
      rw [cross_one]; unfold above; apply List.countP_eq_zero.2; intro z hz; have := hb z hz; simp; omega
    have c5 : cross (flatF bs) [x] = above x (flatF bs) := cross_one _ _
    have c6 : wrongs [b.2] = 0 := rfl
    rw [e1, e2, e3, e4]
    simp only [wrongs_app, cross_app, cross_left, flat_cross_right, c1, c2, c3, c4, c5, c6]
    omega

/-- What the descents come to. -/
def major : Nat → List Int → Nat
  | 0, _ => 0
  | n + 1, v => major n v + if 0 < n ∧ v.getD n 0 < v.getD (n - 1) 0 then n else 0

theorem ftake_snoc {n : Nat} {v : List Int} (h : n < v.length) : v.take (n + 1) = v.take n ++ [v.getD n 0] := by
  rw [List.take_add_one, List.getD_eq_getElem?_getD, List.getElem?_eq_getElem h]; rfl

theorem take_last {n : Nat} {v : List Int} (h0 : 0 < n) (h : n ≤ v.length) : (v.take n).getLastD 0 = v.getD (n - 1) 0 := by
  obtain ⟨k, rfl⟩ : ∃ k, n = k + 1 := ⟨n - 1, by omega⟩
  rw [ftake_snoc (by omega)]; simp

/-- MACMAHON'S. -/
theorem macmahon : ∀ (n : Nat) (v : List Int), n ≤ v.length → wrongs ((fold n v).take n) = major n v := by
  intro n
  induction n with
  | zero => intro v _; rfl
  | succ n ih =>
    intro v h
    have ih := ih v (by omega)
    have hlen := fold_length n v
    have hx : (fold n v).getD n 0 = v.getD n 0 := fold_getD n v (by omega) n (by omega)
    have e1 : (fold (n + 1) v).take (n + 1) = fwd (v.getD n 0) ((fold n v).take n) ++ [v.getD n 0] := by
      rw [fold, ftake_snoc (by rw [stepF_length]; omega), stepF_take (by omega), stepF_getD (by omega) (Nat.le_refl n), hx]
    rw [e1, wrongs_snoc, major, ← ih]
    by_cases h0 : n = 0
    · subst h0; simp [fwd, turn, above]
    · have hl : ((fold n v).take n).getLastD 0 = v.getD (n - 1) 0 := by
        rw [take_last (by omega) (by omega), fold_getD n v (by omega) (n - 1) (by omega)]
      obtain ⟨bs, hg, he, hf⟩ := fwd_blocks (v.getD n 0) ((fold n v).take n)
      rw [hl] at hg
      have hlen2 : ((fold n v).take n).length = n := by rw [List.length_take]; omega
      rw [hf]
      by_cases hr : v.getD (n - 1) 0 ≤ v.getD n 0
      · rw [wrongs_low hr bs hg, if_neg (by omega), he]; rfl
      · rw [wrongs_high hr bs hg, if_pos (by omega), ← he, hlen2]

end Go.Proofs.YtfdhbnbmobmlpaaDoor
