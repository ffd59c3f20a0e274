/-
  The law ferkeep.SlidesSame.
-/
import Derived.Test.YtpbkidgdpejenaeSRby
import Derived.Test.YtpbkidgdpejenaeSRlw
import Derived.Test.YtpbkidgdpejenaeIMak
namespace Go.Proofs.Ytpbkidgdpejenae
open Go.RowKit

theorem Tbl.tableX {w : World} {lo : Nat} {v : Value} {ls : List (List Int)} (h : Tbl w lo v ls) (hl : ∀ l ∈ ls, l.length ≤ 17592186044416 ∧ ∀ z ∈ l, -9223372036854775808 ≤ z ∧ z ≤ 9223372036854775807) :
    ∃ a n cap, v = .slice a n cap ∧ TableX w a ls ∧ Hid (n = ls.length) := by
  obtain ⟨vs, h⟩ := h
  have h0 := h.own
  rcases h.own.2 with ⟨hv, hn⟩ | ⟨g, cap, cur, hv, hg, hh, _⟩
  · exact ⟨none, 0, 0, hv, fun i hi => by have := h.len; omega, by show _ = _; have := h.len; omega⟩
  · rw [hv] at h0
    refine ⟨_, _, cap, hv, fun i hi => ?_, h.len⟩
    have ho := h.rows i hi
    have hm : ls.getD i [] ∈ ls := by simp [List.getD, List.getElem?_eq_getElem hi]
    obtain ⟨ai, ci, hui, hS⟩ := ho.shows (hl _ hm).1 (hl _ hm).2
    refine ⟨g, 0, ai, ci, rfl, (Array.getElem?_eq_some_iff.1 hh).1, ?_, hS, fun hn => ?_, ?_⟩
    · rw [Nat.zero_add, World.ownsRow.cellAt h0 i (by have := h.len; omega), rowv_get (by have := h.len; omega), hui]
    · subst hn
      rcases ho.2 with ⟨h3, h4⟩ | ⟨g3, cap3, cur3, h3, _⟩
      · rw [hui] at h3
        simp only [Value.slice.injEq] at h3
        exact ⟨List.eq_nil_of_length_eq_zero h4, h3.2.2⟩
      · rw [hui] at h3; simp at h3
    · rcases ho.2 with ⟨_, h4⟩ | ⟨g3, cap3, cur3, h3, _, _, h5, _⟩
      · omega
      · rw [hui] at h3
        simp only [Value.slice.injEq] at h3
        rw [h3.2.2]; exact h5
/-- A literal of a row of two and a row of one, as an argument. -/
theorem tableX_lit21 (w : World) (x y z : Int) (hx : -1000 ≤ x ∧ x ≤ 1000) (hy : -1000 ≤ y ∧ y ≤ 1000) (hz : -1000 ≤ z ∧ z ≤ 1000) :
    TableX (((w.alloc (.cells #[.int .i64 x, .int .i64 y] 3)).alloc (.cells #[.int .i64 z] 3)).alloc (.cells #[.slice (some ⟨w.heap.size, 0, none⟩) 2 2, .slice (some ⟨w.heap.size + 1, 0, none⟩) 1 1] 22)) (some ⟨w.heap.size + 2, 0, none⟩) [[x, y], [z]] := by
  have h1 := shows_lit w [x, y] #[.int .i64 x, .int .i64 y] rfl (by simp) (by simp; omega)
  have h2 := shows_lit (w.alloc (.cells #[.int .i64 x, .int .i64 y] 3)) [z] #[.int .i64 z] rfl (by simp) (by simp; omega)
  have h1' := (h1.below ((Below.refl _ _).alloc (Nat.le_refl _) (.cells #[.int .i64 z] 3))).below ((Below.refl _ _).alloc (Nat.le_refl _) (.cells #[.slice (some ⟨w.heap.size, 0, none⟩) 2 2, .slice (some ⟨w.heap.size + 1, 0, none⟩) 1 1] 22))
  have h2' := h2.below ((Below.refl _ _).alloc (Nat.le_refl _) (.cells #[.slice (some ⟨w.heap.size, 0, none⟩) 2 2, .slice (some ⟨w.heap.size + 1, 0, none⟩) 1 1] 22))
  intro i hi
  have hi' : i = 0 ∨ i = 1 := by simp at hi; omega
  rcases hi' with rfl | rfl
  · refine ⟨w.heap.size + 2, 0, some ⟨w.heap.size, 0, none⟩, 2, rfl, by simp, ?_, h1', (fun h => by cases h), by simp⟩
    rw [World.cell?_alloc_at _ _ _ _ (by simp)]; rfl
  · refine ⟨w.heap.size + 2, 0, some ⟨w.heap.size + 1, 0, none⟩, 1, rfl, by simp, ?_, by simpa using h2', (fun h => by cases h), by simp⟩
    rw [World.cell?_alloc_at _ _ _ _ (by simp)]; rfl
/-- A literal of one row of two. -/
theorem table_lit2r (w : World) (x y : Int) (hx : -1000 ≤ x ∧ x ≤ 1000) (hy : -1000 ≤ y ∧ y ≤ 1000) :
    Table ((w.alloc (.cells #[.int .i64 x, .int .i64 y] 3)).alloc (.cells #[.slice (some ⟨w.heap.size, 0, none⟩) 2 2] 22)) (some ⟨w.heap.size + 1, 0, none⟩) [[x, y]] := by
  have h1 := shows_lit w [x, y] #[.int .i64 x, .int .i64 y] rfl (by simp) (by simp; omega)
  have h1' := h1.below ((Below.refl _ _).alloc (Nat.le_refl _) (.cells #[.slice (some ⟨w.heap.size, 0, none⟩) 2 2] 22))
  intro i hi
  obtain rfl : i = 0 := by simp at hi; omega
  refine ⟨w.heap.size + 1, 0, some ⟨w.heap.size, 0, none⟩, 2, rfl, by simp, ?_, h1', fun h => by cases h⟩
  rw [World.cell?_alloc_at _ _ _ _ (by simp)]; rfl
theorem below_lit2r (w : World) (c1 c2 : Array Value) (t1 t2 : TypeId) : Below w.heap.size w ((w.alloc (.cells c1 t1)).alloc (.cells c2 t2)) :=
  ((Below.refl _ _).alloc (Nat.le_refl _) _).alloc (by simp) _

theorem sword_len : ∀ (s : List (List Int)) (h : Nat → Nat), (sword h s).length ≤ s.flatten.length := by
  intro s
  induction s with
  | nil => intro h; simp [sword]
  | cons r s ih => intro h; simp only [sword, List.length_append, List.flatten_cons, List.length_drop]; have := ih (fun a => h (a + 1)); omega
theorem sword_all {p : Int → Prop} : ∀ (s : List (List Int)) (h : Nat → Nat), (∀ a b, h a ≤ b → b < (row s a).length → p (box s a b)) → ∀ z ∈ sword h s, p z := by
  intro s
  induction s with
  | nil => intro h _ z hz; simp [sword] at hz
  | cons r s ih =>
    intro h hp z hz
    simp only [sword, List.mem_append] at hz
    rcases hz with hz | hz
    · exact ih _ (fun a b h1 h2 => by have := hp (a + 1) b h1 (by simpa [row] using h2); simpa [box, row] using this) z hz
    · obtain ⟨m, hm, rfl⟩ := List.mem_iff_getElem.1 hz
      have := hp 0 (h 0 + m) (by omega) (by simp [row]; simp at hm; omega)
      simp at hm
      simpa [box, row, List.getD, List.getElem?_eq_getElem (show h 0 + m < r.length by omega)] using this
theorem sk_word {ls : List (List Int)} (h : IsSk ls) : lchk (sword (H ls) ls) = 0 :=
  lchk_ok.2 ⟨Nat.le_trans (sword_len _ _) h.few, sword_all ls (H ls) (fun a b h1 h2 => (h.ok a (row_lt h2)).low b h1 h2)⟩
theorem recT_tab {ls : List (List Int)} (h : IsSk ls) : IsTab (recT ls) := by
  obtain ⟨h1, h2⟩ := lchk_ok.1 (sk_word h)
  have hp := insW_perm (sword (H ls) ls) []
  rw [List.flatten_nil, List.append_nil] at hp
  exact (insW_T _ [] trivial).isTab (by rw [hp.length_eq]; exact h1) (fun z hz => h2 z (hp.mem_iff.1 hz))
theorem few_of_sk {ls : List (List Int)} (h : schk ls = 0) : Few ls := (schk_ok.1 h).fews
theorem slide_rec {ls : List (List Int)} (hI : IsSk ls) {r : Int} (hc : slC ls r = 0) : H ls (r.toNat + 1) < H ls r.toNat ∧ schk (slR ls r.toNat).1 = 0 ∧ recT (slR ls r.toNat).1 = recT ls := by
  have hcor : H ls (r.toNat + 1) < H ls r.toNat := by
    unfold slC at hc
    rw [if_neg (by rw [schk_ok.2 hI]; simp)] at hc
    by_cases q : 0 ≤ r ∧ r < (ls.length : Int) ∧ H ls (r.toNat + 1) < H ls r.toNat
    · exact q.2.2
    · rw [if_neg q] at hc; omega
  obtain ⟨k1, k2, k3⟩ := slR_ok hI.sk hcor
  have hH : less (H ls) r.toNat = H (slR ls r.toNat).1 := funext (fun a => (k1.hol a).symm)
  refine ⟨hcor, schk_ok.2 (k1.isSk (by have := hI.few; omega) (fun z hz => ?_) (fun a b h1 h2 => mem_sword _ _ a b h1 h2)), ?_⟩
  · exact ((lchk_ok.1 (sk_word hI)).2 z (k2.perm.mem_iff.2 hz)).2
  · unfold recT
    rw [← hH, k2.P]

theorem P_numT (zs : List Int) : (mk (numW zs)).1 = insW [] zs := by
  have : (numW zs).map Prod.snd = zs := by
    refine ext_getD (by simp [numW]) (fun j hj => ?_)
    simp [numW] at hj
    simp [numW, List.getD, hj]
  rw [mk_fst, this]

theorem lit_rec : schk [[0, 1], [1]] = 0 ∧ recT [[0, 1], [1]] = [[1, 1]] := by decide

set_option maxHeartbeats 16000000 in
set_option maxRecDepth 100000 in
theorem same_any (a b : Option Addr) (ca cb : Nat) (ls o : List (List Int)) (r : Int) (w : World) (hs : TableX w a ls) (ht : Table w b o) (hl : ls.length ≤ 17592186044416) (hlo : o.length ≤ 17592186044416) :
    Calls Try.prog 7 #[.slice a ls.length ca, .slice b o.length cb, .int .i64 r] w fun e w' => e = .returned (.bool true) ∧ Below w.heap.size w w' := by
  have HS : Hid (TableX w a ls) := hs
  have HT : Hid (Table w b o) := ht
  clear hs ht
  go_enter Try.func7, Try.ntmps7
  go_wp2_with fail
  refine (Rectify_ok _ 2 _ [[0, 1], [1]] _ (tableX_lit21 w 0 1 1 (by omega) (by omega) (by omega)) rfl (by simp) lit_rec.1).mono ?_
  rintro e w1 ⟨v1, rfl, hT1, hb1⟩
  have HB1 : Hid (Below w.heap.size w w1) := (below_lit21 w _ _ _ _ _ _).trans (hb1.mono (below_lit21 w _ _ _ _ _ _).size)
  rw [lit_rec.2] at hT1
  obtain ⟨p1, n1, k1, rfl, hP1, HN1⟩ := hT1.table (by decide)
  have HP1 : Hid (Table w1 p1 [[1, 1]]) := hP1
  clear hT1 hb1 hP1
  go_wp2_with fail
  refine (RowsL_i _ _ _ _ _ _ [[1, 1]] _ (HP1.out.below (below_lit2r w1 _ _ _ _)) (table_lit2r w1 1 1 (by omega) (by omega)) HN1.out rfl (by simp)).mono ?_
  rintro e w2 ⟨rfl, d2, hw2⟩
  have HB2 : Hid (Below w.heap.size w w2) := by rw [hw2]; exact below_drewN (HB1.out.trans ((below_lit2r w1 _ _ _ _).mono HB1.out.size)) d2
  clear hw2 HP1 HN1
  by_cases hc : schk ls = 0
  · have HC : Hid (schk ls = 0) := hc
    have HI : Hid (IsSk ls) := schk_ok.1 hc
    obtain ⟨R, HR⟩ : ∃ R, Hid (R = recT ls) := ⟨_, rfl⟩
    have HRt : Hid (IsTab R) := by rw [HR.out]; exact recT_tab HI.out
    have HRbd : Hid (∀ l ∈ R, l.length ≤ 17592186044416 ∧ ∀ z ∈ l, -9223372036854775808 ≤ z ∧ z ≤ 9223372036854775807) := HRt.out.few'.bd
    have HRl : Hid (R.length ≤ 17592186044416) := by have := HRt.out.few'.len; show _ ≤ _; omega
    clear hc
    go_wp2_with fail
    refine (Rectify_ok a _ ca ls w2 (HS.out.below HB2.out) rfl hl HC.out).mono ?_
    rintro e w3 ⟨v3, rfl, hT3, hb3⟩
    rw [← HR.out] at hT3
    have HB3 : Hid (Below w.heap.size w w3) := HB2.out.trans (hb3.mono HB2.out.size)
    obtain ⟨pa, na, ka, rfl, hPa, HNa⟩ := hT3.table HRbd.out
    have HPa : Hid (Table w3 pa R) := hPa
    clear hT3 hb3 hPa
    go_wp2_with fail
    refine (Word_ok a _ ca ls w3 (HS.out.below HB3.out) rfl hl HC.out).mono ?_
    rintro e w4 ⟨v4, rfl, hO4, hb4⟩
    rw [swF_is] at hO4
    obtain ⟨zs, HZs⟩ : ∃ zs, Hid (zs = sword (H ls) ls) := ⟨_, rfl⟩
    rw [← HZs.out] at hO4
    have HLz : Hid (lchk zs = 0) := by rw [HZs.out]; exact sk_word HI.out
    have HB4 : Hid (Below w.heap.size w w4) := HB3.out.trans (hb4.mono HB3.out.size)
    have HPa4 : Hid (Table w4 pa R) := HPa.out.below hb4
    obtain ⟨a4, n4, c4, rfl, hS4, hn4, -⟩ := hO4.opened (by have := (lchk_ok.1 HLz.out).1; omega) (fun z hz => by have := (lchk_ok.1 HLz.out).2 z hz; omega)
    have HS4 : Hid (Shows w4 a4 zs) := hS4
    have HN4 : Hid (n4 = zs.length) := hn4
    have HPR : Hid ((mk (numW zs)).1 = R) := by
      show _ = _
      rw [HR.out, HZs.out, P_numT]; rfl
    clear hO4 hb4 hS4 hn4 HPa
    go_wp2_with fail
    refine (Make_at a4 n4 c4 zs w4 HS4.out HN4.out HLz.out).mono ?_
    rintro e w5 ⟨v5, u5, rfl, hT5, hb5⟩
    have hf5 := hT5.fst
    rw [HPR.out] at hf5
    have HB5 : Hid (Below w.heap.size w w5) := HB4.out.trans (hb5.mono HB4.out.size)
    obtain ⟨p5, n5, k5, rfl, hP5, HN5⟩ := hf5.table HRbd.out
    obtain ⟨x5, y5, hu5⟩ := hT5.shape.2
    subst hu5
    have HP5 : Hid (Table w5 p5 R) := hP5
    have HPa5 : Hid (Table w5 pa R) := HPa4.out.below hb5
    clear hT5 hf5 hb5 hP5 HPa4
    go_wp2_with fail
    refine (RowsL_i _ _ _ _ _ _ R w5 HPa5.out HP5.out HNa.out HN5.out HRl.out).mono ?_
    rintro e w6 ⟨rfl, d6, hw6⟩
    have hb6 : Below w5.heap.size w5 w6 := by rw [hw6]; exact below_drewN (Below.refl _ _) d6
    have HB6 : Hid (Below w.heap.size w w6) := HB5.out.trans (hb6.mono HB5.out.size)
    have HPa6 : Hid (Table w6 pa R) := HPa5.out.below hb6
    clear hw6 hb6 HPa5
    obtain ⟨rc, HRc⟩ : ∃ rc, Hid (rbC ls o = rc) := ⟨_, rfl⟩
    obtain ⟨RQ, HRq⟩ : ∃ RQ, Hid (RQ = if rbC ls o = 0 then recT ls else []) := ⟨_, rfl⟩
    go_wp2_with fail
    refine (RectifyBy_at a b _ _ ca cb ls o w6 (HS.out.below HB6.out) (HT.out.below HB6.out) rfl rfl hl hlo HRc HRq).mono ?_
    rintro e w7 ⟨v7, rfl, hT7, hb7⟩
    have HB7 : Hid (Below w.heap.size w w7) := HB6.out.trans (hb7.mono HB6.out.size)
    have HPa7 : Hid (Table w7 pa R) := HPa6.out.below hb7
    by_cases h7 : rc = 0
    · have e7 := HRc.out
      rw [h7] at e7
      have hRQ : RQ = R := by rw [HRq.out, if_pos e7, HR.out]
      subst h7
      rw [hRQ] at hT7
      obtain ⟨p7, n7, k7, rfl, hP7, HN7⟩ := hT7.table HRbd.out
      have HP7 : Hid (Table w7 p7 R) := hP7
      clear hT7 hb7 hP7 e7 hRQ
      go_wp2_with fail
      refine (RowsL_i _ _ _ _ _ _ R w7 HPa7.out HP7.out HNa.out HN7.out HRl.out).mono ?_
      rintro e wq ⟨rfl, dq, hwq⟩
      have hbq : Below w7.heap.size w7 wq := by rw [hwq]; exact below_drewN (Below.refl _ _) dq
      have HBq : Hid (Below w.heap.size w wq) := HB7.out.trans (hbq.mono HB7.out.size)
      have HPaq : Hid (Table wq pa R) := HPa7.out.below hbq
      clear hwq hbq
      obtain ⟨sc, HSc⟩ : ∃ sc, Hid (slC ls r = sc) := ⟨_, rfl⟩
      obtain ⟨SQ, HSq⟩ : ∃ SQ, Hid (SQ = if slC ls r = 0 then (slR ls r.toNat).1 else []) := ⟨_, rfl⟩
      go_wp2_with fail
      refine (Slide_at a _ ca ls r wq (HS.out.below HBq.out) rfl hl HSc HSq).mono ?_
      rintro e w8 ⟨v8, i8, rfl, hT8, hb8⟩
      have HB8 : Hid (Below w.heap.size w w8) := HBq.out.trans (hb8.mono HBq.out.size)
      have HPa8 : Hid (Table w8 pa R) := HPaq.out.below hb8
      by_cases h8 : sc = 0
      · have e8 := HSc.out
        rw [h8] at e8
        have hSQ : SQ = (slR ls r.toNat).1 := by rw [HSq.out, if_pos e8]
        obtain ⟨hcor, hsk8, hrec8⟩ := slide_rec HI.out e8
        subst h8
        rw [hSQ] at hT8
        obtain ⟨pb, nb, kb, rfl, hPb, HNb⟩ := hT8.tableX (few_of_sk hsk8).bd
        have HPb : Hid (TableX w8 pb (slR ls r.toNat).1) := hPb
        have HSk8 : Hid (schk (slR ls r.toNat).1 = 0) := hsk8
        have HRe8 : Hid (recT (slR ls r.toNat).1 = R) := by rw [HR.out]; exact hrec8
        have HLb : Hid ((slR ls r.toNat).1.length ≤ 17592186044416) := by have := (few_of_sk hsk8).len; show _ ≤ _; omega
        clear hT8 hb8 hPb e8 hSQ hcor hsk8 hrec8
        go_wp2_with fail
        refine (Rectify_ok pb nb kb _ w8 HPb.out HNb.out HLb.out HSk8.out).mono ?_
        rintro e w9 ⟨v9, rfl, hT9, hb9⟩
        rw [HRe8.out] at hT9
        have HB9 : Hid (Below w.heap.size w w9) := HB8.out.trans (hb9.mono HB8.out.size)
        obtain ⟨pc, nc, kc, rfl, hPc, HNc⟩ := hT9.table HRbd.out
        have HPc : Hid (Table w9 pc R) := hPc
        have HPa9 : Hid (Table w9 pa R) := HPa8.out.below hb9
        clear hT9 hb9 hPc
        go_wp2_with fail
        refine (RowsL_i _ _ _ _ _ _ R w9 HPa9.out HPc.out HNa.out HNc.out HRl.out).mono ?_
        rintro e w10 ⟨rfl, d10, rfl⟩
        go_wp2
        go_ret
        exact ⟨rfl, below_drewN HB9.out d10⟩
      · have h8b : (sc == 0) = false := beq_false_of_ne h8
        obtain ⟨a8, n8, c8, hv8⟩ : ∃ a8 n8 c8, v8 = .slice a8 n8 c8 := by obtain ⟨q, hq⟩ := hT8; obtain ⟨x, y, e⟩ := hq.shape; exact ⟨_, _, _, e⟩
        subst hv8
        clear hT8 hb8 h8
        go_wp2
        go_ret
        exact ⟨rfl, HB8.out⟩
    · have h7b : (rc == 0) = false := beq_false_of_ne h7
      obtain ⟨a7, n7, c7, hv7⟩ : ∃ a7 n7 c7, v7 = .slice a7 n7 c7 := by obtain ⟨q, hq⟩ := hT7; obtain ⟨x, y, e⟩ := hq.shape; exact ⟨_, _, _, e⟩
      subst hv7
      clear hT7 hb7 h7
      obtain ⟨sc, HSc⟩ : ∃ sc, Hid (slC ls r = sc) := ⟨_, rfl⟩
      obtain ⟨SQ, HSq⟩ : ∃ SQ, Hid (SQ = if slC ls r = 0 then (slR ls r.toNat).1 else []) := ⟨_, rfl⟩
      go_wp2_with fail
      refine (Slide_at a _ ca ls r w7 (HS.out.below HB7.out) rfl hl HSc HSq).mono ?_
      rintro e w8 ⟨v8, i8, rfl, hT8, hb8⟩
      have HB8 : Hid (Below w.heap.size w w8) := HB7.out.trans (hb8.mono HB7.out.size)
      have HPa8 : Hid (Table w8 pa R) := HPa7.out.below hb8
      by_cases h8 : sc = 0
      · have e8 := HSc.out
        rw [h8] at e8
        have hSQ : SQ = (slR ls r.toNat).1 := by rw [HSq.out, if_pos e8]
        obtain ⟨hcor, hsk8, hrec8⟩ := slide_rec HI.out e8
        subst h8
        rw [hSQ] at hT8
        obtain ⟨pb, nb, kb, rfl, hPb, HNb⟩ := hT8.tableX (few_of_sk hsk8).bd
        have HPb : Hid (TableX w8 pb (slR ls r.toNat).1) := hPb
        have HSk8 : Hid (schk (slR ls r.toNat).1 = 0) := hsk8
        have HRe8 : Hid (recT (slR ls r.toNat).1 = R) := by rw [HR.out]; exact hrec8
        have HLb : Hid ((slR ls r.toNat).1.length ≤ 17592186044416) := by have := (few_of_sk hsk8).len; show _ ≤ _; omega
        clear hT8 hb8 hPb e8 hSQ hcor hsk8 hrec8
        go_wp2_with fail
        refine (Rectify_ok pb nb kb _ w8 HPb.out HNb.out HLb.out HSk8.out).mono ?_
        rintro e w9 ⟨v9, rfl, hT9, hb9⟩
        rw [HRe8.out] at hT9
        have HB9 : Hid (Below w.heap.size w w9) := HB8.out.trans (hb9.mono HB8.out.size)
        obtain ⟨pc, nc, kc, rfl, hPc, HNc⟩ := hT9.table HRbd.out
        have HPc : Hid (Table w9 pc R) := hPc
        have HPa9 : Hid (Table w9 pa R) := HPa8.out.below hb9
        clear hT9 hb9 hPc
        go_wp2_with fail
        refine (RowsL_i _ _ _ _ _ _ R w9 HPa9.out HPc.out HNa.out HNc.out HRl.out).mono ?_
        rintro e w10 ⟨rfl, d10, rfl⟩
        go_wp2
        go_ret
        exact ⟨rfl, below_drewN HB9.out d10⟩
      · have h8b : (sc == 0) = false := beq_false_of_ne h8
        obtain ⟨a8, n8, c8, hv8⟩ : ∃ a8 n8 c8, v8 = .slice a8 n8 c8 := by obtain ⟨q, hq⟩ := hT8; obtain ⟨x, y, e⟩ := hq.shape; exact ⟨_, _, _, e⟩
        subst hv8
        clear hT8 hb8 h8
        go_wp2
        go_ret
        exact ⟨rfl, HB8.out⟩
  · go_wp2_with fail
    refine (Rectify_err a _ ca ls w2 (HS.out.below HB2.out) rfl hl hc).mono ?_
    rintro e w3 ⟨rfl, hb3⟩
    have HB3 : Hid (Below w.heap.size w w3) := HB2.out.trans (hb3.mono HB2.out.size)
    obtain ⟨c, HC⟩ : ∃ c, Hid (c = schk ls) := ⟨_, rfl⟩
    have hcb : (c != 0) = true := by rw [HC.out]; exact bne_iff_ne.2 hc
    rw [← HC.out]
    clear hb3 hc
    go_wp2
    go_ret
    exact ⟨rfl, HB3.out⟩

end Go.Proofs.Ytpbkidgdpejenae
