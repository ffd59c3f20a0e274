/-
  ferref.Ungrew: the list of cars of a tree.
-/
import Derived.Test.YtihafckdaecgkaaZUnr
import Derived.Test.YtihafckdaecgkaaZTap
import Derived.BigQuiet
namespace Go.Proofs.Ytihafckdaecgkaa
open Go.RowKit

theorem UI.mem {n : Nat} {J : Int → Int → Bool} {D : Nat → Int} {line : List Int} {k i : Nat} (h : UI n J D line k i) {t : Nat} (ht : t < n) : (t : Int) + 1 ∈ line ↔ D t ≠ 0 := by
  rw [h.ln, List.mem_append, mem_lin, mem_addc]
  have hr := h.rng t ht
  constructor
  · rintro ((h1 | ⟨s, h1, h2, h3, h4⟩) | ⟨s, h1, h2, h3⟩)
    · omega
    · obtain rfl : t = s := by omega
      omega
    · obtain rfl : t = s := by omega
      omega
  · intro h0
    rcases hr with c | c | c
    · exact absurd c h0
    · exact Or.inl (Or.inr ⟨t, ht, c.1, c.2, rfl⟩)
    · exact Or.inr ⟨t, c.2, c.1, rfl⟩
theorem UI.full {n : Nat} {L : List (Int × Int)} {D : Nat → Int} {line : List Int} (h : UI n (jnU L) D line n 0) (hn : n = L.length) : (∀ t, t < n → D t ≠ 0) ∧ line.length = n + 1 := by
  have hL := (un_back h (jnU_je L) hn).1
  refine ⟨fun t ht => by have := lin_all hL t ht; omega, ?_⟩
  have : line = lin D n n := by rw [h.ln, addc_zero, List.append_nil]
  rw [this, (lin_V hL).length_eq, rgV_length]
/-- An edge of these two is among them. -/
def nrB (L : List (Int × Int)) (x v : Int) : Bool := L.any fun e => (e.1 == v && e.2 == x) || (e.1 == x && e.2 == v)
theorem nrB_jn (L : List (Int × Int)) (x v : Int) : nrB L x v = jnU L x v := by
  rw [Bool.eq_iff_iff]
  unfold nrB jnU
  rw [List.any_eq_true, decide_eq_true_iff]
  constructor
  · rintro ⟨⟨p, q⟩, he, h⟩
    simp only [Bool.or_eq_true, Bool.and_eq_true, beq_iff_eq] at h
    rcases h with ⟨rfl, rfl⟩ | ⟨rfl, rfl⟩
    · exact Or.inr he
    · exact Or.inl he
  · rintro (h | h)
    · exact ⟨_, h, by simp⟩
    · exact ⟨_, h, by simp⟩
theorem nrB_snoc (L : List (Int × Int)) (p q x v : Int) : nrB (L ++ [(p, q)]) x v = (nrB L x v || ((p == v && q == x) || (p == x && q == v))) := by
  unfold nrB; rw [List.any_append]; simp
theorem take_snocP {L : List (Int × Int)} {k : Nat} (hk : k < L.length) {p q : Int} (h : (p, q) = L.getD k (0, 0)) : L.take (k + 1) = L.take k ++ [(p, q)] := by
  rw [List.take_succ_eq_append_getElem hk, h]; simp [List.getD, hk]

set_option maxHeartbeats 16000000 in
set_option maxRecDepth 100000 in
theorem Ungrew_at (a : Option Addr) (n cap : Nat) (L : List (Int × Int)) (w : World) (hs : ShowsP w a L) (hn : n = L.length) (h20 : n ≤ 20) (hT : Tr (rgV 0 (n + 1)) L) :
    Calls Try.prog 17 #[.slice a n cap] w fun e w' => ∃ v, e = .returned v ∧ Hid (UnE n L w' w.heap.size v) ∧ Hid (Below w.heap.size w w') := by
  have HTr : Hid (Tr (rgV 0 (n + 1)) L) := hT
  have HS : Hid (ShowsP w a L) := hs
  have HN : Hid (n = L.length) := hn
  clear hs hn hT
  obtain ⟨i1, hj1, hy0, hy1, hy2⟩ := info_parts Try.info3
  go_enter Try.func17, Try.ntmps17
  go_wp2_with (at_make; refine wpList_make_full _ rfl _ _ 23 rfl w.heap.size 3 i1 (.int .i64 0) 1 Try.underlying23 hj1 hy0 hy1 _ _ _ _ n rfl rfl rfl rfl ?b1 ?b2 ?b3 ?_)
  case b1 => rw [hy2]; omega
  case b2 => unfold maxLen; omega
  case b3 => exact Nat.le_refl _
  intro w2 hown hgrow
  obtain ⟨G, HG⟩ : ∃ G, Hid (G = w.heap.size) := ⟨_, rfl⟩
  have hB2 : Below w.heap.size w w2 := (Below.refl _ _).grown hgrow (Nat.le_refl _) (fun k h => by cases h)
  have HO2 : Hid (Owns w2 G (.slice (some ⟨G, 0, none⟩) n n) (tab n (fun _ => 0))) := by rw [HG.out]; exact owns_mkT hown
  have HwG2 : Hid (w.heap.size ≤ G) := by rw [HG.out]; exact Nat.le_refl _
  have HBw2 : Hid (Below w.heap.size w w2) := hB2
  rw [← HG.out]
  obtain ⟨Lb, HLb2⟩ : ∃ Lb, Hid (Lb = w2.heap.size) := ⟨_, rfl⟩
  have HGL : Hid (G < Lb) := by rw [HLb2.out]; exact (World.ownsRow.lt HO2.out G rfl).2
  clear hown hgrow hB2 HG hj1 hy0 hy1 hy2 i1
  obtain ⟨W3, HW3⟩ : ∃ W3, Hid (W3 = w2.alloc (.cells #[.int .i64 0] 3)) := ⟨_, rfl⟩
  have hB3 : Below w2.heap.size w2 W3 := by rw [HW3.out]; exact (Below.refl _ _).alloc (Nat.le_refl _) _
  have HO3 : Hid (Owns W3 G (.slice (some ⟨G, 0, none⟩) n n) (tab n (fun _ => 0))) := HO2.out.below hB3
  have HL3 : Hid (Owns W3 Lb (.slice (some ⟨Lb, 0, none⟩) 1 1) [0]) := by rw [HLb2.out]; exact owns_of_row (Nat.le_refl _) (by rw [HW3.out]; exact heap_alloc_new _ _) rfl (by simp)
  have HBw3 : Hid (Below w.heap.size w W3) := HBw2.out.trans (hB3.mono HBw2.out.size)
  have HLs : Hid (Lb < W3.heap.size) := (World.ownsRow.lt HL3.out Lb rfl).2
  have HU0 : Hid (UI n (jnU L) (fun _ => 0) [0] 0 0) := UI.start n (jnU L)
  go_upto_region 3 with fail
  rw [← HW3.out, ← HLb2.out]
  clear HW3 hB3 HBw2 HO2 HLb2
  go_wp2
  go_loopw [4, 5, 6, 7, 8] (fun v4 v5 _ _ _ wq => ∃ k : Nat, ∃ D line, k ≤ n + 1 ∧ v5 = .int .i64 (k : Int) ∧ Hid ((k ≤ n ∧ UI n (jnU L) D line k 0) ∨ (k = n + 1 ∧ UI n (jnU L) D line n 0)) ∧ Hid (Owns wq G (.slice (some ⟨G, 0, none⟩) n n) (tab n D)) ∧ Hid (Owns wq Lb v4 line) ∧ Hid (Below w.heap.size w wq) ∧ Hid (Lb < wq.heap.size)) (fun _ v5 _ _ _ _ => n + 1 - (intOf v5).toNat)
  case atStart => exact ⟨0, _, _, Nat.zero_le _, rfl, Or.inl ⟨Nat.zero_le _, HU0.out⟩, HO3, HL3, HBw3, HLs⟩
  case round =>
    clear HO3 HL3 HBw3 HLs HU0
    obtain ⟨k, D, line, hk, rfl, HUo, HO, HL, HB, HLr⟩ := hrel
    rcases HUo.out with ⟨hkn, hU⟩ | ⟨hkn, hU⟩
    · obtain ⟨hll, hbd, hkl⟩ := UI.line hU (Nat.zero_le _)
      obtain ⟨a8, c8, rfl, hs8⟩ := HL.out.shows (by omega) (fun z hz => by have := hbd z hz; omega)
      obtain ⟨ll, Hll⟩ : ∃ ll, Hid (ll = line.length) := ⟨_, rfl⟩
      rw [← Hll.out] at HL ⊢
      have hkl' : (k : Int) < (ll : Int) := by rw [Hll.out]; omega
      obtain ⟨vx, Hvx⟩ : ∃ vx : Int, Hid (vx = line.getD k 0) := ⟨_, rfl⟩
      have HU : Hid (UI n (jnU L) D line k 0) := hU
      have HE : Hid (k = n → UI n (jnU L) D line n 0) := fun e => by rw [e] at hU; exact hU
      clear hbd hll hs8 hkl hU HUo
      go_wp2
      go_loopw [4, 6, 7, 8] (fun v4 v6 _ _ wq => ∃ i q : Nat, ∃ D line, i ≤ n ∧ Hid (q = i + 1) ∧ v6 = .int .i64 (q : Int) ∧ Hid (vx = line.getD k 0) ∧ Hid (UI n (jnU L) D line k i) ∧ Hid (k = n → UI n (jnU L) D line n 0) ∧ Hid (Owns wq G (.slice (some ⟨G, 0, none⟩) n n) (tab n D)) ∧ Hid (Owns wq Lb v4 line) ∧ Hid (Below w.heap.size w wq) ∧ Hid (Lb < wq.heap.size)) (fun _ v6 _ _ _ => n + 1 - (intOf v6).toNat)
      case atStart => exact ⟨0, 1, D, line, Nat.zero_le _, rfl, rfl, Hvx, HU, HE, HO, HL, HB, HLr⟩
      case round =>
        clear HU HO HL HB HLr Hvx Hll hkl' HE
        obtain ⟨i, q, D, line, hi, Hq, rfl, Hvx, HU, HE, HO, HL, HB, HLr⟩ := hrel
        by_cases hil : i < n
        · have hqn : (q : Int) ≤ (n : Int) := by have := Hq.out; omega
          have hqi : (q : Int) - 1 = (i : Int) := by have := Hq.out; omega
          have hq21 : q ≤ 21 := by have := Hq.out; omega
          have hij : (i : Int) < (n : Int) := by omega
          have Hqq : Hid ((q : Int) = (i : Int) + 1) := by have := Hq.out; show _ = _; omega
          obtain ⟨hll, hbd, hkl⟩ := UI.line HU.out hi
          obtain ⟨a8, c8, rfl, hs8⟩ := HL.out.shows (by omega) (fun z hz => by have := hbd z hz; omega)
          obtain ⟨b8, o8, v0, rfl, Hv0, -, -, hc8⟩ := hs8.elem (k := k) hkl
          obtain rfl : vx = v0 := by rw [Hvx.out, Hv0.out]
          obtain ⟨ll, Hll⟩ : ∃ ll, Hid (ll = line.length) := ⟨_, rfl⟩
          rw [← Hll.out] at HL ⊢
          have hkl' : (k : Int) < (ll : Int) := by rw [Hll.out]; omega
          have HS8 : Hid (Shows wr (some ⟨b8, o8, none⟩) line) := hs8
          obtain ⟨nz, Hnz⟩ : ∃ nz, Hid (nz = nrB (L.take 0) vx (q : Int)) := ⟨_, rfl⟩
          obtain rfl : nz = false := by rw [Hnz.out]; rfl
          clear hs8 hbd hll hkl
          go_wp2
          go_loopw [7, 8] (fun v7 v8 wq => ∃ j r : Nat, ∃ t : Bool, j ≤ n ∧ v8 = .int .i64 (j : Int) ∧ v7 = .bool t ∧ Hid (t = nrB (L.take j) vx (q : Int)) ∧ wq = wr.drewN r) (fun _ v8 _ => n - (intOf v8).toNat)
          case atStart => exact ⟨0, 0, false, Nat.zero_le _, rfl, rfl, Hnz, rfl⟩
          case round =>
            clear Hnz
            obtain ⟨j, r, t, hj, rfl, rfl, Ht, rfl⟩ := hrel
            by_cases hjl : j < n
            · have hjl' : (j : Int) < (n : Int) := by omega
              have hjL : j < L.length := by rw [← HN.out]; exact hjl
              obtain ⟨b, off, x0, y0, rfl, -, HZ, hc1, hc2⟩ := (HS.out.below HB.out).elem (k := j) hjL
              have Hst : Hid (∀ t' : Bool, t' = (t || ((x0 == (q : Int) && y0 == vx) || (x0 == vx && y0 == (q : Int)))) → t' = nrB (L.take (j + 1)) vx (q : Int)) := fun t' h => by
                rw [take_snocP hjL HZ.out, nrB_snoc, ← Ht.out]; exact h
              go_wp2
              rcases t with _ | _
              · by_cases h1 : x0 = (q : Int)
                · have b1 : (x0 == (q : Int)) = true := beq_iff_eq.2 h1
                  by_cases h2 : y0 = vx
                  · have b2 : (y0 == vx) = true := beq_iff_eq.2 h2
                    have HR : Hid (true = nrB (L.take (j + 1)) vx (q : Int)) := Hst.out true (by simp [b1, b2])
                    go_quiet (fail)
                    go_wp2
                    go_roundw
                    case rel => exact ⟨j + 1, _, true, by omega, by go_num, rfl, HR, rfl⟩
                    case measure => simp [intOf]; omega
                  · have b2 : (y0 == vx) = false := beq_eq_false_iff_ne.2 h2
                    by_cases h3 : x0 = vx
                    · have b3 : (x0 == vx) = true := beq_iff_eq.2 h3
                      by_cases h4 : y0 = (q : Int)
                      · have b4 : (y0 == (q : Int)) = true := beq_iff_eq.2 h4
                        exact absurd (h4.trans (h1.symm.trans h3)) h2
                      · have b4 : (y0 == (q : Int)) = false := beq_eq_false_iff_ne.2 h4
                        have HR : Hid (false = nrB (L.take (j + 1)) vx (q : Int)) := Hst.out false (by simp [b1, b2, b3, b4])
                        go_quiet (fail)
                        go_wp2
                        go_roundw
                        case rel => exact ⟨j + 1, _, false, by omega, by go_num, rfl, HR, rfl⟩
                        case measure => simp [intOf]; omega
                    · have b3 : (x0 == vx) = false := beq_eq_false_iff_ne.2 h3
                      have HR : Hid (false = nrB (L.take (j + 1)) vx (q : Int)) := Hst.out false (by simp [b1, b2, b3])
                      go_quiet (fail)
                      go_wp2
                      go_roundw
                      case rel => exact ⟨j + 1, _, false, by omega, by go_num, rfl, HR, rfl⟩
                      case measure => simp [intOf]; omega
                · have b1 : (x0 == (q : Int)) = false := beq_eq_false_iff_ne.2 h1
                  by_cases h3 : x0 = vx
                  · have b3 : (x0 == vx) = true := beq_iff_eq.2 h3
                    by_cases h4 : y0 = (q : Int)
                    · have b4 : (y0 == (q : Int)) = true := beq_iff_eq.2 h4
                      have HR : Hid (true = nrB (L.take (j + 1)) vx (q : Int)) := Hst.out true (by simp [b1, b3, b4])
                      go_quiet (fail)
                      go_wp2
                      go_roundw
                      case rel => exact ⟨j + 1, _, true, by omega, by go_num, rfl, HR, rfl⟩
                      case measure => simp [intOf]; omega
                    · have b4 : (y0 == (q : Int)) = false := beq_eq_false_iff_ne.2 h4
                      have HR : Hid (false = nrB (L.take (j + 1)) vx (q : Int)) := Hst.out false (by simp [b1, b3, b4])
                      go_quiet (fail)
                      go_wp2
                      go_roundw
                      case rel => exact ⟨j + 1, _, false, by omega, by go_num, rfl, HR, rfl⟩
                      case measure => simp [intOf]; omega
                  · have b3 : (x0 == vx) = false := beq_eq_false_iff_ne.2 h3
                    have HR : Hid (false = nrB (L.take (j + 1)) vx (q : Int)) := Hst.out false (by simp [b1, b3])
                    go_quiet (fail)
                    go_wp2
                    go_roundw
                    case rel => exact ⟨j + 1, _, false, by omega, by go_num, rfl, HR, rfl⟩
                    case measure => simp [intOf]; omega
              · skip
                have HR : Hid (true = nrB (L.take (j + 1)) vx (q : Int)) := Hst.out true (by simp)
                go_quiet (fail)
                go_wp2
                go_roundw
                case rel => exact ⟨j + 1, _, true, by omega, by go_num, rfl, HR, rfl⟩
                case measure => simp [intOf]; omega
            · obtain rfl : j = n := by omega
              have hjl' : ¬ (j : Int) < (j : Int) := by omega
              have HtJ : Hid (jnU L (line.getD k 0) ((i : Int) + 1) = t) := by
                have h1 := Ht.out
                rw [List.take_of_length_le (by rw [← HN.out]; exact Nat.le_refl _), nrB_jn] at h1
                show _ = _
                rw [← Hvx.out, ← Hqq.out, h1]
              obtain ⟨cb, Hcb⟩ : ∃ cb : Bool, Hid (cb = decide ((q : Int) ∈ line)) := ⟨_, rfl⟩
              have HCo : Hid (Calls Try.prog 26 #[.slice (some ⟨b8, o8, none⟩) ll c8, .int .i64 (q : Int)] (wr.drewN r) fun e w' => e = .returned (.bool cb) ∧ w' = wr.drewN r) := by
                have h := Contains_any (some ⟨b8, o8, none⟩) c8 line (q : Int) (wr.drewN r) (HS8.out.below (below_drewN (Below.refl _ _) r))
                rw [← Hll.out, ← Hcb.out] at h
                exact h
              have HcD : Hid (cb = true ↔ D i ≠ 0) := by
                rw [Hcb.out, decide_eq_true_iff, Hqq.out]
                exact HU.out.mem hil
              have HBr : Hid (Below w.heap.size w (wr.drewN r)) := below_drewN HB.out r
              have HOr : Hid (Owns (wr.drewN r) G (.slice (some ⟨G, 0, none⟩) j j) (tab j D)) := ownsRow_blocks HO.out (fun _ _ => rfl)
              have HLr2 : Hid (Owns (wr.drewN r) Lb (.slice (some ⟨b8, o8, none⟩) ll c8) line) := ownsRow_blocks HL.out (fun _ _ => rfl)
              have HLsr : Hid (Lb < (wr.drewN r).heap.size) := HLr.out
              obtain ⟨W, HW⟩ : ∃ W, Hid (W = wr.drewN r) := ⟨_, rfl⟩
              rw [← HW.out] at HCo HBr HOr HLr2 HLsr ⊢
              clear HW hc8 HS8 HO HL HB HLr
              rcases t with _ | _
              · have HSk : Hid (jnU L (line.getD k 0) ((i : Int) + 1) = true → D i ≠ 0) := fun h => by rw [HtJ.out] at h; cases h
                have HU1 : Hid (UI j (jnU L) D line k (i + 1)) := HU.out.skip hil HSk.out
                go_wp2
                go_roundw
                case rel => exact ⟨i + 1, q + 1, D, line, by omega, by show _ = _; rw [Hq.out], by go_num, Hvx, HU1, HE, HOr, HLr2, HBr, HLsr⟩
                case measure => simp [intOf]; omega
              · rcases cb with _ | _
                · have hD0 : D i = 0 := Classical.byContradiction (fun h => by have := HcD.out.2 h; cases this)
                  have hkj : k ≠ j := fun e => (UI.full (HE.out e) HN.out).1 i hil hD0
                  have HU1 : Hid (UI j (jnU L) (fun t => if t = i then (k : Int) + 1 else D t) (line ++ [(i : Int) + 1]) k (i + 1)) := HU.out.set hil HtJ.out hD0
                  have HE1 : Hid (k = j → UI j (jnU L) (fun t => if t = i then (k : Int) + 1 else D t) (line ++ [(i : Int) + 1]) j 0) := fun e => absurd e hkj
                  obtain ⟨hll, hbd, hkl⟩ := UI.line HU.out (by omega)
                  have Hvx1 : Hid (vx = (line ++ [(i : Int) + 1]).getD k 0) := by
                    show _ = _
                    rw [Hvx.out]
                    simp [List.getD, List.getElem?_append_left hkl]
                  have hll1 : line.length ≤ j := by
                    have := (UI.line HU1.out (by omega)).1
                    simp only [List.length_append, List.length_cons, List.length_nil] at this
                    omega
                  have Hln2 : Hid (line.length ≤ j) := hll1
                  have HV8 : Hid (W.ownsRow Lb 3 1 (.slice (some ⟨b8, o8, none⟩) ll c8) (line.map (Value.int .i64)).length (line.map (Value.int .i64))) := vals_of_owns HLr2.out
                  have hk20 : k ≤ 20 := by omega
                  clear hll hbd hkl hll1 hD0
                  go_wp2_with fail
                  refine HCo.out.mono ?_
                  rintro e w9 ⟨rfl, hw9⟩
                  obtain rfl : W = w9 := hw9.symm
                  clear hw9
                  go_wp2_with (at_builtin; refine append_one elem_int (x := .int .i64 (q : Int)) rfl _ _ rfl rfl rfl rfl HV8.out rfl ?c1 ?c2 ?c3 ?_)
                  case c1 => rw [List.length_map]; unfold maxLen; have := Hln2.out; omega
                  case c2 => rw [List.length_map]; have := Hln2.out; omega
                  case c3 => exact Nat.le_of_lt HLsr.out
                  intro v' w10 hC hBc hKc
                  have HOn : Owns w10 G (.slice (some ⟨G, 0, none⟩) j j) (tab j D) := HOr.out.under HGL.out hBc
                  obtain ⟨hof, hoc⟩ := HOn.tabBox (j := i) hil
                  have HLn : Owns w10 Lb v' (line ++ [(i : Int) + 1]) := by
                    rw [← Hqq.out]
                    refine owns_of_vals ?_
                    simpa using hC
                  have HBn : Below w.heap.size w w10 := HBr.out.trans (hBc.mono (Nat.le_trans HwG2.out (Nat.le_of_lt HGL.out)))
                  have HLsn : Lb < w10.heap.size := Nat.lt_of_lt_of_le HLsr.out hBc.size
                  obtain ⟨p, Hp⟩ : ∃ p : Nat, Hid (p = k + 1) := ⟨_, rfl⟩
                  have hpk : (k : Int) + 1 = (p : Int) := by have := Hp.out; omega
                  obtain ⟨W4, HW4⟩ : ∃ W4, Hid (W4 = w10.setCell ⟨G, i, none⟩ (.int .i64 (p : Int))) := ⟨_, rfl⟩
                  have HO4 : Hid (Owns W4 G (.slice (some ⟨G, 0, none⟩) j j) (tab j (fun t => if t = i then (k : Int) + 1 else D t))) := by
                    rw [HW4.out]
                    refine (HOn.tabPut i (p : Int)).tabSame (fun t _ => ?_)
                    unfold updT
                    rw [hpk]
                  have HL4 : Hid (Owns W4 Lb v' (line ++ [(i : Int) + 1])) := by rw [HW4.out]; exact HLn.otherV HGL.out
                  have HB4 : Hid (Below w.heap.size w W4) := by rw [HW4.out]; exact HBn.setCell (p := ⟨G, i, none⟩) HwG2.out _
                  have HLs4 : Hid (Lb < W4.heap.size) := by rw [HW4.out]; show Lb < _; rw [World.size_setCell]; exact HLsn
                  clear hC hBc hKc HV8 HOn HLn HBn HLsn HOr HLr2 HBr HLsr HCo
                  go_upto_region 8 with fail
                  rw [← HW4.out]
                  go_wp2
                  go_roundw
                  case rel => exact ⟨i + 1, q + 1, _, _, by omega, by show _ = _; rw [Hq.out], by go_num, Hvx1, HU1, HE1, HO4, HL4, HB4, HLs4⟩
                  case measure => simp [intOf]; omega
                · have HSk : Hid (jnU L (line.getD k 0) ((i : Int) + 1) = true → D i ≠ 0) := fun _ => HcD.out.1 rfl
                  have HU1 : Hid (UI j (jnU L) D line k (i + 1)) := HU.out.skip hil HSk.out
                  go_wp2_with fail
                  refine HCo.out.mono ?_
                  rintro e w9 ⟨rfl, hw9⟩
                  obtain rfl : W = w9 := hw9.symm
                  clear hw9
                  go_wp2
                  go_roundw
                  case rel => exact ⟨i + 1, q + 1, D, line, by omega, by show _ = _; rw [Hq.out], by go_num, Hvx, HU1, HE, HOr, HLr2, HBr, HLsr⟩
                  case measure => simp [intOf]; omega
        · obtain rfl : i = n := by omega
          have hqn : ¬ (q : Int) ≤ (i : Int) := by have := Hq.out; omega
          have HU1 : Hid ((k + 1 ≤ i ∧ UI i (jnU L) D line (k + 1) 0) ∨ (k + 1 = i + 1 ∧ UI i (jnU L) D line i 0)) := by
            rcases Nat.lt_or_ge k i with h | h
            · exact Or.inl ⟨h, HU.out.next h HTr.out (jnU_je L)⟩
            · obtain rfl : k = i := by omega
              exact Or.inr ⟨rfl, HE.out rfl⟩
          go_wp2
          go_roundw
          case rel => exact ⟨k + 1, D, line, by omega, by go_num, HU1, HO, HL, HB, HLr⟩
          case measure => simp [intOf]; omega
    · have hl := (UI.full hU HN.out).2
      obtain ⟨hll, hbd, _⟩ := UI.line hU (Nat.zero_le _)
      obtain ⟨a8, c8, rfl, hs8⟩ := HL.out.shows (by omega) (fun z hz => by have := hbd z hz; omega)
      have hkl : ¬ (k : Int) < (line.length : Int) := by omega
      have HUn : Hid (UnE n L wr w.heap.size (.slice (some ⟨G, 0, none⟩) n n)) := ⟨D, line, hU, HO.out.mono HwG2.out⟩
      clear hl hll hbd hs8 hU HUo
      go_wp2
      go_ret
      exact ⟨_, rfl, HUn, HB⟩
end Go.Proofs.Ytihafckdaecgkaa
