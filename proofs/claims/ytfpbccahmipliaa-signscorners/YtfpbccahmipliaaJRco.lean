/-
  Tables of one's own whose rows may have room; the contracts of ferref.Size, Corners.
-/
import Derived.Test.YtfpbccahmipliaaJRef
namespace Go.Proofs.Ytfpbccahmipliaa
open Go.RowKit

def ryv (r c : Nat) (hs cs : Nat → Nat) : List Value := (List.range r).map fun i => .slice (some ⟨hs i, 0, none⟩) c (cs i)
theorem ryv_at {r c : Nat} {hs cs : Nat → Nat} {i : Nat} (hi : i < r) : rowv (ryv r c hs cs) i = .slice (some ⟨hs i, 0, none⟩) c (cs i) := by simp [rowv, ryv, List.getD, hi]
/-- the table's block is g, row i lies in block hs i -/
structure Rey (w : World) (lo g cap r c : Nat) (hs cs : Nat → Nat) (P : Nat → Nat → Int) : Prop where
  t : TblV w lo (.slice (some ⟨g, 0, none⟩) r cap) (ryv r c hs cs) (tz r c P)
theorem Rey.same {w w' : World} {lo g cap r c : Nat} {hs cs : Nat → Nat} {P : Nat → Nat → Int} (h : Rey w lo g cap r c hs cs P) (hk : ∀ k, lo ≤ k → k < w.heap.size → w'.heap[k]? = w.heap[k]?) : Rey w' lo g cap r c hs cs P := ⟨h.t.same hk⟩
theorem Rey.below {w w' : World} {lo g cap r c : Nat} {hs cs : Nat → Nat} {P : Nat → Nat → Int} (h : Rey w lo g cap r c hs cs P) (hb : Below w.heap.size w w') : Rey w' lo g cap r c hs cs P := h.same (fun k _ hk => hb.block k hk)
theorem Rey.congr {w : World} {lo g cap r c : Nat} {hs cs : Nat → Nat} {P Q : Nat → Nat → Int} (h : Rey w lo g cap r c hs cs P) (e : ∀ i, i < r → ∀ j, j < c → P i j = Q i j) : Rey w lo g cap r c hs cs Q := ⟨by rw [← tz_congr e]; exact h.t⟩
theorem Rey.head {w : World} {lo g cap r c : Nat} {hs cs : Nat → Nat} {P : Nat → Nat → Int} (h : Rey w lo g cap r c hs cs P) {i : Nat} (hi : i < r) : w.cell? ⟨g, i, none⟩ = some (.slice (some ⟨hs i, 0, none⟩) c (cs i)) := by
  obtain ⟨g9, n9, cap9, e9, -, _, _, _, hce9⟩ := h.t.head (by rw [tz_len]; omega)
  simp only [Value.slice.injEq, Option.some.injEq, Addr.mk.injEq, and_true] at e9
  obtain ⟨rfl, -, -⟩ := e9
  rw [hce9 i (by rw [tz_len]; exact hi), ryv_at hi]
theorem Rey.box {w : World} {lo g cap r c : Nat} {hs cs : Nat → Nat} {P : Nat → Nat → Int} (h : Rey w lo g cap r c hs cs P) {i j : Nat} (hi : i < r) (hj : j < c) :
    w.cell? ⟨hs i, j, none⟩ = some (.int .i64 (P i j)) ∧ w.frozen? ⟨hs i, j, none⟩ = false ∧ lo ≤ hs i ∧ hs i < w.heap.size := by
  have ho := h.t.rows i (by rw [tz_len]; exact hi)
  rw [ryv_at hi, tz_get hi] at ho
  obtain ⟨g8, cap8, e8, hg8, hgs8, hfr8, hce8⟩ := ho.head (by rw [tab_length]; omega)
  simp only [Value.slice.injEq, Option.some.injEq, Addr.mk.injEq, and_true] at e8
  obtain ⟨rfl, -, -⟩ := e8
  have := hce8 j (by rw [tab_length]; exact hj)
  rw [tab_getD _ _ _ hj] at this
  exact ⟨this, hfr8 j, hg8, hgs8⟩
theorem Rey.set {w W : World} {lo g cap r c : Nat} {hs cs : Nat → Nat} {P : Nat → Nat → Int} (h : Rey w lo g cap r c hs cs P) {i j : Nat} (hi : i < r) (x : Int) (hW : W.heap = w.heap) : Rey (W.setCell ⟨hs i, j, none⟩ (.int .i64 x)) lo g cap r c hs cs (updz P i j x) := by
  have h1 := (h.same (w' := W) (fun k _ _ => by rw [hW])).t
  have h2 := h1.storeBox (by rw [tz_len]; exact hi) (ryv_at hi) (by rw [tz_get hi, tab_length]) j x
  rw [tz_set hi] at h2
  exact ⟨h2⟩
theorem Rey.table {w : World} {lo g cap r c : Nat} {hs cs : Nat → Nat} {P : Nat → Nat → Int} (h : Rey w lo g cap r c hs cs P) (hc : c ≤ 1000) (hP : ∀ i, i < r → ∀ j, j < c → -9223372036854775808 ≤ P i j ∧ P i j ≤ 9223372036854775807) : Table w (some ⟨g, 0, none⟩) (tz r c P) := by
  obtain ⟨a, n, cap, hv, hT, hn⟩ := Tbl.table ⟨_, h.t⟩ (tz_wf hc hP)
  simp only [Value.slice.injEq] at hv
  rw [hv.1]
  exact hT
theorem Rey.other {w : World} {lo g cap r c : Nat} {hs cs : Nat → Nat} {P : Nat → Nat → Int} (h : Rey w lo g cap r c hs cs P) {b j : Nat} (hb : b < lo) (v : Value) : Rey (w.setCell ⟨b, j, none⟩ v) lo g cap r c hs cs P := h.same (fun k hk _ => heap_setCell_other _ _ _ _ (by show k ≠ b; omega))

def capOf : Value → Nat
  | .slice _ _ c => c
  | _ => 0
theorem Tbl.rey {w : World} {lo : Nat} {v : Value} {r c : Nat} {P : Nat → Nat → Int} (h : Tbl w lo v (tz r c P)) (hr : 1 ≤ r) (hc : 1 ≤ c) : ∃ g cap hs cs, v = .slice (some ⟨g, 0, none⟩) r cap ∧ Rey w lo g cap r c hs cs P := by
  obtain ⟨vs, h⟩ := h
  obtain ⟨g, n, cap, e, hn, _⟩ := h.head (by rw [tz_len]; omega)
  have en : n = r := by rw [hn.out, tz_len]
  subst en
  subst e
  have hl : vs.length = n := by rw [h.len, tz_len]
  refine ⟨g, cap, fun i => ((rowv vs i).ownBlock).getD 0, fun i => capOf (rowv vs i), rfl, ⟨?_⟩⟩
  have ev : vs = ryv n c (fun i => ((rowv vs i).ownBlock).getD 0) (fun i => capOf (rowv vs i)) := by
    refine List.ext_getElem (by simp [ryv, hl]) (fun i h1 h2 => ?_)
    have hi : i < n := by omega
    have ho := h.rows i (by rw [tz_len]; exact hi)
    rw [tz_get hi] at ho
    obtain ⟨q, cq, eq, _⟩ := ho.head (by rw [tab_length]; omega)
    rw [tab_length] at eq
    have e1 : vs[i] = rowv vs i := by have := rowv_get (vs := vs) (i := i) (by omega); rw [List.getElem?_eq_getElem h1] at this; exact Option.some.inj this
    simp only [ryv, List.getElem_map, List.getElem_range]
    rw [e1, eq]
    rfl
  rw [← ev]
  exact h

theorem Rey.tableX {w : World} {lo g cap r c : Nat} {hs cs : Nat → Nat} {P : Nat → Nat → Int} (h : Rey w lo g cap r c hs cs P) (hc : c ≤ 1000) (hP : ∀ i, i < r → ∀ j, j < c → -9223372036854775808 ≤ P i j ∧ P i j ≤ 9223372036854775807) : TableX w (some ⟨g, 0, none⟩) (tz r c P) := fun i hi => by
  obtain ⟨b, off, ai, ci, h1, h2, h3, h4, h5⟩ := h.table hc hP i hi
  refine ⟨b, off, ai, ci, h1, h2, h3, h4, h5, ?_⟩
  rw [tz_len] at hi
  have hh := h.head hi
  simp only [Option.some.injEq, Addr.mk.injEq, and_true] at h1
  obtain ⟨rfl, rfl⟩ := h1
  rw [Nat.zero_add, hh] at h3
  simp only [Option.some.injEq, Value.slice.injEq] at h3
  obtain ⟨-, -, rfl⟩ := h3
  have ho := h.t.rows i (by rw [tz_len]; exact hi)
  rw [ryv_at hi, tz_get hi] at ho
  rw [tz_get hi]
  rcases ho.2 with ⟨q, _⟩ | ⟨g8, cap8, cur, hv, _, _, q, _⟩
  · cases q
  · simp only [Value.slice.injEq] at hv
    omega

set_option maxHeartbeats 1000000 in
theorem RSizez_at (a : Option Addr) (n cap : Nat) (zs : List Int) (w : World) (s : Int) (hs : Shows w a zs) (hn : n = zs.length) (hl : zs.length ≤ 1000) (hz : ∀ z ∈ zs, -1 ≤ z ∧ z ≤ 1) (Hs : Hid (s = sum zs)) :
    Calls Try.prog 30 #[.slice a n cap] w fun e w' => e = .returned (.int .i64 s) ∧ w' = w := by
  subst hn
  have HZz : Hid (∀ z ∈ zs, -1 ≤ z ∧ z ≤ 1) := hz
  have HS : Hid (Shows w a zs) := hs
  clear hz hs
  go_enter Try.func30, Try.ntmps30
  go_wp2
  go_loopw [3, 4] (fun t i wr => ∃ (k : Nat) (x : Int), k ≤ zs.length ∧ i = .int .i64 k ∧ t = .int .i64 x ∧ Hid (x = sum (zs.take k)) ∧ -(k : Int) ≤ x ∧ x ≤ k ∧ wr = w) (fun _ i _ => zs.length - (intOf i).toNat)
  case atStart => exact ⟨0, 0, Nat.zero_le _, rfl, rfl, by simp [Hid, sum], by omega, by omega, rfl⟩
  case round =>
    obtain ⟨k, x, hk, rfl, rfl, HX, hx1, hx2, rfl⟩ := hrel
    by_cases hlt : k < zs.length
    · have hlt' : (k : Int) < (zs.length : Int) := by omega
      obtain ⟨b, off, z, rfl, HZ, hz1, hz2, hc⟩ := HS.out.elem hlt
      obtain ⟨hz3, hz4⟩ : -1 ≤ z ∧ z ≤ 1 := HZz.out z (by rw [HZ.out]; exact getD_mem hlt)
      go_wp2
      go_roundw
      case rel => exact ⟨k + 1, x + z, by omega, by go_num, by go_num, by show _ = _; rw [take_snoc zs k hlt, sum_append, ← HX.out, ← HZ.out]; simp [sum], by omega, by omega, trivial⟩
      case measure => simp [intOf]; omega
    · obtain rfl : k = zs.length := by omega
      obtain rfl : x = s := by rw [Hs.out, HX.out, List.take_length]
      go_wp2
      go_ret
      exact ⟨rfl, rfl⟩

/-- a row of a square that came in, with its room -/
theorem TableX.rowX {w : World} {a : Option Addr} {r c : Nat} {P : Nat → Nat → Int} (h : TableX w a (tz r c P)) {i : Nat} (hi : i < r) :
    ∃ b off ai ci, a = some ⟨b, off, none⟩ ∧ Hid (∀ W, Below w.heap.size w W → W.cell? ⟨b, off + i, none⟩ = some (.slice ai c ci)) ∧ Hid (∀ W, Below w.heap.size w W → Shows W ai (tab c (P i))) ∧ c ≤ ci := by
  obtain ⟨b, off, ai, ci, h1, h2, h3, h4, _, h6⟩ := h i (by rw [tz_len]; exact hi)
  rw [tz_get hi] at h3 h4 h6
  rw [tab_length] at h3 h6
  exact ⟨b, off, ai, ci, h1, fun W hW => (hW.cell (p := ⟨b, off + i, none⟩) h2).trans h3, fun W hW => h4.below hW, h6⟩

set_option maxHeartbeats 4000000 in
theorem Corners_at (a : Option Addr) (n m cap : Nat) (P : Nat → Nat → Int) (w : World) (hs : TableX w a (tz n n P)) (hm : m = n) (p : Sg n P) :
    Calls Try.prog 11 #[.slice a m cap] w fun e w' => ∃ v, e = .returned v ∧ Hid (Tbl w' w.heap.size v (tz (n + 1) (n + 1) (cor P))) ∧ Hid (Below w.heap.size w w') := by
  subst hm
  have HS : Hid (TableX w a (tz m m P)) := hs
  have HP : Hid (Sg m P) := p
  have HK : Hid (Kc m (cor P)) := p.kc
  have n1 := p.n1; have n7 := p.n7
  clear hs p
  obtain ⟨N, HN⟩ : ∃ N, Hid (N = m + 1) := ⟨_, rfl⟩
  rw [← HN.out]
  have hN8 : N ≤ 8 := by rw [HN.out]; omega
  go_enter Try.func11, Try.ntmps11
  go_wp2
  go_loopw [3, 4] (fun v q wr => ∃ i : Nat, i ≤ N ∧ q = .int .i64 i ∧ Hid (Tbl wr w.heap.size v ((tz N N (cor P)).take i)) ∧ Hid (Below w.heap.size w wr)) (fun _ q _ => N - (intOf q).toNat)
  case atStart => exact ⟨0, Nat.zero_le _, rfl, by rw [List.take_zero]; exact Tbl.nil _ _, Below.refl _ _⟩
  case round =>
    obtain ⟨i, hi, rfl, HT, HB⟩ := hrel
    by_cases hil : i < N
    · have hil' : (i : Int) ≤ (m : Int) := by have := HN.out; omega
      obtain ⟨vs, hV⟩ := HT.out
      have HV0 : Hid (TblV wr w.heap.size u3 vs ((tz N N (cor P)).take i)) := hV
      have HLv : Hid (vs.length = i) := by show _ = _; rw [hV.len, List.length_take, tz_len]; omega
      clear hV HT
      go_wp2
      obtain ⟨wj, HWj⟩ : ∃ wj, Hid (wj = wr) := ⟨_, rfl⟩
      rw [← HWj.out] at HB HV0
      have HB0 : Hid (Below wj.heap.size wj wr) := by rw [HWj.out]; exact Below.refl _ _
      go_loopw [5, 6] (fun v q wq => ∃ j : Nat, j ≤ N ∧ q = .int .i64 j ∧ Hid (Owns wq wj.heap.size v (tab j (cor P i))) ∧ Hid (Below wj.heap.size wj wq)) (fun _ q _ => N - (intOf q).toNat)
      case atStart => exact ⟨0, Nat.zero_le _, rfl, World.ownsRow_nil _ _ _ _, HB0⟩
      case round =>
        clear HB0 HWj
        obtain ⟨j, hj, rfl, HR, HBi⟩ := hrel
        by_cases hjl : j < N
        · have hjl' : (j : Int) ≤ (m : Int) := by have := HN.out; omega
          have hjm : j ≤ m := by omega
          have HBw : Hid (Below w.heap.size w wr) := HB.out.trans (HBi.out.mono HB.out.size)
          go_wp2
          go_loopw [7, 8] (fun v q wq => ∃ (k : Nat) (x : Int), k ≤ i ∧ q = .int .i64 k ∧ v = .int .i64 x ∧ Hid (x = rsm (fun a => rsm (P a) j) k) ∧ 0 ≤ x ∧ x ≤ k ∧ wq = wr) (fun _ q _ => i - (intOf q).toNat)
          case atStart => exact ⟨0, 0, Nat.zero_le _, rfl, rfl, rfl, by omega, by omega, rfl⟩
          case round =>
            obtain ⟨k, x, hk, rfl, rfl, HX, hx1, hx2, rfl⟩ := hrel
            by_cases hkl : k < i
            · have hkl' : (k : Int) < (i : Int) := by omega
              have hkm : k < m := by have := HN.out; omega
              have hkm' : (k : Int) < (m : Int) := by omega
              obtain ⟨b, off, ai, ci, rfl, HCi, HSi, hcap⟩ := HS.out.rowX (i := k) hkm
              have hci := HCi.out _ HBw.out
              have hsh := (HSi.out _ HBw.out).take j
              rw [tab_take hjm] at hsh
              have HSh : Hid (Shows wr ai (tab j (P k))) := hsh
              clear hsh
              have hjc : (j : Int) ≤ (ci : Int) := by omega
              obtain ⟨y, HY⟩ : ∃ y, Hid (y = rsm (P k) j) := ⟨_, rfl⟩
              have hy : y = 0 ∨ y = 1 := by rw [HY.out]; exact HP.out.row k hkm j hjm
              have hxb : 0 ≤ x + y ∧ x + y ≤ 8 := by have := HN.out; omega
              obtain ⟨hxb1, hxb2⟩ := hxb
              have HYb : Hid (0 ≤ y ∧ y ≤ 1) := by show _ ∧ _; omega
              have HHy : Hid (y = 0 ∨ y = 1) := hy
              clear hy
              have HCs : Hid (Calls Try.prog 30 #[.slice ai j ci] wr fun e w' => e = .returned (.int .i64 y) ∧ w' = wr) := RSizez_at _ _ _ (tab j (P k)) _ y HSh.out (by rw [tab_length]) (by rw [tab_length]; omega) (fun z hz => by
                obtain ⟨q, hq, rfl⟩ := tab_mem hz
                exact HP.out.place hkm (by omega)) (by show _ = _; rw [HY.out, sum_tab])
              obtain ⟨b1, o1, hai, -, -, -⟩ := (HSi.out _ HBw.out).boxZ (j := 0) (by omega)
              subst hai
              go_wp2_with (go_at_call 30; refine HCs.out.mono ?_; rintro e wr ⟨rfl, rfl⟩)
              go_roundw
              case rel => exact ⟨k + 1, x + y, by omega, by go_num, by go_num, by show _ = _; rw [HX.out, HY.out]; rfl, by omega, by have := HYb.out; omega, trivial⟩
              case measure => simp [intOf]; omega
            · obtain rfl : k = i := by omega
              go_wp2_with (at_builtin; refine append_int_at (N := wr.heap.size) (x := x) rfl _ _ rfl rfl rfl rfl HR.out ?c1 ?c2 ?_)
              case c1 => rw [tab_length]; omega
              case c2 => exact HBi.out.size
              intro v' w3 hO3 hb3 _
              have HO3 : Hid (Owns w3 wj.heap.size v' (tab (j + 1) (cor P k))) := by
                show Owns _ _ _ _
                rw [tab_succ]; rw [HX.out] at hO3; exact hO3
              have HB3 : Hid (Below wj.heap.size wj w3) := HBi.out.trans hb3
              clear hO3 hb3
              go_wp2
              go_roundw
              case rel => exact ⟨j + 1, by omega, by go_num, HO3, HB3⟩
              case measure => simp [intOf]; omega
        · obtain rfl : j = N := by omega
          have hjl' : ¬ (j : Int) ≤ (m : Int) := by have := HN.out; omega
          obtain ⟨au, cu, hsu⟩ := HR.out.shape
          rw [tab_length] at hsu
          subst hsu
          have HV2 : Hid (TblV wr w.heap.size u3 vs ((tz j j (cor P)).take i)) := HV0.out.same (fun q _ hq => HBi.out.block q hq)
          go_wp2_with (at_builtin; refine append_one elem_row (x := .slice au j cu) rfl _ _ rfl rfl rfl rfl HV2.out.own rfl ?c3 ?c4 ?c5 ?_)
          case c3 => have := HLv.out; unfold maxLen; omega
          case c4 => have := HLv.out; omega
          case c5 => exact Nat.le_trans HB.out.size HBi.out.size
          intro v' w3 hO3 hb3 hk3
          have hO3' : w3.ownsRow w.heap.size 29 1 v' (vs ++ [Value.slice au j cu]).length (vs ++ [Value.slice au j cu]) := by simpa using hO3
          have HT3 : Hid (Tbl w3 w.heap.size v' ((tz j j (cor P)).take (i + 1))) := by
            show Tbl _ _ _ _
            rw [tz_take hil]
            exact Tbl.push HV0.out HV2.out (Nat.le_refl _) HB.out.size HR.out hO3' hk3
          have HB3 : Hid (Below w.heap.size w w3) := (HB.out.trans (HBi.out.mono HB.out.size)).trans hb3
          clear hO3 hO3' hb3 hk3
          go_wp2
          go_roundw
          case rel => exact ⟨i + 1, by omega, by go_num, HT3, HB3⟩
          case measure => simp [intOf]; omega
    · obtain rfl : i = N := by omega
      have hil' : ¬ (i : Int) ≤ (m : Int) := by have := HN.out; omega
      have HE : Hid (Tbl wr w.heap.size u3 (tz i i (cor P))) := by have := HT.out; rw [tz_takeAll] at this; exact this
      go_wp2
      go_ret
      exact ⟨_, rfl, HE, HB⟩

end Go.Proofs.Ytfpbccahmipliaa
