/-
  The contracts of ferref.Edges, ferlaw.Same[string], ferlaw.table.
-/
import Derived.Test.YtniedfecmakhpaaDoorDPta
namespace Go.Proofs.YtniedfecmakhpaaDoor
open Go.RowKit

theorem Tryd.infoS : (Tryd.prog.info? 9).map (fun i => (i.zero, i.size, i.bytes)) = some (some (.string ⟨#[]⟩), 1, 16) := by kernel_rfl
theorem elem_str : Elem 23 9 (.string ⟨#[]⟩) 16 := ⟨Tryd.underlying23, Tryd.infoS, rfl⟩

/-- v owns texts -/
def STx (w : World) (lo : Nat) (v : Value) (n : Nat) (f : Nat → ByteArray) : Prop := w.ownsRow lo 9 1 v ((List.range n).map fun i => Value.string (f i)).length ((List.range n).map fun i => Value.string (f i))

theorem cat_bytes (A B : List UInt8) : (ByteArray.mk A.toArray) ++ (ByteArray.mk B.toArray) = ByteArray.mk (A ++ B).toArray := by
  apply ByteArray.ext
  simp

set_option maxHeartbeats 2000000 in
set_option maxRecDepth 100000 in
theorem Edges_at (a : Option Addr) (n cap r c h : Nat) (P : Nat → Nat → Nat) (w : World) (hs : Table w a (tb r c P)) (hn : n = r) (p : Pil r c h P) :
    Calls Tryd.prog 14 #[.slice a n cap, .int .i64 (h : Int)] w fun e w' => ∃ v, e = .returned v ∧ Hid (STx w' w.heap.size v h (ptx r c P)) ∧ Hid (Below w.heap.size w w') := by
  subst hn
  have HP : Hid (Pil n c h P) := p
  have HS : Hid (Table w a (tb n c P)) := hs
  have r1 := p.r1; have r8 := p.r8; have c1 := p.c1; have c8 := p.c8; have h1 := p.h1; have h8 := p.h8
  clear hs p
  have n0' : (0 : Int) < (n : Int) := by omega
  obtain ⟨b, off, ai0, ci0, rfl, HC0, -⟩ := HS.out.rowB (i := 0) (by omega)
  have HRp : Hid (∀ (m : Nat) (W : World), m ≤ 8 → Calls Tryd.prog 28 #[.string ⟨#[82]⟩, .int .i64 (m : Int)] W fun e w' => e = .returned (.string ⟨(List.replicate m 82).toArray⟩) ∧ Hid (Below W.heap.size W w')) := fun n W hn => by
    have h := Go.Proofs.Tryd.strings_Repeat ⟨#[82]⟩ n W (by omega) (by show 1 * n ≤ _; omega)
    rw [show Lib.repeatL (ByteArray.mk #[82]).data.toList n = List.replicate n 82 from repeat_one 82 n] at h
    exact h
  go_enter Tryd.func14, Tryd.ntmps14
  go_wp2
  go_loopw [5, 6] (fun v q wr => ∃ k : Nat, k ≤ h ∧ q = .int .i64 ((k : Int) + 1) ∧ Hid (STx wr w.heap.size v k (ptx n c P)) ∧ Hid (Below w.heap.size w wr)) (fun _ q _ => h + 1 - (intOf q).toNat)
  case atStart => exact ⟨0, Nat.zero_le _, rfl, World.ownsRow_nil _ _ _ _, Below.refl _ _⟩
  case round =>
    obtain ⟨k, hk, rfl, HT, HB⟩ := hrel
    by_cases hkl : k < h
    · have hkl' : (k : Int) + 1 ≤ (h : Int) := by omega
      go_wp2_with fail
      obtain ⟨wk, HWk⟩ : ∃ wk, Hid (wk = wr) := ⟨_, rfl⟩
      rw [← HWk.out] at HB HT
      have HB0 : Hid (Below wk.heap.size wk wr) := by rw [HWk.out]; exact Below.refl _ _
      clear HWk
      go_loopw [7, 8, 9] (fun sv gv iv wq => ∃ (d g : Nat) (j : Int) (s : ByteArray), d ≤ n ∧ iv = .int .i64 j ∧ gv = .int .i64 (g : Int) ∧ sv = .string s ∧ Hid (s = ⟨(et (lvl c P k) n d).toArray⟩) ∧ Hid (j = (n : Int) - 1 - (d : Int)) ∧ Hid (g = gn (lvl c P k) n d) ∧ Hid (Below wk.heap.size wk wq)) (fun _ _ iv _ => ((intOf iv) + 1).toNat)
      case atStart => exact ⟨0, 0, (n : Int) - 1, _, Nat.zero_le _, by first | rfl | go_num, rfl, rfl, rfl, by show _ = _; omega, rfl, HB0⟩
      case round =>
        clear HB0
        obtain ⟨d, g, j, s, hd, rfl, rfl, rfl, HSs, HJ, HG, HBq⟩ := hrel
        by_cases hdl : d < n
        · obtain ⟨i, hi⟩ : ∃ i : Nat, j = (i : Int) := ⟨n - 1 - d, by have := HJ.out; omega⟩
          subst hi
          have HIk : Hid (i = n - 1 - d) := by show _ = _; have := HJ.out; omega
          have hin : i < n := by have := HIk.out; omega
          have hin' : (i : Int) < (n : Int) := by omega
          have hge : (i : Int) ≥ 0 := by omega
          obtain ⟨b9, off9, ai, ci, e9, HCi, HSi⟩ := HS.out.rowB (i := i) hin
          simp only [Option.some.injEq, Addr.mk.injEq, and_true] at e9
          obtain ⟨rfl, rfl⟩ := e9
          have HBw : Hid (Below w.heap.size w wr) := HB.out.trans (HBq.out.mono HB.out.size)
          have hci := HCi.out _ HBw.out
          go_wp2
          obtain ⟨wi, HWi⟩ : ∃ wi, Hid (wi = wr) := ⟨_, rfl⟩
          rw [← HWi.out] at hci HBw HBq
          go_loopw [10, 11] (fun nv qv wq => ∃ q m : Nat, q ≤ c ∧ m ≤ q ∧ qv = .int .i64 q ∧ nv = .int .i64 m ∧ Hid (m = cn q (fun b => k + 1 ≤ P i b)) ∧ wi = wq) (fun _ qv _ => c - (intOf qv).toNat)
          case atStart => exact ⟨0, 0, Nat.zero_le _, Nat.le_refl _, rfl, rfl, rfl, HWi.out⟩
          case round =>
            clear HWi
            obtain ⟨q, m, hq, hmq, rfl, rfl, HM, rfl⟩ := hrel
            by_cases hql : q < c
            · have hql' : (q : Int) < (c : Int) := by omega
              obtain ⟨b1, o1, hai, hcx⟩ := (HSi.out _ HBw.out).boxP hql
              subst hai
              obtain ⟨x, HXx⟩ : ∃ x, Hid (x = P i q) := ⟨_, rfl⟩
              rw [← HXx.out] at hcx
              by_cases hx : k + 1 ≤ x
              · have hx' : (x : Int) ≥ (k : Int) + 1 := by omega
                have HM3 : Hid (m + 1 = cn (q + 1) (fun b => k + 1 ≤ P i b)) := by show _ = _; rw [cn_succ, ind_pos (by rw [← HXx.out]; exact hx), HM.out]
                go_wp2
                go_roundw
                case rel => exact ⟨q + 1, m + 1, by omega, by omega, by go_num, by go_num, HM3, trivial⟩
                case measure => simp [intOf]; omega
              · have hx' : ¬ (x : Int) ≥ (k : Int) + 1 := by omega
                have HM3 : Hid (m = cn (q + 1) (fun b => k + 1 ≤ P i b)) := by show _ = _; rw [cn_succ, ind_neg (by rw [← HXx.out]; exact hx), Nat.add_zero, HM.out]
                go_wp2
                go_roundw
                case rel => exact ⟨q + 1, m, by omega, by omega, by go_num, rfl, HM3, trivial⟩
                case measure => simp [intOf]; omega
            · obtain rfl : q = c := by omega
              have HMl : Hid (m = lvl q P k i) := HM
              have hgm : g ≤ m := by rw [HMl.out, HG.out, HIk.out]; exact gn_le (lvl_down HP.out k) d hdl
              obtain ⟨y, HY⟩ : ∃ y, Hid (y = m - g) := ⟨_, rfl⟩
              have hun : (m : Int) - (g : Int) = (y : Int) := by have := HY.out; omega
              have hy8 : y ≤ 8 := by have := HY.out; omega
              obtain ⟨t, HTt⟩ : ∃ t : ByteArray, Hid (t = ⟨(List.replicate y 82).toArray⟩) := ⟨_, rfl⟩
              have HF := hid_w (HRp.out y wi hy8)
              rw [← HTt.out] at HF
              have hs1 : s.size ≤ 1000 := by
                rw [HSs.out]; show (et (lvl q P k) n d).toArray.size ≤ _
                rw [List.size_toArray]
                have := et_small (bx := lvl q P k) (r := n) (fun i _ => Nat.le_trans (cn_le _ _) (by omega)) d hd
                omega
              have ht1 : t.size ≤ 8 := by rw [HTt.out]; show (List.replicate y 82).toArray.size ≤ _; rw [List.size_toArray, List.length_replicate]; exact hy8
              have h85 : (ByteArray.mk #[85]).size = 1 := rfl
              have hts : (t ++ ByteArray.mk #[85]).size ≤ 9 := by rw [ByteArray.size_append, h85]; omega
              go_wp2_with fail
              refine HF.out.mono ?_
              rintro e w1 ⟨rfl, HB1⟩
              have HB2 : Hid (Below wk.heap.size wk w1) := HBq.out.trans (HB1.out.mono HBq.out.size)
              have HSn : Hid (s ++ (t ++ ⟨#[85]⟩) = ⟨(et (lvl q P k) n (d + 1)).toArray⟩) := by
                show _ = _
                rw [HSs.out, HTt.out, show (⟨#[85]⟩ : ByteArray) = ⟨([85] : List UInt8).toArray⟩ from rfl, cat_bytes, cat_bytes, et, HY.out, HG.out, HMl.out, HIk.out, List.append_assoc]
              have HG3 : Hid (m = gn (lvl q P k) n (d + 1)) := by show _ = lvl q P k (n - 1 - d); rw [HMl.out, HIk.out]
              clear HF
              go_wp2
              go_roundw
              case rel => exact ⟨d + 1, m, (i : Int) - 1, _, by omega, by first | rfl | go_num, rfl, rfl, HSn, by show _ = _; have := HIk.out; omega, HG3, HB2⟩
              case measure => first | (simp [intOf]; done) | (simp [intOf]; omega)
        · obtain rfl : d = n := by omega
          have hge : ¬ (j ≥ 0) := by have := HJ.out; omega
          have HBw : Hid (Below w.heap.size w wr) := HB.out.trans (HBq.out.mono HB.out.size)
          have hc0 := HC0.out _ HBw.out
          rw [Nat.add_zero] at hc0
          have hgc : g ≤ c := by rw [HG.out]; exact gn_c (fun i _ => cn_le _ _) d (Nat.le_refl _)
          obtain ⟨y, HY⟩ : ∃ y, Hid (y = c - g) := ⟨_, rfl⟩
          have hun : (c : Int) - (g : Int) = (y : Int) := by have := HY.out; omega
          have hy8 : y ≤ 8 := by have := HY.out; omega
          obtain ⟨t, HTt⟩ : ∃ t : ByteArray, Hid (t = ⟨(List.replicate y 82).toArray⟩) := ⟨_, rfl⟩
          have HF := hid_w (HRp.out y wr hy8)
          rw [← HTt.out] at HF
          have hs1 : s.size ≤ 1000 := by
            rw [HSs.out]; show (et (lvl c P k) d d).toArray.size ≤ _
            rw [List.size_toArray]
            have := et_small (bx := lvl c P k) (r := d) (fun i _ => Nat.le_trans (cn_le _ _) (by omega)) d (Nat.le_refl _)
            omega
          have ht1 : t.size ≤ 8 := by rw [HTt.out]; show (List.replicate y 82).toArray.size ≤ _; rw [List.size_toArray, List.length_replicate]; exact hy8
          go_wp2_with fail
          refine HF.out.mono ?_
          rintro e w1 ⟨rfl, HB1⟩
          have HB2 : Hid (Below wk.heap.size wk w1) := HBq.out.trans (HB1.out.mono HBq.out.size)
          have HT1 : Hid (STx w1 w.heap.size u5 k (ptx d c P)) := ownsRow_blocks HT.out (fun q e => HB2.out.block q (HT.out.lt q e).2)
          clear HF hc0
          go_wp2_with (at_builtin; refine append_one elem_str (x := .string (s ++ t)) rfl _ _ rfl rfl rfl rfl HT1.out rfl ?c3 ?c4 ?c5 ?_)
          case c3 => simp; unfold maxLen; omega
          case c4 => simp; omega
          case c5 => exact Nat.le_trans HB.out.size HB2.out.size
          intro v' w3 hO3 hb3 _
          have HT3 : Hid (STx w3 w.heap.size v' (k + 1) (ptx d c P)) := by
            show World.ownsRow _ _ _ _ _ _ _
            have e : (List.range (k + 1)).map (fun i => Value.string (ptx d c P i)) = (List.range k).map (fun i => Value.string (ptx d c P i)) ++ [.string (s ++ t)] := by
              rw [List.range_succ, List.map_append]
              congr 1
              simp only [List.map_cons, List.map_nil]
              rw [HSs.out, HTt.out, cat_bytes, HY.out, HG.out]
              rfl
            rw [e]; simpa using hO3
          have HB3 : Hid (Below w.heap.size w w3) := (HB.out.trans (HB2.out.mono HB.out.size)).trans hb3
          clear hO3 hb3
          go_wp2
          go_roundw
          case rel => exact ⟨k + 1, by omega, by go_num, HT3, HB3⟩
          case measure => simp [intOf]; omega
    · obtain rfl : k = h := by omega
      have hno : ¬ ((k : Int) + 1 ≤ (k : Int)) := by omega
      go_wp2
      go_ret
      exact ⟨_, rfl, HT, HB⟩

end Go.Proofs.YtniedfecmakhpaaDoor
