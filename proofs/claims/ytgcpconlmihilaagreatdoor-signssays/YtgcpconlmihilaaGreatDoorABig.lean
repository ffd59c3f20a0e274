/-
  The contract of ferrersbig's Text at base 10, of a number that is not below 0.
  Numbers behind pointers; the contracts of ferrersbig's give, sum (of two that are not below 0), Add, SetInt64, String.
-/
import Derived.Test.YtgcpconlmihilaaGreatDoorATwn
import Derived.Laws.IdiomStrings
namespace Go.Proofs.YtgcpconlmihilaaGreatDoor
open Go.RowKit

def slen : Value → Nat
  | .slice _ n _ => n
  | _ => 0
theorem OwnsB.shape {w : World} {base : Nat} {v : Value} {us : List Nat} (h : OwnsB w base v us) : ∃ a cap, v = .slice a us.length cap := by
  rcases h.2 with ⟨h2, h3⟩ | ⟨g, cap, cur, hv, _⟩
  · exact ⟨none, 0, by rw [h2, h3]⟩
  · exact ⟨_, cap, hv⟩
theorem OwnsB.lt {w : World} {base : Nat} {v : Value} {us : List Nat} (h : OwnsB w base v us) {g : Nat} (hg : v.ownBlock = some g) : base ≤ g ∧ g < w.heap.size := World.ownsRow.lt h g hg
theorem OwnsB.below {w w' : World} {base : Nat} {v : Value} {us : List Nat} (h : OwnsB w base v us) (hb : Below w.heap.size w w') : OwnsB w' base v us := ownsRow_blocks h (fun k e => hb.block k (h.lt e).2)
theorem OwnsB.head {w : World} {base : Nat} {v : Value} {us : List Nat} (h : OwnsB w base v us) (h0 : 0 < us.length) :
    ∃ g cap, v = .slice (some ⟨g, 0, none⟩) us.length cap ∧ base ≤ g ∧ g < w.heap.size := by
  rcases h.2 with ⟨h2, h3⟩ | ⟨g, cap, cur, hv, hg, hh, _⟩
  · omega
  · exact ⟨g, cap, hv, hg, (Array.getElem?_eq_some_iff.1 hh).1⟩
theorem OwnsB.at {w : World} {base g cap n : Nat} {us : List Nat} (h : OwnsB w base (.slice (some ⟨g, 0, none⟩) n cap) us) (hn : n = us.length) {j : Nat} (hj : j < us.length) :
    w.frozen? ⟨g, j, none⟩ = false ∧ w.cell? ⟨g, j, none⟩ = some (bv (us.getD j 0)) := by
  subst hn
  unfold OwnsB at h
  refine ⟨World.ownsRow.frozenAt h j, ?_⟩
  rw [World.ownsRow.cellAt h j (by omega)]
  simp [List.getD, List.getElem?_eq_getElem hj]
theorem OwnsB.store {w : World} {base g cap n : Nat} {us : List Nat} (h : OwnsB w base (.slice (some ⟨g, 0, none⟩) n cap) us) (hn : n = us.length) (j x : Nat) :
    OwnsB (w.setCell ⟨g, j, none⟩ (bv x)) base (.slice (some ⟨g, 0, none⟩) n cap) (us.set j x) := by
  subst hn
  have h := (World.ownsRow.stored (h : w.ownsRow base 5 1 _ _ _) j (bv x)).1
  unfold OwnsB
  simp only [List.length_set, List.map_set]
  exact h

/-- The list with its first i and its last i elements turned round. -/
def revL (bs : List Nat) (i : Nat) : List Nat := (List.range bs.length).map fun t => if t < i ∨ bs.length ≤ t + i then bs.getD (bs.length - 1 - t) 0 else bs.getD t 0
theorem revL_len (bs : List Nat) (i : Nat) : (revL bs i).length = bs.length := by simp [revL]
theorem revL_get {bs : List Nat} {i t : Nat} (h : t < bs.length) : (revL bs i).getD t 0 = if t < i ∨ bs.length ≤ t + i then bs.getD (bs.length - 1 - t) 0 else bs.getD t 0 := by simp [revL, List.getD, h]
theorem ext_nat {l m : List Nat} (h : l.length = m.length) (he : ∀ t, t < l.length → l.getD t 0 = m.getD t 0) : l = m := by
  apply List.ext_getElem h
  intro t h1 h2
  have := he t h1
  simpa [List.getD, List.getElem?_eq_getElem h1, List.getElem?_eq_getElem h2] using this
theorem revL_zero (bs : List Nat) : revL bs 0 = bs := by
  refine ext_nat (revL_len _ _) (fun t ht => ?_)
  rw [revL_len] at ht
  rw [revL_get ht, if_neg (by omega)]
theorem revL_end {bs : List Nat} {i : Nat} (h : bs.length ≤ 2 * i + 1) : revL bs i = bs.reverse := by
  refine ext_nat (by rw [revL_len, List.length_reverse]) (fun t ht => ?_)
  rw [revL_len] at ht
  have e : bs.reverse.getD t 0 = bs.getD (bs.length - 1 - t) 0 := by
    simp [List.getD, List.getElem?_reverse ht]
  rw [revL_get ht, e]
  by_cases h2 : t < i ∨ bs.length ≤ t + i
  · rw [if_pos h2]
  · rw [if_neg h2]
    congr 1
    omega
theorem getD_set_nat (l : List Nat) (i x t : Nat) (ht : t < l.length) : (l.set i x).getD t 0 = if t = i then x else l.getD t 0 := by
  simp only [List.getD, List.getElem?_set]
  by_cases h : i = t
  · subst h; simp [ht]
  · rw [if_neg h, if_neg (fun e => h e.symm)]
theorem revL_step {bs : List Nat} {i j : Nat} (h : i < j) (hj : j + i + 1 = bs.length) : ((revL bs i).set i ((revL bs i).getD j 0)).set j ((revL bs i).getD i 0) = revL bs (i + 1) := by
  refine ext_nat (by simp [revL_len]) (fun t ht => ?_)
  rw [List.length_set, List.length_set, revL_len] at ht
  rw [getD_set_nat _ _ _ _ (by rw [List.length_set, revL_len]; exact ht), getD_set_nat _ _ _ _ (by rw [revL_len]; exact ht), revL_get ht, revL_get ht, revL_get (show i < bs.length by omega), revL_get (show j < bs.length by omega)]
  by_cases e1 : t = j
  · subst e1
    rw [if_pos rfl, if_neg (by omega), if_pos (by omega)]
    congr 1; omega
  · rw [if_neg e1]
    by_cases e2 : t = i
    · subst e2
      rw [if_pos rfl, if_neg (by omega), if_pos (by omega)]
      congr 1; omega
    · rw [if_neg e2]
      by_cases e3 : t < i ∨ bs.length ≤ t + i
      · rw [if_pos e3, if_pos (by omega)]
      · rw [if_neg e3, if_neg (by omega)]

set_option maxHeartbeats 8000000 in
set_option maxRecDepth 100000 in
theorem Text_pos (p : Nat) (a : Option Addr) (ca n : Nat) (xs : List Nat) (x : Nat) (w : World) (hpb : p < w.heap.size) (hp0 : w.cell? ⟨p, 0, none⟩ = some (.bool false)) (hp1 : w.cell? ⟨p, 1, none⟩ = some (.slice a n ca)) (ha : ShowsW w a ca xs) (hn : n = xs.length) (h0 : 0 < n) (hx : Num xs x) (hdl : (dig x).length ≤ 1000000) :
    Calls Tryz.prog 66 #[.pointer (some ⟨p, 0, none⟩), .int .i64 10] w fun e w' => e = .returned (.string ⟨(dig x).toArray⟩) ∧ Below w.heap.size w w' := by
  have HX : Hid (n = xs.length) := hn
  have HSx : Hid (ShowsW w a ca xs) := ha
  have HNx : Hid (Num xs x) := hx
  have hn6 : n ≤ 1000000 := by rw [hn]; exact ha.few
  have HP : Hid (∀ w', Below w.heap.size w w' → w'.cell? ⟨p, 0, none⟩ = some (.bool false)) := fun w' hb => (hb.cell (p := ⟨p, 0, none⟩) hpb).trans hp0
  have g0 : ((n : Int) == 0) = false := by simp; omega
  clear hn ha hx hp0
  go_enter Tryz.func66, Tryz.ntmps66
  go_wp2_with fail
  refine (twin_at _ _ _ _ _ _ HSx.out HX.out h0 HNx.out).mono ?_
  rintro e w1 ⟨v, rfl, hO1, hb1⟩
  have HO1 : Hid (OwnsN w1 w.heap.size v xs x) := hO1
  have HB1 : Hid (Below w.heap.size w w1) := hb1
  clear hO1 hb1 hp1
  go_wp2
  go_loopw [5, 6] (fun b v wr => ∃ (bs us : List Nat) (y : Nat), Hid (OwnsB wr w.heap.size b bs) ∧ Hid (OwnsN wr w.heap.size v us y) ∧ Hid (dig x = dig y ++ bs.reverse.map UInt8.ofNat) ∧ Hid (∀ z ∈ bs, z < 256) ∧ Hid (us.length ≤ n) ∧ Hid (Below w.heap.size w wr)) (fun b _ _ => (dig x).length - slen b)
  case atStart => exact ⟨[], xs, x, World.ownsRow_nil _ _ _ _, HO1, by simp [Hid], fun _ h => by simp at h, by show _ ≤ _; rw [HX.out]; exact Nat.le_refl _, HB1⟩
  case round =>
    obtain ⟨bs, us, y, HOb, HOa, HE, HZ, HUl, HB⟩ := hrel
    obtain ⟨ab, cb, hbs⟩ := HOb.out.shape
    subst hbs
    obtain ⟨aa, caa, hva, hSa⟩ := HOa.out.shows (by have := HUl.out; omega)
    subst hva
    by_cases hy : 0 < y
    · obtain ⟨q, HQ⟩ : ∃ q, Hid (q = us.length) := ⟨_, rfl⟩
      rw [← HQ.out]
      have hq0 : 0 < q := by
        rw [HQ.out]
        rcases Nat.eq_zero_or_pos us.length with e | e
        · have := (num_zero HOa.out.num).1 (List.eq_nil_of_length_eq_zero e); omega
        · exact e
      have g1 : decide ((q : Int) > 0) = true := decide_eq_true (by omega)
      have HNy : Hid (Num us y) := HOa.out.num
      have HSa : Hid (ShowsW wr aa caa us) := hSa
      obtain ⟨N, HN⟩ : ∃ N, Hid (N = bs.length) := ⟨_, rfl⟩
      rw [← HN.out] at HOb
      rw [← HN.out]
      have HLd : Hid (N < (dig x).length) := by
        show _ < _
        rw [HE.out, List.length_append, List.length_map, List.length_reverse, ← HN.out]
        have := dig_pos hy; omega
      clear hSa
      go_wp2_with fail
      refine (small_at _ _ _ 10 us y _ HSa.out HQ.out hq0 HNy.out (by omega) (by omega)).mono ?_
      rintro e w2 ⟨v2, us2, rfl, hO2, hl2, hb2⟩
      obtain ⟨r, hr⟩ : ∃ r, r = y % 10 := ⟨_, rfl⟩
      have hr10 : r < 10 := by omega
      obtain ⟨z, hz⟩ : ∃ z, z = 48 + r := ⟨_, rfl⟩
      have hz1 : (48 : Int) + (r : Int) = (z : Int) := by omega
      have hzb : z < 256 := by omega
      have hr10' : (r : Int) < 10 := by omega
      have HEs : Hid (dig x = dig (y / 10) ++ (bs ++ [z]).reverse.map UInt8.ofNat) := by
        show _ = _
        rw [HE.out, dig_step hy, ← hr, ← hz]
        simp
      have HO2 : Hid (OwnsN w2 wr.heap.size v2 us2 (y / 10)) := hO2
      have HL2 : Hid (us2.length ≤ n) := by show _ ≤ _; have := HUl.out; rw [← HQ.out] at this; omega
      have HB2 : Hid (Below wr.heap.size wr w2) := hb2
      have HOb2 : Hid (w2.ownsRow w.heap.size 5 1 (.slice ab N cb) (bs.map bv).length (bs.map bv)) := by
        have := HOb.out.below hb2
        unfold OwnsB at this
        rw [List.length_map]; exact this
      have HBl : Hid ((bs.map bv).length ≤ 1000000) := by show _ ≤ _; rw [List.length_map, ← HN.out]; have := HLd.out; omega
      rw [← hr]
      obtain ⟨av, nv, cv, hv2⟩ : ∃ av nv cv, v2 = .slice av nv cv := by
        obtain ⟨a9, c9, e9, _⟩ := hO2.shows (by have := HL2.out; omega)
        exact ⟨_, _, _, e9⟩
      subst hv2
      clear hO2 hl2 hb2 hr hz
      go_wp2_with (at_builtin; refine append_one elem_byte (x := .int .u8 z) rfl _ _ rfl rfl rfl rfl HOb2.out rfl ?c1 ?c2 ?c3 ?_)
      case c1 => have := HBl.out; unfold maxLen; omega
      case c2 => have := HBl.out; omega
      case c3 => have := HB.out.size; have := HB2.out.size; omega
      intro v' w3 hO' hb' hk'
      have HOb3 : Hid (OwnsB w3 w.heap.size v' (bs ++ [z])) := by show OwnsB _ _ _ _; unfold OwnsB; simpa [bv] using hO'
      have HOa3 : Hid (OwnsN w3 w.heap.size (.slice av nv cv) us2 (y / 10)) := by
        have h5 := HO2.out
        refine (OwnsN.mono ⟨h5.own.blocks (fun k e => hk'.block k (h5.own.lt e).2 (fun e2 => ?_)), h5.num, h5.room⟩ HB.out.size)
        have h6 := (h5.own.lt e).1
        have h7 := (HOb.out.lt e2).2
        omega
      have HB3 : Hid (Below w.heap.size w w3) := (HB.out.trans (HB2.out.mono HB.out.size)).trans hb'
      have HZ3 : Hid (∀ d ∈ bs ++ [z], d < 256) := fun d hd => by
        rw [List.mem_append, List.mem_singleton] at hd
        rcases hd with hd | rfl
        · exact HZ.out d hd
        · exact hzb
      obtain ⟨a8, c8, hv8⟩ := HOb3.out.shape
      rw [List.length_append, List.length_singleton, ← HN.out] at hv8
      subst hv8
      clear hO' hb' hk'
      go_wp2
      go_roundw
      case rel => exact ⟨bs ++ [z], us2, y / 10, HOb3, HOa3, HEs, HZ3, HL2, HB3⟩
      case measure => have := HLd.out; simp [slen]; omega
    · obtain rfl : y = 0 := by omega
      obtain rfl : us = [] := (num_zero HOa.out.num).2 rfl
      have HE2 : Hid (dig x = bs.reverse.map UInt8.ofNat) := by have := HE.out; simpa [Hid, dig] using this
      have hx0 : 0 < x := by
        rcases Nat.eq_zero_or_pos x with e | e
        · have := (num_zero HNx.out).2 e; have := HX.out; rw [‹xs = []›] at this; simp at this; omega
        · exact e
      have HLe : Hid ((dig x).length = bs.length) := by show _ = _; rw [HE2.out]; simp
      obtain ⟨g, cb', hb', hgl, hgw⟩ := HOb.out.head (by rw [← HLe.out]; exact dig_pos hx0)
      simp only [Value.slice.injEq] at hb'
      obtain ⟨rfl, -, rfl⟩ := hb'
      obtain ⟨N, HN⟩ : ∃ N, Hid (N = bs.length) := ⟨_, rfl⟩
      rw [← HN.out] at HOb
      rw [← HN.out]
      have hN0 : 0 < N := by rw [HN.out, ← HLe.out]; exact dig_pos hx0
      have hN6 : N ≤ 1000000 := by rw [HN.out, ← HLe.out]; exact hdl
      obtain ⟨J, hJ⟩ : ∃ J, J = N - 1 := ⟨_, rfl⟩
      have hN1 : (N : Int) - 1 = (J : Int) := by omega
      have HJ : Hid (J + 0 + 1 = N) := by show _ = _; omega
      have hneg := HP.out _ HB.out
      have HO2 : Hid (OwnsB wr w.heap.size (.slice (some ⟨g, 0, none⟩) N cb) (revL bs 0)) := by show OwnsB _ _ _ _; rw [revL_zero]; exact HOb.out
      clear hSa hJ hy hx0
      go_wp2
      go_loopw [8, 9] (fun i j wr => ∃ (k J : Nat), i = .int .i64 k ∧ j = .int .i64 J ∧ Hid (J + k + 1 = N) ∧ Hid (k ≤ J + 1) ∧ Hid (OwnsB wr w.heap.size (.slice (some ⟨g, 0, none⟩) N cb) (revL bs k)) ∧ Hid (Below w.heap.size w wr)) (fun i _ _ => N - (intOf i).toNat)
      case atStart => exact ⟨0, J, rfl, rfl, HJ, by show _ ≤ _; omega, HO2, HB⟩
      case round =>
        obtain ⟨k, K, rfl, rfl, HK, HKk, HO, HBk⟩ := hrel
        have HRl : Hid (N = (revL bs k).length) := by show _ = _; rw [revL_len]; exact HN.out
        by_cases hkj : k < K
        · have hkj' : (k : Int) < (K : Int) := by omega
          have hkN : (k : Int) < (N : Int) := by have := HK.out; omega
          have hKN : (K : Int) < (N : Int) := by have := HK.out; omega
          obtain ⟨hfk, hck⟩ := HO.out.at HRl.out (j := k) (by rw [← HRl.out]; omega)
          obtain ⟨hfK, hcK⟩ := HO.out.at HRl.out (j := K) (by rw [← HRl.out]; omega)
          obtain ⟨xk, HXk⟩ : ∃ xk, Hid (xk = (revL bs k).getD k 0) := ⟨_, rfl⟩
          obtain ⟨xK, HXK⟩ : ∃ xK, Hid (xK = (revL bs k).getD K 0) := ⟨_, rfl⟩
          rw [← HXk.out] at hck
          rw [← HXK.out] at hcK
          have h1 := HO.out.store HRl.out k xK
          obtain ⟨hfK2, hcK2⟩ := h1.at (by rw [List.length_set]; exact HRl.out) (j := K) (by rw [List.length_set, ← HRl.out]; omega)
          have h2 := h1.store (by rw [List.length_set]; exact HRl.out) K xk
          have HO3 : Hid (OwnsB ((wr.setCell ⟨g, k, none⟩ (.int .u8 (xK : Int))).setCell ⟨g, K, none⟩ (.int .u8 (xk : Int))) w.heap.size (.slice (some ⟨g, 0, none⟩) N cb) (revL bs (k + 1))) := by
            rw [HXk.out, HXK.out, revL_step hkj (by rw [← HN.out]; exact HK.out), ← HXk.out, ← HXK.out] at h2
            exact h2
          have HB3 : Hid (Below w.heap.size w ((wr.setCell ⟨g, k, none⟩ (.int .u8 (xK : Int))).setCell ⟨g, K, none⟩ (.int .u8 (xk : Int)))) := (HBk.out.setCell (p := ⟨g, k, none⟩) hgl _).setCell (p := ⟨g, K, none⟩) hgl _
          unfold bv at hck hcK hfK2 hcK2
          obtain ⟨M, hM⟩ : ∃ M, M = K - 1 := ⟨_, rfl⟩
          have hM1 : (K : Int) - 1 = (M : Int) := by omega
          have HM2 : Hid (M + (k + 1) + 1 = N) := by have := HK.out; show _ = _; omega
          have HM3 : Hid (k + 1 ≤ M + 1) := by show _ ≤ _; omega
          have hkN2 : k < N := by omega
          clear h1 h2 hM
          go_wp2
          go_roundw
          case rel => exact ⟨k + 1, M, by go_num, rfl, HM2, HM3, HO3, HB3⟩
          case measure => simp [intOf]; omega
        · have hkj' : ¬ (k : Int) < (K : Int) := by omega
          have HRv : Hid (revL bs k = bs.reverse) := revL_end (by rw [← HN.out]; have := HK.out; omega)
          have HDl : Hid ((dig x).length = N) := by rw [HN.out]; exact HLe.out
          have hrun := run_convert_bytes_back (P := Tryz.prog) wr 109 9 5 ⟨g, 0, none⟩ cb (dig x) Tryz.underlying109 Tryz.underlying5 Tryz.underlying9 (fun j hj => by
            have hj2 : j < (revL bs k).length := by rw [← HRl.out, ← HDl.out]; exact hj
            rw [Addr.add_lit, Nat.zero_add, (HO.out.at HRl.out hj2).2, HRv.out]
            have hj3 : j < bs.reverse.length := by rw [← HRv.out]; exact hj2
            have hz := HZ.out (bs.reverse[j]) (List.mem_reverse.1 (List.getElem_mem hj3))
            have e5 : (dig x)[j] = UInt8.ofNat bs.reverse[j] := by
              have := HE2.out
              simp only [this, List.getElem_map]
            rw [e5]
            have e6 : (UInt8.ofNat bs.reverse[j]).toNat = bs.reverse[j] := by
              rw [UInt8.toNat_ofNat']; exact Nat.mod_eq_of_lt (by simpa using hz)
            rw [e6]
            unfold bv
            simp only [List.getD, List.getElem?_eq_getElem hj3, Option.getD_some])
          rw [HDl.out] at hrun
          go_wp2
          go_ret
          exact ⟨rfl, HBk.out⟩

end Go.Proofs.YtgcpconlmihilaaGreatDoor

namespace Go.Proofs.YtgcpconlmihilaaGreatDoor
open Go.RowKit

theorem num_len {us : List Nat} {x k : Nat} (h : Num us x) (hx : x < 4294967296 ^ k) : us.length ≤ k := by
  rcases Nat.lt_or_ge k us.length with hl | hl
  · exfalso
    have hne : us ≠ [] := fun e => by rw [e] at hl; simp at hl
    have e1 := List.dropLast_concat_getLast hne
    have hu : us.getLast hne ≠ 0 := fun e => by
      rw [e] at e1
      have h2 := norm_zero us.dropLast
      rw [e1, h.nm] at h2
      have := norm_len us.dropLast
      rw [← h2, List.length_dropLast] at this
      omega
    have h3 := val_snoc us.dropLast (us.getLast hne)
    rw [e1, h.eq, List.length_dropLast] at h3
    have h4 : 4294967296 ^ k ≤ 4294967296 ^ (us.length - 1) := Nat.pow_le_pow_right (by omega) (by omega)
    have h5 : 4294967296 ^ (us.length - 1) * 1 ≤ 4294967296 ^ (us.length - 1) * us.getLast hne := Nat.mul_le_mul_left _ (by omega)
    omega
  · exact hl

/-- Block p is the number x: its sign, its words in a block from lo on. -/
structure IntAt (w : World) (lo p : Nat) (v : Value) (us : List Nat) (x : Nat) : Prop where
  row : w.heap[p]? = some (.cells #[.bool false, v] 46 (0, 0))
  own : OwnsN w lo v us x
theorem IntAt.cell0 {w : World} {lo p x : Nat} {v : Value} {us : List Nat} (h : IntAt w lo p v us x) : w.cell? ⟨p, 0, none⟩ = some (.bool false) := by
  simp [World.cell?, h.row]
theorem IntAt.cell1 {w : World} {lo p x : Nat} {v : Value} {us : List Nat} (h : IntAt w lo p v us x) : w.cell? ⟨p, 1, none⟩ = some v := by
  simp [World.cell?, h.row]
theorem IntAt.lt {w : World} {lo p x : Nat} {v : Value} {us : List Nat} (h : IntAt w lo p v us x) : p < w.heap.size := (Array.getElem?_eq_some_iff.1 h.row).1

/-- Every old block but p is as it was; nothing under lo has turned. -/
structure Put (w w' : World) (lo p : Nat) : Prop where
  below : Below lo w w'
  block : ∀ k, k < w.heap.size → k ≠ p → w'.heap[k]? = w.heap[k]?

set_option maxHeartbeats 2000000 in
theorem give_at (p lo : Nat) (b : Bool) (v0 : Value) (a : Option Addr) (n cap : Nat) (w : World) (hp : w.heap[p]? = some (.cells #[.bool b, v0] 46 (0, 0))) (hlo : lo ≤ p) :
    Calls Tryz.prog 57 #[.pointer (some ⟨p, 0, none⟩), .bool false, .slice a n cap] w fun e w' => e = .returned (.pointer (some ⟨p, 0, none⟩)) ∧ w'.heap[p]? = some (.cells #[.bool false, .slice a n cap] 46 (0, 0)) ∧ w'.heap.size = w.heap.size ∧ Put w w' lo p := by
  have hc0 : w.cell? ⟨p, 0, none⟩ = some (.bool b) := by simp [World.cell?, hp]
  have hc1 : w.cell? ⟨p, 1, none⟩ = some v0 := by simp [World.cell?, hp]
  have hf0 : w.frozen? ⟨p, 0, none⟩ = false := frozen_of_row w _ 0 _ _ hp
  have hf1 : w.frozen? ⟨p, 1, none⟩ = false := frozen_of_row w _ 1 _ _ hp
  have h1 := heap_setCell_same w p 1 _ _ (.slice a n cap) hp
  have h2 := heap_setCell_same _ p 0 _ _ (.bool false) h1
  have hg0 : (w.setCell ⟨p, 1, none⟩ (.slice a n cap)).frozen? ⟨p, 0, none⟩ = false := frozen_of_row _ _ 0 _ _ h1
  have hg1 : (w.setCell ⟨p, 1, none⟩ (.slice a n cap)).cell? ⟨p, 0, none⟩ = some (.bool b) := by simp [World.cell?, h1]
  have H2 : Hid (((w.setCell ⟨p, 1, none⟩ (.slice a n cap)).setCell ⟨p, 0, none⟩ (.bool false)).heap[p]? = some (.cells #[.bool false, .slice a n cap] 46 (0, 0))) := by simpa [Hid] using h2
  have HB : Hid (Below lo w ((w.setCell ⟨p, 1, none⟩ (.slice a n cap)).setCell ⟨p, 0, none⟩ (.bool false))) := ((Below.refl _ _).setCell (p := ⟨p, 1, none⟩) hlo _).setCell (p := ⟨p, 0, none⟩) hlo _
  clear h1 h2 hp
  go_enter Tryz.func57, Tryz.ntmps57
  go_wp2
  go_ret
  exact ⟨rfl, H2.out, by simp, HB.out, fun k _ hk => by rw [heap_setCell_other _ _ _ _ hk, heap_setCell_other _ _ _ _ hk]⟩


end Go.Proofs.YtgcpconlmihilaaGreatDoor
