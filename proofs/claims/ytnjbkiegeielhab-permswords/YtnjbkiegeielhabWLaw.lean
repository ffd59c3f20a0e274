/-
  The walk of the law PermsWords: for every arguments that can be read it returns true; nothing old has turned.
-/
import Derived.Test.YtnjbkiegeielhabWNei
import Derived.Test.YtnjbkiegeielhabWCam
import Derived.Test.YtnjbkiegeielhabWUnd
import Derived.Test.YtnjbkiegeielhabCInv
namespace Go.Proofs.Ytnjbkiegeielhab
open Go.RowKit

/-- A list of small numbers. -/
def Smll (l : List Int) : Prop := l.length ≤ 1600 ∧ ∀ z ∈ l, 0 ≤ z ∧ z ≤ 1000
theorem Smll.len {l : List Int} (h : Smll l) : l.length ≤ 17592186044416 := by have := h.1; omega
theorem Smll.wf {l : List Int} (h : Smll l) : ∀ z ∈ l, -9223372036854775808 ≤ z ∧ z ≤ 9223372036854775807 := small_wf h.2
theorem Smll.perm {l : List Int} (h : IsPerm l) : Smll l := ⟨by have := h.len; omega, fun z hz => by have := h.low z hz; have := h.high z hz; have := h.len; omega⟩
theorem Smll.nil : Smll [] := ⟨by simp, fun z h => by simp at h⟩
theorem Smll.word {zs ws : List Int} (hp : IsPerm zs) (h : Played zs ws) : Smll ws := ⟨by rw [h.1.2.1]; exact wrongs_small hp.len, fun i hi => by have := h.1.2.2 i hi; have := hp.len; omega⟩

theorem Word_err (a : Option Addr) (cap : Nat) (zs : List Int) (w : World) (hs : Shows w a zs) (c : Int) (h : pchk zs = c) (hc : (c != 0) = true) :
    Calls Try.prog 22 #[.slice a zs.length cap] w fun e w' => e = .returned (.tuple #[.slice none 0 0, .int .i64 c]) ∧ Below w.heap.size w w' := by
  have E : Hid (pchk zs = c) := h
  clear h
  go_enter Try.func22, Try.ntmps22
  go_wp2_with fail
  refine (Check_is _ _ _ _ _ hs rfl E).mono ?_
  rintro e w' ⟨rfl, hb⟩
  go_wp2_with fail
  go_ret2
  exact ⟨rfl, hb⟩

/-- The error of a word, its first k numbers looked at. -/
def hTo (n : Int) (ws : List Int) (k : Nat) : Int := if n < 0 ∨ 40 < n then 1 else if okWord n (ws.take k) = true then 0 else 1
theorem hTo_end (n : Int) (ws : List Int) : hTo n ws ws.length = prodC n ws := by unfold hTo prodC; rw [List.take_length]
theorem hTo_step (n : Int) {ws : List Int} {k : Nat} (hk : k < ws.length) : hTo n ws (k + 1) = if ws.getD k 0 < 1 ∨ n ≤ ws.getD k 0 then 1 else hTo n ws k := by
  unfold hTo
  by_cases h0 : n < 0 ∨ 40 < n
  · rw [if_pos h0, if_pos h0]; split <;> rfl
  · rw [if_neg h0, if_neg h0, take_snoc ws k hk]
    have e : okWord n (ws.take k ++ [ws.getD k 0]) = (okWord n (ws.take k) && okWord n [ws.getD k 0]) := by simp [okWord]
    by_cases h : ws.getD k 0 < 1 ∨ n ≤ ws.getD k 0
    · rw [if_pos h]
      have : okWord n [ws.getD k 0] = false := okWord_bad (k := 0) (by simp) (by simpa using h)
      rw [e, this]; simp
    · rw [if_neg h]
      have : okWord n [ws.getD k 0] = true := okWord_iff.2 (fun i hi => by simp only [List.mem_singleton] at hi; omega)
      rw [e, this]; simp


set_option maxHeartbeats 8000000 in
set_option maxRecDepth 100000 in
theorem words_err (a b d : Option Addr) (ca cb cd : Nat) (n : Int) (ps qs ws : List Int) (w : World) (hp : Shows w a ps) (hq : Shows w b qs) (hk : Shows w d ws) (hn1 : -9223372036854775808 ≤ n) (hn2 : n ≤ 9223372036854775807) (pc : Int) (pl : List Int) (r1 : Hid (prodC n ws = pc)) (r2 : Hid (prodL n ws = pl)) (hpl : Hid (Smll pl)) (hpe : Hid (pc ≠ 0 → pl = [])) (hp0 : Hid (pc = 0 → 0 ≤ n ∧ n ≤ 40 ∧ okWord n ws = true ∧ pl = play ws (orderL n.toNat))) (c0 : Int) (hc : (c0 != 0) = true) (E : Hid (pchk ps = c0)) (HBel : Hid (BelR ps qs c0 false)) :
    Calls Try.prog 4 #[.slice a ps.length ca, .slice b qs.length cb, .int .i64 n, .slice d ws.length cd] w fun e w' => e = .returned (.bool true) ∧ Below w.heap.size w w' := by
  have hwl := hk.len
  have hne1 : (c0 == 0) = false := beq_eq_false_iff_ne.2 (bne_iff_ne.1 hc)
  go_enter Try.func4, Try.ntmps4
  go_wp2_with fail
  refine (Word_err _ _ _ _ hp c0 E.out hc).mono ?_
  rintro e w1 ⟨rfl, hb⟩
  have HB1 : Hid (Below w.heap.size w w1) := hb
  replace hp := hp.below hb
  replace hq := hq.below hb
  replace hk := hk.below hb
  clear hb
  go_wp2_with fail
  refine (RPerm_is _ _ _ _ _ hp rfl E).mono ?_
  rintro e w2 ⟨rfl, hw2⟩
  obtain rfl : w1 = w2 := hw2.symm
  go_wp2_with fail
  refine (list_err _ _ _ _ _ _ c0 hc).mono ?_
  rintro e w3 ⟨rfl, hd⟩
  have hb : Below w1.heap.size w1 w3 := by
    obtain ⟨n, rfl⟩ := hd
    exact below_drewN (Below.refl _ _) n
  have HB3 : Hid (Below w.heap.size w w3) := HB1.out.trans (hb.mono HB1.out.size)
  replace hp := hp.below hb
  replace hq := hq.below hb
  replace hk := hk.below hb
  clear hb hd
  go_wp2_with fail
  refine (Product_at n hn1 hn2 _ _ _ ws pl pc _ hk rfl r1.out r2.out).mono ?_
  rintro e w4 ⟨v, rfl, hown, hb⟩
  have HB4 : Hid (Below w.heap.size w w4) := HB3.out.trans (hb.mono HB3.out.size)
  replace hp := hp.below hb
  replace hq := hq.below hb
  replace hk := hk.below hb
  obtain ⟨a4, n4, c4, rfl, S4, hn4, hc4⟩ := hown.opened hpl.out.len hpl.out.wf
  have HN4 : Hid (n4 = pl.length) := hn4
  have HC4 : Hid (n4 ≤ c4) := hc4
  clear hown hn4 hc4
  clear hb
  by_cases hneg : n < 0
  · have hd1 : decide (n < 0) = true := by simpa using hneg
    have HH : Hid (hTo n ws 0 = 1) := by show _ = _; unfold hTo; rw [if_pos (Or.inl hneg)]
    go_wp2_with fail
    go_loopw [15, 51] (fun h i wr => ∃ k : Nat, k ≤ ws.length ∧ i = .int .i64 k ∧ h = .int .i64 (hTo n ws k) ∧ wr = w4) (fun _ i _ => ws.length - (intOf i).toNat)
    case atStart => exact ⟨0, Nat.zero_le _, rfl, by rw [HH.out], by trivial⟩
    case round =>
      obtain ⟨k, hk2, rfl, rfl, hwr⟩ := hrel
      obtain rfl : w4 = wr := hwr.symm
      by_cases hlt : k < ws.length
      · have hlt' : (k : Int) < (ws.length : Int) := by omega
        obtain ⟨bk, ok, z, rfl, HZ, -, -, hcz⟩ := hk.elem hlt
        have HSt : Hid (hTo n ws (k + 1) = if z < 1 ∨ n ≤ z then 1 else hTo n ws k) := by show _ = _; rw [hTo_step n hlt, ← HZ.out]
        by_cases h1 : z < 1
        · have hb1 : decide (z < 1) = true := by simpa using h1
          have HE : Hid (hTo n ws (k + 1) = 1) := by show _ = _; rw [HSt.out, if_pos (Or.inl h1)]
          clear h1
          go_wp2
          go_roundw
          case rel => exact ⟨k + 1, by omega, by go_num, by rw [HE.out], by trivial⟩
          case measure => simp [intOf]; omega
        · have hb1 : decide (z < 1) = false := by simpa using h1
          by_cases h2 : n ≤ z
          · have hb2 : decide (z ≥ n) = true := by simpa using h2
            have HE : Hid (hTo n ws (k + 1) = 1) := by show _ = _; rw [HSt.out, if_pos (Or.inr h2)]
            clear h1 h2
            go_wp2
            go_roundw
            case rel => exact ⟨k + 1, by omega, by go_num, by rw [HE.out], by trivial⟩
            case measure => simp [intOf]; omega
          · have hb2 : decide (z ≥ n) = false := by simpa using h2
            have HE : Hid (hTo n ws (k + 1) = hTo n ws k) := by show _ = _; rw [HSt.out, if_neg (fun h => h.elim h1 h2)]
            clear h1 h2
            go_wp2
            go_roundw
            case rel => exact ⟨k + 1, by omega, by go_num, by rw [HE.out], by trivial⟩
            case measure => simp [intOf]; omega
      · obtain rfl : k = ws.length := by omega
        have HEn : Hid (hTo n ws ws.length = pc) := by show _ = _; rw [hTo_end]; exact r1.out
        have hnlt : decide ((ws.length : Int) < (ws.length : Int)) = false := by simp
        rw [HEn.out]
        by_cases h0 : pc = 0
        · obtain ⟨g1, g2, g3, g4⟩ := hp0.out h0
          obtain ⟨N, rfl⟩ : ∃ N : Nat, n = (N : Int) := ⟨n.toNat, by omega⟩
          rw [Int.toNat_natCast] at g4
          have G3 : Hid (okWord (N : Int) ws = true) := g3
          have G4 : Hid (play ws (orderL N) = pl) := g4.symm
          have hN40 : N ≤ 40 := by omega
          clear g3 g4
          subst h0
          go_wp2_with fail
          refine (Came_ok N hN40 _ _ _ ws _ hk rfl G3.out).mono ?_
          rintro e w5 ⟨v, rfl, hown, hb⟩
          rw [G4.out] at hown
          have HB5 : Hid (Below w.heap.size w w5) := HB4.out.trans (hb.mono HB4.out.size)
          replace hp := hp.below hb
          replace hq := hq.below hb
          replace hk := hk.below hb
          replace S4 := S4.below hb
          obtain ⟨a5, n5, c5, rfl, S5, hn5, hc5⟩ := hown.opened hpl.out.len hpl.out.wf
          have HN5 : Hid (n5 = pl.length) := hn5
          have HC5 : Hid (n5 ≤ c5) := hc5
          clear hown hn5 hc5
          clear hb
          go_wp2_with fail
          refine (list_ok _ _ _ _ _ _ _ pl S4 S5 HN4 HN5).mono ?_
          rintro e w6 ⟨rfl, hd⟩
          have hb : Below w5.heap.size w5 w6 := by
            obtain ⟨n, rfl⟩ := hd
            exact below_drewN (Below.refl _ _) n
          have HB6 : Hid (Below w.heap.size w w6) := HB5.out.trans (hb.mono HB5.out.size)
          replace hp := hp.below hb
          replace hq := hq.below hb
          replace hk := hk.below hb
          replace S4 := S4.below hb
          replace S5 := S5.below hb
          clear hb hd
          go_wp2_with fail
          refine (Below_at _ _ _ _ _ _ _ hp hq rfl rfl HBel.out).mono ?_
          rintro e w7 ⟨rfl, hb⟩
          have HB7 : Hid (Below w.heap.size w w7) := HB6.out.trans (hb.mono HB6.out.size)
          replace hp := hp.below hb
          replace hq := hq.below hb
          replace hk := hk.below hb
          replace S4 := S4.below hb
          replace S5 := S5.below hb
          clear hb
          go_wp2_with fail
          go_ret
          exact ⟨rfl, HB7.out⟩
        · have hpc : (pc != 0) = true := bne_iff_ne.2 h0
          have hpc2 : (pc == 0) = false := beq_eq_false_iff_ne.2 h0
          have hpn := hpe.out h0
          subst hpn
          have hzz := HN4.out
          simp only [List.length_nil] at hzz
          subst hzz
          clear h0
          go_wp2_with fail
          refine (list_err _ _ _ _ _ _ pc hpc).mono ?_
          rintro e w45 ⟨rfl, hd⟩
          have hb : Below w4.heap.size w4 w45 := by
            obtain ⟨n, rfl⟩ := hd
            exact below_drewN (Below.refl _ _) n
          have HB45 : Hid (Below w.heap.size w w45) := HB4.out.trans (hb.mono HB4.out.size)
          replace hp := hp.below hb
          replace hq := hq.below hb
          replace hk := hk.below hb
          clear hb hd
          go_wp2_with fail
          refine (Below_at _ _ _ _ _ _ _ hp hq rfl rfl HBel.out).mono ?_
          rintro e w46 ⟨rfl, hb⟩
          have HB46 : Hid (Below w.heap.size w w46) := HB45.out.trans (hb.mono HB45.out.size)
          replace hp := hp.below hb
          replace hq := hq.below hb
          replace hk := hk.below hb
          clear hb
          go_wp2_with fail
          go_ret
          exact ⟨rfl, HB46.out⟩
  · have hd1 : decide (n < 0) = false := by simpa using hneg
    by_cases hbig : 40 < n
    · have hd2 : decide (n > 40) = true := by simpa using hbig
      have HH : Hid (hTo n ws 0 = 1) := by show _ = _; unfold hTo; rw [if_pos (Or.inr hbig)]
      go_wp2_with fail
      go_loopw [15, 51] (fun h i wr => ∃ k : Nat, k ≤ ws.length ∧ i = .int .i64 k ∧ h = .int .i64 (hTo n ws k) ∧ wr = w4) (fun _ i _ => ws.length - (intOf i).toNat)
      case atStart => exact ⟨0, Nat.zero_le _, rfl, by rw [HH.out], by trivial⟩
      case round =>
        obtain ⟨k, hk2, rfl, rfl, hwr⟩ := hrel
        obtain rfl : w4 = wr := hwr.symm
        by_cases hlt : k < ws.length
        · have hlt' : (k : Int) < (ws.length : Int) := by omega
          obtain ⟨bk, ok, z, rfl, HZ, -, -, hcz⟩ := hk.elem hlt
          have HSt : Hid (hTo n ws (k + 1) = if z < 1 ∨ n ≤ z then 1 else hTo n ws k) := by show _ = _; rw [hTo_step n hlt, ← HZ.out]
          by_cases h1 : z < 1
          · have hb1 : decide (z < 1) = true := by simpa using h1
            have HE : Hid (hTo n ws (k + 1) = 1) := by show _ = _; rw [HSt.out, if_pos (Or.inl h1)]
            clear h1
            go_wp2
            go_roundw
            case rel => exact ⟨k + 1, by omega, by go_num, by rw [HE.out], by trivial⟩
            case measure => simp [intOf]; omega
          · have hb1 : decide (z < 1) = false := by simpa using h1
            by_cases h2 : n ≤ z
            · have hb2 : decide (z ≥ n) = true := by simpa using h2
              have HE : Hid (hTo n ws (k + 1) = 1) := by show _ = _; rw [HSt.out, if_pos (Or.inr h2)]
              clear h1 h2
              go_wp2
              go_roundw
              case rel => exact ⟨k + 1, by omega, by go_num, by rw [HE.out], by trivial⟩
              case measure => simp [intOf]; omega
            · have hb2 : decide (z ≥ n) = false := by simpa using h2
              have HE : Hid (hTo n ws (k + 1) = hTo n ws k) := by show _ = _; rw [HSt.out, if_neg (fun h => h.elim h1 h2)]
              clear h1 h2
              go_wp2
              go_roundw
              case rel => exact ⟨k + 1, by omega, by go_num, by rw [HE.out], by trivial⟩
              case measure => simp [intOf]; omega
        · obtain rfl : k = ws.length := by omega
          have HEn : Hid (hTo n ws ws.length = pc) := by show _ = _; rw [hTo_end]; exact r1.out
          have hnlt : decide ((ws.length : Int) < (ws.length : Int)) = false := by simp
          rw [HEn.out]
          by_cases h0 : pc = 0
          · obtain ⟨g1, g2, g3, g4⟩ := hp0.out h0
            obtain ⟨N, rfl⟩ : ∃ N : Nat, n = (N : Int) := ⟨n.toNat, by omega⟩
            rw [Int.toNat_natCast] at g4
            have G3 : Hid (okWord (N : Int) ws = true) := g3
            have G4 : Hid (play ws (orderL N) = pl) := g4.symm
            have hN40 : N ≤ 40 := by omega
            clear g3 g4
            subst h0
            go_wp2_with fail
            refine (Came_ok N hN40 _ _ _ ws _ hk rfl G3.out).mono ?_
            rintro e w5 ⟨v, rfl, hown, hb⟩
            rw [G4.out] at hown
            have HB5 : Hid (Below w.heap.size w w5) := HB4.out.trans (hb.mono HB4.out.size)
            replace hp := hp.below hb
            replace hq := hq.below hb
            replace hk := hk.below hb
            replace S4 := S4.below hb
            obtain ⟨a5, n5, c5, rfl, S5, hn5, hc5⟩ := hown.opened hpl.out.len hpl.out.wf
            have HN5 : Hid (n5 = pl.length) := hn5
            have HC5 : Hid (n5 ≤ c5) := hc5
            clear hown hn5 hc5
            clear hb
            go_wp2_with fail
            refine (list_ok _ _ _ _ _ _ _ pl S4 S5 HN4 HN5).mono ?_
            rintro e w6 ⟨rfl, hd⟩
            have hb : Below w5.heap.size w5 w6 := by
              obtain ⟨n, rfl⟩ := hd
              exact below_drewN (Below.refl _ _) n
            have HB6 : Hid (Below w.heap.size w w6) := HB5.out.trans (hb.mono HB5.out.size)
            replace hp := hp.below hb
            replace hq := hq.below hb
            replace hk := hk.below hb
            replace S4 := S4.below hb
            replace S5 := S5.below hb
            clear hb hd
            go_wp2_with fail
            refine (Below_at _ _ _ _ _ _ _ hp hq rfl rfl HBel.out).mono ?_
            rintro e w7 ⟨rfl, hb⟩
            have HB7 : Hid (Below w.heap.size w w7) := HB6.out.trans (hb.mono HB6.out.size)
            replace hp := hp.below hb
            replace hq := hq.below hb
            replace hk := hk.below hb
            replace S4 := S4.below hb
            replace S5 := S5.below hb
            clear hb
            go_wp2_with fail
            go_ret
            exact ⟨rfl, HB7.out⟩
          · have hpc : (pc != 0) = true := bne_iff_ne.2 h0
            have hpc2 : (pc == 0) = false := beq_eq_false_iff_ne.2 h0
            have hpn := hpe.out h0
            subst hpn
            have hzz := HN4.out
            simp only [List.length_nil] at hzz
            subst hzz
            clear h0
            go_wp2_with fail
            refine (list_err _ _ _ _ _ _ pc hpc).mono ?_
            rintro e w45 ⟨rfl, hd⟩
            have hb : Below w4.heap.size w4 w45 := by
              obtain ⟨n, rfl⟩ := hd
              exact below_drewN (Below.refl _ _) n
            have HB45 : Hid (Below w.heap.size w w45) := HB4.out.trans (hb.mono HB4.out.size)
            replace hp := hp.below hb
            replace hq := hq.below hb
            replace hk := hk.below hb
            clear hb hd
            go_wp2_with fail
            refine (Below_at _ _ _ _ _ _ _ hp hq rfl rfl HBel.out).mono ?_
            rintro e w46 ⟨rfl, hb⟩
            have HB46 : Hid (Below w.heap.size w w46) := HB45.out.trans (hb.mono HB45.out.size)
            replace hp := hp.below hb
            replace hq := hq.below hb
            replace hk := hk.below hb
            clear hb
            go_wp2_with fail
            go_ret
            exact ⟨rfl, HB46.out⟩
    · have hd2 : decide (n > 40) = false := by simpa using hbig
      have HH : Hid (hTo n ws 0 = 0) := by show _ = _; unfold hTo; rw [if_neg (fun h => h.elim hneg hbig)]; simp [okWord]
      go_wp2_with fail
      go_loopw [15, 51] (fun h i wr => ∃ k : Nat, k ≤ ws.length ∧ i = .int .i64 k ∧ h = .int .i64 (hTo n ws k) ∧ wr = w4) (fun _ i _ => ws.length - (intOf i).toNat)
      case atStart => exact ⟨0, Nat.zero_le _, rfl, by rw [HH.out], by trivial⟩
      case round =>
        obtain ⟨k, hk2, rfl, rfl, hwr⟩ := hrel
        obtain rfl : w4 = wr := hwr.symm
        by_cases hlt : k < ws.length
        · have hlt' : (k : Int) < (ws.length : Int) := by omega
          obtain ⟨bk, ok, z, rfl, HZ, -, -, hcz⟩ := hk.elem hlt
          have HSt : Hid (hTo n ws (k + 1) = if z < 1 ∨ n ≤ z then 1 else hTo n ws k) := by show _ = _; rw [hTo_step n hlt, ← HZ.out]
          by_cases h1 : z < 1
          · have hb1 : decide (z < 1) = true := by simpa using h1
            have HE : Hid (hTo n ws (k + 1) = 1) := by show _ = _; rw [HSt.out, if_pos (Or.inl h1)]
            clear h1
            go_wp2
            go_roundw
            case rel => exact ⟨k + 1, by omega, by go_num, by rw [HE.out], by trivial⟩
            case measure => simp [intOf]; omega
          · have hb1 : decide (z < 1) = false := by simpa using h1
            by_cases h2 : n ≤ z
            · have hb2 : decide (z ≥ n) = true := by simpa using h2
              have HE : Hid (hTo n ws (k + 1) = 1) := by show _ = _; rw [HSt.out, if_pos (Or.inr h2)]
              clear h1 h2
              go_wp2
              go_roundw
              case rel => exact ⟨k + 1, by omega, by go_num, by rw [HE.out], by trivial⟩
              case measure => simp [intOf]; omega
            · have hb2 : decide (z ≥ n) = false := by simpa using h2
              have HE : Hid (hTo n ws (k + 1) = hTo n ws k) := by show _ = _; rw [HSt.out, if_neg (fun h => h.elim h1 h2)]
              clear h1 h2
              go_wp2
              go_roundw
              case rel => exact ⟨k + 1, by omega, by go_num, by rw [HE.out], by trivial⟩
              case measure => simp [intOf]; omega
        · obtain rfl : k = ws.length := by omega
          have HEn : Hid (hTo n ws ws.length = pc) := by show _ = _; rw [hTo_end]; exact r1.out
          have hnlt : decide ((ws.length : Int) < (ws.length : Int)) = false := by simp
          rw [HEn.out]
          by_cases h0 : pc = 0
          · obtain ⟨g1, g2, g3, g4⟩ := hp0.out h0
            obtain ⟨N, rfl⟩ : ∃ N : Nat, n = (N : Int) := ⟨n.toNat, by omega⟩
            rw [Int.toNat_natCast] at g4
            have G3 : Hid (okWord (N : Int) ws = true) := g3
            have G4 : Hid (play ws (orderL N) = pl) := g4.symm
            have hN40 : N ≤ 40 := by omega
            clear g3 g4
            subst h0
            go_wp2_with fail
            refine (Came_ok N hN40 _ _ _ ws _ hk rfl G3.out).mono ?_
            rintro e w5 ⟨v, rfl, hown, hb⟩
            rw [G4.out] at hown
            have HB5 : Hid (Below w.heap.size w w5) := HB4.out.trans (hb.mono HB4.out.size)
            replace hp := hp.below hb
            replace hq := hq.below hb
            replace hk := hk.below hb
            replace S4 := S4.below hb
            obtain ⟨a5, n5, c5, rfl, S5, hn5, hc5⟩ := hown.opened hpl.out.len hpl.out.wf
            have HN5 : Hid (n5 = pl.length) := hn5
            have HC5 : Hid (n5 ≤ c5) := hc5
            clear hown hn5 hc5
            clear hb
            go_wp2_with fail
            refine (list_ok _ _ _ _ _ _ _ pl S4 S5 HN4 HN5).mono ?_
            rintro e w6 ⟨rfl, hd⟩
            have hb : Below w5.heap.size w5 w6 := by
              obtain ⟨n, rfl⟩ := hd
              exact below_drewN (Below.refl _ _) n
            have HB6 : Hid (Below w.heap.size w w6) := HB5.out.trans (hb.mono HB5.out.size)
            replace hp := hp.below hb
            replace hq := hq.below hb
            replace hk := hk.below hb
            replace S4 := S4.below hb
            replace S5 := S5.below hb
            clear hb hd
            go_wp2_with fail
            refine (Below_at _ _ _ _ _ _ _ hp hq rfl rfl HBel.out).mono ?_
            rintro e w7 ⟨rfl, hb⟩
            have HB7 : Hid (Below w.heap.size w w7) := HB6.out.trans (hb.mono HB6.out.size)
            replace hp := hp.below hb
            replace hq := hq.below hb
            replace hk := hk.below hb
            replace S4 := S4.below hb
            replace S5 := S5.below hb
            clear hb
            go_wp2_with fail
            go_ret
            exact ⟨rfl, HB7.out⟩
          · have hpc : (pc != 0) = true := bne_iff_ne.2 h0
            have hpc2 : (pc == 0) = false := beq_eq_false_iff_ne.2 h0
            have hpn := hpe.out h0
            subst hpn
            have hzz := HN4.out
            simp only [List.length_nil] at hzz
            subst hzz
            clear h0
            go_wp2_with fail
            refine (list_err _ _ _ _ _ _ pc hpc).mono ?_
            rintro e w45 ⟨rfl, hd⟩
            have hb : Below w4.heap.size w4 w45 := by
              obtain ⟨n, rfl⟩ := hd
              exact below_drewN (Below.refl _ _) n
            have HB45 : Hid (Below w.heap.size w w45) := HB4.out.trans (hb.mono HB4.out.size)
            replace hp := hp.below hb
            replace hq := hq.below hb
            replace hk := hk.below hb
            clear hb hd
            go_wp2_with fail
            refine (Below_at _ _ _ _ _ _ _ hp hq rfl rfl HBel.out).mono ?_
            rintro e w46 ⟨rfl, hb⟩
            have HB46 : Hid (Below w.heap.size w w46) := HB45.out.trans (hb.mono HB45.out.size)
            replace hp := hp.below hb
            replace hq := hq.below hb
            replace hk := hk.below hb
            clear hb
            go_wp2_with fail
            go_ret
            exact ⟨rfl, HB46.out⟩

set_option maxHeartbeats 8000000 in
set_option maxRecDepth 100000 in
theorem words_q (a b d : Option Addr) (ca cb cd : Nat) (n : Int) (ps qs ws : List Int) (w : World) (hp : Shows w a ps) (hq : Shows w b qs) (hk : Shows w d ws) (hn1 : -9223372036854775808 ≤ n) (hn2 : n ≤ 9223372036854775807) (pc : Int) (pl : List Int) (r1 : Hid (prodC n ws = pc)) (r2 : Hid (prodL n ws = pl)) (hpl : Hid (Smll pl)) (hpe : Hid (pc ≠ 0 → pl = [])) (hp0 : Hid (pc = 0 → 0 ≤ n ∧ n ≤ 40 ∧ okWord n ws = true ∧ pl = play ws (orderL n.toNat))) (hpp : IsPerm ps) (hpn : Hid (a = none → ps = [] ∧ ca = 0)) (c1 : Int) (hc1e : (c1 == 0) = false) (E2 : Hid (pchk qs = c1)) (HBel : Hid (BelR ps qs c1 false)) :
    Calls Try.prog 4 #[.slice a ps.length ca, .slice b qs.length cb, .int .i64 n, .slice d ws.length cd] w fun e w' => e = .returned (.bool true) ∧ Below w.heap.size w w' := by
  have hwl := hk.len
  have h40 := hpp.len
  have HP : Hid (IsPerm ps) := hpp
  have E : Hid (pchk ps = 0) := pchk_ok.2 hpp
  clear hpp
  go_enter Try.func4, Try.ntmps4
  go_wp2_with fail
  refine (Word_ch _ _ _ _ hp HP.out).mono ?_
  rintro e w1 ⟨v, us, rfl, hpl1, hown, hb⟩
  have HB1 : Hid (Below w.heap.size w w1) := hb
  replace hp := hp.below hb
  replace hq := hq.below hb
  replace hk := hk.below hb
  have HPU : Hid (Played ps us) := hpl1
  have HUs : Hid (Smll us) := Smll.word HP.out hpl1
  obtain ⟨a1, n1, c1, rfl, S1, hn1, hc1⟩ := hown.opened HUs.out.len HUs.out.wf
  have HN1 : Hid (n1 = us.length) := hn1
  have HC1 : Hid (n1 ≤ c1) := hc1
  clear hown hn1 hc1
  clear hb hpl1
  go_wp2_with fail
  refine (RPerm_is _ _ _ _ _ hp rfl E).mono ?_
  rintro e w2 ⟨rfl, hw2⟩
  obtain rfl : w1 = w2 := hw2.symm
  go_wp2_with fail
  refine (Neighbours_ok _ _ _ _ _ hp rfl hpn.out HP.out).mono ?_
  rintro e w3 ⟨v, us2, rfl, hpl2, hown, hb⟩
  obtain rfl := HPU.out.uniq hpl2
  have HB3 : Hid (Below w.heap.size w w3) := HB1.out.trans (hb.mono HB1.out.size)
  replace hp := hp.below hb
  replace hq := hq.below hb
  replace hk := hk.below hb
  replace S1 := S1.below hb
  obtain ⟨a3, n3, c3, rfl, S3, hn3, hc3⟩ := hown.opened HUs.out.len HUs.out.wf
  have HN3 : Hid (n3 = us.length) := hn3
  have HC3 : Hid (n3 ≤ c3) := hc3
  clear hown hn3 hc3
  clear hb hpl2
  go_wp2_with fail
  refine (list_ok _ _ _ _ _ _ _ us S1 S3 HN1 HN3).mono ?_
  rintro e w4 ⟨rfl, hd⟩
  have hb : Below w3.heap.size w3 w4 := by
    obtain ⟨n, rfl⟩ := hd
    exact below_drewN (Below.refl _ _) n
  have HB4 : Hid (Below w.heap.size w w4) := HB3.out.trans (hb.mono HB3.out.size)
  replace hp := hp.below hb
  replace hq := hq.below hb
  replace hk := hk.below hb
  replace S1 := S1.below hb
  replace S3 := S3.below hb
  clear hb hd
  clear S1 S3
  go_wp2_with fail
  refine (Product_at n hn1 hn2 _ _ _ ws pl pc _ hk rfl r1.out r2.out).mono ?_
  rintro e w5 ⟨v, rfl, hown, hb⟩
  have HB5 : Hid (Below w.heap.size w w5) := HB4.out.trans (hb.mono HB4.out.size)
  replace hp := hp.below hb
  replace hq := hq.below hb
  replace hk := hk.below hb
  obtain ⟨a5, n5, c5, rfl, S5, hn5, hc5⟩ := hown.opened hpl.out.len hpl.out.wf
  have HN5 : Hid (n5 = pl.length) := hn5
  have HC5 : Hid (n5 ≤ c5) := hc5
  clear hown hn5 hc5
  clear hb
  by_cases hneg : n < 0
  · have hd1 : decide (n < 0) = true := by simpa using hneg
    have HH : Hid (hTo n ws 0 = 1) := by show _ = _; unfold hTo; rw [if_pos (Or.inl hneg)]
    go_wp2_with fail
    go_loopw [15, 51] (fun h i wr => ∃ k : Nat, k ≤ ws.length ∧ i = .int .i64 k ∧ h = .int .i64 (hTo n ws k) ∧ wr = w5) (fun _ i _ => ws.length - (intOf i).toNat)
    case atStart => exact ⟨0, Nat.zero_le _, rfl, by rw [HH.out], by trivial⟩
    case round =>
      obtain ⟨k, hk2, rfl, rfl, hwr⟩ := hrel
      obtain rfl : w5 = wr := hwr.symm
      by_cases hlt : k < ws.length
      · have hlt' : (k : Int) < (ws.length : Int) := by omega
        obtain ⟨bk, ok, z, rfl, HZ, -, -, hcz⟩ := hk.elem hlt
        have HSt : Hid (hTo n ws (k + 1) = if z < 1 ∨ n ≤ z then 1 else hTo n ws k) := by show _ = _; rw [hTo_step n hlt, ← HZ.out]
        by_cases h1 : z < 1
        · have hb1 : decide (z < 1) = true := by simpa using h1
          have HE : Hid (hTo n ws (k + 1) = 1) := by show _ = _; rw [HSt.out, if_pos (Or.inl h1)]
          clear h1
          go_wp2
          go_roundw
          case rel => exact ⟨k + 1, by omega, by go_num, by rw [HE.out], by trivial⟩
          case measure => simp [intOf]; omega
        · have hb1 : decide (z < 1) = false := by simpa using h1
          by_cases h2 : n ≤ z
          · have hb2 : decide (z ≥ n) = true := by simpa using h2
            have HE : Hid (hTo n ws (k + 1) = 1) := by show _ = _; rw [HSt.out, if_pos (Or.inr h2)]
            clear h1 h2
            go_wp2
            go_roundw
            case rel => exact ⟨k + 1, by omega, by go_num, by rw [HE.out], by trivial⟩
            case measure => simp [intOf]; omega
          · have hb2 : decide (z ≥ n) = false := by simpa using h2
            have HE : Hid (hTo n ws (k + 1) = hTo n ws k) := by show _ = _; rw [HSt.out, if_neg (fun h => h.elim h1 h2)]
            clear h1 h2
            go_wp2
            go_roundw
            case rel => exact ⟨k + 1, by omega, by go_num, by rw [HE.out], by trivial⟩
            case measure => simp [intOf]; omega
      · obtain rfl : k = ws.length := by omega
        have HEn : Hid (hTo n ws ws.length = pc) := by show _ = _; rw [hTo_end]; exact r1.out
        have hnlt : decide ((ws.length : Int) < (ws.length : Int)) = false := by simp
        rw [HEn.out]
        by_cases h0 : pc = 0
        · obtain ⟨g1, g2, g3, g4⟩ := hp0.out h0
          obtain ⟨N, rfl⟩ : ∃ N : Nat, n = (N : Int) := ⟨n.toNat, by omega⟩
          rw [Int.toNat_natCast] at g4
          have G3 : Hid (okWord (N : Int) ws = true) := g3
          have G4 : Hid (play ws (orderL N) = pl) := g4.symm
          have hN40 : N ≤ 40 := by omega
          clear g3 g4
          subst h0
          go_wp2_with fail
          refine (Came_ok N hN40 _ _ _ ws _ hk rfl G3.out).mono ?_
          rintro e w6 ⟨v, rfl, hown, hb⟩
          rw [G4.out] at hown
          have HB6 : Hid (Below w.heap.size w w6) := HB5.out.trans (hb.mono HB5.out.size)
          replace hp := hp.below hb
          replace hq := hq.below hb
          replace hk := hk.below hb
          replace S5 := S5.below hb
          obtain ⟨a6, n6, c6, rfl, S6, hn6, hc6⟩ := hown.opened hpl.out.len hpl.out.wf
          have HN6 : Hid (n6 = pl.length) := hn6
          have HC6 : Hid (n6 ≤ c6) := hc6
          clear hown hn6 hc6
          clear hb
          go_wp2_with fail
          refine (list_ok _ _ _ _ _ _ _ pl S5 S6 HN5 HN6).mono ?_
          rintro e w7 ⟨rfl, hd⟩
          have hb : Below w6.heap.size w6 w7 := by
            obtain ⟨n, rfl⟩ := hd
            exact below_drewN (Below.refl _ _) n
          have HB7 : Hid (Below w.heap.size w w7) := HB6.out.trans (hb.mono HB6.out.size)
          replace hp := hp.below hb
          replace hq := hq.below hb
          replace hk := hk.below hb
          replace S5 := S5.below hb
          replace S6 := S6.below hb
          clear hb hd
          go_wp2_with fail
          refine (Below_at _ _ _ _ _ _ _ hp hq rfl rfl HBel.out).mono ?_
          rintro e w8 ⟨rfl, hb⟩
          have HB8 : Hid (Below w.heap.size w w8) := HB7.out.trans (hb.mono HB7.out.size)
          replace hp := hp.below hb
          replace hq := hq.below hb
          replace hk := hk.below hb
          replace S5 := S5.below hb
          replace S6 := S6.below hb
          clear hb
          go_wp2_with fail
          refine (RPerm_is _ _ _ _ _ hq rfl E2).mono ?_
          rintro e w9 ⟨rfl, hw9⟩
          obtain rfl : w8 = w9 := hw9.symm
          go_wp2_with fail
          go_ret
          exact ⟨rfl, HB8.out⟩
        · have hpc : (pc != 0) = true := bne_iff_ne.2 h0
          have hpc2 : (pc == 0) = false := beq_eq_false_iff_ne.2 h0
          have hpn := hpe.out h0
          subst hpn
          have hzz := HN5.out
          simp only [List.length_nil] at hzz
          subst hzz
          clear h0
          go_wp2_with fail
          refine (list_err _ _ _ _ _ _ pc hpc).mono ?_
          rintro e w46 ⟨rfl, hd⟩
          have hb : Below w5.heap.size w5 w46 := by
            obtain ⟨n, rfl⟩ := hd
            exact below_drewN (Below.refl _ _) n
          have HB46 : Hid (Below w.heap.size w w46) := HB5.out.trans (hb.mono HB5.out.size)
          replace hp := hp.below hb
          replace hq := hq.below hb
          replace hk := hk.below hb
          clear hb hd
          go_wp2_with fail
          refine (Below_at _ _ _ _ _ _ _ hp hq rfl rfl HBel.out).mono ?_
          rintro e w47 ⟨rfl, hb⟩
          have HB47 : Hid (Below w.heap.size w w47) := HB46.out.trans (hb.mono HB46.out.size)
          replace hp := hp.below hb
          replace hq := hq.below hb
          replace hk := hk.below hb
          clear hb
          go_wp2_with fail
          refine (RPerm_is _ _ _ _ _ hq rfl E2).mono ?_
          rintro e w48 ⟨rfl, hw48⟩
          obtain rfl : w47 = w48 := hw48.symm
          go_wp2_with fail
          go_ret
          exact ⟨rfl, HB47.out⟩
  · have hd1 : decide (n < 0) = false := by simpa using hneg
    by_cases hbig : 40 < n
    · have hd2 : decide (n > 40) = true := by simpa using hbig
      have HH : Hid (hTo n ws 0 = 1) := by show _ = _; unfold hTo; rw [if_pos (Or.inr hbig)]
      go_wp2_with fail
      go_loopw [15, 51] (fun h i wr => ∃ k : Nat, k ≤ ws.length ∧ i = .int .i64 k ∧ h = .int .i64 (hTo n ws k) ∧ wr = w5) (fun _ i _ => ws.length - (intOf i).toNat)
      case atStart => exact ⟨0, Nat.zero_le _, rfl, by rw [HH.out], by trivial⟩
      case round =>
        obtain ⟨k, hk2, rfl, rfl, hwr⟩ := hrel
        obtain rfl : w5 = wr := hwr.symm
        by_cases hlt : k < ws.length
        · have hlt' : (k : Int) < (ws.length : Int) := by omega
          obtain ⟨bk, ok, z, rfl, HZ, -, -, hcz⟩ := hk.elem hlt
          have HSt : Hid (hTo n ws (k + 1) = if z < 1 ∨ n ≤ z then 1 else hTo n ws k) := by show _ = _; rw [hTo_step n hlt, ← HZ.out]
          by_cases h1 : z < 1
          · have hb1 : decide (z < 1) = true := by simpa using h1
            have HE : Hid (hTo n ws (k + 1) = 1) := by show _ = _; rw [HSt.out, if_pos (Or.inl h1)]
            clear h1
            go_wp2
            go_roundw
            case rel => exact ⟨k + 1, by omega, by go_num, by rw [HE.out], by trivial⟩
            case measure => simp [intOf]; omega
          · have hb1 : decide (z < 1) = false := by simpa using h1
            by_cases h2 : n ≤ z
            · have hb2 : decide (z ≥ n) = true := by simpa using h2
              have HE : Hid (hTo n ws (k + 1) = 1) := by show _ = _; rw [HSt.out, if_pos (Or.inr h2)]
              clear h1 h2
              go_wp2
              go_roundw
              case rel => exact ⟨k + 1, by omega, by go_num, by rw [HE.out], by trivial⟩
              case measure => simp [intOf]; omega
            · have hb2 : decide (z ≥ n) = false := by simpa using h2
              have HE : Hid (hTo n ws (k + 1) = hTo n ws k) := by show _ = _; rw [HSt.out, if_neg (fun h => h.elim h1 h2)]
              clear h1 h2
              go_wp2
              go_roundw
              case rel => exact ⟨k + 1, by omega, by go_num, by rw [HE.out], by trivial⟩
              case measure => simp [intOf]; omega
        · obtain rfl : k = ws.length := by omega
          have HEn : Hid (hTo n ws ws.length = pc) := by show _ = _; rw [hTo_end]; exact r1.out
          have hnlt : decide ((ws.length : Int) < (ws.length : Int)) = false := by simp
          rw [HEn.out]
          by_cases h0 : pc = 0
          · obtain ⟨g1, g2, g3, g4⟩ := hp0.out h0
            obtain ⟨N, rfl⟩ : ∃ N : Nat, n = (N : Int) := ⟨n.toNat, by omega⟩
            rw [Int.toNat_natCast] at g4
            have G3 : Hid (okWord (N : Int) ws = true) := g3
            have G4 : Hid (play ws (orderL N) = pl) := g4.symm
            have hN40 : N ≤ 40 := by omega
            clear g3 g4
            subst h0
            go_wp2_with fail
            refine (Came_ok N hN40 _ _ _ ws _ hk rfl G3.out).mono ?_
            rintro e w6 ⟨v, rfl, hown, hb⟩
            rw [G4.out] at hown
            have HB6 : Hid (Below w.heap.size w w6) := HB5.out.trans (hb.mono HB5.out.size)
            replace hp := hp.below hb
            replace hq := hq.below hb
            replace hk := hk.below hb
            replace S5 := S5.below hb
            obtain ⟨a6, n6, c6, rfl, S6, hn6, hc6⟩ := hown.opened hpl.out.len hpl.out.wf
            have HN6 : Hid (n6 = pl.length) := hn6
            have HC6 : Hid (n6 ≤ c6) := hc6
            clear hown hn6 hc6
            clear hb
            go_wp2_with fail
            refine (list_ok _ _ _ _ _ _ _ pl S5 S6 HN5 HN6).mono ?_
            rintro e w7 ⟨rfl, hd⟩
            have hb : Below w6.heap.size w6 w7 := by
              obtain ⟨n, rfl⟩ := hd
              exact below_drewN (Below.refl _ _) n
            have HB7 : Hid (Below w.heap.size w w7) := HB6.out.trans (hb.mono HB6.out.size)
            replace hp := hp.below hb
            replace hq := hq.below hb
            replace hk := hk.below hb
            replace S5 := S5.below hb
            replace S6 := S6.below hb
            clear hb hd
            go_wp2_with fail
            refine (Below_at _ _ _ _ _ _ _ hp hq rfl rfl HBel.out).mono ?_
            rintro e w8 ⟨rfl, hb⟩
            have HB8 : Hid (Below w.heap.size w w8) := HB7.out.trans (hb.mono HB7.out.size)
            replace hp := hp.below hb
            replace hq := hq.below hb
            replace hk := hk.below hb
            replace S5 := S5.below hb
            replace S6 := S6.below hb
            clear hb
            go_wp2_with fail
            refine (RPerm_is _ _ _ _ _ hq rfl E2).mono ?_
            rintro e w9 ⟨rfl, hw9⟩
            obtain rfl : w8 = w9 := hw9.symm
            go_wp2_with fail
            go_ret
            exact ⟨rfl, HB8.out⟩
          · have hpc : (pc != 0) = true := bne_iff_ne.2 h0
            have hpc2 : (pc == 0) = false := beq_eq_false_iff_ne.2 h0
            have hpn := hpe.out h0
            subst hpn
            have hzz := HN5.out
            simp only [List.length_nil] at hzz
            subst hzz
            clear h0
            go_wp2_with fail
            refine (list_err _ _ _ _ _ _ pc hpc).mono ?_
            rintro e w46 ⟨rfl, hd⟩
            have hb : Below w5.heap.size w5 w46 := by
              obtain ⟨n, rfl⟩ := hd
              exact below_drewN (Below.refl _ _) n
            have HB46 : Hid (Below w.heap.size w w46) := HB5.out.trans (hb.mono HB5.out.size)
            replace hp := hp.below hb
            replace hq := hq.below hb
            replace hk := hk.below hb
            clear hb hd
            go_wp2_with fail
            refine (Below_at _ _ _ _ _ _ _ hp hq rfl rfl HBel.out).mono ?_
            rintro e w47 ⟨rfl, hb⟩
            have HB47 : Hid (Below w.heap.size w w47) := HB46.out.trans (hb.mono HB46.out.size)
            replace hp := hp.below hb
            replace hq := hq.below hb
            replace hk := hk.below hb
            clear hb
            go_wp2_with fail
            refine (RPerm_is _ _ _ _ _ hq rfl E2).mono ?_
            rintro e w48 ⟨rfl, hw48⟩
            obtain rfl : w47 = w48 := hw48.symm
            go_wp2_with fail
            go_ret
            exact ⟨rfl, HB47.out⟩
    · have hd2 : decide (n > 40) = false := by simpa using hbig
      have HH : Hid (hTo n ws 0 = 0) := by show _ = _; unfold hTo; rw [if_neg (fun h => h.elim hneg hbig)]; simp [okWord]
      go_wp2_with fail
      go_loopw [15, 51] (fun h i wr => ∃ k : Nat, k ≤ ws.length ∧ i = .int .i64 k ∧ h = .int .i64 (hTo n ws k) ∧ wr = w5) (fun _ i _ => ws.length - (intOf i).toNat)
      case atStart => exact ⟨0, Nat.zero_le _, rfl, by rw [HH.out], by trivial⟩
      case round =>
        obtain ⟨k, hk2, rfl, rfl, hwr⟩ := hrel
        obtain rfl : w5 = wr := hwr.symm
        by_cases hlt : k < ws.length
        · have hlt' : (k : Int) < (ws.length : Int) := by omega
          obtain ⟨bk, ok, z, rfl, HZ, -, -, hcz⟩ := hk.elem hlt
          have HSt : Hid (hTo n ws (k + 1) = if z < 1 ∨ n ≤ z then 1 else hTo n ws k) := by show _ = _; rw [hTo_step n hlt, ← HZ.out]
          by_cases h1 : z < 1
          · have hb1 : decide (z < 1) = true := by simpa using h1
            have HE : Hid (hTo n ws (k + 1) = 1) := by show _ = _; rw [HSt.out, if_pos (Or.inl h1)]
            clear h1
            go_wp2
            go_roundw
            case rel => exact ⟨k + 1, by omega, by go_num, by rw [HE.out], by trivial⟩
            case measure => simp [intOf]; omega
          · have hb1 : decide (z < 1) = false := by simpa using h1
            by_cases h2 : n ≤ z
            · have hb2 : decide (z ≥ n) = true := by simpa using h2
              have HE : Hid (hTo n ws (k + 1) = 1) := by show _ = _; rw [HSt.out, if_pos (Or.inr h2)]
              clear h1 h2
              go_wp2
              go_roundw
              case rel => exact ⟨k + 1, by omega, by go_num, by rw [HE.out], by trivial⟩
              case measure => simp [intOf]; omega
            · have hb2 : decide (z ≥ n) = false := by simpa using h2
              have HE : Hid (hTo n ws (k + 1) = hTo n ws k) := by show _ = _; rw [HSt.out, if_neg (fun h => h.elim h1 h2)]
              clear h1 h2
              go_wp2
              go_roundw
              case rel => exact ⟨k + 1, by omega, by go_num, by rw [HE.out], by trivial⟩
              case measure => simp [intOf]; omega
        · obtain rfl : k = ws.length := by omega
          have HEn : Hid (hTo n ws ws.length = pc) := by show _ = _; rw [hTo_end]; exact r1.out
          have hnlt : decide ((ws.length : Int) < (ws.length : Int)) = false := by simp
          rw [HEn.out]
          by_cases h0 : pc = 0
          · obtain ⟨g1, g2, g3, g4⟩ := hp0.out h0
            obtain ⟨N, rfl⟩ : ∃ N : Nat, n = (N : Int) := ⟨n.toNat, by omega⟩
            rw [Int.toNat_natCast] at g4
            have G3 : Hid (okWord (N : Int) ws = true) := g3
            have G4 : Hid (play ws (orderL N) = pl) := g4.symm
            have hN40 : N ≤ 40 := by omega
            clear g3 g4
            subst h0
            go_wp2_with fail
            refine (Came_ok N hN40 _ _ _ ws _ hk rfl G3.out).mono ?_
            rintro e w6 ⟨v, rfl, hown, hb⟩
            rw [G4.out] at hown
            have HB6 : Hid (Below w.heap.size w w6) := HB5.out.trans (hb.mono HB5.out.size)
            replace hp := hp.below hb
            replace hq := hq.below hb
            replace hk := hk.below hb
            replace S5 := S5.below hb
            obtain ⟨a6, n6, c6, rfl, S6, hn6, hc6⟩ := hown.opened hpl.out.len hpl.out.wf
            have HN6 : Hid (n6 = pl.length) := hn6
            have HC6 : Hid (n6 ≤ c6) := hc6
            clear hown hn6 hc6
            clear hb
            go_wp2_with fail
            refine (list_ok _ _ _ _ _ _ _ pl S5 S6 HN5 HN6).mono ?_
            rintro e w7 ⟨rfl, hd⟩
            have hb : Below w6.heap.size w6 w7 := by
              obtain ⟨n, rfl⟩ := hd
              exact below_drewN (Below.refl _ _) n
            have HB7 : Hid (Below w.heap.size w w7) := HB6.out.trans (hb.mono HB6.out.size)
            replace hp := hp.below hb
            replace hq := hq.below hb
            replace hk := hk.below hb
            replace S5 := S5.below hb
            replace S6 := S6.below hb
            clear hb hd
            go_wp2_with fail
            refine (Below_at _ _ _ _ _ _ _ hp hq rfl rfl HBel.out).mono ?_
            rintro e w8 ⟨rfl, hb⟩
            have HB8 : Hid (Below w.heap.size w w8) := HB7.out.trans (hb.mono HB7.out.size)
            replace hp := hp.below hb
            replace hq := hq.below hb
            replace hk := hk.below hb
            replace S5 := S5.below hb
            replace S6 := S6.below hb
            clear hb
            go_wp2_with fail
            refine (RPerm_is _ _ _ _ _ hq rfl E2).mono ?_
            rintro e w9 ⟨rfl, hw9⟩
            obtain rfl : w8 = w9 := hw9.symm
            go_wp2_with fail
            go_ret
            exact ⟨rfl, HB8.out⟩
          · have hpc : (pc != 0) = true := bne_iff_ne.2 h0
            have hpc2 : (pc == 0) = false := beq_eq_false_iff_ne.2 h0
            have hpn := hpe.out h0
            subst hpn
            have hzz := HN5.out
            simp only [List.length_nil] at hzz
            subst hzz
            clear h0
            go_wp2_with fail
            refine (list_err _ _ _ _ _ _ pc hpc).mono ?_
            rintro e w46 ⟨rfl, hd⟩
            have hb : Below w5.heap.size w5 w46 := by
              obtain ⟨n, rfl⟩ := hd
              exact below_drewN (Below.refl _ _) n
            have HB46 : Hid (Below w.heap.size w w46) := HB5.out.trans (hb.mono HB5.out.size)
            replace hp := hp.below hb
            replace hq := hq.below hb
            replace hk := hk.below hb
            clear hb hd
            go_wp2_with fail
            refine (Below_at _ _ _ _ _ _ _ hp hq rfl rfl HBel.out).mono ?_
            rintro e w47 ⟨rfl, hb⟩
            have HB47 : Hid (Below w.heap.size w w47) := HB46.out.trans (hb.mono HB46.out.size)
            replace hp := hp.below hb
            replace hq := hq.below hb
            replace hk := hk.below hb
            clear hb
            go_wp2_with fail
            refine (RPerm_is _ _ _ _ _ hq rfl E2).mono ?_
            rintro e w48 ⟨rfl, hw48⟩
            obtain rfl : w47 = w48 := hw48.symm
            go_wp2_with fail
            go_ret
            exact ⟨rfl, HB47.out⟩

set_option maxHeartbeats 8000000 in
set_option maxRecDepth 100000 in
theorem words_3 (a b d : Option Addr) (ca cb cd : Nat) (n : Int) (ps qs ws : List Int) (w : World) (hp : Shows w a ps) (hq : Shows w b qs) (hk : Shows w d ws) (hn1 : -9223372036854775808 ≤ n) (hn2 : n ≤ 9223372036854775807) (pc : Int) (pl : List Int) (r1 : Hid (prodC n ws = pc)) (r2 : Hid (prodL n ws = pl)) (hpl : Hid (Smll pl)) (hpe : Hid (pc ≠ 0 → pl = [])) (hp0 : Hid (pc = 0 → 0 ≤ n ∧ n ≤ 40 ∧ okWord n ws = true ∧ pl = play ws (orderL n.toNat))) (hpp : IsPerm ps) (hpn : Hid (a = none → ps = [] ∧ ca = 0)) (E2 : Hid (pchk qs = 0)) (hln : ((ps.length : Int) != (qs.length : Int)) = true) (HBel : Hid (BelR ps qs 3 false)) :
    Calls Try.prog 4 #[.slice a ps.length ca, .slice b qs.length cb, .int .i64 n, .slice d ws.length cd] w fun e w' => e = .returned (.bool true) ∧ Below w.heap.size w w' := by
  have hwl := hk.len
  have h40 := hpp.len
  have HP : Hid (IsPerm ps) := hpp
  have E : Hid (pchk ps = 0) := pchk_ok.2 hpp
  clear hpp
  go_enter Try.func4, Try.ntmps4
  go_wp2_with fail
  refine (Word_ch _ _ _ _ hp HP.out).mono ?_
  rintro e w1 ⟨v, us, rfl, hpl1, hown, hb⟩
  have HB1 : Hid (Below w.heap.size w w1) := hb
  replace hp := hp.below hb
  replace hq := hq.below hb
  replace hk := hk.below hb
  have HPU : Hid (Played ps us) := hpl1
  have HUs : Hid (Smll us) := Smll.word HP.out hpl1
  obtain ⟨a1, n1, c1, rfl, S1, hn1, hc1⟩ := hown.opened HUs.out.len HUs.out.wf
  have HN1 : Hid (n1 = us.length) := hn1
  have HC1 : Hid (n1 ≤ c1) := hc1
  clear hown hn1 hc1
  clear hb hpl1
  go_wp2_with fail
  refine (RPerm_is _ _ _ _ _ hp rfl E).mono ?_
  rintro e w2 ⟨rfl, hw2⟩
  obtain rfl : w1 = w2 := hw2.symm
  go_wp2_with fail
  refine (Neighbours_ok _ _ _ _ _ hp rfl hpn.out HP.out).mono ?_
  rintro e w3 ⟨v, us2, rfl, hpl2, hown, hb⟩
  obtain rfl := HPU.out.uniq hpl2
  have HB3 : Hid (Below w.heap.size w w3) := HB1.out.trans (hb.mono HB1.out.size)
  replace hp := hp.below hb
  replace hq := hq.below hb
  replace hk := hk.below hb
  replace S1 := S1.below hb
  obtain ⟨a3, n3, c3, rfl, S3, hn3, hc3⟩ := hown.opened HUs.out.len HUs.out.wf
  have HN3 : Hid (n3 = us.length) := hn3
  have HC3 : Hid (n3 ≤ c3) := hc3
  clear hown hn3 hc3
  clear hb hpl2
  go_wp2_with fail
  refine (list_ok _ _ _ _ _ _ _ us S1 S3 HN1 HN3).mono ?_
  rintro e w4 ⟨rfl, hd⟩
  have hb : Below w3.heap.size w3 w4 := by
    obtain ⟨n, rfl⟩ := hd
    exact below_drewN (Below.refl _ _) n
  have HB4 : Hid (Below w.heap.size w w4) := HB3.out.trans (hb.mono HB3.out.size)
  replace hp := hp.below hb
  replace hq := hq.below hb
  replace hk := hk.below hb
  replace S1 := S1.below hb
  replace S3 := S3.below hb
  clear hb hd
  clear S1 S3
  go_wp2_with fail
  refine (Product_at n hn1 hn2 _ _ _ ws pl pc _ hk rfl r1.out r2.out).mono ?_
  rintro e w5 ⟨v, rfl, hown, hb⟩
  have HB5 : Hid (Below w.heap.size w w5) := HB4.out.trans (hb.mono HB4.out.size)
  replace hp := hp.below hb
  replace hq := hq.below hb
  replace hk := hk.below hb
  obtain ⟨a5, n5, c5, rfl, S5, hn5, hc5⟩ := hown.opened hpl.out.len hpl.out.wf
  have HN5 : Hid (n5 = pl.length) := hn5
  have HC5 : Hid (n5 ≤ c5) := hc5
  clear hown hn5 hc5
  clear hb
  by_cases hneg : n < 0
  · have hd1 : decide (n < 0) = true := by simpa using hneg
    have HH : Hid (hTo n ws 0 = 1) := by show _ = _; unfold hTo; rw [if_pos (Or.inl hneg)]
    go_wp2_with fail
    go_loopw [15, 51] (fun h i wr => ∃ k : Nat, k ≤ ws.length ∧ i = .int .i64 k ∧ h = .int .i64 (hTo n ws k) ∧ wr = w5) (fun _ i _ => ws.length - (intOf i).toNat)
    case atStart => exact ⟨0, Nat.zero_le _, rfl, by rw [HH.out], by trivial⟩
    case round =>
      obtain ⟨k, hk2, rfl, rfl, hwr⟩ := hrel
      obtain rfl : w5 = wr := hwr.symm
      by_cases hlt : k < ws.length
      · have hlt' : (k : Int) < (ws.length : Int) := by omega
        obtain ⟨bk, ok, z, rfl, HZ, -, -, hcz⟩ := hk.elem hlt
        have HSt : Hid (hTo n ws (k + 1) = if z < 1 ∨ n ≤ z then 1 else hTo n ws k) := by show _ = _; rw [hTo_step n hlt, ← HZ.out]
        by_cases h1 : z < 1
        · have hb1 : decide (z < 1) = true := by simpa using h1
          have HE : Hid (hTo n ws (k + 1) = 1) := by show _ = _; rw [HSt.out, if_pos (Or.inl h1)]
          clear h1
          go_wp2
          go_roundw
          case rel => exact ⟨k + 1, by omega, by go_num, by rw [HE.out], by trivial⟩
          case measure => simp [intOf]; omega
        · have hb1 : decide (z < 1) = false := by simpa using h1
          by_cases h2 : n ≤ z
          · have hb2 : decide (z ≥ n) = true := by simpa using h2
            have HE : Hid (hTo n ws (k + 1) = 1) := by show _ = _; rw [HSt.out, if_pos (Or.inr h2)]
            clear h1 h2
            go_wp2
            go_roundw
            case rel => exact ⟨k + 1, by omega, by go_num, by rw [HE.out], by trivial⟩
            case measure => simp [intOf]; omega
          · have hb2 : decide (z ≥ n) = false := by simpa using h2
            have HE : Hid (hTo n ws (k + 1) = hTo n ws k) := by show _ = _; rw [HSt.out, if_neg (fun h => h.elim h1 h2)]
            clear h1 h2
            go_wp2
            go_roundw
            case rel => exact ⟨k + 1, by omega, by go_num, by rw [HE.out], by trivial⟩
            case measure => simp [intOf]; omega
      · obtain rfl : k = ws.length := by omega
        have HEn : Hid (hTo n ws ws.length = pc) := by show _ = _; rw [hTo_end]; exact r1.out
        have hnlt : decide ((ws.length : Int) < (ws.length : Int)) = false := by simp
        rw [HEn.out]
        by_cases h0 : pc = 0
        · obtain ⟨g1, g2, g3, g4⟩ := hp0.out h0
          obtain ⟨N, rfl⟩ : ∃ N : Nat, n = (N : Int) := ⟨n.toNat, by omega⟩
          rw [Int.toNat_natCast] at g4
          have G3 : Hid (okWord (N : Int) ws = true) := g3
          have G4 : Hid (play ws (orderL N) = pl) := g4.symm
          have hN40 : N ≤ 40 := by omega
          clear g3 g4
          subst h0
          go_wp2_with fail
          refine (Came_ok N hN40 _ _ _ ws _ hk rfl G3.out).mono ?_
          rintro e w6 ⟨v, rfl, hown, hb⟩
          rw [G4.out] at hown
          have HB6 : Hid (Below w.heap.size w w6) := HB5.out.trans (hb.mono HB5.out.size)
          replace hp := hp.below hb
          replace hq := hq.below hb
          replace hk := hk.below hb
          replace S5 := S5.below hb
          obtain ⟨a6, n6, c6, rfl, S6, hn6, hc6⟩ := hown.opened hpl.out.len hpl.out.wf
          have HN6 : Hid (n6 = pl.length) := hn6
          have HC6 : Hid (n6 ≤ c6) := hc6
          clear hown hn6 hc6
          clear hb
          go_wp2_with fail
          refine (list_ok _ _ _ _ _ _ _ pl S5 S6 HN5 HN6).mono ?_
          rintro e w7 ⟨rfl, hd⟩
          have hb : Below w6.heap.size w6 w7 := by
            obtain ⟨n, rfl⟩ := hd
            exact below_drewN (Below.refl _ _) n
          have HB7 : Hid (Below w.heap.size w w7) := HB6.out.trans (hb.mono HB6.out.size)
          replace hp := hp.below hb
          replace hq := hq.below hb
          replace hk := hk.below hb
          replace S5 := S5.below hb
          replace S6 := S6.below hb
          clear hb hd
          go_wp2_with fail
          refine (Below_at _ _ _ _ _ _ _ hp hq rfl rfl HBel.out).mono ?_
          rintro e w8 ⟨rfl, hb⟩
          have HB8 : Hid (Below w.heap.size w w8) := HB7.out.trans (hb.mono HB7.out.size)
          replace hp := hp.below hb
          replace hq := hq.below hb
          replace hk := hk.below hb
          replace S5 := S5.below hb
          replace S6 := S6.below hb
          clear hb
          go_wp2_with fail
          refine (RPerm_is _ _ _ _ _ hq rfl E2).mono ?_
          rintro e w9 ⟨rfl, hw9⟩
          obtain rfl : w8 = w9 := hw9.symm
          go_wp2_with fail
          go_ret
          exact ⟨rfl, HB8.out⟩
        · have hpc : (pc != 0) = true := bne_iff_ne.2 h0
          have hpc2 : (pc == 0) = false := beq_eq_false_iff_ne.2 h0
          have hpn := hpe.out h0
          subst hpn
          have hzz := HN5.out
          simp only [List.length_nil] at hzz
          subst hzz
          clear h0
          go_wp2_with fail
          refine (list_err _ _ _ _ _ _ pc hpc).mono ?_
          rintro e w46 ⟨rfl, hd⟩
          have hb : Below w5.heap.size w5 w46 := by
            obtain ⟨n, rfl⟩ := hd
            exact below_drewN (Below.refl _ _) n
          have HB46 : Hid (Below w.heap.size w w46) := HB5.out.trans (hb.mono HB5.out.size)
          replace hp := hp.below hb
          replace hq := hq.below hb
          replace hk := hk.below hb
          clear hb hd
          go_wp2_with fail
          refine (Below_at _ _ _ _ _ _ _ hp hq rfl rfl HBel.out).mono ?_
          rintro e w47 ⟨rfl, hb⟩
          have HB47 : Hid (Below w.heap.size w w47) := HB46.out.trans (hb.mono HB46.out.size)
          replace hp := hp.below hb
          replace hq := hq.below hb
          replace hk := hk.below hb
          clear hb
          go_wp2_with fail
          refine (RPerm_is _ _ _ _ _ hq rfl E2).mono ?_
          rintro e w48 ⟨rfl, hw48⟩
          obtain rfl : w47 = w48 := hw48.symm
          go_wp2_with fail
          go_ret
          exact ⟨rfl, HB47.out⟩
  · have hd1 : decide (n < 0) = false := by simpa using hneg
    by_cases hbig : 40 < n
    · have hd2 : decide (n > 40) = true := by simpa using hbig
      have HH : Hid (hTo n ws 0 = 1) := by show _ = _; unfold hTo; rw [if_pos (Or.inr hbig)]
      go_wp2_with fail
      go_loopw [15, 51] (fun h i wr => ∃ k : Nat, k ≤ ws.length ∧ i = .int .i64 k ∧ h = .int .i64 (hTo n ws k) ∧ wr = w5) (fun _ i _ => ws.length - (intOf i).toNat)
      case atStart => exact ⟨0, Nat.zero_le _, rfl, by rw [HH.out], by trivial⟩
      case round =>
        obtain ⟨k, hk2, rfl, rfl, hwr⟩ := hrel
        obtain rfl : w5 = wr := hwr.symm
        by_cases hlt : k < ws.length
        · have hlt' : (k : Int) < (ws.length : Int) := by omega
          obtain ⟨bk, ok, z, rfl, HZ, -, -, hcz⟩ := hk.elem hlt
          have HSt : Hid (hTo n ws (k + 1) = if z < 1 ∨ n ≤ z then 1 else hTo n ws k) := by show _ = _; rw [hTo_step n hlt, ← HZ.out]
          by_cases h1 : z < 1
          · have hb1 : decide (z < 1) = true := by simpa using h1
            have HE : Hid (hTo n ws (k + 1) = 1) := by show _ = _; rw [HSt.out, if_pos (Or.inl h1)]
            clear h1
            go_wp2
            go_roundw
            case rel => exact ⟨k + 1, by omega, by go_num, by rw [HE.out], by trivial⟩
            case measure => simp [intOf]; omega
          · have hb1 : decide (z < 1) = false := by simpa using h1
            by_cases h2 : n ≤ z
            · have hb2 : decide (z ≥ n) = true := by simpa using h2
              have HE : Hid (hTo n ws (k + 1) = 1) := by show _ = _; rw [HSt.out, if_pos (Or.inr h2)]
              clear h1 h2
              go_wp2
              go_roundw
              case rel => exact ⟨k + 1, by omega, by go_num, by rw [HE.out], by trivial⟩
              case measure => simp [intOf]; omega
            · have hb2 : decide (z ≥ n) = false := by simpa using h2
              have HE : Hid (hTo n ws (k + 1) = hTo n ws k) := by show _ = _; rw [HSt.out, if_neg (fun h => h.elim h1 h2)]
              clear h1 h2
              go_wp2
              go_roundw
              case rel => exact ⟨k + 1, by omega, by go_num, by rw [HE.out], by trivial⟩
              case measure => simp [intOf]; omega
        · obtain rfl : k = ws.length := by omega
          have HEn : Hid (hTo n ws ws.length = pc) := by show _ = _; rw [hTo_end]; exact r1.out
          have hnlt : decide ((ws.length : Int) < (ws.length : Int)) = false := by simp
          rw [HEn.out]
          by_cases h0 : pc = 0
          · obtain ⟨g1, g2, g3, g4⟩ := hp0.out h0
            obtain ⟨N, rfl⟩ : ∃ N : Nat, n = (N : Int) := ⟨n.toNat, by omega⟩
            rw [Int.toNat_natCast] at g4
            have G3 : Hid (okWord (N : Int) ws = true) := g3
            have G4 : Hid (play ws (orderL N) = pl) := g4.symm
            have hN40 : N ≤ 40 := by omega
            clear g3 g4
            subst h0
            go_wp2_with fail
            refine (Came_ok N hN40 _ _ _ ws _ hk rfl G3.out).mono ?_
            rintro e w6 ⟨v, rfl, hown, hb⟩
            rw [G4.out] at hown
            have HB6 : Hid (Below w.heap.size w w6) := HB5.out.trans (hb.mono HB5.out.size)
            replace hp := hp.below hb
            replace hq := hq.below hb
            replace hk := hk.below hb
            replace S5 := S5.below hb
            obtain ⟨a6, n6, c6, rfl, S6, hn6, hc6⟩ := hown.opened hpl.out.len hpl.out.wf
            have HN6 : Hid (n6 = pl.length) := hn6
            have HC6 : Hid (n6 ≤ c6) := hc6
            clear hown hn6 hc6
            clear hb
            go_wp2_with fail
            refine (list_ok _ _ _ _ _ _ _ pl S5 S6 HN5 HN6).mono ?_
            rintro e w7 ⟨rfl, hd⟩
            have hb : Below w6.heap.size w6 w7 := by
              obtain ⟨n, rfl⟩ := hd
              exact below_drewN (Below.refl _ _) n
            have HB7 : Hid (Below w.heap.size w w7) := HB6.out.trans (hb.mono HB6.out.size)
            replace hp := hp.below hb
            replace hq := hq.below hb
            replace hk := hk.below hb
            replace S5 := S5.below hb
            replace S6 := S6.below hb
            clear hb hd
            go_wp2_with fail
            refine (Below_at _ _ _ _ _ _ _ hp hq rfl rfl HBel.out).mono ?_
            rintro e w8 ⟨rfl, hb⟩
            have HB8 : Hid (Below w.heap.size w w8) := HB7.out.trans (hb.mono HB7.out.size)
            replace hp := hp.below hb
            replace hq := hq.below hb
            replace hk := hk.below hb
            replace S5 := S5.below hb
            replace S6 := S6.below hb
            clear hb
            go_wp2_with fail
            refine (RPerm_is _ _ _ _ _ hq rfl E2).mono ?_
            rintro e w9 ⟨rfl, hw9⟩
            obtain rfl : w8 = w9 := hw9.symm
            go_wp2_with fail
            go_ret
            exact ⟨rfl, HB8.out⟩
          · have hpc : (pc != 0) = true := bne_iff_ne.2 h0
            have hpc2 : (pc == 0) = false := beq_eq_false_iff_ne.2 h0
            have hpn := hpe.out h0
            subst hpn
            have hzz := HN5.out
            simp only [List.length_nil] at hzz
            subst hzz
            clear h0
            go_wp2_with fail
            refine (list_err _ _ _ _ _ _ pc hpc).mono ?_
            rintro e w46 ⟨rfl, hd⟩
            have hb : Below w5.heap.size w5 w46 := by
              obtain ⟨n, rfl⟩ := hd
              exact below_drewN (Below.refl _ _) n
            have HB46 : Hid (Below w.heap.size w w46) := HB5.out.trans (hb.mono HB5.out.size)
            replace hp := hp.below hb
            replace hq := hq.below hb
            replace hk := hk.below hb
            clear hb hd
            go_wp2_with fail
            refine (Below_at _ _ _ _ _ _ _ hp hq rfl rfl HBel.out).mono ?_
            rintro e w47 ⟨rfl, hb⟩
            have HB47 : Hid (Below w.heap.size w w47) := HB46.out.trans (hb.mono HB46.out.size)
            replace hp := hp.below hb
            replace hq := hq.below hb
            replace hk := hk.below hb
            clear hb
            go_wp2_with fail
            refine (RPerm_is _ _ _ _ _ hq rfl E2).mono ?_
            rintro e w48 ⟨rfl, hw48⟩
            obtain rfl : w47 = w48 := hw48.symm
            go_wp2_with fail
            go_ret
            exact ⟨rfl, HB47.out⟩
    · have hd2 : decide (n > 40) = false := by simpa using hbig
      have HH : Hid (hTo n ws 0 = 0) := by show _ = _; unfold hTo; rw [if_neg (fun h => h.elim hneg hbig)]; simp [okWord]
      go_wp2_with fail
      go_loopw [15, 51] (fun h i wr => ∃ k : Nat, k ≤ ws.length ∧ i = .int .i64 k ∧ h = .int .i64 (hTo n ws k) ∧ wr = w5) (fun _ i _ => ws.length - (intOf i).toNat)
      case atStart => exact ⟨0, Nat.zero_le _, rfl, by rw [HH.out], by trivial⟩
      case round =>
        obtain ⟨k, hk2, rfl, rfl, hwr⟩ := hrel
        obtain rfl : w5 = wr := hwr.symm
        by_cases hlt : k < ws.length
        · have hlt' : (k : Int) < (ws.length : Int) := by omega
          obtain ⟨bk, ok, z, rfl, HZ, -, -, hcz⟩ := hk.elem hlt
          have HSt : Hid (hTo n ws (k + 1) = if z < 1 ∨ n ≤ z then 1 else hTo n ws k) := by show _ = _; rw [hTo_step n hlt, ← HZ.out]
          by_cases h1 : z < 1
          · have hb1 : decide (z < 1) = true := by simpa using h1
            have HE : Hid (hTo n ws (k + 1) = 1) := by show _ = _; rw [HSt.out, if_pos (Or.inl h1)]
            clear h1
            go_wp2
            go_roundw
            case rel => exact ⟨k + 1, by omega, by go_num, by rw [HE.out], by trivial⟩
            case measure => simp [intOf]; omega
          · have hb1 : decide (z < 1) = false := by simpa using h1
            by_cases h2 : n ≤ z
            · have hb2 : decide (z ≥ n) = true := by simpa using h2
              have HE : Hid (hTo n ws (k + 1) = 1) := by show _ = _; rw [HSt.out, if_pos (Or.inr h2)]
              clear h1 h2
              go_wp2
              go_roundw
              case rel => exact ⟨k + 1, by omega, by go_num, by rw [HE.out], by trivial⟩
              case measure => simp [intOf]; omega
            · have hb2 : decide (z ≥ n) = false := by simpa using h2
              have HE : Hid (hTo n ws (k + 1) = hTo n ws k) := by show _ = _; rw [HSt.out, if_neg (fun h => h.elim h1 h2)]
              clear h1 h2
              go_wp2
              go_roundw
              case rel => exact ⟨k + 1, by omega, by go_num, by rw [HE.out], by trivial⟩
              case measure => simp [intOf]; omega
        · obtain rfl : k = ws.length := by omega
          have HEn : Hid (hTo n ws ws.length = pc) := by show _ = _; rw [hTo_end]; exact r1.out
          have hnlt : decide ((ws.length : Int) < (ws.length : Int)) = false := by simp
          rw [HEn.out]
          by_cases h0 : pc = 0
          · obtain ⟨g1, g2, g3, g4⟩ := hp0.out h0
            obtain ⟨N, rfl⟩ : ∃ N : Nat, n = (N : Int) := ⟨n.toNat, by omega⟩
            rw [Int.toNat_natCast] at g4
            have G3 : Hid (okWord (N : Int) ws = true) := g3
            have G4 : Hid (play ws (orderL N) = pl) := g4.symm
            have hN40 : N ≤ 40 := by omega
            clear g3 g4
            subst h0
            go_wp2_with fail
            refine (Came_ok N hN40 _ _ _ ws _ hk rfl G3.out).mono ?_
            rintro e w6 ⟨v, rfl, hown, hb⟩
            rw [G4.out] at hown
            have HB6 : Hid (Below w.heap.size w w6) := HB5.out.trans (hb.mono HB5.out.size)
            replace hp := hp.below hb
            replace hq := hq.below hb
            replace hk := hk.below hb
            replace S5 := S5.below hb
            obtain ⟨a6, n6, c6, rfl, S6, hn6, hc6⟩ := hown.opened hpl.out.len hpl.out.wf
            have HN6 : Hid (n6 = pl.length) := hn6
            have HC6 : Hid (n6 ≤ c6) := hc6
            clear hown hn6 hc6
            clear hb
            go_wp2_with fail
            refine (list_ok _ _ _ _ _ _ _ pl S5 S6 HN5 HN6).mono ?_
            rintro e w7 ⟨rfl, hd⟩
            have hb : Below w6.heap.size w6 w7 := by
              obtain ⟨n, rfl⟩ := hd
              exact below_drewN (Below.refl _ _) n
            have HB7 : Hid (Below w.heap.size w w7) := HB6.out.trans (hb.mono HB6.out.size)
            replace hp := hp.below hb
            replace hq := hq.below hb
            replace hk := hk.below hb
            replace S5 := S5.below hb
            replace S6 := S6.below hb
            clear hb hd
            go_wp2_with fail
            refine (Below_at _ _ _ _ _ _ _ hp hq rfl rfl HBel.out).mono ?_
            rintro e w8 ⟨rfl, hb⟩
            have HB8 : Hid (Below w.heap.size w w8) := HB7.out.trans (hb.mono HB7.out.size)
            replace hp := hp.below hb
            replace hq := hq.below hb
            replace hk := hk.below hb
            replace S5 := S5.below hb
            replace S6 := S6.below hb
            clear hb
            go_wp2_with fail
            refine (RPerm_is _ _ _ _ _ hq rfl E2).mono ?_
            rintro e w9 ⟨rfl, hw9⟩
            obtain rfl : w8 = w9 := hw9.symm
            go_wp2_with fail
            go_ret
            exact ⟨rfl, HB8.out⟩
          · have hpc : (pc != 0) = true := bne_iff_ne.2 h0
            have hpc2 : (pc == 0) = false := beq_eq_false_iff_ne.2 h0
            have hpn := hpe.out h0
            subst hpn
            have hzz := HN5.out
            simp only [List.length_nil] at hzz
            subst hzz
            clear h0
            go_wp2_with fail
            refine (list_err _ _ _ _ _ _ pc hpc).mono ?_
            rintro e w46 ⟨rfl, hd⟩
            have hb : Below w5.heap.size w5 w46 := by
              obtain ⟨n, rfl⟩ := hd
              exact below_drewN (Below.refl _ _) n
            have HB46 : Hid (Below w.heap.size w w46) := HB5.out.trans (hb.mono HB5.out.size)
            replace hp := hp.below hb
            replace hq := hq.below hb
            replace hk := hk.below hb
            clear hb hd
            go_wp2_with fail
            refine (Below_at _ _ _ _ _ _ _ hp hq rfl rfl HBel.out).mono ?_
            rintro e w47 ⟨rfl, hb⟩
            have HB47 : Hid (Below w.heap.size w w47) := HB46.out.trans (hb.mono HB46.out.size)
            replace hp := hp.below hb
            replace hq := hq.below hb
            replace hk := hk.below hb
            clear hb
            go_wp2_with fail
            refine (RPerm_is _ _ _ _ _ hq rfl E2).mono ?_
            rintro e w48 ⟨rfl, hw48⟩
            obtain rfl : w47 = w48 := hw48.symm
            go_wp2_with fail
            go_ret
            exact ⟨rfl, HB47.out⟩

set_option maxHeartbeats 8000000 in
set_option maxRecDepth 100000 in
theorem words_0 (a b d : Option Addr) (ca cb cd : Nat) (n : Int) (ps qs ws : List Int) (w : World) (hp : Shows w a ps) (hq : Shows w b qs) (hk : Shows w d ws) (hn1 : -9223372036854775808 ≤ n) (hn2 : n ≤ 9223372036854775807) (pc : Int) (pl : List Int) (r1 : Hid (prodC n ws = pc)) (r2 : Hid (prodL n ws = pl)) (hpl : Hid (Smll pl)) (hpe : Hid (pc ≠ 0 → pl = [])) (hp0 : Hid (pc = 0 → 0 ≤ n ∧ n ≤ 40 ∧ okWord n ws = true ∧ pl = play ws (orderL n.toNat))) (hpp : IsPerm ps) (hpn : Hid (a = none → ps = [] ∧ ca = 0)) (hca : ps.length ≤ ca) (hcb : qs.length ≤ cb) (t : Bool) (E2 : Hid (pchk qs = 0)) (HLen : Hid (ps.length = qs.length)) (hln : ((ps.length : Int) != (qs.length : Int)) = false) (HPw : Hid (∀ z ∈ ps, 0 ≤ z ∧ z ≤ 1000)) (HQw : Hid (∀ z ∈ qs, 0 ≤ z ∧ z ≤ 1000)) (HBel : Hid (BelR ps qs 0 t)) (HBel2 : Hid (t = true ↔ Under ps qs)) :
    Calls Try.prog 4 #[.slice a ps.length ca, .slice b qs.length cb, .int .i64 n, .slice d ws.length cd] w fun e w' => e = .returned (.bool true) ∧ Below w.heap.size w w' := by
  have hwl := hk.len
  have h40 := hpp.len
  have HP : Hid (IsPerm ps) := hpp
  have E : Hid (pchk ps = 0) := pchk_ok.2 hpp
  clear hpp
  go_enter Try.func4, Try.ntmps4
  go_wp2_with fail
  refine (Word_ch _ _ _ _ hp HP.out).mono ?_
  rintro e w1 ⟨v, us, rfl, hpl1, hown, hb⟩
  have HB1 : Hid (Below w.heap.size w w1) := hb
  replace hp := hp.below hb
  replace hq := hq.below hb
  replace hk := hk.below hb
  have HPU : Hid (Played ps us) := hpl1
  have HUs : Hid (Smll us) := Smll.word HP.out hpl1
  obtain ⟨a1, n1, c1, rfl, S1, hn1, hc1⟩ := hown.opened HUs.out.len HUs.out.wf
  have HN1 : Hid (n1 = us.length) := hn1
  have HC1 : Hid (n1 ≤ c1) := hc1
  clear hown hn1 hc1
  clear hb hpl1
  go_wp2_with fail
  refine (RPerm_is _ _ _ _ _ hp rfl E).mono ?_
  rintro e w2 ⟨rfl, hw2⟩
  obtain rfl : w1 = w2 := hw2.symm
  go_wp2_with fail
  refine (Neighbours_ok _ _ _ _ _ hp rfl hpn.out HP.out).mono ?_
  rintro e w3 ⟨v, us2, rfl, hpl2, hown, hb⟩
  obtain rfl := HPU.out.uniq hpl2
  have HB3 : Hid (Below w.heap.size w w3) := HB1.out.trans (hb.mono HB1.out.size)
  replace hp := hp.below hb
  replace hq := hq.below hb
  replace hk := hk.below hb
  replace S1 := S1.below hb
  obtain ⟨a3, n3, c3, rfl, S3, hn3, hc3⟩ := hown.opened HUs.out.len HUs.out.wf
  have HN3 : Hid (n3 = us.length) := hn3
  have HC3 : Hid (n3 ≤ c3) := hc3
  clear hown hn3 hc3
  clear hb hpl2
  go_wp2_with fail
  refine (list_ok _ _ _ _ _ _ _ us S1 S3 HN1 HN3).mono ?_
  rintro e w4 ⟨rfl, hd⟩
  have hb : Below w3.heap.size w3 w4 := by
    obtain ⟨n, rfl⟩ := hd
    exact below_drewN (Below.refl _ _) n
  have HB4 : Hid (Below w.heap.size w w4) := HB3.out.trans (hb.mono HB3.out.size)
  replace hp := hp.below hb
  replace hq := hq.below hb
  replace hk := hk.below hb
  replace S1 := S1.below hb
  replace S3 := S3.below hb
  clear hb hd
  clear S1 S3
  go_wp2_with fail
  refine (Product_at n hn1 hn2 _ _ _ ws pl pc _ hk rfl r1.out r2.out).mono ?_
  rintro e w5 ⟨v, rfl, hown, hb⟩
  have HB5 : Hid (Below w.heap.size w w5) := HB4.out.trans (hb.mono HB4.out.size)
  replace hp := hp.below hb
  replace hq := hq.below hb
  replace hk := hk.below hb
  obtain ⟨a5, n5, c5, rfl, S5, hn5, hc5⟩ := hown.opened hpl.out.len hpl.out.wf
  have HN5 : Hid (n5 = pl.length) := hn5
  have HC5 : Hid (n5 ≤ c5) := hc5
  clear hown hn5 hc5
  clear hb
  by_cases hneg : n < 0
  · have hd1 : decide (n < 0) = true := by simpa using hneg
    have HH : Hid (hTo n ws 0 = 1) := by show _ = _; unfold hTo; rw [if_pos (Or.inl hneg)]
    go_wp2_with fail
    go_loopw [15, 51] (fun h i wr => ∃ k : Nat, k ≤ ws.length ∧ i = .int .i64 k ∧ h = .int .i64 (hTo n ws k) ∧ wr = w5) (fun _ i _ => ws.length - (intOf i).toNat)
    case atStart => exact ⟨0, Nat.zero_le _, rfl, by rw [HH.out], by trivial⟩
    case round =>
      obtain ⟨k, hk2, rfl, rfl, hwr⟩ := hrel
      obtain rfl : w5 = wr := hwr.symm
      by_cases hlt : k < ws.length
      · have hlt' : (k : Int) < (ws.length : Int) := by omega
        obtain ⟨bk, ok, z, rfl, HZ, -, -, hcz⟩ := hk.elem hlt
        have HSt : Hid (hTo n ws (k + 1) = if z < 1 ∨ n ≤ z then 1 else hTo n ws k) := by show _ = _; rw [hTo_step n hlt, ← HZ.out]
        by_cases h1 : z < 1
        · have hb1 : decide (z < 1) = true := by simpa using h1
          have HE : Hid (hTo n ws (k + 1) = 1) := by show _ = _; rw [HSt.out, if_pos (Or.inl h1)]
          clear h1
          go_wp2
          go_roundw
          case rel => exact ⟨k + 1, by omega, by go_num, by rw [HE.out], by trivial⟩
          case measure => simp [intOf]; omega
        · have hb1 : decide (z < 1) = false := by simpa using h1
          by_cases h2 : n ≤ z
          · have hb2 : decide (z ≥ n) = true := by simpa using h2
            have HE : Hid (hTo n ws (k + 1) = 1) := by show _ = _; rw [HSt.out, if_pos (Or.inr h2)]
            clear h1 h2
            go_wp2
            go_roundw
            case rel => exact ⟨k + 1, by omega, by go_num, by rw [HE.out], by trivial⟩
            case measure => simp [intOf]; omega
          · have hb2 : decide (z ≥ n) = false := by simpa using h2
            have HE : Hid (hTo n ws (k + 1) = hTo n ws k) := by show _ = _; rw [HSt.out, if_neg (fun h => h.elim h1 h2)]
            clear h1 h2
            go_wp2
            go_roundw
            case rel => exact ⟨k + 1, by omega, by go_num, by rw [HE.out], by trivial⟩
            case measure => simp [intOf]; omega
      · obtain rfl : k = ws.length := by omega
        have HEn : Hid (hTo n ws ws.length = pc) := by show _ = _; rw [hTo_end]; exact r1.out
        have hnlt : decide ((ws.length : Int) < (ws.length : Int)) = false := by simp
        rw [HEn.out]
        by_cases h0 : pc = 0
        · obtain ⟨g1, g2, g3, g4⟩ := hp0.out h0
          obtain ⟨N, rfl⟩ : ∃ N : Nat, n = (N : Int) := ⟨n.toNat, by omega⟩
          rw [Int.toNat_natCast] at g4
          have G3 : Hid (okWord (N : Int) ws = true) := g3
          have G4 : Hid (play ws (orderL N) = pl) := g4.symm
          have hN40 : N ≤ 40 := by omega
          clear g3 g4
          subst h0
          go_wp2_with fail
          refine (Came_ok N hN40 _ _ _ ws _ hk rfl G3.out).mono ?_
          rintro e w6 ⟨v, rfl, hown, hb⟩
          rw [G4.out] at hown
          have HB6 : Hid (Below w.heap.size w w6) := HB5.out.trans (hb.mono HB5.out.size)
          replace hp := hp.below hb
          replace hq := hq.below hb
          replace hk := hk.below hb
          replace S5 := S5.below hb
          obtain ⟨a6, n6, c6, rfl, S6, hn6, hc6⟩ := hown.opened hpl.out.len hpl.out.wf
          have HN6 : Hid (n6 = pl.length) := hn6
          have HC6 : Hid (n6 ≤ c6) := hc6
          clear hown hn6 hc6
          clear hb
          go_wp2_with fail
          refine (list_ok _ _ _ _ _ _ _ pl S5 S6 HN5 HN6).mono ?_
          rintro e w7 ⟨rfl, hd⟩
          have hb : Below w6.heap.size w6 w7 := by
            obtain ⟨n, rfl⟩ := hd
            exact below_drewN (Below.refl _ _) n
          have HB7 : Hid (Below w.heap.size w w7) := HB6.out.trans (hb.mono HB6.out.size)
          replace hp := hp.below hb
          replace hq := hq.below hb
          replace hk := hk.below hb
          replace S5 := S5.below hb
          replace S6 := S6.below hb
          clear hb hd
          go_wp2_with fail
          refine (Below_at _ _ _ _ _ _ _ hp hq rfl rfl HBel.out).mono ?_
          rintro e w8 ⟨rfl, hb⟩
          have HB8 : Hid (Below w.heap.size w w8) := HB7.out.trans (hb.mono HB7.out.size)
          replace hp := hp.below hb
          replace hq := hq.below hb
          replace hk := hk.below hb
          replace S5 := S5.below hb
          replace S6 := S6.below hb
          clear hb
          go_wp2_with fail
          refine (RPerm_is _ _ _ _ _ hq rfl E2).mono ?_
          rintro e w9 ⟨rfl, hw9⟩
          obtain rfl : w8 = w9 := hw9.symm
          go_wp2_with fail
          refine (Under_ok _ _ _ _ ps qs t _ hp hq hca hcb h40 HLen.out HPw.out HQw.out HBel2.out).mono ?_
          rintro e w10 ⟨rfl, hb⟩
          have HB10 : Hid (Below w.heap.size w w10) := HB8.out.trans (hb.mono HB8.out.size)
          replace hp := hp.below hb
          replace hq := hq.below hb
          replace hk := hk.below hb
          replace S5 := S5.below hb
          replace S6 := S6.below hb
          clear hb
          go_wp2_with fail
          go_ret
          exact ⟨rfl, HB10.out⟩
        · have hpc : (pc != 0) = true := bne_iff_ne.2 h0
          have hpc2 : (pc == 0) = false := beq_eq_false_iff_ne.2 h0
          have hpn := hpe.out h0
          subst hpn
          have hzz := HN5.out
          simp only [List.length_nil] at hzz
          subst hzz
          clear h0
          go_wp2_with fail
          refine (list_err _ _ _ _ _ _ pc hpc).mono ?_
          rintro e w46 ⟨rfl, hd⟩
          have hb : Below w5.heap.size w5 w46 := by
            obtain ⟨n, rfl⟩ := hd
            exact below_drewN (Below.refl _ _) n
          have HB46 : Hid (Below w.heap.size w w46) := HB5.out.trans (hb.mono HB5.out.size)
          replace hp := hp.below hb
          replace hq := hq.below hb
          replace hk := hk.below hb
          clear hb hd
          go_wp2_with fail
          refine (Below_at _ _ _ _ _ _ _ hp hq rfl rfl HBel.out).mono ?_
          rintro e w47 ⟨rfl, hb⟩
          have HB47 : Hid (Below w.heap.size w w47) := HB46.out.trans (hb.mono HB46.out.size)
          replace hp := hp.below hb
          replace hq := hq.below hb
          replace hk := hk.below hb
          clear hb
          go_wp2_with fail
          refine (RPerm_is _ _ _ _ _ hq rfl E2).mono ?_
          rintro e w48 ⟨rfl, hw48⟩
          obtain rfl : w47 = w48 := hw48.symm
          go_wp2_with fail
          refine (Under_ok _ _ _ _ ps qs t _ hp hq hca hcb h40 HLen.out HPw.out HQw.out HBel2.out).mono ?_
          rintro e w49 ⟨rfl, hb⟩
          have HB49 : Hid (Below w.heap.size w w49) := HB47.out.trans (hb.mono HB47.out.size)
          replace hp := hp.below hb
          replace hq := hq.below hb
          replace hk := hk.below hb
          clear hb
          go_wp2_with fail
          go_ret
          exact ⟨rfl, HB49.out⟩
  · have hd1 : decide (n < 0) = false := by simpa using hneg
    by_cases hbig : 40 < n
    · have hd2 : decide (n > 40) = true := by simpa using hbig
      have HH : Hid (hTo n ws 0 = 1) := by show _ = _; unfold hTo; rw [if_pos (Or.inr hbig)]
      go_wp2_with fail
      go_loopw [15, 51] (fun h i wr => ∃ k : Nat, k ≤ ws.length ∧ i = .int .i64 k ∧ h = .int .i64 (hTo n ws k) ∧ wr = w5) (fun _ i _ => ws.length - (intOf i).toNat)
      case atStart => exact ⟨0, Nat.zero_le _, rfl, by rw [HH.out], by trivial⟩
      case round =>
        obtain ⟨k, hk2, rfl, rfl, hwr⟩ := hrel
        obtain rfl : w5 = wr := hwr.symm
        by_cases hlt : k < ws.length
        · have hlt' : (k : Int) < (ws.length : Int) := by omega
          obtain ⟨bk, ok, z, rfl, HZ, -, -, hcz⟩ := hk.elem hlt
          have HSt : Hid (hTo n ws (k + 1) = if z < 1 ∨ n ≤ z then 1 else hTo n ws k) := by show _ = _; rw [hTo_step n hlt, ← HZ.out]
          by_cases h1 : z < 1
          · have hb1 : decide (z < 1) = true := by simpa using h1
            have HE : Hid (hTo n ws (k + 1) = 1) := by show _ = _; rw [HSt.out, if_pos (Or.inl h1)]
            clear h1
            go_wp2
            go_roundw
            case rel => exact ⟨k + 1, by omega, by go_num, by rw [HE.out], by trivial⟩
            case measure => simp [intOf]; omega
          · have hb1 : decide (z < 1) = false := by simpa using h1
            by_cases h2 : n ≤ z
            · have hb2 : decide (z ≥ n) = true := by simpa using h2
              have HE : Hid (hTo n ws (k + 1) = 1) := by show _ = _; rw [HSt.out, if_pos (Or.inr h2)]
              clear h1 h2
              go_wp2
              go_roundw
              case rel => exact ⟨k + 1, by omega, by go_num, by rw [HE.out], by trivial⟩
              case measure => simp [intOf]; omega
            · have hb2 : decide (z ≥ n) = false := by simpa using h2
              have HE : Hid (hTo n ws (k + 1) = hTo n ws k) := by show _ = _; rw [HSt.out, if_neg (fun h => h.elim h1 h2)]
              clear h1 h2
              go_wp2
              go_roundw
              case rel => exact ⟨k + 1, by omega, by go_num, by rw [HE.out], by trivial⟩
              case measure => simp [intOf]; omega
        · obtain rfl : k = ws.length := by omega
          have HEn : Hid (hTo n ws ws.length = pc) := by show _ = _; rw [hTo_end]; exact r1.out
          have hnlt : decide ((ws.length : Int) < (ws.length : Int)) = false := by simp
          rw [HEn.out]
          by_cases h0 : pc = 0
          · obtain ⟨g1, g2, g3, g4⟩ := hp0.out h0
            obtain ⟨N, rfl⟩ : ∃ N : Nat, n = (N : Int) := ⟨n.toNat, by omega⟩
            rw [Int.toNat_natCast] at g4
            have G3 : Hid (okWord (N : Int) ws = true) := g3
            have G4 : Hid (play ws (orderL N) = pl) := g4.symm
            have hN40 : N ≤ 40 := by omega
            clear g3 g4
            subst h0
            go_wp2_with fail
            refine (Came_ok N hN40 _ _ _ ws _ hk rfl G3.out).mono ?_
            rintro e w6 ⟨v, rfl, hown, hb⟩
            rw [G4.out] at hown
            have HB6 : Hid (Below w.heap.size w w6) := HB5.out.trans (hb.mono HB5.out.size)
            replace hp := hp.below hb
            replace hq := hq.below hb
            replace hk := hk.below hb
            replace S5 := S5.below hb
            obtain ⟨a6, n6, c6, rfl, S6, hn6, hc6⟩ := hown.opened hpl.out.len hpl.out.wf
            have HN6 : Hid (n6 = pl.length) := hn6
            have HC6 : Hid (n6 ≤ c6) := hc6
            clear hown hn6 hc6
            clear hb
            go_wp2_with fail
            refine (list_ok _ _ _ _ _ _ _ pl S5 S6 HN5 HN6).mono ?_
            rintro e w7 ⟨rfl, hd⟩
            have hb : Below w6.heap.size w6 w7 := by
              obtain ⟨n, rfl⟩ := hd
              exact below_drewN (Below.refl _ _) n
            have HB7 : Hid (Below w.heap.size w w7) := HB6.out.trans (hb.mono HB6.out.size)
            replace hp := hp.below hb
            replace hq := hq.below hb
            replace hk := hk.below hb
            replace S5 := S5.below hb
            replace S6 := S6.below hb
            clear hb hd
            go_wp2_with fail
            refine (Below_at _ _ _ _ _ _ _ hp hq rfl rfl HBel.out).mono ?_
            rintro e w8 ⟨rfl, hb⟩
            have HB8 : Hid (Below w.heap.size w w8) := HB7.out.trans (hb.mono HB7.out.size)
            replace hp := hp.below hb
            replace hq := hq.below hb
            replace hk := hk.below hb
            replace S5 := S5.below hb
            replace S6 := S6.below hb
            clear hb
            go_wp2_with fail
            refine (RPerm_is _ _ _ _ _ hq rfl E2).mono ?_
            rintro e w9 ⟨rfl, hw9⟩
            obtain rfl : w8 = w9 := hw9.symm
            go_wp2_with fail
            refine (Under_ok _ _ _ _ ps qs t _ hp hq hca hcb h40 HLen.out HPw.out HQw.out HBel2.out).mono ?_
            rintro e w10 ⟨rfl, hb⟩
            have HB10 : Hid (Below w.heap.size w w10) := HB8.out.trans (hb.mono HB8.out.size)
            replace hp := hp.below hb
            replace hq := hq.below hb
            replace hk := hk.below hb
            replace S5 := S5.below hb
            replace S6 := S6.below hb
            clear hb
            go_wp2_with fail
            go_ret
            exact ⟨rfl, HB10.out⟩
          · have hpc : (pc != 0) = true := bne_iff_ne.2 h0
            have hpc2 : (pc == 0) = false := beq_eq_false_iff_ne.2 h0
            have hpn := hpe.out h0
            subst hpn
            have hzz := HN5.out
            simp only [List.length_nil] at hzz
            subst hzz
            clear h0
            go_wp2_with fail
            refine (list_err _ _ _ _ _ _ pc hpc).mono ?_
            rintro e w46 ⟨rfl, hd⟩
            have hb : Below w5.heap.size w5 w46 := by
              obtain ⟨n, rfl⟩ := hd
              exact below_drewN (Below.refl _ _) n
            have HB46 : Hid (Below w.heap.size w w46) := HB5.out.trans (hb.mono HB5.out.size)
            replace hp := hp.below hb
            replace hq := hq.below hb
            replace hk := hk.below hb
            clear hb hd
            go_wp2_with fail
            refine (Below_at _ _ _ _ _ _ _ hp hq rfl rfl HBel.out).mono ?_
            rintro e w47 ⟨rfl, hb⟩
            have HB47 : Hid (Below w.heap.size w w47) := HB46.out.trans (hb.mono HB46.out.size)
            replace hp := hp.below hb
            replace hq := hq.below hb
            replace hk := hk.below hb
            clear hb
            go_wp2_with fail
            refine (RPerm_is _ _ _ _ _ hq rfl E2).mono ?_
            rintro e w48 ⟨rfl, hw48⟩
            obtain rfl : w47 = w48 := hw48.symm
            go_wp2_with fail
            refine (Under_ok _ _ _ _ ps qs t _ hp hq hca hcb h40 HLen.out HPw.out HQw.out HBel2.out).mono ?_
            rintro e w49 ⟨rfl, hb⟩
            have HB49 : Hid (Below w.heap.size w w49) := HB47.out.trans (hb.mono HB47.out.size)
            replace hp := hp.below hb
            replace hq := hq.below hb
            replace hk := hk.below hb
            clear hb
            go_wp2_with fail
            go_ret
            exact ⟨rfl, HB49.out⟩
    · have hd2 : decide (n > 40) = false := by simpa using hbig
      have HH : Hid (hTo n ws 0 = 0) := by show _ = _; unfold hTo; rw [if_neg (fun h => h.elim hneg hbig)]; simp [okWord]
      go_wp2_with fail
      go_loopw [15, 51] (fun h i wr => ∃ k : Nat, k ≤ ws.length ∧ i = .int .i64 k ∧ h = .int .i64 (hTo n ws k) ∧ wr = w5) (fun _ i _ => ws.length - (intOf i).toNat)
      case atStart => exact ⟨0, Nat.zero_le _, rfl, by rw [HH.out], by trivial⟩
      case round =>
        obtain ⟨k, hk2, rfl, rfl, hwr⟩ := hrel
        obtain rfl : w5 = wr := hwr.symm
        by_cases hlt : k < ws.length
        · have hlt' : (k : Int) < (ws.length : Int) := by omega
          obtain ⟨bk, ok, z, rfl, HZ, -, -, hcz⟩ := hk.elem hlt
          have HSt : Hid (hTo n ws (k + 1) = if z < 1 ∨ n ≤ z then 1 else hTo n ws k) := by show _ = _; rw [hTo_step n hlt, ← HZ.out]
          by_cases h1 : z < 1
          · have hb1 : decide (z < 1) = true := by simpa using h1
            have HE : Hid (hTo n ws (k + 1) = 1) := by show _ = _; rw [HSt.out, if_pos (Or.inl h1)]
            clear h1
            go_wp2
            go_roundw
            case rel => exact ⟨k + 1, by omega, by go_num, by rw [HE.out], by trivial⟩
            case measure => simp [intOf]; omega
          · have hb1 : decide (z < 1) = false := by simpa using h1
            by_cases h2 : n ≤ z
            · have hb2 : decide (z ≥ n) = true := by simpa using h2
              have HE : Hid (hTo n ws (k + 1) = 1) := by show _ = _; rw [HSt.out, if_pos (Or.inr h2)]
              clear h1 h2
              go_wp2
              go_roundw
              case rel => exact ⟨k + 1, by omega, by go_num, by rw [HE.out], by trivial⟩
              case measure => simp [intOf]; omega
            · have hb2 : decide (z ≥ n) = false := by simpa using h2
              have HE : Hid (hTo n ws (k + 1) = hTo n ws k) := by show _ = _; rw [HSt.out, if_neg (fun h => h.elim h1 h2)]
              clear h1 h2
              go_wp2
              go_roundw
              case rel => exact ⟨k + 1, by omega, by go_num, by rw [HE.out], by trivial⟩
              case measure => simp [intOf]; omega
        · obtain rfl : k = ws.length := by omega
          have HEn : Hid (hTo n ws ws.length = pc) := by show _ = _; rw [hTo_end]; exact r1.out
          have hnlt : decide ((ws.length : Int) < (ws.length : Int)) = false := by simp
          rw [HEn.out]
          by_cases h0 : pc = 0
          · obtain ⟨g1, g2, g3, g4⟩ := hp0.out h0
            obtain ⟨N, rfl⟩ : ∃ N : Nat, n = (N : Int) := ⟨n.toNat, by omega⟩
            rw [Int.toNat_natCast] at g4
            have G3 : Hid (okWord (N : Int) ws = true) := g3
            have G4 : Hid (play ws (orderL N) = pl) := g4.symm
            have hN40 : N ≤ 40 := by omega
            clear g3 g4
            subst h0
            go_wp2_with fail
            refine (Came_ok N hN40 _ _ _ ws _ hk rfl G3.out).mono ?_
            rintro e w6 ⟨v, rfl, hown, hb⟩
            rw [G4.out] at hown
            have HB6 : Hid (Below w.heap.size w w6) := HB5.out.trans (hb.mono HB5.out.size)
            replace hp := hp.below hb
            replace hq := hq.below hb
            replace hk := hk.below hb
            replace S5 := S5.below hb
            obtain ⟨a6, n6, c6, rfl, S6, hn6, hc6⟩ := hown.opened hpl.out.len hpl.out.wf
            have HN6 : Hid (n6 = pl.length) := hn6
            have HC6 : Hid (n6 ≤ c6) := hc6
            clear hown hn6 hc6
            clear hb
            go_wp2_with fail
            refine (list_ok _ _ _ _ _ _ _ pl S5 S6 HN5 HN6).mono ?_
            rintro e w7 ⟨rfl, hd⟩
            have hb : Below w6.heap.size w6 w7 := by
              obtain ⟨n, rfl⟩ := hd
              exact below_drewN (Below.refl _ _) n
            have HB7 : Hid (Below w.heap.size w w7) := HB6.out.trans (hb.mono HB6.out.size)
            replace hp := hp.below hb
            replace hq := hq.below hb
            replace hk := hk.below hb
            replace S5 := S5.below hb
            replace S6 := S6.below hb
            clear hb hd
            go_wp2_with fail
            refine (Below_at _ _ _ _ _ _ _ hp hq rfl rfl HBel.out).mono ?_
            rintro e w8 ⟨rfl, hb⟩
            have HB8 : Hid (Below w.heap.size w w8) := HB7.out.trans (hb.mono HB7.out.size)
            replace hp := hp.below hb
            replace hq := hq.below hb
            replace hk := hk.below hb
            replace S5 := S5.below hb
            replace S6 := S6.below hb
            clear hb
            go_wp2_with fail
            refine (RPerm_is _ _ _ _ _ hq rfl E2).mono ?_
            rintro e w9 ⟨rfl, hw9⟩
            obtain rfl : w8 = w9 := hw9.symm
            go_wp2_with fail
            refine (Under_ok _ _ _ _ ps qs t _ hp hq hca hcb h40 HLen.out HPw.out HQw.out HBel2.out).mono ?_
            rintro e w10 ⟨rfl, hb⟩
            have HB10 : Hid (Below w.heap.size w w10) := HB8.out.trans (hb.mono HB8.out.size)
            replace hp := hp.below hb
            replace hq := hq.below hb
            replace hk := hk.below hb
            replace S5 := S5.below hb
            replace S6 := S6.below hb
            clear hb
            go_wp2_with fail
            go_ret
            exact ⟨rfl, HB10.out⟩
          · have hpc : (pc != 0) = true := bne_iff_ne.2 h0
            have hpc2 : (pc == 0) = false := beq_eq_false_iff_ne.2 h0
            have hpn := hpe.out h0
            subst hpn
            have hzz := HN5.out
            simp only [List.length_nil] at hzz
            subst hzz
            clear h0
            go_wp2_with fail
            refine (list_err _ _ _ _ _ _ pc hpc).mono ?_
            rintro e w46 ⟨rfl, hd⟩
            have hb : Below w5.heap.size w5 w46 := by
              obtain ⟨n, rfl⟩ := hd
              exact below_drewN (Below.refl _ _) n
            have HB46 : Hid (Below w.heap.size w w46) := HB5.out.trans (hb.mono HB5.out.size)
            replace hp := hp.below hb
            replace hq := hq.below hb
            replace hk := hk.below hb
            clear hb hd
            go_wp2_with fail
            refine (Below_at _ _ _ _ _ _ _ hp hq rfl rfl HBel.out).mono ?_
            rintro e w47 ⟨rfl, hb⟩
            have HB47 : Hid (Below w.heap.size w w47) := HB46.out.trans (hb.mono HB46.out.size)
            replace hp := hp.below hb
            replace hq := hq.below hb
            replace hk := hk.below hb
            clear hb
            go_wp2_with fail
            refine (RPerm_is _ _ _ _ _ hq rfl E2).mono ?_
            rintro e w48 ⟨rfl, hw48⟩
            obtain rfl : w47 = w48 := hw48.symm
            go_wp2_with fail
            refine (Under_ok _ _ _ _ ps qs t _ hp hq hca hcb h40 HLen.out HPw.out HQw.out HBel2.out).mono ?_
            rintro e w49 ⟨rfl, hb⟩
            have HB49 : Hid (Below w.heap.size w w49) := HB47.out.trans (hb.mono HB47.out.size)
            replace hp := hp.below hb
            replace hq := hq.below hb
            replace hk := hk.below hb
            clear hb
            go_wp2_with fail
            go_ret
            exact ⟨rfl, HB49.out⟩

theorem prod_small (n : Int) (ws : List Int) : Smll (prodL n ws) ∧ (prodC n ws ≠ 0 → prodL n ws = []) ∧ (prodC n ws = 0 → 0 ≤ n ∧ n ≤ 40 ∧ okWord n ws = true ∧ prodL n ws = play ws (orderL n.toNat)) := by
  by_cases hc : prodC n ws = 0
  · have hl : prodL n ws = play ws (orderL n.toNat) := by unfold prodL; rw [if_pos hc]
    unfold prodC at hc
    by_cases h0 : n < 0 ∨ 40 < n
    · rw [if_pos h0] at hc; omega
    · rw [if_neg h0] at hc
      by_cases h1 : okWord n ws = true
      · have hmem : ∀ (us : List Int), (∀ i ∈ us, 1 ≤ i ∧ i < n) → ∀ z ∈ play us (orderL n.toNat), 1 ≤ z ∧ z ≤ 40 := by
          intro us
          induction us with
          | nil => intro _ z hz; obtain ⟨j, hj, rfl⟩ := tab_mem hz; omega
          | cons i us ih =>
            intro hus z hz
            have hi := hus i (by simp)
            refine ih (fun j hj => hus j (by simp [hj])) z ((swapAt_mem (k := i.toNat - 1) ?_ z).1 hz)
            rw [play_length]; unfold orderL; rw [tab_length]; omega
        refine ⟨⟨by rw [hl, play_length]; unfold orderL; rw [tab_length]; omega, fun z hz => ?_⟩, fun h => ?_, fun _ => ⟨by omega, by omega, h1, hl⟩⟩
        · rw [hl] at hz; have := hmem ws (okWord_iff.1 h1) z hz; omega
        · unfold prodC at h; rw [if_neg h0, if_pos h1] at h; exact absurd rfl h
      · rw [if_neg h1] at hc; omega
  · have hl : prodL n ws = [] := by unfold prodL; rw [if_neg hc]
    exact ⟨by rw [hl]; exact Smll.nil, fun _ => hl, fun h => absurd h hc⟩

/-- Words and BRUHAT'S order, of every arguments that can be read. -/
theorem words_any (a b d : Option Addr) (ca cb cd : Nat) (n : Int) (ps qs ws : List Int) (w : World) (hp : Shows w a ps) (hq : Shows w b qs) (hk : Shows w d ws) (hn1 : -9223372036854775808 ≤ n) (hn2 : n ≤ 9223372036854775807) (hca : ps.length ≤ ca) (hcb : qs.length ≤ cb) (hpn : a = none → ps = [] ∧ ca = 0) :
    Calls Try.prog 4 #[.slice a ps.length ca, .slice b qs.length cb, .int .i64 n, .slice d ws.length cd] w fun e w' => e = .returned (.bool true) ∧ Below w.heap.size w w' := by
  obtain ⟨s1, s2, s3⟩ := prod_small n ws
  have hsm : ∀ {l : List Int}, IsPerm l → ∀ z ∈ l, 0 ≤ z ∧ z ≤ 1000 := fun {l} h z hz => by have := h.low z hz; have := h.high z hz; have := h.len; omega
  by_cases h0 : pchk ps = 0
  · have hpp := pchk_ok.1 h0
    by_cases h1 : pchk qs = 0
    · have hqq := pchk_ok.1 h1
      by_cases hl : ps.length = qs.length
      · obtain ⟨c, t, hB⟩ := belR_ex ps qs
        obtain rfl : c = 0 := by rw [← hB.1]; exact two_ok.2 ⟨hpp, hqq, hl⟩
        exact words_0 a b d ca cb cd n ps qs ws w hp hq hk hn1 hn2 _ _ rfl rfl s1 s2 s3 hpp hpn hca hcb t h1 hl (by rw [hl]; simp) (hsm hpp) (hsm hqq) hB (hB.2.1 rfl)
      · have e3 : two ps qs = 3 := by unfold two; rw [if_pos h0, if_pos h1, if_neg hl]
        exact words_3 a b d ca cb cd n ps qs ws w hp hq hk hn1 hn2 _ _ rfl rfl s1 s2 s3 hpp hpn h1 (by rw [bne_iff_ne]; omega) ⟨e3, fun h => by omega, fun _ => rfl⟩
    · have e3 : two ps qs = pchk qs := by unfold two; rw [if_pos h0, if_neg h1]
      exact words_q a b d ca cb cd n ps qs ws w hp hq hk hn1 hn2 _ _ rfl rfl s1 s2 s3 hpp hpn _ (beq_eq_false_iff_ne.2 h1) rfl ⟨e3, fun h => absurd h h1, fun _ => rfl⟩
  · have e3 : two ps qs = pchk ps := by unfold two; rw [if_neg h0]
    exact words_err a b d ca cb cd n ps qs ws w hp hq hk hn1 hn2 _ _ rfl rfl s1 s2 s3 _ (bne_iff_ne.2 h0) rfl ⟨e3, fun h => absurd h h0, fun _ => rfl⟩

#print axioms words_any
end Go.Proofs.Ytnjbkiegeielhab
