/-
  The contracts of ferref.Cars, Parked.
  The contract of ferref.Parked.
  The contract of ferref.Shift.
-/
import Derived.Test.YtlghldfolfmoeaaDoorZPlm
import Derived.Test.YtlghldfolfmoeaaDoorQCnI
import Derived.WalkSpells
namespace Go.Proofs.YtlghldfolfmoeaaDoor
open Go.RowKit

set_option maxHeartbeats 2000000 in
set_option maxRecDepth 100000 in
theorem Cars_at (a : Option Addr) (n cap : Nat) (zs : List Int) (m c : Int) (w : World) (hs : Shows w a zs) (hn : n = zs.length) (hc : plC zs m = c) :
    Calls Tryd.prog 5 #[.slice a n cap, .int .i64 m] w fun e w' => e = .returned (.int .i64 c) ∧ w' = w := by
  subst hn
  have hl := hs.len
  by_cases h20 : 20 < zs.length
  · have hb : decide ((zs.length : Int) > 20) = true := by simp; omega
    obtain rfl : c = 2 := by rw [← hc]; unfold plC; rw [if_pos h20]
    clear h20 hc
    go_enter Tryd.func5, Tryd.ntmps5
    go_wp2
    go_ret
    exact ⟨rfl, rfl⟩
  · have hb : decide ((zs.length : Int) > 20) = false := by simp; omega
    have HC : Hid (c = if inIv zs 1 m = true then 0 else 1) := by show _ = _; rw [← hc]; unfold plC; rw [if_neg h20]
    clear h20 hc
    go_enter Tryd.func5, Tryd.ntmps5
    go_wp2
    go_loop [5] (fun j => ∃ k : Nat, k ≤ zs.length ∧ j = .int .i64 k ∧ Hid (∀ j, j < k → 1 ≤ zs.getD j 0 ∧ zs.getD j 0 ≤ m)) (fun j => zs.length - (intOf j).toNat)
    case atStart => exact ⟨0, Nat.zero_le _, rfl, fun j hj => by omega⟩
    case round =>
      obtain ⟨k, hk, rfl, HR⟩ := hrel
      by_cases hlt : k < zs.length
      · have hlt' : (k : Int) < (zs.length : Int) := by omega
        obtain ⟨b, off, z, rfl, HZ, -, -, hc⟩ := hs.elem hlt
        by_cases h1 : z < 1
        · have hb1 : decide (z < 1) = true := by simpa using h1
          have HE : Hid (c = 1) := by show _ = _; rw [HC.out, if_neg (by rw [inIv_no hlt (Or.inl (by rw [← HZ.out]; exact h1))]; simp)]
          obtain rfl := HE.out
          go_wp2
          go_ret
          exact ⟨rfl, rfl⟩
        · have hb1 : decide (z < 1) = false := by simpa using h1
          by_cases h2 : m < z
          · have hb2 : decide (z > m) = true := by simpa using h2
            have HE : Hid (c = 1) := by show _ = _; rw [HC.out, if_neg (by rw [inIv_no hlt (Or.inr (by rw [← HZ.out]; exact h2))]; simp)]
            obtain rfl := HE.out
            go_wp2
            go_ret
            exact ⟨rfl, rfl⟩
          · have hb2 : decide (z > m) = false := by simpa using h2
            have HE : Hid (1 ≤ z ∧ z ≤ m) := ⟨by omega, by omega⟩
            go_wp2
            go_round
            case rel => exact ⟨k + 1, by omega, by go_num, fun j hj => by
                          by_cases hj' : j < k
                          · exact HR.out j hj'
                          · obtain rfl : j = k := by omega
                            rw [← HZ.out]; exact HE.out⟩
            case measure => simp [intOf]; omega
      · have HE : Hid (c = 0) := by show _ = _; rw [HC.out, if_pos (inIv_all (fun j hj => HR.out j (by omega)))]
        obtain rfl := HE.out
        go_wp2
        go_ret
        exact ⟨rfl, rfl⟩

/-- While the last place is free nobody goes round. -/
theorem Nx.line {N : Nat} {T : Nat → Bool} {p x : Nat} (h : Nx N T p x) (hp : p < N) (hT : T (N - 1) = false) : p ≤ x ∧ ∀ j, p ≤ j → j < x → T j = true := by
  obtain ⟨d, h1, h2, h3, h4⟩ := h
  have hd : p + d ≤ N - 1 := by
    rcases Nat.lt_or_ge (N - 1 - p) d with hlt | hge
    · have := h4 (N - 1 - p) hlt
      rw [show p + (N - 1 - p) = N - 1 by omega, Nat.mod_eq_of_lt (by omega), hT] at this; cases this
    · omega
  rw [Nat.mod_eq_of_lt (by omega)] at h2
  refine ⟨by omega, fun j hj1 hj2 => ?_⟩
  have := h4 (j - p) (by omega)
  rw [show p + (j - p) = j by omega, Nat.mod_eq_of_lt (by omega)] at this; exact this
theorem mem_plcs {N : Nat} {l : List Nat} {j : Nat} : ((j : Int) + 1 ∈ plcs N l) ↔ pfin N l none0 j = true := by
  rw [pfin_iff]
  unfold plcs
  rw [List.mem_map]
  constructor
  · rintro ⟨x, hx, he⟩
    obtain rfl : x = j := by omega
    exact Or.inr hx
  · rintro (h | h)
    · cases h
    · exact ⟨j, h, rfl⟩
theorem pfin_take {N : Nat} (l : List Nat) (k j : Nat) (h : pfin N (l.take k) none0 j = true) : pfin N l none0 j = true := by
  have e : ∀ (a b : List Nat) (T : Nat → Bool), pfin N (a ++ b) T = pfin N b (pfin N a T) := by
    intro a
    induction a with
    | nil => intro b T; rfl
    | cons q a ih => intro b T; exact ih b _
  rw [← List.take_append_drop k l, e]
  exact pfin_keeps _ _ _ h
end Go.Proofs.YtlghldfolfmoeaaDoor

namespace Go.Proofs.YtlghldfolfmoeaaDoor
open Go.RowKit

/-- What Parked answers: the places, or nil. -/
def PkdR (w' : World) (B : Nat) (zs : List Int) (v : Value) : Prop :=
  (Free (lk zs) zs.length ∧ ∃ g cap, v = .slice (some ⟨g, 0, none⟩) zs.length cap ∧ Owns w' B (.slice (some ⟨g, 0, none⟩) zs.length cap) (plcs (zs.length + 1) (lk zs))) ∨ (¬ Free (lk zs) zs.length ∧ v = .slice none 0 0)

set_option maxHeartbeats 8000000 in
set_option maxRecDepth 100000 in
theorem Parked_at (a : Option Addr) (n cap : Nat) (zs : List Int) (w : World) (hs : Shows w a zs) (hn : n = zs.length) (h20 : n ≤ 20) (hz : ∀ z ∈ zs, 1 ≤ z ∧ z ≤ (zs.length : Int)) :
    Calls Tryd.prog 7 #[.slice a n cap] w fun e w' => ∃ v, e = .returned v ∧ Hid (PkdR w' w.heap.size zs v) ∧ Hid (Below w.heap.size w w') := by
  obtain ⟨N, hN⟩ : ∃ N : Nat, N = n + 1 := ⟨_, rfl⟩
  have HN : Hid (N = n + 1) := hN
  have HNz : Hid (n = zs.length) := hn
  have HS : Hid (Shows w a zs) := hs
  have HZ0 : Hid (∀ z ∈ zs, 1 ≤ z ∧ z ≤ (zs.length : Int)) := hz
  clear hN hn hs hz
  have HO0 : Hid (Owns (w.alloc (.cells #[] 3)) w.heap.size (.slice (some ⟨w.heap.size, 0, none⟩) 0 0) (plcs N ((lk zs).take 0))) := owns_of_row (Nat.le_refl _) (heap_alloc_new _ _) rfl (by simp [plcs, pgo])
  have HB0 : Hid (Below w.heap.size w (w.alloc (.cells #[] 3))) := (Below.refl _ _).alloc (Nat.le_refl _) _
  go_enter Tryd.func7, Tryd.ntmps7
  go_wp2
  go_loopw [3, 4] (fun v q wr => ∃ k : Nat, k ≤ n ∧ q = .int .i64 k ∧ ∃ g c, v = .slice (some ⟨g, 0, none⟩) k c ∧ Hid (Owns wr w.heap.size (.slice (some ⟨g, 0, none⟩) k c) (plcs N ((lk zs).take k))) ∧ Hid (pfin N ((lk zs).take k) none0 n = false) ∧ Hid (Below w.heap.size w wr)) (fun _ q _ => n - (intOf q).toNat)
  case atStart => exact ⟨0, Nat.zero_le _, rfl, w.heap.size, 0, rfl, HO0, rfl, HB0⟩
  case round =>
    clear HO0 HB0
    obtain ⟨k, hk, rfl, g, c, rfl, HO, HF, HB⟩ := hrel
    have HPl : Hid ((plcs N ((lk zs).take k)).length = k) := by show _ = _; rw [plcs_length, List.length_take, lk_length, ← HNz.out]; omega
    by_cases hlt : k < n
    · have hlt' : (k : Int) < (n : Int) := by omega
      obtain ⟨b, off, z, rfl, HZ, -, -, hc⟩ := (HS.out.below HB.out).elem (k := k) (by rw [← HNz.out]; exact hlt)
      have hz := HZ0.out z (by rw [HZ.out]; exact getD_mem (by rw [← HNz.out]; exact hlt))
      rw [← HNz.out] at hz
      obtain ⟨p, rfl⟩ : ∃ p : Nat, z = (p : Int) + 1 := ⟨(z - 1).toNat, by omega⟩
      have hpn : p < n := by omega
      have HPk : Hid ((lk zs)[k]? = some p) := by show _ = _; rw [lk_at (by rw [← HNz.out]; exact hlt), ← HZ.out]; congr 1; omega
      clear hz
      obtain ⟨T, HT⟩ : ∃ T, Hid (T = pfin N ((lk zs).take k) none0) := ⟨_, rfl⟩
      rw [← HT.out] at HF
      have hcnt : tkn N T < N := by
        have h1 := pfin_tkn (N := N) ((lk zs).take k) none0 (by rw [tkn_none, List.length_take, lk_length, ← HNz.out]; have := HN.out; omega)
        rw [tkn_none, List.length_take, lk_length, ← HNz.out, ← HT.out] at h1
        have := HN.out
        omega
      obtain ⟨x, HX⟩ : ∃ x, Hid (x = nx N T p) := ⟨_, rfl⟩
      have hnx : Nx N T p x := by rw [HX.out]; exact (Nx.more hcnt).1
      have hxN : x ≤ n := by have := hnx.lt; have := HN.out; omega
      have HTx : Hid (T x = false) := hnx.free
      obtain ⟨hpx, hln⟩ := hnx.line (by have := HN.out; omega) (by rw [HN.out]; exact HF.out)
      have HLn : Hid (∀ j, p ≤ j → j < x → T j = true) := hln
      have HMem : Hid (∀ j : Nat, decide ((j : Int) + 1 ∈ plcs N ((lk zs).take k)) = T j) := fun j => by
        rw [HT.out]
        cases h : pfin N ((lk zs).take k) none0 j with
        | true => exact decide_eq_true (mem_plcs.2 h)
        | false => exact decide_eq_false (fun e => by rw [mem_plcs.1 e] at h; cases h)
      have HTk : Hid (∀ j, pfin N ((lk zs).take (k + 1)) none0 j = tk T x j) := fun j => by rw [take_some HPk.out, pfin_snoc, ← HT.out, ← HX.out]
      have HPs : Hid (plcs N ((lk zs).take (k + 1)) = plcs N ((lk zs).take k) ++ [(x : Int) + 1]) := by show _ = _; rw [take_some HPk.out, plcs_snoc, ← HT.out, ← HX.out]
      obtain ⟨O, HOo⟩ : ∃ O, Hid (O = plcs N ((lk zs).take k)) := ⟨_, rfl⟩
      rw [← HOo.out] at HO HPl HMem HPs
      have hwid : ∀ z ∈ O, -9223372036854775808 ≤ z ∧ z ≤ 9223372036854775807 := fun z hz => by
        rw [HOo.out] at hz
        unfold plcs at hz
        obtain ⟨y, hy, rfl⟩ := List.mem_map.1 hz
        have := ((pgo_spec (N := N) ((lk zs).take k) none0 (by rw [tkn_none, List.length_take, lk_length, ← HNz.out]; have := HN.out; omega)).2 y hy).1
        have := HN.out
        omega
      obtain ⟨a9, c9, hv9, hs9⟩ := HO.out.shows (by rw [HPl.out]; omega) hwid
      simp only [Value.slice.injEq] at hv9
      have HSo : Hid (Shows wr (some ⟨g, 0, none⟩) O) := by rw [hv9.1]; exact hs9
      have HCo : Hid (∀ (j : Nat) (t : Bool), T j = t → Calls Tryd.prog 15 #[.slice (some ⟨g, 0, none⟩) k c, .int .i64 ((j : Int) + 1)] wr fun e w' => e = .returned (.bool t) ∧ w' = wr) := fun j t ht => by
        have h1 := Contains_any (some ⟨g, 0, none⟩) c O ((j : Int) + 1) wr HSo.out
        rw [HMem.out j, ht, HPl.out] at h1
        exact h1
      clear hcnt hnx hln hwid hv9 hs9
      obtain ⟨wo, HWo⟩ : ∃ wo, Hid (wo = wr) := ⟨_, rfl⟩
      rw [← HWo.out] at HO HB HSo HCo
      go_wp2
      go_loopw [5] (fun q wq => ∃ e : Nat, p ≤ e ∧ e ≤ x ∧ q = .int .i64 ((e : Int) + 1) ∧ wq = wo) (fun q _ => x + 1 - (intOf q).toNat)
      case atStart => exact ⟨p, Nat.le_refl _, hpx, rfl, HWo.out.symm⟩
      case round =>
        obtain ⟨e, hpe, hex, rfl, rfl⟩ := hrel
        by_cases hee : e = x
        · subst hee
          have HC := HCo.out e false HTx.out
          by_cases hen : e = n
          · subst hen
            have hgt : decide ((e : Int) + 1 > (e : Int)) = true := decide_eq_true (by omega)
            have HNo : Hid (PkdR wr w.heap.size zs (.slice none 0 0)) := by
              refine Or.inr ⟨fun hfr => ?_, rfl⟩
              have h1 := hfr.2
              rw [lk_length, ← HNz.out, ← HN.out] at h1
              have h2 := pfin_take (lk zs) (k + 1) e (by rw [HTk.out]; exact tk_same _ _)
              rw [h1] at h2; cases h2
            clear hpe hex hpx hxN hlt
            go_wp2_with fail
            refine HC.mono ?_
            rintro e9 w9 ⟨rfl, rfl⟩
            go_wp2
            go_ret
            exact ⟨_, rfl, HNo, HB⟩
          · have hgt : decide ((e : Int) + 1 > (n : Int)) = false := decide_eq_false (by omega)
            have hle : e + 1 ≤ n := by omega
            clear hen
            go_wp2_with fail
            refine HC.mono ?_
            rintro e9 w9 ⟨rfl, rfl⟩
            go_wp2_with (at_builtin; refine append_int_at (N := w9.heap.size) (x := (e : Int) + 1) rfl _ _ rfl rfl rfl rfl HO.out ?c1 ?c2 ?_)
            case c1 => rw [HPl.out]; omega
            case c2 => exact HB.out.size
            intro v' w3 hO3 hb3 _
            have HB3 : Hid (Below w.heap.size w w3) := HB.out.trans hb3
            rw [← HPs.out] at hO3
            have hl3 : (plcs N ((lk zs).take (k + 1))).length = k + 1 := by rw [HPs.out, List.length_append, HPl.out]; rfl
            obtain ⟨g3, c3, hv3, -⟩ := hO3.head (by rw [hl3]; omega)
            rw [hl3] at hv3
            subst hv3
            have HO3 : Hid (Owns w3 w.heap.size (.slice (some ⟨g3, 0, none⟩) (k + 1) c3) (plcs N ((lk zs).take (k + 1)))) := hO3
            have HF3 : Hid (pfin N ((lk zs).take (k + 1)) none0 n = false) := by show _ = _; rw [HTk.out, tk_other _ (by omega)]; exact HF.out
            clear hO3 hb3 hl3
            go_wp2
            go_roundw
            case rel => exact ⟨k + 1, by omega, by go_num, g3, c3, rfl, HO3, HF3, HB3⟩
            case measure => simp [intOf]; omega
        · have HC := HCo.out e true (HLn.out e hpe (by omega))
          have hex2 : e + 1 ≤ x := by omega
          clear hee
          go_wp2_with fail
          refine HC.mono ?_
          rintro e9 w9 ⟨rfl, rfl⟩
          go_wp2
          go_roundw
          case rel => exact ⟨e + 1, by omega, by omega, by go_num, by first | rfl | trivial⟩
          case measure => simp [intOf]; omega
    · obtain rfl : k = n := by omega
      have HY : Hid (PkdR wr w.heap.size zs (.slice (some ⟨g, 0, none⟩) k c)) := by
        have h1 := HO.out
        have h2 := HF.out
        rw [List.take_of_length_le (by rw [lk_length, ← HNz.out]; exact Nat.le_refl _)] at h1 h2
        refine Or.inl ⟨⟨by rw [lk_length]; omega, by rw [lk_length, ← HNz.out, ← HN.out]; exact h2⟩, g, c, by rw [← HNz.out], by rw [← HNz.out, ← HN.out]; exact h1⟩
      go_wp2
      go_ret
      exact ⟨_, rfl, HY, HB⟩
end Go.Proofs.YtlghldfolfmoeaaDoor

namespace Go.Proofs.YtlghldfolfmoeaaDoor
open Go.RowKit

theorem trnS_step {zs : List Int} {s j : Nat} (hj : j < zs.length) : (trnL zs s).take (j + 1) = (trnL zs s).take j ++ [((((zs.getD j 0 - 1).toNat + s) % (zs.length + 1) : Nat) : Int) + 1] := by
  rw [take_snoc _ _ (by rw [trnL_length]; exact hj)]
  congr 2
  simp [trnL, lk, List.getD, List.getElem?_eq_getElem hj]
def allLe (l : List Int) (n : Nat) : Bool := l.all fun z => decide (z ≤ (n : Int))
theorem allLe_snoc (l : List Int) (x : Int) (n : Nat) : allLe (l ++ [x]) n = (allLe l n && decide (x ≤ (n : Int))) := by simp [allLe]
theorem neq_nil (w : World) : (binOp .neq 22 (.slice none 0 0) (.slice none 0 0)).run Tryd.prog w = .ok (.bool false) w := run_neq_slice_nil_any w 22 3 none 0 0 0 0 Tryd.underlying22
theorem neq_some (w : World) (g n c : Nat) : (binOp .neq 22 (.slice (some ⟨g, 0, none⟩) n c) (.slice none 0 0)).run Tryd.prog w = .ok (.bool true) w := run_neq_slice_nil_any w 22 3 (some ⟨g, 0, none⟩) n c 0 0 Tryd.underlying22

set_option maxHeartbeats 8000000 in
set_option maxRecDepth 100000 in
theorem Shift_at (a : Option Addr) (n cap f : Nat) (zs : List Int) (w : World) (hs : Shows w a zs) (hn : n = zs.length) (hc : plC zs ((zs.length : Int) + 1) = 0) (hf : Free (lk zs) f) :
    Calls Tryd.prog 12 #[.slice a n cap] w fun e w' => e = .returned (.int .i64 ((n - f : Nat) : Int)) ∧ Hid (Below w.heap.size w w') := by
  obtain ⟨h20, hz⟩ := plC_ok.1 hc
  have HS : Hid (Shows w a zs) := hs
  have HN : Hid (n = zs.length) := hn
  have HF : Hid (Free (lk zs) f) := hf
  have HZ : Hid (∀ z ∈ zs, 1 ≤ z ∧ z ≤ (zs.length : Int) + 1) := hz
  have hfl : f ≤ n := by have := hf.1; rw [lk_length, ← HN.out] at this; omega
  have hn20 : n ≤ 20 := by rw [HN.out]; exact h20
  clear hs hn hc hf hz h20
  obtain ⟨K, HK⟩ : ∃ K, Hid (K = n - f) := ⟨_, rfl⟩
  have hKn : K ≤ n := by rw [HK.out]; omega
  rw [← HK.out]
  go_enter Tryd.func12, Tryd.ntmps12
  go_wp2
  go_loopw [3] (fun q wr => ∃ s : Nat, s ≤ K ∧ q = .int .i64 s ∧ Hid (Below w.heap.size w wr)) (fun q _ => K + 1 - (intOf q).toNat)
  case atStart => exact ⟨0, Nat.zero_le _, rfl, Below.refl _ _⟩
  case round =>
    obtain ⟨s, hs, rfl, HB⟩ := hrel
    have hsn' : (s : Int) ≤ (n : Int) := by omega
    obtain ⟨L, HL⟩ : ∃ L, Hid (L = trnL zs s) := ⟨_, rfl⟩
    have HLl : Hid (L.length = n) := by show _ = _; rw [HL.out, trnL_length, HN.out]
    obtain ⟨wo, HWo⟩ : ∃ wo, Hid (wo = wr) := ⟨_, rfl⟩
    rw [← HWo.out] at HB
    go_wp2
    go_loopw [4, 5, 6] (fun v tv q wq => ∃ (j : Nat) (t : Bool), j ≤ n ∧ q = .int .i64 j ∧ tv = .bool t ∧ Hid (t = allLe (L.take j) n) ∧ Hid (Owns wq wo.heap.size v (L.take j)) ∧ Hid (Below wo.heap.size wo wq)) (fun _ _ q _ => n - (intOf q).toNat)
    case atStart => exact ⟨0, true, Nat.zero_le _, rfl, rfl, rfl, ⟨by simp, Or.inl ⟨rfl, rfl⟩⟩, by rw [HWo.out]; exact Below.refl _ _⟩
    case round =>
      obtain ⟨j, t, hj, rfl, rfl, HTt, HO, HBq⟩ := hrel
      have HBw : Hid (Below w.heap.size w wr) := HB.out.trans (HBq.out.mono HB.out.size)
      by_cases hjn : j < n
      · have hjn' : (j : Int) < (n : Int) := by omega
        obtain ⟨b1, off, z, rfl, HZj, -, -, hc⟩ := (HS.out.below HBw.out).elem (k := j) (by rw [← HN.out]; exact hjn)
        have hz := HZ.out z (by rw [HZj.out]; exact getD_mem (by rw [← HN.out]; exact hjn))
        rw [← HN.out] at hz
        obtain ⟨p, rfl⟩ : ∃ p : Nat, z = (p : Int) + 1 := ⟨(z - 1).toNat, by omega⟩
        have hp : p ≤ 21 := by omega
        obtain ⟨x, HX⟩ : ∃ x : Nat, Hid (x = (p + s) % (n + 1)) := ⟨_, rfl⟩
        have hx : x < n + 1 := by rw [HX.out]; exact Nat.mod_lt _ (by omega)
        have hr : Int.tmod ((p : Int) + (s : Int)) ((n : Int) + 1) = (x : Int) := by rw [HX.out]; exact (Int.ofNat_tmod (p + s) (n + 1)).symm
        have HLj : Hid (L.take (j + 1) = L.take j ++ [(x : Int) + 1]) := by
          show _ = _
          rw [HL.out, trnS_step (by rw [← HN.out]; exact hjn), ← HZj.out, ← HN.out, HX.out, show ((p : Int) + 1 - 1).toNat = p by omega]
        have HLk : (L.take j).length ≤ 20 := by rw [List.length_take]; omega
        obtain ⟨t2, ht2⟩ : ∃ t2, decide ((x : Int) + 1 ≤ (n : Int)) = t2 := ⟨_, rfl⟩
        have HT2 : Hid ((t && t2) = allLe (L.take (j + 1)) n) := by show _ = _; rw [HLj.out, allLe_snoc, ← HTt.out, ht2]
        clear hz
        cases t with
        | true =>
          go_wp2_with (at_builtin; refine append_int_at (N := wr.heap.size) (x := (x : Int) + 1) rfl _ _ rfl rfl rfl rfl HO.out ?c1 ?c2 ?_)
          case c1 => omega
          case c2 => exact HBq.out.size
          intro v' w3 hO3 hb3 _
          have HO4 : Hid (Owns w3 wo.heap.size v' (L.take (j + 1))) := by rw [HLj.out]; exact hO3
          have HB3 : Hid (Below wo.heap.size wo w3) := HBq.out.trans hb3
          have HT3 : Hid (t2 = allLe (L.take (j + 1)) n) := HT2.out
          clear hO3 hb3 HLk
          go_wp2
          go_roundw
          case rel => exact ⟨j + 1, t2, by omega, by go_num, by first | rfl | (rw [← ht2]), HT3, HO4, HB3⟩
          case measure => simp [intOf]; omega
        | false =>
          go_wp2_with (at_builtin; refine append_int_at (N := wr.heap.size) (x := (x : Int) + 1) rfl _ _ rfl rfl rfl rfl HO.out ?c1 ?c2 ?_)
          case c1 => omega
          case c2 => exact HBq.out.size
          intro v' w3 hO3 hb3 _
          have HO4 : Hid (Owns w3 wo.heap.size v' (L.take (j + 1))) := by rw [HLj.out]; exact hO3
          have HB3 : Hid (Below wo.heap.size wo w3) := HBq.out.trans hb3
          have HT3 : Hid (false = allLe (L.take (j + 1)) n) := HT2.out
          clear hO3 hb3 HLk
          go_wp2
          go_roundw
          case rel => exact ⟨j + 1, false, by omega, by go_num, rfl, HT3, HO4, HB3⟩
          case measure => simp [intOf]; omega
      · obtain rfl : j = n := by omega
        have HO0 : Hid (Owns wr wo.heap.size u4 L) := by
          have h1 := HO.out
          rw [List.take_of_length_le (by rw [HLl.out]; exact Nat.le_refl _)] at h1; exact h1
        have HT0 : Hid (t = allLe L j) := by
          have h1 := HTt.out
          rw [List.take_of_length_le (by rw [HLl.out]; exact Nat.le_refl _)] at h1; exact h1
        have hbd : ∀ z ∈ L, 1 ≤ z ∧ z ≤ (j : Int) + 1 := fun z hz => by
          rw [HL.out] at hz
          have := trnL_bd zs s z hz
          rw [← HN.out] at this; exact this
        obtain ⟨am, cm, hv, hsm⟩ := HO0.out.shows (by rw [HLl.out]; omega) (fun z hz => by have := hbd z hz; omega)
        rw [HLl.out] at hv
        subst hv
        have HSm : Hid (Shows wr am L) := hsm
        have HBd : Hid (∀ z ∈ L, 1 ≤ z ∧ z ≤ (j : Int) + 1) := hbd
        clear hsm hbd HO HBq hjn hj HTt
        cases t with
        | false =>
          have hsK : s + 1 ≤ K := by
            rcases Nat.lt_or_ge s K with h | h
            · exact h
            · exfalso
              have hsk : s = zs.length - f := by rw [← HN.out, ← HK.out]; omega
              have h1 := (trn_yes (s := s) (by rw [← HN.out]; exact hn20) HF.out hsk).1
              rw [← HL.out] at h1
              have h2 := (plC_ok.1 h1).2
              have h3 : allLe L j = true := by
                unfold allLe; rw [List.all_eq_true]; intro z hz; rw [decide_eq_true_eq]; have := (h2 z hz).2; rw [HLl.out] at this; exact this
              have h4 := HT0.out
              rw [h3] at h4; cases h4
          go_wp2
          go_roundw
          case rel => exact ⟨s + 1, hsK, by go_num, HBw⟩
          case measure => simp [intOf]; omega
        | true =>
          have hle : ∀ z ∈ L, 1 ≤ z ∧ z ≤ (L.length : Int) := fun z hz => by
            have h1 := HT0.out.symm
            unfold allLe at h1
            have h2 := List.all_eq_true.1 h1 z hz
            rw [decide_eq_true_eq] at h2
            rw [HLl.out]
            exact ⟨(HBd.out z hz).1, h2⟩
          have HPl : Hid (plC L L.length = 0) := plC_ok.2 ⟨by rw [HLl.out]; exact hn20, hle⟩
          have HP := Parked_at am j cm L wr HSm.out HLl.out.symm hn20 hle
          clear hle
          go_wp2_with fail
          refine HP.mono ?_
          rintro e w5 ⟨v5, rfl, HR5, HB5⟩
          clear HP
          have HBw5 : Hid (Below w.heap.size w w5) := HBw.out.trans (HB5.out.mono HBw.out.size)
          rcases HR5.out with ⟨hfr, g5, c5, rfl, -⟩ | ⟨hfr, rfl⟩
          · have hsK : s = K := by
              by_cases e : s = zs.length - f
              · rw [HK.out, HN.out, e]
              · exact absurd ⟨by rw [← HL.out]; exact HPl.out, by rw [← HL.out]; exact hfr⟩ (trn_no HF.out (by rw [← HN.out]; omega) e)
            subst hsK
            rw [HLl.out]
            have hne := neq_some w5 g5 j c5
            clear hfr HR5
            go_wp2
            go_ret
            exact ⟨rfl, HBw5⟩
          · have hsK : s + 1 ≤ K := by
              rcases Nat.lt_or_ge s K with h | h
              · exact h
              · exfalso
                have hsk : s = zs.length - f := by rw [← HN.out, ← HK.out]; omega
                have h1 := (trn_yes (s := s) (by rw [← HN.out]; exact hn20) HF.out hsk).2
                rw [← HL.out] at h1
                exact hfr h1
            have hne := neq_nil w5
            clear hfr HR5
            go_wp2
            go_roundw
            case rel => exact ⟨s + 1, hsK, by go_num, HBw5⟩
            case measure => simp [intOf]; omega
end Go.Proofs.YtlghldfolfmoeaaDoor
