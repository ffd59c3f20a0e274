/-
  The contract of ferref.Parked.
-/
import Derived.Test.YtihafckdaecgkaaZPkd
namespace Go.Proofs.Ytihafckdaecgkaa
open Go.RowKit

/-- What Parked answers: the places, or nil. -/
def PkdR (w' : World) (B : Nat) (zs : List Int) (v : Value) : Prop :=
  (Free (lk zs) zs.length ∧ ∃ g cap, v = .slice (some ⟨g, 0, none⟩) zs.length cap ∧ Owns w' B (.slice (some ⟨g, 0, none⟩) zs.length cap) (plcs (zs.length + 1) (lk zs))) ∨ (¬ Free (lk zs) zs.length ∧ v = .slice none 0 0)

set_option maxHeartbeats 8000000 in
set_option maxRecDepth 100000 in
theorem Parked_at (a : Option Addr) (n cap : Nat) (zs : List Int) (w : World) (hs : Shows w a zs) (hn : n = zs.length) (h20 : n ≤ 20) (hz : ∀ z ∈ zs, 1 ≤ z ∧ z ≤ (zs.length : Int)) :
    Calls Try.prog 14 #[.slice a n cap] w fun e w' => ∃ v, e = .returned v ∧ Hid (PkdR w' w.heap.size zs v) ∧ Hid (Below w.heap.size w w') := by
  obtain ⟨N, hN⟩ : ∃ N : Nat, N = n + 1 := ⟨_, rfl⟩
  have HN : Hid (N = n + 1) := hN
  have HNz : Hid (n = zs.length) := hn
  have HS : Hid (Shows w a zs) := hs
  have HZ0 : Hid (∀ z ∈ zs, 1 ≤ z ∧ z ≤ (zs.length : Int)) := hz
  clear hN hn hs hz
  have HO0 : Hid (Owns (w.alloc (.cells #[] 3)) w.heap.size (.slice (some ⟨w.heap.size, 0, none⟩) 0 0) (plcs N ((lk zs).take 0))) := owns_of_row (Nat.le_refl _) (heap_alloc_new _ _) rfl (by simp [plcs, pgo])
  have HB0 : Hid (Below w.heap.size w (w.alloc (.cells #[] 3))) := (Below.refl _ _).alloc (Nat.le_refl _) _
  go_enter Try.func14, Try.ntmps14
  go_wp2
  go_loopw [3, 4] (fun v q wr => ∃ k : Nat, k ≤ n ∧ q = .int .i64 k ∧ ∃ g c, v = .slice (some ⟨g, 0, none⟩) k c ∧ Hid (Owns wr w.heap.size (.slice (some ⟨g, 0, none⟩) k c) (plcs N ((lk zs).take k))) ∧ Hid (pfin N ((lk zs).take k) none0 n = false) ∧ Hid (Below w.heap.size w wr)) (fun _ q _ => n - (intOf q).toNat)
  case atStart => exact ⟨0, Nat.zero_le _, rfl, w.heap.size, 0, rfl, HO0, rfl, HB0⟩
  case round =>
    clear HO0 HB0
    obtain ⟨k, hk, rfl, g, c, rfl, HO, HF, HB⟩ := hrel
    have HPl : Hid ((plcs N ((lk zs).take k)).length = k) := by show _ = _; rw [plcs_length, List.length_take, lk_length, ← HNz.out]; omega
    by_cases hlt : k < n
    · have hlt' : (k : Int) < (n : Int) := by omega
      obtain ⟨b, off, z, rfl, HZ, -, -, hc⟩ := (HS.out.below HB.out).elem (k := k) (by rw [← HNz.out]; exact hlt)
      have hz := HZ0.out z (by rw [HZ.out]; exact getD_mem (by rw [← HNz.out]; exact hlt))
      rw [← HNz.out] at hz
      obtain ⟨p, rfl⟩ : ∃ p : Nat, z = (p : Int) + 1 := ⟨(z - 1).toNat, by omega⟩
      have hpn : p < n := by omega
      have HPk : Hid ((lk zs)[k]? = some p) := by show _ = _; rw [lk_at (by rw [← HNz.out]; exact hlt), ← HZ.out]; congr 1; omega
      clear hz
      obtain ⟨T, HT⟩ : ∃ T, Hid (T = pfin N ((lk zs).take k) none0) := ⟨_, rfl⟩
      rw [← HT.out] at HF
      have hcnt : tkn N T < N := by
        have h1 := pfin_tkn (N := N) ((lk zs).take k) none0 (by rw [tkn_none, List.length_take, lk_length, ← HNz.out]; have := HN.out; omega)
        rw [tkn_none, List.length_take, lk_length, ← HNz.out, ← HT.out] at h1
        have := HN.out
        omega
      obtain ⟨x, HX⟩ : ∃ x, Hid (x = nx N T p) := ⟨_, rfl⟩
      have hnx : Nx N T p x := by rw [HX.out]; exact (Nx.more hcnt).1
      have hxN : x ≤ n := by have := hnx.lt; have := HN.out; omega
      have HTx : Hid (T x = false) := hnx.free
      obtain ⟨hpx, hln⟩ := hnx.line (by have := HN.out; omega) (by rw [HN.out]; exact HF.out)
      have HLn : Hid (∀ j, p ≤ j → j < x → T j = true) := hln
      have HMem : Hid (∀ j : Nat, decide ((j : Int) + 1 ∈ plcs N ((lk zs).take k)) = T j) := fun j => by
        rw [HT.out]
        cases h : pfin N ((lk zs).take k) none0 j with
        | true => exact decide_eq_true (mem_plcs.2 h)
        | false => exact decide_eq_false (fun e => by rw [mem_plcs.1 e] at h; cases h)
      have HTk : Hid (∀ j, pfin N ((lk zs).take (k + 1)) none0 j = tk T x j) := fun j => by rw [take_some HPk.out, pfin_snoc, ← HT.out, ← HX.out]
      have HPs : Hid (plcs N ((lk zs).take (k + 1)) = plcs N ((lk zs).take k) ++ [(x : Int) + 1]) := by show _ = _; rw [take_some HPk.out, plcs_snoc, ← HT.out, ← HX.out]
      obtain ⟨O, HOo⟩ : ∃ O, Hid (O = plcs N ((lk zs).take k)) := ⟨_, rfl⟩
      rw [← HOo.out] at HO HPl HMem HPs
      have hwid : ∀ z ∈ O, -9223372036854775808 ≤ z ∧ z ≤ 9223372036854775807 := fun z hz => by
        rw [HOo.out] at hz
        unfold plcs at hz
        obtain ⟨y, hy, rfl⟩ := List.mem_map.1 hz
        have := ((pgo_spec (N := N) ((lk zs).take k) none0 (by rw [tkn_none, List.length_take, lk_length, ← HNz.out]; have := HN.out; omega)).2 y hy).1
        have := HN.out
        omega
      obtain ⟨a9, c9, hv9, hs9⟩ := HO.out.shows (by rw [HPl.out]; omega) hwid
      simp only [Value.slice.injEq] at hv9
      have HSo : Hid (Shows wr (some ⟨g, 0, none⟩) O) := by rw [hv9.1]; exact hs9
      have HCo : Hid (∀ (j : Nat) (t : Bool), T j = t → Calls Try.prog 26 #[.slice (some ⟨g, 0, none⟩) k c, .int .i64 ((j : Int) + 1)] wr fun e w' => e = .returned (.bool t) ∧ w' = wr) := fun j t ht => by
        have h1 := Contains_any (some ⟨g, 0, none⟩) c O ((j : Int) + 1) wr HSo.out
        rw [HMem.out j, ht, HPl.out] at h1
        exact h1
      clear hcnt hnx hln hwid hv9 hs9
      obtain ⟨wo, HWo⟩ : ∃ wo, Hid (wo = wr) := ⟨_, rfl⟩
      rw [← HWo.out] at HO HB HSo HCo
      go_wp2
      go_loopw [5] (fun q wq => ∃ e : Nat, p ≤ e ∧ e ≤ x ∧ q = .int .i64 ((e : Int) + 1) ∧ wq = wo) (fun q _ => x + 1 - (intOf q).toNat)
      case atStart => exact ⟨p, Nat.le_refl _, hpx, rfl, HWo.out.symm⟩
      case round =>
        obtain ⟨e, hpe, hex, rfl, rfl⟩ := hrel
        by_cases hee : e = x
        · subst hee
          have HC := HCo.out e false HTx.out
          by_cases hen : e = n
          · subst hen
            have hgt : decide ((e : Int) + 1 > (e : Int)) = true := decide_eq_true (by omega)
            have HNo : Hid (PkdR wr w.heap.size zs (.slice none 0 0)) := by
              refine Or.inr ⟨fun hfr => ?_, rfl⟩
              have h1 := hfr.2
              rw [lk_length, ← HNz.out, ← HN.out] at h1
              have h2 := pfin_take (lk zs) (k + 1) e (by rw [HTk.out]; exact tk_same _ _)
              rw [h1] at h2; cases h2
            clear hpe hex hpx hxN hlt
            go_wp2_with fail
            refine HC.mono ?_
            rintro e9 w9 ⟨rfl, rfl⟩
            go_wp2
            go_ret
            exact ⟨_, rfl, HNo, HB⟩
          · have hgt : decide ((e : Int) + 1 > (n : Int)) = false := decide_eq_false (by omega)
            have hle : e + 1 ≤ n := by omega
            clear hen
            go_wp2_with fail
            refine HC.mono ?_
            rintro e9 w9 ⟨rfl, rfl⟩
            go_wp2_with (at_builtin; refine append_int_at (N := w9.heap.size) (x := (e : Int) + 1) rfl _ _ rfl rfl rfl rfl HO.out ?c1 ?c2 ?_)
            case c1 => rw [HPl.out]; omega
            case c2 => exact HB.out.size
            intro v' w3 hO3 hb3 _
            have HB3 : Hid (Below w.heap.size w w3) := HB.out.trans hb3
            rw [← HPs.out] at hO3
            have hl3 : (plcs N ((lk zs).take (k + 1))).length = k + 1 := by rw [HPs.out, List.length_append, HPl.out]; rfl
            obtain ⟨g3, c3, hv3, -⟩ := hO3.head (by rw [hl3]; omega)
            rw [hl3] at hv3
            subst hv3
            have HO3 : Hid (Owns w3 w.heap.size (.slice (some ⟨g3, 0, none⟩) (k + 1) c3) (plcs N ((lk zs).take (k + 1)))) := hO3
            have HF3 : Hid (pfin N ((lk zs).take (k + 1)) none0 n = false) := by show _ = _; rw [HTk.out, tk_other _ (by omega)]; exact HF.out
            clear hO3 hb3 hl3
            go_wp2
            go_roundw
            case rel => exact ⟨k + 1, by omega, by go_num, g3, c3, rfl, HO3, HF3, HB3⟩
            case measure => simp [intOf]; omega
        · have HC := HCo.out e true (HLn.out e hpe (by omega))
          have hex2 : e + 1 ≤ x := by omega
          clear hee
          go_wp2_with fail
          refine HC.mono ?_
          rintro e9 w9 ⟨rfl, rfl⟩
          go_wp2
          go_roundw
          case rel => exact ⟨e + 1, by omega, by omega, by go_num, by first | rfl | trivial⟩
          case measure => simp [intOf]; omega
    · obtain rfl : k = n := by omega
      have HY : Hid (PkdR wr w.heap.size zs (.slice (some ⟨g, 0, none⟩) k c)) := by
        have h1 := HO.out
        have h2 := HF.out
        rw [List.take_of_length_le (by rw [lk_length, ← HNz.out]; exact Nat.le_refl _)] at h1 h2
        refine Or.inl ⟨⟨by rw [lk_length]; omega, by rw [lk_length, ← HNz.out, ← HN.out]; exact h2⟩, g, c, by rw [← HNz.out], by rw [← HNz.out, ← HN.out]; exact h1⟩
      go_wp2
      go_ret
      exact ⟨_, rfl, HY, HB⟩
end Go.Proofs.Ytihafckdaecgkaa
