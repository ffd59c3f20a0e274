/-
  What is done with a family: paths.First keeps it, as texts.
-/
import Derived.Test.YthdojdkghhmfcaaQEnA
import Derived.Laws.IdiomStrings
namespace Go.Proofs.Ythdojdkghhmfcaa
open Go.RowKit

theorem Try.infoS : (Try.prog.info? 9).map (fun i => (i.zero, i.size, i.bytes)) = some (some (.string ⟨#[]⟩), 1, 16) := by kernel_rfl
theorem elem_text : Elem 29 9 (.string ⟨#[]⟩) 16 := ⟨Try.underlying29, Try.infoS, rfl⟩
def strV (t : List UInt8) : Value := .string ⟨t.toArray⟩
theorem conv_row {w : World} {lo : Nat} {a : Option Addr} {m c : Nat} {us : List UInt8} (h : OwU w lo (.slice a m c) us) : (convert 52 9 (.slice a m c)).run Try.prog w = .ok (strV us) w := by
  rcases h.2 with ⟨hv, hn⟩ | ⟨g, cap, cur, hv, hg, hh, hn8, _, hcs, htk⟩
  · simp only [Value.slice.injEq] at hv
    obtain ⟨rfl, rfl, rfl⟩ := hv
    rw [List.length_map] at hn
    obtain rfl : us = [] := List.eq_nil_of_length_eq_zero hn
    simp [convert, run_underlying Try.underlying52, run_underlying Try.underlying9, run_underlying Try.underlying5, Conv.bytesToString, strV]
    rfl
  · simp only [Value.slice.injEq] at hv
    obtain ⟨rfl, hm, rfl⟩ := hv
    rw [List.length_map] at hm
    subst hm
    exact run_convert_bytes_back (P := Try.prog) w 52 9 5 ⟨g, 0, none⟩ c us Try.underlying52 Try.underlying5 Try.underlying9 (fun j hj => by
      rw [Addr.add_lit, Nat.zero_add, cell_of_row w g j _ _ _ hh]
      have h2 : (cur.toList.take ((us.map uv).length * 1))[j]? = some (uv us[j]) := by rw [htk, List.getElem?_map, List.getElem?_eq_getElem hj]; rfl
      rw [List.getElem?_take_of_lt (by simpa using hj)] at h2
      simpa [uv] using h2)

set_option maxHeartbeats 8000000 in
set_option maxRecDepth 100000 in
theorem First1_at (N F lo T n : Nat) (vs : List Value) (tx : List (List UInt8)) (w : World) (hT : TxV w lo T vs tx) (hn : tx.length = n) (hn4 : n ≤ 4) (hlo : lo ≤ w.heap.size) (hN : w.heap[N]? = some (.cells #[.bool true] 4 (0, 0))) (hF : w.heap[F]? = some (.cells #[.slice none 0 0] 29 (0, 0))) (hNl : N < lo ∧ F < lo ∧ N ≠ T ∧ F ≠ T ∧ N ≠ F) :
    Calls Try.prog 18 #[.slice (some ⟨T, 0, none⟩) n n, .pointer (some ⟨N, 0, none⟩), .pointer (some ⟨F, 0, none⟩)] w fun e w' => e = .returned (.bool false) ∧ Hid (w'.heap[N]? = some (.cells #[.bool false] 4 (0, 0))) ∧ Hid (∃ v, w'.heap[F]? = some (.cells #[v] 29 (0, 0)) ∧ w'.ownsRow w.heap.size 9 1 v (tx.map strV).length (tx.map strV)) ∧ Hid (w.heap.size ≤ w'.heap.size ∧ (∀ k, k < w.heap.size → k ≠ N → k ≠ F → w'.heap[k]? = w.heap[k]?) ∧ SmO w w') := by
  have HT : Hid (TxV w lo T vs tx) := hT
  have HNl := hid_w hNl
  have HLo : Hid (lo ≤ w.heap.size) := hlo
  have HNn : Hid (tx.length = n) := hn
  have c0 : w.cell? ⟨N, 0, none⟩ = some (.bool true) := by rw [cell_of_row w N 0 _ _ _ hN]; rfl
  have f0 : w.frozen? ⟨N, 0, none⟩ = false := frozen_of_row w N 0 _ _ hN
  obtain ⟨W0, HW0⟩ : ∃ W0, Hid (W0 = w.setCell ⟨N, 0, none⟩ (.bool false)) := ⟨_, rfl⟩
  have HN0 : Hid (W0.heap[N]? = some (.cells #[.bool false] 4 (0, 0))) := by
    show _ = _
    rw [HW0.out, heap_setCell_same w N 0 _ 4 _ hN]; rfl
  have HK0 : Hid (W0.heap.size = w.heap.size ∧ ∀ k, k ≠ N → W0.heap[k]? = w.heap[k]?) := ⟨by rw [HW0.out]; simp, fun k hk => by rw [HW0.out, heap_setCell_other _ _ _ _ hk]⟩
  have HF0 : Hid (W0.heap[F]? = some (.cells #[.slice none 0 0] 29 (0, 0))) := by
    show _ = _
    rw [HK0.out.2 F (fun q => HNl.out.2.2.2.2 q.symm)]; exact hF
  clear hT hn hlo hN hF hNl
  go_enter Try.func18, Try.ntmps18
  go_upto_region 2 with fail
  rw [← HW0.out]
  clear c0 f0
  go_wp2_with fail
  go_loopw [9] (fun iv wr => ∃ (i : Nat) (v : Value), i ≤ n ∧ iv = .int .i64 (i : Int) ∧ Hid (wr.heap[N]? = some (.cells #[.bool false] 4 (0, 0))) ∧ Hid (wr.heap[F]? = some (.cells #[v] 29 (0, 0))) ∧ Hid (wr.ownsRow w.heap.size 9 1 v ((tx.take i).map strV).length ((tx.take i).map strV)) ∧ Hid (w.heap.size ≤ wr.heap.size ∧ (∀ k, k < w.heap.size → k ≠ N → k ≠ F → wr.heap[k]? = w.heap[k]?) ∧ SmO w wr)) (fun iv _ => n - (intOf iv).toNat)
  case atStart => exact ⟨0, .slice none 0 0, Nat.zero_le _, rfl, HN0, HF0, World.ownsRow_nil _ _ _ _, ⟨by rw [HK0.out.1]; exact Nat.le_refl _, fun k _ h1 _ => HK0.out.2 k h1, by rw [HW0.out]; exact ⟨rfl, rfl, rfl⟩⟩⟩
  case round =>
    clear HN0 HF0
    obtain ⟨i, v, hi, rfl, HNr, HFr, HO, HK⟩ := hrel
    by_cases hlt : i < n
    · have hlt' : (i : Int) < (n : Int) := by omega
      have hit : i < tx.length := by rw [HNn.out]; exact hlt
      have HTr : Hid (TxV wr lo T vs tx) := HT.out.same fun k hk => by
        have h1 := HNl.out
        have h2 := HLo.out
        rcases hk with rfl | ⟨j, hj, e⟩
        · exact HK.out.2.1 k (by have := HT.out.low; omega) (fun q => h1.2.2.1 q.symm) (fun q => h1.2.2.2.1 q.symm)
        · have := (HT.out.rows j (by rw [← HT.out.len]; exact hj)).lt e
          exact HK.out.2.1 k this.2 (by omega) (by omega)
      obtain ⟨a1, k1, hsh⟩ := (HTr.out.rows i hit).shape
      obtain ⟨m1, HM1⟩ : ∃ m1, Hid (m1 = (tx.getD i []).length) := ⟨_, rfl⟩
      rw [← HM1.out] at hsh
      have d0 : wr.cell? ⟨T, i, none⟩ = some (.slice a1 m1 k1) := by rw [HTr.out.cell hit, hsh]
      have d1 : wr.cell? ⟨F, 0, none⟩ = some v := by rw [cell_of_row wr F 0 _ _ _ HFr.out]; rfl
      obtain ⟨t, HTt⟩ : ∃ t, Hid (t = tx.getD i []) := ⟨_, rfl⟩
      have hcv : (convert 52 9 (.slice a1 m1 k1)).run Try.prog wr = .ok (strV t) wr := by
        have h := HTr.out.rows i hit
        rw [hsh] at h
        rw [HTt.out]; exact conv_row h
      have HNx : Hid ((tx.take (i + 1)).map strV = (tx.take i).map strV ++ [strV t]) := by
        show _ = _
        rw [List.take_add_one, List.map_append, List.getElem?_eq_getElem hit, HTt.out]
        simp [List.getD, hit]
      have HLl : Hid (((tx.take i).map strV).length ≤ 4) := by show _ ≤ _; rw [List.length_map, List.length_take]; omega
      obtain ⟨va, vn, vc, hvs⟩ : ∃ va vn vc, v = .slice va vn vc := by
        rcases HO.out.2 with ⟨hv, _⟩ | ⟨g, cap, cur, hv, _⟩
        · exact ⟨_, _, _, hv⟩
        · exact ⟨_, _, _, hv⟩
      subst hvs
      unfold strV at hcv
      clear hsh
      go_wp2_with (at_builtin; refine append_one elem_text (x := strV t) rfl _ _ rfl rfl rfl rfl HO.out rfl ?c3 ?c4 ?c5 ?_)
      case c3 => have := HLl.out; unfold maxLen; omega
      case c4 => have := HLl.out; omega
      case c5 => exact HK.out.1
      intro v' w3 hO3 hb3 hk3
      have hO4 : w3.ownsRow w.heap.size 9 1 v' ((tx.take (i + 1)).map strV).length ((tx.take (i + 1)).map strV) := by
        rw [HNx.out, List.length_append, List.length_map, List.length_take, List.map_take]
        exact hO3
      have hFw : F < w.heap.size := by have := HNl.out.2.1; have := HLo.out; omega
      have hNw : N < w.heap.size := by have := HNl.out.1; have := HLo.out; omega
      have hown : ∀ k, k < w.heap.size → (Value.slice va vn vc).ownBlock ≠ some k := fun k hk e => by
        have := (World.ownsRow.lt HO.out k e).1; omega
      have hF3 : w3.heap[F]? = some (.cells #[.slice va vn vc] 29 (0, 0)) := by
        rw [hk3.block F (Nat.lt_of_lt_of_le hFw HK.out.1) (hown F hFw)]; exact HFr.out
      have e0 : w3.cell? ⟨F, 0, none⟩ = some (.slice va vn vc) := by rw [cell_of_row w3 F 0 _ _ _ hF3]; rfl
      have e1 : w3.frozen? ⟨F, 0, none⟩ = false := frozen_of_row w3 F 0 _ _ hF3
      have HN4 : Hid ((w3.setCell ⟨F, 0, none⟩ v').heap[N]? = some (.cells #[.bool false] 4 (0, 0))) := by
        show _ = _
        rw [heap_setCell_other _ _ _ _ HNl.out.2.2.2.2, hk3.block N (Nat.lt_of_lt_of_le hNw HK.out.1) (hown N hNw)]; exact HNr.out
      have HF4 : Hid ((w3.setCell ⟨F, 0, none⟩ v').heap[F]? = some (.cells #[v'] 29 (0, 0))) := by
        show _ = _
        rw [heap_setCell_same w3 F 0 _ 29 _ hF3]; rfl
      have HO4 : Hid ((w3.setCell ⟨F, 0, none⟩ v').ownsRow w.heap.size 9 1 v' ((tx.take (i + 1)).map strV).length ((tx.take (i + 1)).map strV)) := ownsRow_blocks hO4 (fun k e => heap_setCell_other _ _ _ _ (fun q => by have := (World.ownsRow.lt hO4 k e).1; have q' : k = F := q; omega))
      have HK4 : Hid (w.heap.size ≤ (w3.setCell ⟨F, 0, none⟩ v').heap.size ∧ (∀ k, k < w.heap.size → k ≠ N → k ≠ F → (w3.setCell ⟨F, 0, none⟩ v').heap[k]? = w.heap[k]?) ∧ SmO w (w3.setCell ⟨F, 0, none⟩ v')) := by
        refine ⟨?_, fun k hk h1 h2 => ?_, (HK.out.2.2.trans (SmO.of hb3)).trans ⟨rfl, rfl, rfl⟩⟩
        · have : (w3.setCell ⟨F, 0, none⟩ v').heap.size = w3.heap.size := by simp
          rw [this]; exact Nat.le_trans HK.out.1 hk3.size
        · rw [heap_setCell_other _ _ _ _ h2, hk3.block k (Nat.lt_of_lt_of_le hk HK.out.1) (hown k hk)]; exact HK.out.2.1 k hk h1 h2
      obtain ⟨va', vn', vc', hvs'⟩ : ∃ va vn vc, v' = .slice va vn vc := by
        rcases hO4.2 with ⟨hv, _⟩ | ⟨g, cap, cur, hv, _⟩
        · exact ⟨_, _, _, hv⟩
        · exact ⟨_, _, _, hv⟩
      subst hvs'
      clear hO3 hO4 hb3 hk3 hF3 hown hcv d0 d1
      go_wp2
      go_roundw
      case rel => exact ⟨i + 1, _, by omega, by go_num, HN4, HF4, HO4, HK4⟩
      case measure => simp [intOf]; omega
    · obtain rfl : i = n := by omega
      have hlt' : ¬ ((i : Int) < (i : Int)) := by omega
      have HOe : Hid (∃ v, wr.heap[F]? = some (.cells #[v] 29 (0, 0)) ∧ wr.ownsRow w.heap.size 9 1 v tx.length (tx.map strV)) := by
        have h := HO.out
        rw [List.take_of_length_le (by rw [HNn.out]; exact Nat.le_refl _), List.length_map] at h
        exact ⟨v, HFr.out, h⟩
      go_wp2
      go_ret
      exact ⟨rfl, HNr, HOe, HK⟩

/-- What First keeps: whether there is none, and the texts. -/
def RF (N F : Nat) (w : World) (B : Nat → Prop) : Option (List (List UInt8)) → Prop
  | none => N < w.heap.size ∧ F < w.heap.size ∧ ¬ B N ∧ ¬ B F ∧ w.heap[N]? = some (.cells #[.bool true] 4 (0, 0)) ∧ w.heap[F]? = some (.cells #[.slice none 0 0] 29 (0, 0))
  | some tx => N < w.heap.size ∧ F < w.heap.size ∧ ¬ B N ∧ ¬ B F ∧ w.heap[N]? = some (.cells #[.bool false] 4 (0, 0)) ∧ ∃ v, w.heap[F]? = some (.cells #[v] 29 (0, 0)) ∧ w.ownsRow 0 9 1 v (tx.map strV).length (tx.map strV) ∧ ∀ g, v.ownBlock = some g → g < w.heap.size ∧ ¬ B g
theorem RF.sta (N F : Nat) : StaR (RF N F) := fun w w' B B' φ h hs hk hb => by
  have hnb : ∀ k, k < w.heap.size → ¬ B k → ¬ B' k := fun k h1 h2 q => by
    rcases hb k q with q1 | q1
    · exact h2 q1
    · omega
  cases φ with
  | none =>
    obtain ⟨a, b, c, d, e, f⟩ := h
    exact ⟨by omega, by omega, hnb N a c, hnb F b d, by rw [hk N a c]; exact e, by rw [hk F b d]; exact f⟩
  | some tx =>
    obtain ⟨a, b, c, d, e, v, f, g, i⟩ := h
    exact ⟨by omega, by omega, hnb N a c, hnb F b d, by rw [hk N a c]; exact e, v, by rw [hk F b d]; exact f, ownsRow_blocks g (fun k ek => hk k (i k ek).1 (i k ek).2), fun k ek => ⟨by have := (i k ek).1; omega, hnb k (i k ek).1 (i k ek).2⟩⟩

set_option maxHeartbeats 8000000 in
set_option maxRecDepth 100000 in
theorem end_first {V : Env} (hV : V.ok) (N F : Nat) (hNF : N ≠ F) (hX : ∀ q, V.XF q ↔ (q = N ∨ q = F)) (hfv : V.fv = .func (.func 18) #[] #[.pointer (some ⟨N, 0, none⟩), .pointer (some ⟨F, 0, none⟩)]) : EndC V (RF N F) (fun φ => φ = none) fndO := by
  intro w cl vs tx st φ hI hφ
  subst hφ
  have HV : Hid V.ok := hV
  have HI : Hid (InV V (RF N F) w cl vs tx st none) := hI
  have HXf : Hid (∀ q, V.XF q ↔ (q = N ∨ q = F)) := hX
  obtain ⟨n, HN⟩ : ∃ n, Hid (n = V.S.length) := ⟨_, rfl⟩
  obtain ⟨G, HG⟩ : ∃ G, Hid (G = V.G) := ⟨_, rfl⟩
  obtain ⟨T, HT⟩ : ∃ T, Hid (T = V.T) := ⟨_, rfl⟩
  obtain ⟨ea, ec, hev, hec, hej⟩ := hI.2.1
  rw [← HN.out] at hev
  have c0 : w.cell? ⟨G, 0, none⟩ = some (.slice ea n ec) := by rw [HG.out, hI.1.cell 0 (by omega), ← hev]; rfl
  have c5 : w.drew.cell? ⟨G, 68, none⟩ = some (.func (.func 18) #[] #[.pointer (some ⟨N, 0, none⟩), .pointer (some ⟨F, 0, none⟩)]) := by
    have h := hI.1.cell 68 (by omega)
    rw [hfv] at h
    rw [HG.out]; exact h
  have c3 : w.drew.cell? ⟨G, 66, none⟩ = some (.slice (some ⟨T, 0, none⟩) n n) := by
    have h := hI.1.cell 66 (by omega)
    rw [HG.out, HT.out, HN.out]; exact h
  have hn4 : n ≤ 4 := by rw [HN.out]; exact hV.2.2.2.1
  have HC : Hid (Calls Try.prog 18 #[.slice (some ⟨T, 0, none⟩) n n, .pointer (some ⟨N, 0, none⟩), .pointer (some ⟨F, 0, none⟩)] w.drew fun e w' => e = .returned (.bool false) ∧ Hid (InV V (RF N F) w' cl vs tx st (some tx)) ∧ Hid (Frm V.XF V.G V.T w vs w' vs)) := by
    obtain ⟨r1, r2, r3, r4, r5, r6⟩ := HI.out.1.rep
    have x1 := HV.out.2.1 N ((HXf.out N).2 (Or.inl rfl))
    have x2 := HV.out.2.1 F ((HXf.out F).2 (Or.inr rfl))
    have hTd : TxV w.drew V.lo T vs tx := by rw [HT.out]; exact HI.out.1.tab.same fun _ _ => rfl
    refine (First1_at N F V.lo T n vs tx w.drew hTd (by rw [HN.out]; exact HI.out.1.num) hn4 HI.out.1.los r5 r6 ⟨x1.1, x2.1, by rw [HT.out]; exact x1.2.2, by rw [HT.out]; exact x2.2.2, hNF⟩).mono ?_
    rintro e w' ⟨rfl, g1, g2, g3⟩
    obtain ⟨v, v1, v2⟩ := g2.out
    obtain ⟨h1, h2⟩ := HI.out.found HV.out (φ' := some tx) g3.out.1 g3.out.2.2 (fun k hk hx => g3.out.2.1 k hk (fun q => hx ((HXf.out k).2 (Or.inl q))) (fun q => hx ((HXf.out k).2 (Or.inr q)))) (by
      refine ⟨Nat.lt_of_lt_of_le r1 g3.out.1, Nat.lt_of_lt_of_le r2 g3.out.1, r3, r4, g1.out, v, v1, ownsRow_down v2 (Nat.zero_le _), fun g eg => ⟨(World.ownsRow.lt v2 g eg).2, ?_⟩⟩
      have hw := (World.ownsRow.lt v2 g eg).1
      have hw' : w.heap.size ≤ g := hw
      have := HI.out.1.los
      have := HI.out.1.glo
      have := HI.out.1.tab.low
      exact HI.out.1.notB (by omega) (by omega) (Or.inr hw'))
    exact ⟨rfl, h1, h2⟩
  rw [← HG.out, ← HN.out]
  clear hI hej hV hX hfv hev hec
  go_enter Try.func25, Try.ntmps25
  go_upto_region 2 with fail
  go_region_with (go_at_call 18; with_reducible (refine HC.out.mono ?_); rintro e W1 ⟨rfl, k1, k2⟩)
  all_goals (
    go_wp2_with fail
    go_ret
    exact ⟨rfl, vs, k1, k2, fun q => by cases q⟩)

end Go.Proofs.Ythdojdkghhmfcaa
