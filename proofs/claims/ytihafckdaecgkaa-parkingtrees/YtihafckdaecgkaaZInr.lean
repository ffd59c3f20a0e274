/-
  The contract of parking.inRound.
-/
import Derived.Test.YtihafckdaecgkaaZRnd
namespace Go.Proofs.Ytihafckdaecgkaa
open Go.RowKit

/-- Places, from 0 on. -/
def lk (zs : List Int) : List Nat := zs.map fun z => (z - 1).toNat
theorem lk_length (zs : List Int) : (lk zs).length = zs.length := by simp [lk]
theorem lk_at {zs : List Int} {k : Nat} (hk : k < zs.length) : (lk zs)[k]? = some ((zs.getD k 0 - 1).toNat) := by
  simp [lk, List.getD, List.getElem?_eq_getElem hk]

theorem pfin_snoc (N : Nat) : ∀ (l : List Nat) (T : Nat → Bool) (p : Nat), pfin N (l ++ [p]) T = tk (pfin N l T) (nx N (pfin N l T) p)
  | [], _, _ => rfl
  | _ :: l, _, p => pfin_snoc N l _ p
theorem pgo_snoc (N : Nat) : ∀ (l : List Nat) (T : Nat → Bool) (p : Nat), pgo N (l ++ [p]) T = pgo N l T ++ [nx N (pfin N l T) p]
  | [], _, _ => rfl
  | q :: l, T, p => by
    show _ :: pgo N (l ++ [p]) _ = _ :: pgo N l _ ++ [_]
    rw [pgo_snoc N l]; rfl
theorem take_some {l : List Nat} {k p : Nat} (h : l[k]? = some p) : l.take (k + 1) = l.take k ++ [p] := by
  obtain ⟨hk, rfl⟩ := List.getElem?_eq_some_iff.1 h
  rw [List.take_succ_eq_append_getElem hk]

/-- The places that the first k have taken, from 1 on. -/
def plcs (N : Nat) (l : List Nat) : List Int := (pgo N l none0).map fun (x : Nat) => (x : Int) + 1
theorem plcs_length (N : Nat) (l : List Nat) : (plcs N l).length = l.length := by simp [plcs, pgo_length]
theorem plcs_snoc (N : Nat) (l : List Nat) (p : Nat) : plcs N (l ++ [p]) = plcs N l ++ [((nx N (pfin N l none0) p : Nat) : Int) + 1] := by simp [plcs, pgo_snoc]

theorem hop_dist {N p d d0 : Nat} (h : d ≤ d0) (h0 : d0 < N) : ((p + d0) % N + N - (p + d) % N) % N = d0 - d := by
  have e : (p + d0) % N = ((p + d) % N + (d0 - d)) % N := by rw [Nat.mod_add_mod]; congr 1; omega
  rw [e]
  have hr := Nat.mod_lt (p + d) (show 0 < N by omega)
  generalize (p + d) % N = r at *
  by_cases h1 : r + (d0 - d) < N
  · rw [Nat.mod_eq_of_lt h1, show r + (d0 - d) + N - r = (d0 - d) + N by omega, Nat.add_mod_right, Nat.mod_eq_of_lt (by omega)]
  · rw [Nat.mod_eq_sub_mod (show r + (d0 - d) ≥ N by omega), Nat.mod_eq_of_lt (show r + (d0 - d) - N < N by omega), show r + (d0 - d) - N + N - r = d0 - d by omega, Nat.mod_eq_of_lt (by omega)]

/-- A row of numbers that is filled from the front. -/
def fillz (n : Nat) (zs : List Int) : Nat → Int := fun j => if j < n then zs.getD j 0 else 0
theorem tab_fill {n : Nat} {zs : List Int} (h : zs.length = n) : tab n (fillz n zs) = zs := by
  refine ext_getD (by rw [tab_length, h]) (fun j hj => ?_)
  rw [tab_length] at hj
  rw [tab_getD n _ j hj]; unfold fillz; rw [if_pos hj]
theorem fill_snoc (n : Nat) (zs : List Int) (x : Int) : ∀ j, j < n → updT (fillz n zs) zs.length x j = fillz n (zs ++ [x]) j := by
  intro j hj
  simp only [updT, fillz, if_pos hj]
  by_cases h : j = zs.length
  · subst h; simp [List.getD]
  · rw [if_neg h]
    by_cases h2 : j < zs.length
    · simp [List.getD, List.getElem?_append_left h2]
    · simp only [List.getD, List.getElem?_eq_none (show zs.length ≤ j by omega)]
      rw [List.getElem?_eq_none (by simp; omega)]
theorem fill_nil (n : Nat) : ∀ j, j < n → (0 : Int) = fillz n [] j := fun j hj => by unfold fillz; rw [if_pos hj]; rfl

theorem OwnsT.below {w w' : World} {base : Nat} {v : Value} {bs : List Bool} (h : OwnsT w base v bs) (hb : Below w.heap.size w w') : OwnsT w' base v bs := by
  obtain ⟨h1, h2⟩ := h
  refine ⟨h1, ?_⟩
  rcases h2 with h2 | ⟨g, cap, cur, hv, hg, hh, r⟩
  · exact Or.inl h2
  · refine Or.inr ⟨g, cap, cur, hv, hg, ?_, r⟩
    rw [hb.block g (by rcases Nat.lt_or_ge g w.heap.size with h | h; exact h; rw [Array.getElem?_eq_none h] at hh; cases hh)]; exact hh
theorem OwnsT.other {w : World} {base g n cap : Nat} {bs : List Bool} (h : OwnsT w base (.slice (some ⟨g, 0, none⟩) n cap) bs) {p : Addr} {x : Value} (hne : p.block ≠ g) : OwnsT (w.setCell p x) base (.slice (some ⟨g, 0, none⟩) n cap) bs := by
  obtain ⟨h1, h2⟩ := h
  refine ⟨h1, ?_⟩
  rcases h2 with h2 | ⟨g', cap', cur, hv, hg, hh, r⟩
  · exact Or.inl h2
  · refine Or.inr ⟨g', cap', cur, hv, hg, ?_, r⟩
    simp only [Value.slice.injEq, Option.some.injEq, Addr.mk.injEq, and_true] at hv
    rw [Below.heap_setCell _ _ _ _ (by rw [← hv.1]; exact fun e => hne e.symm)]; exact hh
theorem Owns.other {w : World} {base g n cap : Nat} {zs : List Int} (h : Owns w base (.slice (some ⟨g, 0, none⟩) n cap) zs) {p : Addr} {x : Value} (hne : p.block ≠ g) : Owns (w.setCell p x) base (.slice (some ⟨g, 0, none⟩) n cap) zs := by
  obtain ⟨h1, h2⟩ := h
  refine ⟨h1, ?_⟩
  rcases h2 with h2 | ⟨g', cap', cur, hv, hg, hh, r⟩
  · exact Or.inl h2
  · refine Or.inr ⟨g', cap', cur, hv, hg, ?_, r⟩
    simp only [Value.slice.injEq, Option.some.injEq, Addr.mk.injEq, and_true] at hv
    rw [Below.heap_setCell _ _ _ _ (by rw [← hv.1]; exact fun e => hne e.symm)]; exact hh

theorem OwnsT.lt {w : World} {base g n cap : Nat} {bs : List Bool} (h : OwnsT w base (.slice (some ⟨g, 0, none⟩) n cap) bs) : base ≤ g ∧ g < w.heap.size := World.ownsRow.lt h g rfl

set_option maxHeartbeats 4000000 in
set_option maxRecDepth 100000 in
theorem inRound_at (a : Option Addr) (n cap f : Nat) (zs : List Int) (w : World) (hs : Shows w a zs) (hn : n = zs.length) (h20 : n ≤ 20) (hz : ∀ z ∈ zs, 1 ≤ z ∧ z ≤ (zs.length : Int) + 1) (hf : Free (lk zs) f) :
    Calls Try.prog 38 #[.slice a n cap] w fun e w' => ∃ g, e = .returned (.tuple #[.slice (some ⟨g, 0, none⟩) n n, .int .i64 ((f : Int) + 1)]) ∧ Hid (Owns w' w.heap.size (.slice (some ⟨g, 0, none⟩) n n) (plcs (zs.length + 1) (lk zs))) ∧ Hid (Below w.heap.size w w') := by
  obtain ⟨N, hN⟩ : ∃ N : Nat, N = n + 1 := ⟨_, rfl⟩
  have HN : Hid (N = n + 1) := hN
  have HNz : Hid (n = zs.length) := hn
  have HS : Hid (Shows w a zs) := hs
  have HZ0 : Hid (∀ z ∈ zs, 1 ≤ z ∧ z ≤ (zs.length : Int) + 1) := hz
  have HF : Hid (Free (lk zs) f) := hf
  have hfN : f < N := by have := hf.1; rw [lk_length] at this; omega
  have hnN : (n : Int) + 1 = (N : Int) := by omega
  have hN1 : 1 ≤ N := by omega
  have hN21 : N ≤ 21 := by omega
  clear hN hn hs hz hf
  obtain ⟨i0, hi, hz0, hz1, hz2⟩ := info_parts Try.infoT
  obtain ⟨i1, hj, hy0, hy1, hy2⟩ := info_parts Try.info3
  go_enter Try.func38, Try.ntmps38
  go_wp2_with (at_make; refine wpList_make_full _ rfl _ _ 67 rfl w.heap.size 4 i0 (.bool false) 1 Try.underlying67 hi hz0 hz1 _ _ _ _ N rfl rfl rfl rfl ?b1 ?b2 ?b3 ?_)
  case b1 => rw [hz2]; omega
  case b2 => unfold maxLen; omega
  case b3 => exact Nat.le_refl _
  intro w1 hown hgrow
  have HB1 : Hid (Below w.heap.size w w1) := (Below.refl _ _).grown hgrow (Nat.le_refl _) (fun k h => by cases h)
  have HO1 : Hid (OwnsT w1 w.heap.size (.slice (some ⟨w.heap.size, 0, none⟩) N N) (tabT N none0)) := ownsT_made hown
  clear hown hgrow
  go_wp2_with (at_make; refine wpList_make_full _ rfl _ _ 23 rfl w1.heap.size 3 i1 (.int .i64 0) 1 Try.underlying23 hj hy0 hy1 _ _ _ _ n rfl rfl rfl rfl ?b1 ?b2 ?b3 ?_)
  case b1 => rw [hy2]; omega
  case b2 => unfold maxLen; omega
  case b3 => exact Nat.le_refl _
  intro w2 hown hgrow
  obtain ⟨G, HG⟩ : ∃ G, Hid (G = w1.heap.size) := ⟨_, rfl⟩
  have HGt : Hid (w.heap.size ≠ G) := by have := HO1.out.lt.2; rw [HG.out]; exact Nat.ne_of_lt this
  have HGb : Hid (w.heap.size ≤ G) := by rw [HG.out]; exact HB1.out.size
  have HB12 : Below w1.heap.size w1 w2 := (Below.refl _ _).grown hgrow (Nat.le_refl _) (fun k h => by cases h)
  have HB2 : Hid (Below w.heap.size w w2) := HB1.out.trans (HB12.mono HB1.out.size)
  have HO2 : Hid (OwnsT w2 w.heap.size (.slice (some ⟨w.heap.size, 0, none⟩) N N) (tabT N (pfin N ((lk zs).take 0) none0))) := HO1.out.below HB12
  have HP2 : Hid (Owns w2 w.heap.size (.slice (some ⟨G, 0, none⟩) n n) (tab n (fillz n (plcs N ((lk zs).take 0))))) := by
    rw [HG.out]; exact ((owns_mkT hown).mono HB1.out.size).tabSame (fill_nil n)
  rw [← HG.out]
  clear hown hgrow HB12 HO1 HB1 hi hz0 hz1 hz2 hj hy0 hy1 hy2 i0 i1 HG
  go_wp2
  go_loopw [8, 19] (fun _ q wr => ∃ k : Nat, k ≤ n ∧ q = .int .i64 k ∧ Hid (OwnsT wr w.heap.size (.slice (some ⟨w.heap.size, 0, none⟩) N N) (tabT N (pfin N ((lk zs).take k) none0))) ∧ Hid (Owns wr w.heap.size (.slice (some ⟨G, 0, none⟩) n n) (tab n (fillz n (plcs N ((lk zs).take k))))) ∧ Hid (Below w.heap.size w wr)) (fun _ q _ => n - (intOf q).toNat)
  case atStart => exact ⟨0, Nat.zero_le _, rfl, HO2, HP2, HB2⟩
  case round =>
    clear HO2 HP2 HB2
    obtain ⟨k, hk, rfl, HO, HP, HB⟩ := hrel
    by_cases hlt : k < n
    · have hlt' : (k : Int) < (n : Int) := by omega
      obtain ⟨b, off, z, rfl, HZ, -, -, hc⟩ := (HS.out.below HB.out).elem (k := k) (by rw [← HNz.out]; exact hlt)
      have hz := HZ0.out z (by rw [HZ.out]; exact getD_mem (by rw [← HNz.out]; exact hlt))
      rw [← HNz.out] at hz
      obtain ⟨p, rfl⟩ : ∃ p : Nat, z = (p : Int) + 1 := ⟨(z - 1).toNat, by omega⟩
      have hpN : p < N := by omega
      have HPk : Hid ((lk zs)[k]? = some p) := by show _ = _; rw [lk_at (by rw [← HNz.out]; exact hlt), ← HZ.out]; congr 1; omega
      clear hz
      obtain ⟨T, HT⟩ : ∃ T, Hid (T = pfin N ((lk zs).take k) none0) := ⟨_, rfl⟩
      rw [← HT.out] at HO
      have hcnt : tkn N T < N := by
        have h1 := pfin_tkn (N := N) ((lk zs).take k) none0 (by rw [tkn_none, List.length_take, lk_length, ← HNz.out]; omega)
        rw [tkn_none, List.length_take, lk_length, ← HNz.out, ← HT.out] at h1
        have := HN.out
        omega
      obtain ⟨x, HX⟩ : ∃ x, Hid (x = nx N T p) := ⟨_, rfl⟩
      have hnx : Nx N T p x := by rw [HX.out]; exact (Nx.more hcnt).1
      have hxN := hnx.lt
      obtain ⟨d0, hd0, hxd, hTx, hTd⟩ := hnx
      have HXd : Hid (x = (p + d0) % N) := hxd
      have HTx : Hid (T x = false) := hTx
      have HTd : Hid (∀ e, e < d0 → T ((p + e) % N) = true) := hTd
      clear hcnt hxd hTx hTd
      go_wp2
      go_loopw [8] (fun q wq => ∃ d : Nat, d ≤ d0 ∧ q = .int .i64 (((p + d) % N : Nat) : Int) ∧ wq = wr) (fun q _ => (x + N - (intOf q).toNat) % N)
      case atStart => exact ⟨0, Nat.zero_le _, by rw [Nat.add_zero, Nat.mod_eq_of_lt hpN], rfl⟩
      case round =>
        obtain ⟨d, hd, rfl, rfl⟩ := hrel
        obtain ⟨q, HQ⟩ : ∃ q, Hid (q = (p + d) % N) := ⟨_, rfl⟩
        have hqN : q < N := by rw [HQ.out]; exact Nat.mod_lt _ (by omega)
        rw [← HQ.out]
        have hqN' : (q : Int) < (N : Int) := by omega
        obtain ⟨hfz, hcz⟩ := HO.out.at hqN
        by_cases hdd : d = d0
        · have HQX : Hid (q = x) := by show _ = _; rw [HQ.out, HXd.out, hdd]
          obtain rfl := HQX.out
          rw [HTx.out] at hcz
          have HOn := HO.out.store q true
          have HPn := HP.out.other (p := ⟨w.heap.size, q, none⟩) (x := .bool true) HGt.out
          obtain ⟨hkf, hkc⟩ := HPn.tabBox (j := k) hlt
          clear hdd hd
          go_wp2
          go_roundw
          case rel =>
            have hlen : (plcs N ((lk zs).take k)).length = k := by rw [plcs_length, List.length_take, lk_length, ← HNz.out]; omega
            refine ⟨k + 1, by omega, by go_num, ?_, ?_, ?_⟩
            · refine OwnsT.other (HOn.congr (fun j _ => ?_)) (fun e => HGt.out e.symm)
              rw [take_some HPk.out, pfin_snoc, ← HT.out, ← HX.out]; rfl
            · rw [take_some HPk.out, plcs_snoc, ← HT.out, ← HX.out]
              have h1 := HPn.tabPut k ((q : Int) + 1)
              refine h1.tabSame (fun j hj => ?_)
              have := fill_snoc n (plcs N ((lk zs).take k)) ((q : Int) + 1) j hj
              rw [hlen] at this
              exact this
            · exact (HB.out.setCell (Nat.le_refl _) _).setCell HGb.out _
          case measure => simp [intOf]; omega
        · have hr : Int.tmod ((q : Int) + 1) (N : Int) = (((p + (d + 1)) % N : Nat) : Int) := by
            rw [← Nat.add_assoc, ← Nat.mod_add_mod, ← HQ.out]
            exact (Int.ofNat_tmod (q + 1) N).symm
          have hN0 : (N : Int) ≠ 0 := by omega
          have hTq := HTd.out d (by omega)
          rw [← HQ.out] at hTq
          rw [hTq] at hcz
          go_wp2
          go_roundw
          case rel => exact ⟨d + 1, by omega, by first | exact rfl | trivial, by first | exact rfl | trivial⟩
          case measure =>
            show (x + N - (((p + (d + 1)) % N : Nat) : Int).toNat) % N < (x + N - ((q : Nat) : Int).toNat) % N
            rw [Int.toNat_natCast, Int.toNat_natCast, HQ.out, HXd.out, hop_dist (by omega) hd0, hop_dist (by omega) hd0]; omega
    · obtain rfl : k = n := by omega
      have HU : Hid (∀ j, j < f → pfin N ((lk zs).take k) none0 j = true) := fun j hj => by
        rw [List.take_of_length_le (by rw [lk_length, ← HNz.out]; exact Nat.le_refl _)]
        cases hT : pfin N (lk zs) none0 j with
        | true => rfl
        | false =>
          have h1 : Free (lk zs) j := ⟨by rw [lk_length, ← HNz.out]; have := HN.out; omega, by rw [lk_length, ← HNz.out, ← HN.out]; exact hT⟩
          have := h1.uniq HF.out
          omega
      have HFf : Hid (pfin N ((lk zs).take k) none0 f = false) := by
        show _ = _
        rw [List.take_of_length_le (by rw [lk_length, ← HNz.out]; exact Nat.le_refl _)]
        have := HF.out.2
        rw [lk_length, ← HNz.out, ← HN.out] at this
        exact this
      have HPe : Hid (Owns wr w.heap.size (.slice (some ⟨G, 0, none⟩) k k) (plcs (zs.length + 1) (lk zs))) := by
        have h1 := HP.out
        rw [List.take_of_length_le (by rw [lk_length, ← HNz.out]; exact Nat.le_refl _), tab_fill (by rw [plcs_length, lk_length, ← HNz.out])] at h1
        rw [← HNz.out, ← HN.out]
        exact h1
      have HC := IndexB_at w.heap.size N N f w.heap.size _ wr HO.out (by omega) hfN HFf.out HU.out
      go_wp2_with fail
      refine HC.mono ?_
      rintro e w9 ⟨rfl, rfl⟩
      go_wp2
      go_ret2
      exact ⟨_, rfl, HPe, HB⟩
end Go.Proofs.Ytihafckdaecgkaa
