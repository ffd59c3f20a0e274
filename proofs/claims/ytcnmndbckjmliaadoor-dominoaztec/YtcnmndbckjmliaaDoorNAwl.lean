/-
  ferkeep.DominoAztec returns true: the greatest diamond.
-/
import Derived.Test.YtcnmndbckjmliaaDoorNAwa
import Derived.Test.YtcnmndbckjmliaaDoorNBkl
import Derived.Test.YtcnmndbckjmliaaDoorNAz
namespace Go.Proofs.YtcnmndbckjmliaaDoor
open Go.RowKit

/-- A tiling of the diamond. -/
def AzT (n : Nat) (s : List UInt8) : Prop := Til s (2 * n) (2 * n) ∧ brdT s (2 * n) (2 * n) = dmT n
theorem AzT.flips {n : Nat} {t : ByteArray} (h : AzT n t.data.toList) (h1 : 1 ≤ n) (h4 : n ≤ 4) : 0 < (blQ t.data.toList (2 * n - 1) (2 * n - 1)).length := by
  refine dm_flip (r := 2 * n - 1) (by omega) (by omega) ?_ ?_
  · rw [show 2 * n - 1 + 1 = 2 * n by omega]; exact h.1
  · rw [show 2 * n - 1 + 1 = 2 * n by omega, show 2 * n / 2 = n by omega]; exact h.2
theorem AzT.turn {n : Nat} {s : List UInt8} (h : AzT n s) (h1 : 1 ≤ n) {i j : Nat} (hi : i < 2 * n - 1) (hj : j < 2 * n - 1) (hq : qR (cef (pz s)) i j = true) : AzT n (turned s (2 * n - 1) (2 * n - 1) i j) := by
  have hT : Til s (2 * n - 1 + 1) (2 * n - 1 + 1) := by rw [show 2 * n - 1 + 1 = 2 * n by omega]; exact h.1
  have a := (turned_til hT hi hj hq).1
  have b := turned_brd hT hi hj hq
  rw [show 2 * n - 1 + 1 = 2 * n by omega] at a b
  exact ⟨a, b.trans h.2⟩

set_option maxHeartbeats 8000000 in
set_option maxRecDepth 100000 in
theorem daz_four (k : Int) (ta ua : Option Addr) (tn tc un uc : Nat) (zs : List Int) (m : Int) (w : World) (hm : w.cell? ⟨0, 0, none⟩ = some (.int .i64 m)) (hB : TabAt 1 Lib.deBruijn64tab w) (hz : Shows w ta zs) (hzn : tn = zs.length) (hzb : ∀ z ∈ zs, -9223372036854775808 ≤ z ∧ z ≤ 9223372036854775807)
    (c : Nat) (hc : c = 3) (hPk : ∀ w : World, Calls Tryd.prog 30 #[.int .i64 k, .int .i64 4] w fun e w' => e = .returned (.int .i64 (c : Int)) ∧ w' = w) :
    Calls Tryd.prog 7 #[.int .i64 k, .slice ta tn tc, .slice ua un uc] w fun e w' => e = .returned (.bool true) ∧ Below w.heap.size w w' := by
  have HM : Hid (∀ W, Below w.heap.size w W → W.cell? ⟨0, 0, none⟩ = some (.int .i64 m)) := fun W hW => (hW.cell (p := ⟨0, 0, none⟩) (World.block_lt_of_cell? w _ hm)).trans hm
  have HTb : Hid (∀ W, Below w.heap.size w W → TabAt 1 Lib.deBruijn64tab W) := tab_all hB (by decide)
  have HZ := hid_w hz
  have HZn := hid_w hzn
  have HZb := hid_w hzb
  obtain ⟨n, HN⟩ : ∃ n, Hid (n = c + 1) := ⟨_, rfl⟩
  have HN4 : Hid (n = 4) := by show _ = _; rw [HN.out, hc]
  obtain ⟨D, HD⟩ : ∃ D : ByteArray, Hid (D = ⟨(dmT n).toArray⟩) := ⟨_, rfl⟩
  have HPk : Hid (Calls Tryd.prog 30 #[.int .i64 k, .int .i64 4] w fun e w' => e = .returned (.int .i64 3) ∧ w' = w) := by have h := hPk w; rw [hc] at h; exact h
  have HAz : Hid (Calls Tryd.prog 18 #[.int .i64 4] w fun e w' => e = .returned (.tuple #[.string D, .int .i64 0]) ∧ Hid (Below w.heap.size w w')) := by
    have h := Aztec_ok n w (by rw [HN4.out]; omega) (by rw [HN4.out]; omega)
    rw [HD.out]; unfold dmT
    rw [HN4.out] at h ⊢; exact h
  have HBn : Hid (BdN D.data.toList (2 * n) (2 * n) 1024) := by
    have h := dmT_bdn n (by rw [HN4.out]; omega) (by rw [HN4.out]; omega)
    rw [HD.out]
    rw [show (1024 : Nat) = 2 ^ (n * (n + 1) / 2) by rw [HN4.out]]; exact h
  have HCo : Hid (∀ W, Hid (Below w.heap.size w W) → Calls Tryd.prog 8 #[.string D] W fun e w' => e = .returned (.tuple #[.int .i64 1024, .int .i64 0]) ∧ Hid (Below W.heap.size W w')) := fun W hW => BCount_ok D m W (HM.out W hW.out) (HTb.out W hW.out) _ _ _ HBn.out
  have HFi : Hid (∀ W, Hid (Below w.heap.size w W) → Calls Tryd.prog 9 #[.string D] W fun e w' => ∃ u : ByteArray, e = .returned (.tuple #[.string u, .int .i64 0]) ∧ Hid (AzT n u.data.toList) ∧ Hid (Below W.heap.size W w')) := fun W hW => by
    refine (BFirst_ok D m W (HM.out W hW.out) (HTb.out W hW.out) _ _ _ HBn.out (by omega)).mono ?_
    rintro e w' ⟨u, rfl, hu, hB⟩
    exact ⟨u, rfl, ⟨hu.out.1, by rw [hu.out.2, HD.out]⟩, hB⟩
  clear hm hB hz hzn hzb hPk hc
  go_enter Tryd.func7, Tryd.ntmps7
  go_upto_region 2 with (go_at_call 30; with_reducible (refine HPk.out.mono ?_); rintro e v0 ⟨rfl, rfl⟩)
  go_upto_region 3 with (go_at_call 18; with_reducible (refine HAz.out.mono ?_); rintro e w1 ⟨rfl, HB1⟩)
  have HC1 := hid_w (HCo.out _ HB1)
  go_upto_region 4 with (go_at_call 8; with_reducible (refine HC1.out.mono ?_); rintro e w2 ⟨rfl, HB2'⟩)
  have HB2 : Hid (Below v0.heap.size v0 w2) := HB1.out.trans (HB2'.out.mono HB1.out.size)
  have HC2 := hid_w (HFi.out _ HB2)
  go_upto_region 7 with (go_at_call 9; with_reducible (refine HC2.out.mono ?_); rintro e w3 ⟨t0, rfl, HT0, HB3'⟩)
  have HB3 : Hid (Below v0.heap.size v0 w3) := HB2.out.trans (HB3'.out.mono HB2.out.size)
  obtain ⟨r, HR⟩ : ∃ r, Hid (r = 2 * n - 1) := ⟨_, rfl⟩
  have HFl : Hid (∀ (t : ByteArray) W, Hid (AzT n t.data.toList) → Hid (Below v0.heap.size v0 W) → ∃ N, 0 < N ∧ N ≤ 64 ∧ Hid (N = (blQ t.data.toList r r).length) ∧ Hid (Calls Tryd.prog 20 #[.string t] W fun e w' => ∃ a cp, e = .returned (.tuple #[.slice a N cp, .int .i64 0]) ∧ Hid (PtI w' a (blQ t.data.toList r r)) ∧ Hid (Below W.heap.size W w'))) := fun t W hT hW => by
    have h1 : 1 ≤ n := by rw [HN4.out]; omega
    have h4 : n ≤ 4 := by rw [HN4.out]; omega
    have hTr : Til t.data.toList (r + 1) (r + 1) := by rw [HR.out, show 2 * n - 1 + 1 = 2 * n by omega]; exact hT.out.1
    exact ⟨_, by rw [HR.out]; exact AzT.flips hT.out h1 h4, blQ_len hTr, rfl, BFlips_ok t m W (HM.out W hW.out) r r hTr _ rfl⟩
  have HFp : Hid (∀ (t : ByteArray) W (i j : Nat), Hid (AzT n t.data.toList) → Hid (Below v0.heap.size v0 W) → Hid (i < r ∧ j < r ∧ qR (cef (pz t.data.toList)) i j = true) → Calls Tryd.prog 21 #[.string t, .agg #[.int .i64 (j : Int), .int .i64 (i : Int)]] W fun e w' => ∃ u : ByteArray, e = .returned (.tuple #[.string u, .int .i64 0]) ∧ Hid (AzT n u.data.toList) ∧ Hid (Below W.heap.size W w')) := fun t W i j hT hW hij => by
    have h1 : 1 ≤ n := by rw [HN4.out]; omega
    have hTr : Til t.data.toList (r + 1) (r + 1) := by rw [HR.out, show 2 * n - 1 + 1 = 2 * n by omega]; exact hT.out.1
    refine (BFlip_on t m W (HM.out W hW.out) i j r r hTr hij.out.1 hij.out.2.1 hij.out.2.2 _ rfl).mono ?_
    rintro e w' ⟨rfl, hB⟩
    have hu := AzT.turn hT.out h1 (by rw [← HR.out]; exact hij.out.1) (by rw [← HR.out]; exact hij.out.2.1) hij.out.2.2
    rw [← HR.out] at hu
    exact ⟨_, rfl, hu, hB⟩
  clear HC1 HC2 HAz HPk HCo HFi HB1 HB2' HB2 HB3'
  go_upto_region 8 with fail
  go_loopw [9, 12, 13] (fun e9 s12 v wr => ∃ (i : Nat) (t : ByteArray), i ≤ tn ∧ v = .int .i64 (i : Int) ∧ s12 = .string t ∧ e9 = .int .i64 0 ∧ Hid (AzT n t.data.toList) ∧ Hid (Below v0.heap.size v0 wr)) (fun _ _ v _ => tn - (intOf v).toNat)
  case atStart => exact ⟨0, t0, Nat.zero_le _, rfl, rfl, rfl, HT0, HB3⟩
  case round =>
    clear HT0 HB3
    obtain ⟨i, t, hi, rfl, rfl, rfl, HT, HB⟩ := hrel
    by_cases hgo : i < tn ∧ i < 40
    · obtain ⟨hlt, h40⟩ := hgo
      have hlt' : (i : Int) < (tn : Int) := by omega
      have h40' : (i : Int) < 40 := by omega
      obtain ⟨N, hN0, hN64, HNb, HCf⟩ := HFl.out t wr HT HB
      have hN1 : ¬ (N : Int) = 0 := by omega
      go_upto_region 11 with (go_at_call 20; with_reducible (refine HCf.out.mono ?_); rintro e w5 ⟨a1, cp1, rfl, HP, HB5'⟩)
      have HB5 : Hid (Below v0.heap.size v0 w5) := HB.out.trans (HB5'.out.mono HB.out.size)
      obtain ⟨b3, o3, z, rfl, -, hz1, hz2, hz0⟩ := (HZ.out.below HB5.out).elem (k := i) (by rw [← HZn.out]; exact hlt)
      obtain ⟨q, hq, hPq⟩ := Pick_val z N ⟨hz1, hz2⟩ hN0 (by omega)
      have HPq := hid_w hPq
      have HPi : Hid (∀ (W : World) (a : Option Addr), Hid (PtI W a (blQ t.data.toList r r)) → ∀ q, q < N → ∃ i j : Nat, Hid (i < r ∧ j < r ∧ qR (cef (pz t.data.toList)) i j = true) ∧ ∃ b o, a = some ⟨b, o, none⟩ ∧ W.cell? ⟨b, o + q * 2, none⟩ = some (.int .i64 (j : Int)) ∧ W.cell? ⟨b, o + q * 2 + 1, none⟩ = some (.int .i64 (i : Int))) := fun W a hP q hq => by
        rw [HNb.out] at hq
        obtain ⟨i, j, h1, h2, h3, h4⟩ := blQ_at _ r r q hq
        obtain ⟨b, o, h5, -, h6, h7⟩ := hP.out q hq
        rw [h4] at h6 h7
        exact ⟨i, j, ⟨h1, h2, h3⟩, b, o, h5, h6, h7⟩
      clear hPq hz1 hz2
      go_wp2_with (first | (go_at_call 30; with_reducible (refine (HPq.out _).mono ?_); rintro e w6 ⟨rfl, rfl⟩; obtain ⟨i1, j1, HIJ, b2, o2, rfl, k0, k1⟩ := HPi.out _ a1 HP q hq) | (go_at_call 21; with_reducible (refine (HFp.out _ _ _ _ HT HB5 HIJ).mono ?_); rintro e w7 ⟨u, rfl, HTu, HB6'⟩))
      have HB6 : Hid (Below v0.heap.size v0 w7) := HB5.out.trans (HB6'.out.mono HB5.out.size)
      go_roundw
      case rel => exact ⟨i + 1, u, by omega, by go_num, rfl, rfl, HTu, HB6⟩
      case measure => simp [intOf]; omega
    · have hg : ¬ ((i : Int) < (tn : Int)) ∨ ((i : Int) < (tn : Int) ∧ ¬ (i : Int) < 40) := by omega
      have HNd : Hid (Calls Tryd.prog 25 #[.string t] wr fun e w' => e = .returned (.tuple #[.int .i64 0, .int .i64 2]) ∧ Hid (Below wr.heap.size wr w')) := Needs4_at t n m wr (HM.out wr HB.out) HN4.out HT.out.1 (by rw [HT.out.2]; rfl)
      rcases hg with hg | ⟨hg1, hg2⟩
      · go_wp2_with (go_at_call 25; with_reducible (refine HNd.out.mono ?_); rintro e w8 ⟨rfl, HB8⟩)
        go_ret
        exact ⟨rfl, HB.out.trans (HB8.out.mono HB.out.size)⟩
      · go_wp2_with (go_at_call 25; with_reducible (refine HNd.out.mono ?_); rintro e w8 ⟨rfl, HB8⟩)
        go_ret
        exact ⟨rfl, HB.out.trans (HB8.out.mono HB.out.size)⟩

end Go.Proofs.YtcnmndbckjmliaaDoor
