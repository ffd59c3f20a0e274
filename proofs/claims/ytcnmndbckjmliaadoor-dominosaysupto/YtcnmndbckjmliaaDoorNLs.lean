/-
  ferlaw.DominoSays returns true.
-/
import Derived.Test.YtcnmndbckjmliaaDoorNFu
import Derived.Test.YtcnmndbckjmliaaDoorNFsy
import Derived.Test.YtcnmndbckjmliaaDoorNCv
import Derived.Test.YtcnmndbckjmliaaDoorNBka
import Derived.Lib.SliceRun
namespace Go.Proofs.YtcnmndbckjmliaaDoor
open Go.RowKit

theorem sy_law {w W : World} {f : Nat} {args : Array Value} {v : Value} (hW : Below w.heap.size w W) (h : Calls Tryd.prog f args W fun e w' => e = .returned v ∧ Hid (Below W.heap.size W w')) : Calls Tryd.prog f args W fun e w' => e = .returned v ∧ Hid (Below w.heap.size w w') :=
  h.mono fun _ _ q => ⟨q.1, hW.trans (q.2.out.mono hW.size)⟩

set_option maxHeartbeats 4000000 in
set_option maxRecDepth 100000 in
theorem SCheckT_at (s : ByteArray) (m : Int) (w : World) (hm : w.cell? ⟨0, 0, none⟩ = some (.int .i64 m)) :
    Calls Tryd.prog 12 #[.string s] w fun e w' => ∃ er : Int, e = .returned (.int .i64 er) ∧ Hid ((er = 0 ∧ ∃ r c, Til s.data.toList r c) ∨ (er = 1 ∧ ∀ r c, ¬ Til s.data.toList r c)) ∧ Hid (Below w.heap.size w w') := by
  obtain ⟨Z, HZ⟩ : ∃ Z, Hid (Z = shC 0 0 fun _ => 0) := ⟨_, rfl⟩
  have hz : ∀ W : World, (zeroValue 62).run Tryd.prog W = .ok (.agg Z) W := fun W => by rw [HZ.out]; exact (zero_of_info zeroS).1 W
  have HZ6 : Hid (C66 Z) := by rw [HZ.out]; exact shC_66 _ _ _
  have HCr := hid_w (readT_at s m w hm)
  clear hm
  go_enter Tryd.func12, Tryd.ntmps12
  go_upto_region 2 with (first | (go_at_call 40; with_reducible (refine HCr.out.mono ?_); rintro e W1 ⟨v, rfl, HR, HB1⟩; obtain ⟨Y, er, rfl, HY6, HYr⟩ := HR.out.parts) | (refine wpList_store66 rfl (.tmp 3) (.tmp 8) rfl W1.heap.size Y Z rfl rfl (heap_alloc_last _ _) HY6.out HZ6.out ?_))
  try simp only [Act.put]
  have HB3 : Hid (Below w.heap.size w ((W1.alloc (.cells Z 62)).setRow W1.heap.size Y)) := below_setRowN (HB1.out.alloc HB1.out.size _) _ HB1.out.size _
  have HA : Hid ((er = 0 ∧ ∃ r c, Til s.data.toList r c) ∨ (er = 1 ∧ ∀ r c, ¬ Til s.data.toList r c)) := by
    rcases HYr.out with ⟨h, r, c, h2, _⟩ | ⟨h, _, h2⟩
    · exact Or.inl ⟨h, r, c, h2⟩
    · exact Or.inr ⟨h, h2⟩
  clear HYr HR
  go_wp2_with fail
  go_ret
  exact ⟨er, rfl, HA, HB3⟩
set_option maxHeartbeats 4000000 in
set_option maxRecDepth 100000 in
theorem SCheckB_at (s : ByteArray) (m : Int) (w : World) (hm : w.cell? ⟨0, 0, none⟩ = some (.int .i64 m)) :
    Calls Tryd.prog 15 #[.string s] w fun e w' => ∃ er : Int, e = .returned (.int .i64 er) ∧ Hid ((er = 0 ∧ ∃ r c, Shz bdL r c (pz s.data.toList)) ∨ (er = 1 ∧ ∀ r c, ¬ Shz bdL r c (pz s.data.toList))) ∧ Hid (Below w.heap.size w w') := by
  obtain ⟨Z, HZ⟩ : ∃ Z, Hid (Z = shC 0 0 fun _ => 0) := ⟨_, rfl⟩
  have hz : ∀ W : World, (zeroValue 62).run Tryd.prog W = .ok (.agg Z) W := fun W => by rw [HZ.out]; exact (zero_of_info zeroS).1 W
  have HZ6 : Hid (C66 Z) := by rw [HZ.out]; exact shC_66 _ _ _
  have HCr := hid_w (readB_at s m w hm)
  clear hm
  go_enter Tryd.func15, Tryd.ntmps15
  go_upto_region 2 with (first | (go_at_call 31; with_reducible (refine HCr.out.mono ?_); rintro e W1 ⟨v, rfl, HR, HB1⟩; obtain ⟨Y, er, rfl, HY6, HYr⟩ := HR.out.parts) | (refine wpList_store66 rfl (.tmp 3) (.tmp 8) rfl W1.heap.size Y Z rfl rfl (heap_alloc_last _ _) HY6.out HZ6.out ?_))
  try simp only [Act.put]
  have HB3 : Hid (Below w.heap.size w ((W1.alloc (.cells Z 62)).setRow W1.heap.size Y)) := below_setRowN (HB1.out.alloc HB1.out.size _) _ HB1.out.size _
  have HA : Hid ((er = 0 ∧ ∃ r c, Shz bdL r c (pz s.data.toList)) ∨ (er = 1 ∧ ∀ r c, ¬ Shz bdL r c (pz s.data.toList))) := by
    rcases HYr.out with ⟨h, r, c, h2, _⟩ | ⟨h, _, h2⟩
    · exact Or.inl ⟨h, r, c, h2⟩
    · exact Or.inr ⟨h, h2⟩
  clear HYr HR
  go_wp2_with fail
  go_ret
  exact ⟨er, rfl, HA, HB3⟩

section
variable (t : ByteArray) (m : Int) (w : World) (hm : w.cell? ⟨0, 0, none⟩ = some (.int .i64 m))
include hm
theorem SBoard_no (hT : ∀ r c, ¬ Til t.data.toList r c) : Calls Tryd.prog 10 #[.string t] w fun e w' => e = .returned (.tuple #[.string ⟨#[]⟩, .int .i64 1]) ∧ Hid (Below w.heap.size w w') := by
  refine (Board_at t m w hm).mono ?_
  rintro e w' ⟨v, er, rfl, hF, hB⟩
  rcases hF.out with ⟨_, r, c, h, _⟩ | ⟨rfl, rfl, _⟩
  · exact absurd h (hT r c)
  · exact ⟨rfl, hB⟩
theorem SBoard_ok (r c : Nat) (hT : Til t.data.toList r c) (u : ByteArray) (hu : u = ⟨(brdT t.data.toList r c).toArray⟩) : Calls Tryd.prog 10 #[.string t] w fun e w' => e = .returned (.tuple #[.string u, .int .i64 0]) ∧ Hid (Below w.heap.size w w') := BBoard_ok t m w hm r c hT u hu
theorem SCt_no (hT : ∀ r c, ¬ Til t.data.toList r c) : Calls Tryd.prog 12 #[.string t] w fun e w' => e = .returned (.int .i64 1) ∧ Hid (Below w.heap.size w w') := by
  refine (SCheckT_at t m w hm).mono ?_
  rintro e w' ⟨er, rfl, hF, hB⟩
  rcases hF.out with ⟨_, r, c, h⟩ | ⟨rfl, _⟩
  · exact absurd h (hT r c)
  · exact ⟨rfl, hB⟩
theorem SCt_ok (r c : Nat) (hT : Til t.data.toList r c) : Calls Tryd.prog 12 #[.string t] w fun e w' => e = .returned (.int .i64 0) ∧ Hid (Below w.heap.size w w') := by
  refine (SCheckT_at t m w hm).mono ?_
  rintro e w' ⟨er, rfl, hF, hB⟩
  rcases hF.out with ⟨rfl, _⟩ | ⟨_, h⟩
  · exact ⟨rfl, hB⟩
  · exact absurd hT (h r c)
theorem SCk_no (hT : ∀ r c, ¬ Shz bdL r c (pz t.data.toList)) : Calls Tryd.prog 15 #[.string t] w fun e w' => e = .returned (.int .i64 1) ∧ Hid (Below w.heap.size w w') := by
  refine (SCheckB_at t m w hm).mono ?_
  rintro e w' ⟨er, rfl, hF, hB⟩
  rcases hF.out with ⟨_, r, c, h⟩ | ⟨rfl, _⟩
  · exact absurd h (hT r c)
  · exact ⟨rfl, hB⟩
theorem SCk_ok (r c : Nat) (hT : Shz bdL r c (pz t.data.toList)) : Calls Tryd.prog 15 #[.string t] w fun e w' => e = .returned (.int .i64 0) ∧ Hid (Below w.heap.size w w') := by
  refine (SCheckB_at t m w hm).mono ?_
  rintro e w' ⟨er, rfl, hF, hB⟩
  rcases hF.out with ⟨rfl, _⟩ | ⟨_, h⟩
  · exact ⟨rfl, hB⟩
  · exact absurd hT (h r c)
theorem SyLaid_no (hs : t.size ≤ 4000000000) (hT : ∀ r c, ¬ Til t.data.toList r c) : Calls Tryd.prog 11 #[.string t] w fun e w' => e = .returned (.bool false) ∧ Hid (Below w.heap.size w w') := by
  refine (Laid_at t m w hs hm).mono ?_
  rintro e w' ⟨b, rfl, hL, hB⟩
  cases b with
  | false => exact ⟨rfl, hB⟩
  | true => obtain ⟨r, c, h⟩ := hL.out.1 rfl; exact absurd h (hT r c)
theorem SyLaid_ok (hs : t.size ≤ 4000000000) (r c : Nat) (hT : Til t.data.toList r c) : Calls Tryd.prog 11 #[.string t] w fun e w' => e = .returned (.bool true) ∧ Hid (Below w.heap.size w w') := by
  refine (Laid_at t m w hs hm).mono ?_
  rintro e w' ⟨b, rfl, hL, hB⟩
  have : b = true := hL.out.2 ⟨r, c, hT⟩
  subst this
  exact ⟨rfl, hB⟩
theorem SyCells_no (hs : t.size ≤ 4000000000) (hT : ∀ r c, ¬ Shz bdL r c (pz t.data.toList)) : Calls Tryd.prog 14 #[.string t, .string ⟨#[35, 46]⟩] w fun e w' => e = .returned (.slice none 0 0) ∧ Hid (Below w.heap.size w w') := by
  refine (Cells_at t ⟨#[35, 46]⟩ m w hs hm).mono ?_
  rintro e w' ⟨v, rfl, hC, hB⟩
  rcases hC.out with ⟨r', c', P, X, hz, _, rfl, _, _⟩ | ⟨rfl, _⟩
  · exact absurd hz (hT r' c')
  · exact ⟨rfl, hB⟩
theorem SyCells_ok (hs : t.size ≤ 4000000000) (r c : Nat) (hT : Shz bdL r c (pz t.data.toList)) : Calls Tryd.prog 14 #[.string t, .string ⟨#[35, 46]⟩] w fun e w' => ∃ X n : Nat, e = .returned (.slice (some ⟨X, 0, none⟩) n n) ∧ Hid (Below w.heap.size w w') := by
  refine (Cells_at t ⟨#[35, 46]⟩ m w hs hm).mono ?_
  rintro e w' ⟨v, rfl, hC, hB⟩
  rcases hC.out with ⟨r', c', P, X, hz, _, rfl, _, _⟩ | ⟨_, hno⟩
  · exact ⟨X, r', rfl, hB⟩
  · exact absurd hT (hno r c)
end
theorem out_exS (r c : Nat) (f : Nat → UInt8) (hr : r ≤ 8) (hc : c ≤ 8) : ∃ x, OutP r c f r 0 x := by
  have hrow : ∀ i, i < r → (∃ x, OutP r c f i 0 x) → ∀ j, j ≤ c → ∃ x, OutP r c f i j x := fun i hi h0 j => by
    induction j with
    | zero => exact fun _ => h0
    | succ j ih =>
      intro hj
      obtain ⟨x, hx⟩ := ih (by omega)
      by_cases hf : f (i * 8 + j) = 35
      · exact ⟨_, out_take hx hi (by omega) hr hc hf⟩
      · exact ⟨_, out_skip hx hf⟩
  have hall : ∀ i, i ≤ r → ∃ x, OutP r c f i 0 x := fun i => by
    induction i with
    | zero => exact fun _ => ⟨_, out_start r c f⟩
    | succ i ih =>
      intro hi
      obtain ⟨x, hx⟩ := hrow i (by omega) (ih (by omega)) c (Nat.le_refl _)
      exact ⟨x, out_row hx hc⟩
  exact hall r (Nat.le_refl _)
set_option maxHeartbeats 8000000 in
set_option maxRecDepth 100000 in
theorem dsy_NN (s t : ByteArray) (m : Int) (w : World) (hs : s.size ≤ 4000000000) (ht : t.size ≤ 4000000000) (hm : w.cell? ⟨0, 0, none⟩ = some (.int .i64 m)) (hB : TabAt 1 Lib.deBruijn64tab w) (hT : ∀ r c, ¬ Til t.data.toList r c) (hZ : ∀ r c, ¬ Shz bdL r c (pz s.data.toList)) :
    Calls Tryd.prog 3 #[.string s, .string t] w fun e w' => e = .returned (.bool true) ∧ Below w.heap.size w w' := by
  have HM : Hid (∀ W, Below w.heap.size w W → W.cell? ⟨0, 0, none⟩ = some (.int .i64 m)) := fun W hW => (hW.cell (p := ⟨0, 0, none⟩) (World.block_lt_of_cell? w _ hm)).trans hm
  have HTb : Hid (∀ W, Below w.heap.size w W → TabAt 1 Lib.deBruijn64tab W) := tab_all hB (by decide)
  have HBo : Hid (∀ W, Hid (Below w.heap.size w W) → Calls Tryd.prog 10 #[.string t] W fun e w' => e = .returned (.tuple #[.string ⟨#[]⟩, .int .i64 1]) ∧ Hid (Below w.heap.size w w')) := fun W hW => sy_law hW.out (SBoard_no t m W (HM.out W hW.out) hT)
  have HLa : Hid (∀ W, Hid (Below w.heap.size w W) → Calls Tryd.prog 11 #[.string t] W fun e w' => e = .returned (.bool false) ∧ Hid (Below w.heap.size w w')) := fun W hW => sy_law hW.out (SyLaid_no t m W (HM.out W hW.out) ht hT)
  have HCt : Hid (∀ W, Hid (Below w.heap.size w W) → Calls Tryd.prog 12 #[.string t] W fun e w' => e = .returned (.int .i64 1) ∧ Hid (Below w.heap.size w w')) := fun W hW => sy_law hW.out (SCt_no t m W (HM.out W hW.out) hT)
  have HCo : Hid (∀ W, Hid (Below w.heap.size w W) → Calls Tryd.prog 8 #[.string s] W fun e w' => e = .returned (.tuple #[.int .i64 0, .int .i64 1]) ∧ Hid (Below w.heap.size w w')) := fun W hW => sy_law hW.out (BCount_no s m W (HM.out W hW.out) (HTb.out W hW.out) hZ)
  have HFi : Hid (∀ W, Hid (Below w.heap.size w W) → Calls Tryd.prog 9 #[.string s] W fun e w' => e = .returned (.tuple #[.string ⟨#[]⟩, .int .i64 1]) ∧ Hid (Below w.heap.size w w')) := fun W hW => sy_law hW.out (BFirst_no s m W (HM.out W hW.out) (HTb.out W hW.out) hZ)
  have HCe : Hid (∀ W, Hid (Below w.heap.size w W) → Calls Tryd.prog 14 #[.string s, .string ⟨#[35, 46]⟩] W fun e w' => e = .returned (.slice none 0 0) ∧ Hid (Below w.heap.size w w')) := fun W hW => sy_law hW.out (SyCells_no s m W (HM.out W hW.out) hs hZ)
  have HCk : Hid (∀ W, Hid (Below w.heap.size w W) → Calls Tryd.prog 15 #[.string s] W fun e w' => e = .returned (.int .i64 1) ∧ Hid (Below w.heap.size w w')) := fun W hW => sy_law hW.out (SCk_no s m W (HM.out W hW.out) hZ)
  have heq0 : ∀ W : World, (binOp .eql 30 (.slice none 0 0) (.slice none 0 0)).run Tryd.prog W = .ok (.bool true) W := fun W => Lib.run_eql_slice_nil W 30 9 none 0 0 0 0 Tryd.underlying30
  have HB0 : Hid (Below w.heap.size w w) := Below.refl _ _
  clear hT hm hB hs ht hZ
  go_enter Tryd.func3, Tryd.ntmps3
  go_wp2_with (first | (go_at_call 8; with_reducible (refine (HCo.out _ HB0).mono ?_); rintro e w1 ⟨rfl, HB1⟩) | (go_at_call 9; with_reducible (refine (HFi.out _ HB1).mono ?_); rintro e w2 ⟨rfl, HB2⟩) | (go_at_call 10; with_reducible (refine (HBo.out _ HB2).mono ?_); rintro e w3 ⟨rfl, HB3⟩) | (go_at_call 11; with_reducible (refine (HLa.out _ HB3).mono ?_); rintro e w4 ⟨rfl, HB4⟩) | (go_at_call 12; with_reducible (refine (HCt.out _ HB4).mono ?_); rintro e w5 ⟨rfl, HB5⟩) | (go_at_call 14; with_reducible (refine (HCe.out _ HB5).mono ?_); rintro e w7 ⟨rfl, HB7⟩) | (go_at_call 15; with_reducible (refine (HCk.out _ HB7).mono ?_); rintro e w8 ⟨rfl, HB8⟩))
  go_ret
  exact ⟨rfl, HB8.out⟩

set_option maxHeartbeats 8000000 in
set_option maxRecDepth 100000 in
theorem dsy_NZ (s t : ByteArray) (m : Int) (w : World) (hs : s.size ≤ 4000000000) (ht : t.size ≤ 4000000000) (hm : w.cell? ⟨0, 0, none⟩ = some (.int .i64 m)) (hB : TabAt 1 Lib.deBruijn64tab w) (hT : ∀ r c, ¬ Til t.data.toList r c) (r c x : Nat) (hZ : Shz bdL (r + 1) c (pz s.data.toList)) (hX : OutP (r + 1) c (cef (pz s.data.toList)) (r + 1) 0 x) (hn : cntC x = 0) :
    Calls Tryd.prog 3 #[.string s, .string t] w fun e w' => e = .returned (.bool true) ∧ Below w.heap.size w w' := by
  have HM : Hid (∀ W, Below w.heap.size w W → W.cell? ⟨0, 0, none⟩ = some (.int .i64 m)) := fun W hW => (hW.cell (p := ⟨0, 0, none⟩) (World.block_lt_of_cell? w _ hm)).trans hm
  have HTb : Hid (∀ W, Below w.heap.size w W → TabAt 1 Lib.deBruijn64tab W) := tab_all hB (by decide)
  have HBo : Hid (∀ W, Hid (Below w.heap.size w W) → Calls Tryd.prog 10 #[.string t] W fun e w' => e = .returned (.tuple #[.string ⟨#[]⟩, .int .i64 1]) ∧ Hid (Below w.heap.size w w')) := fun W hW => sy_law hW.out (SBoard_no t m W (HM.out W hW.out) hT)
  have HLa : Hid (∀ W, Hid (Below w.heap.size w W) → Calls Tryd.prog 11 #[.string t] W fun e w' => e = .returned (.bool false) ∧ Hid (Below w.heap.size w w')) := fun W hW => sy_law hW.out (SyLaid_no t m W (HM.out W hW.out) ht hT)
  have HCt : Hid (∀ W, Hid (Below w.heap.size w W) → Calls Tryd.prog 12 #[.string t] W fun e w' => e = .returned (.int .i64 1) ∧ Hid (Below w.heap.size w w')) := fun W hW => sy_law hW.out (SCt_no t m W (HM.out W hW.out) hT)
  obtain ⟨q, HQ⟩ : ∃ q, Hid (q = cntC x) := ⟨_, rfl⟩
  have HBn : Hid (BdN s.data.toList (r + 1) c q) := ⟨hZ, x, hX, HQ.out⟩
  have hr8 := hZ.2.2.1
  have hc1 := hZ.2.2.2.1
  have hc8 := hZ.2.2.2.2.1
  obtain ⟨g, HG⟩ : ∃ g, Hid (g = cef (pz s.data.toList)) := ⟨_, rfl⟩
  have HMs : Hid (MskP (r + 1) c g x) := by rw [HG.out]; exact MskP.of hX
  have HSt : Hid (s.data.toList = tx (r + 1) c g) := by rw [HG.out]; exact (tx_cef hZ).symm
  have HLt : Hid (∀ i, i < r + 1 → ∀ j, j < c → g (i * 8 + j) ∈ bdL) := fun i hi j hj => by rw [HG.out]; exact shz_at hZ hi hj
  have HTl : Hid (∀ W b, Hid (KnowS r c W b 0) → Calls Tryd.prog 16 #[.string s, .map (some b)] W fun e w' => e = .returned (.int .i64 (q : Int)) ∧ Hid (KpT W b w')) := fun W b hK => by
    refine (tilings_all r c hr8 hc1 hc8 32 g x HMs.out HLt.out (free_le x) W b 0 hK (by omega) s HSt.out).mono ?_
    rintro e w' ⟨rfl, _, hk⟩
    exact ⟨by rw [HQ.out], hk⟩
  have HCe : Hid (∀ W, Hid (Below w.heap.size w W) → Calls Tryd.prog 14 #[.string s, .string ⟨#[35, 46]⟩] W fun e w' => ∃ X n : Nat, e = .returned (.slice (some ⟨X, 0, none⟩) n n) ∧ Hid (Below w.heap.size w w')) := fun W hW => (SyCells_ok s m W (HM.out W hW.out) hs _ _ hZ).mono fun _ _ ⟨X, n, h1, h2⟩ => ⟨X, n, h1, hW.out.trans (h2.out.mono hW.out.size)⟩
  have HCk : Hid (∀ W, Hid (Below w.heap.size w W) → Calls Tryd.prog 15 #[.string s] W fun e w' => e = .returned (.int .i64 0) ∧ Hid (Below w.heap.size w w')) := fun W hW => sy_law hW.out (SCk_ok s m W (HM.out W hW.out) _ _ hZ)
  have HCo : Hid (∀ W, Hid (Below w.heap.size w W) → Calls Tryd.prog 8 #[.string s] W fun e w' => e = .returned (.tuple #[.int .i64 0, .int .i64 0]) ∧ Hid (Below w.heap.size w w')) := fun W hW => sy_law hW.out (by have h := BCount_ok s m W (HM.out W hW.out) (HTb.out W hW.out) _ _ _ HBn.out; rw [HQ.out, hn] at h; exact h)
  have HFi : Hid (∀ W, Hid (Below w.heap.size w W) → Calls Tryd.prog 9 #[.string s] W fun e w' => e = .returned (.tuple #[.string ⟨#[]⟩, .int .i64 5]) ∧ Hid (Below w.heap.size w w')) := fun W hW => sy_law hW.out (BFirst_none s m W (HM.out W hW.out) (HTb.out W hW.out) _ _ (by have h := HBn.out; rw [HQ.out, hn] at h; exact h))
  have hq0 : q = 0 := by rw [HQ.out]; exact hn
  subst hq0
  have heq1 : ∀ (X n : Nat) (W : World), (binOp .eql 30 (.slice (some ⟨X, 0, none⟩) n n) (.slice none 0 0)).run Tryd.prog W = .ok (.bool false) W := fun X n W => Lib.run_eql_slice_nil W 30 9 (some ⟨X, 0, none⟩) n n 0 0 Tryd.underlying30
  have HB0 : Hid (Below w.heap.size w w) := Below.refl _ _
  clear hT hm hB hs ht hZ hX hn hr8 hc1 hc8
  go_enter Tryd.func3, Tryd.ntmps3
  go_wp2_with (first | (go_at_call 8; with_reducible (refine (HCo.out _ HB0).mono ?_); rintro e w1 ⟨rfl, HB1⟩) | (go_at_call 9; with_reducible (refine (HFi.out _ HB1).mono ?_); rintro e w2 ⟨rfl, HB2⟩) | (go_at_call 10; with_reducible (refine (HBo.out _ HB2).mono ?_); rintro e w3 ⟨rfl, HB3⟩) | (go_at_call 11; with_reducible (refine (HLa.out _ HB3).mono ?_); rintro e w4 ⟨rfl, HB4⟩) | (go_at_call 12; with_reducible (refine (HCt.out _ HB4).mono ?_); rintro e w5 ⟨rfl, HB5⟩) | (go_at_call 14; with_reducible (refine (HCe.out _ HB5).mono ?_); rintro e w7 ⟨X7, n7, rfl, HB7⟩) | (go_at_call 15; with_reducible (refine (HCk.out _ HB7).mono ?_); rintro e w8 ⟨rfl, HB8⟩))
  rw [run_makeMap]
  obtain ⟨b, HBb⟩ : ∃ b, Hid (b = w8.heap.size) := ⟨_, rfl⟩
  obtain ⟨W9, HW9⟩ : ∃ W9, Hid (W9 = w8.alloc (.map #[] 0)) := ⟨_, rfl⟩
  have HK9 : Hid (KnowS r c W9 b 0) := by rw [HW9.out, HBb.out]; exact knowS_made r c w8
  have HB9 : Hid (Below w.heap.size w W9) := by rw [HW9.out]; exact HB8.out.alloc HB8.out.size _
  have HTc := hid_w (HTl.out W9 b HK9)
  rw [← HBb.out, ← HW9.out]
  go_wp2_with (go_at_call 16; with_reducible (refine HTc.out.mono ?_); rintro e wa ⟨rfl, HKa⟩)
  have HBx : Hid (Below w.heap.size w wa) := kpt_below HB9.out (Nat.le_refl _) (by rw [HBb.out]; exact HB8.out.size) HKa.out
  go_ret
  exact ⟨rfl, HBx.out⟩

set_option maxHeartbeats 8000000 in
set_option maxRecDepth 100000 in
theorem dsy_NP (s t : ByteArray) (m : Int) (w : World) (hs : s.size ≤ 4000000000) (ht : t.size ≤ 4000000000) (hm : w.cell? ⟨0, 0, none⟩ = some (.int .i64 m)) (hB : TabAt 1 Lib.deBruijn64tab w) (hT : ∀ r c, ¬ Til t.data.toList r c) (r c x : Nat) (hZ : Shz bdL (r + 1) c (pz s.data.toList)) (hX : OutP (r + 1) c (cef (pz s.data.toList)) (r + 1) 0 x) (hn : 0 < cntC x) :
    Calls Tryd.prog 3 #[.string s, .string t] w fun e w' => e = .returned (.bool true) ∧ Below w.heap.size w w' := by
  have HM : Hid (∀ W, Below w.heap.size w W → W.cell? ⟨0, 0, none⟩ = some (.int .i64 m)) := fun W hW => (hW.cell (p := ⟨0, 0, none⟩) (World.block_lt_of_cell? w _ hm)).trans hm
  have HTb : Hid (∀ W, Below w.heap.size w W → TabAt 1 Lib.deBruijn64tab W) := tab_all hB (by decide)
  have HBo : Hid (∀ W, Hid (Below w.heap.size w W) → Calls Tryd.prog 10 #[.string t] W fun e w' => e = .returned (.tuple #[.string ⟨#[]⟩, .int .i64 1]) ∧ Hid (Below w.heap.size w w')) := fun W hW => sy_law hW.out (SBoard_no t m W (HM.out W hW.out) hT)
  have HLa : Hid (∀ W, Hid (Below w.heap.size w W) → Calls Tryd.prog 11 #[.string t] W fun e w' => e = .returned (.bool false) ∧ Hid (Below w.heap.size w w')) := fun W hW => sy_law hW.out (SyLaid_no t m W (HM.out W hW.out) ht hT)
  have HCt : Hid (∀ W, Hid (Below w.heap.size w W) → Calls Tryd.prog 12 #[.string t] W fun e w' => e = .returned (.int .i64 1) ∧ Hid (Below w.heap.size w w')) := fun W hW => sy_law hW.out (SCt_no t m W (HM.out W hW.out) hT)
  obtain ⟨q, HQ⟩ : ∃ q, Hid (q = cntC x) := ⟨_, rfl⟩
  have HBn : Hid (BdN s.data.toList (r + 1) c q) := ⟨hZ, x, hX, HQ.out⟩
  have hr8 := hZ.2.2.1
  have hc1 := hZ.2.2.2.1
  have hc8 := hZ.2.2.2.2.1
  obtain ⟨g, HG⟩ : ∃ g, Hid (g = cef (pz s.data.toList)) := ⟨_, rfl⟩
  have HMs : Hid (MskP (r + 1) c g x) := by rw [HG.out]; exact MskP.of hX
  have HSt : Hid (s.data.toList = tx (r + 1) c g) := by rw [HG.out]; exact (tx_cef hZ).symm
  have HLt : Hid (∀ i, i < r + 1 → ∀ j, j < c → g (i * 8 + j) ∈ bdL) := fun i hi j hj => by rw [HG.out]; exact shz_at hZ hi hj
  have HTl : Hid (∀ W b, Hid (KnowS r c W b 0) → Calls Tryd.prog 16 #[.string s, .map (some b)] W fun e w' => e = .returned (.int .i64 (q : Int)) ∧ Hid (KpT W b w')) := fun W b hK => by
    refine (tilings_all r c hr8 hc1 hc8 32 g x HMs.out HLt.out (free_le x) W b 0 hK (by omega) s HSt.out).mono ?_
    rintro e w' ⟨rfl, _, hk⟩
    exact ⟨by rw [HQ.out], hk⟩
  have HCe : Hid (∀ W, Hid (Below w.heap.size w W) → Calls Tryd.prog 14 #[.string s, .string ⟨#[35, 46]⟩] W fun e w' => ∃ X n : Nat, e = .returned (.slice (some ⟨X, 0, none⟩) n n) ∧ Hid (Below w.heap.size w w')) := fun W hW => (SyCells_ok s m W (HM.out W hW.out) hs _ _ hZ).mono fun _ _ ⟨X, n, h1, h2⟩ => ⟨X, n, h1, hW.out.trans (h2.out.mono hW.out.size)⟩
  have HCk : Hid (∀ W, Hid (Below w.heap.size w W) → Calls Tryd.prog 15 #[.string s] W fun e w' => e = .returned (.int .i64 0) ∧ Hid (Below w.heap.size w w')) := fun W hW => sy_law hW.out (SCk_ok s m W (HM.out W hW.out) _ _ hZ)
  obtain ⟨u, HU⟩ : ∃ u : ByteArray, Hid (u = ⟨(tx (r + 1) c (fstG 64 x g)).toArray⟩) := ⟨_, rfl⟩
  have hqp : ¬ (q : Int) = 0 := by have := HQ.out; omega
  have hqb : ((q : Int) == 0) = false := beq_false_of_ne hqp
  have HCo : Hid (∀ W, Hid (Below w.heap.size w W) → Calls Tryd.prog 8 #[.string s] W fun e w' => e = .returned (.tuple #[.int .i64 (q : Int), .int .i64 0]) ∧ Hid (Below w.heap.size w w')) := fun W hW => sy_law hW.out (BCount_ok s m W (HM.out W hW.out) (HTb.out W hW.out) _ _ _ HBn.out)
  have HFi : Hid (∀ W, Hid (Below w.heap.size w W) → Calls Tryd.prog 9 #[.string s] W fun e w' => e = .returned (.tuple #[.string u, .int .i64 0]) ∧ Hid (Below w.heap.size w w')) := fun W hW => sy_law hW.out ((FirstX_at s m W (HM.out W hW.out) (HTb.out W hW.out)).mono (by
    rintro e w' ⟨v, er, rfl, hF, hB⟩
    rcases hF.out with ⟨r', c', x', h1, h2, h3⟩ | ⟨_, _, hno⟩
    · obtain ⟨rfl, rfl, e⟩ := bdn_eq HBn.out h1 h2
      rcases h3 with ⟨rfl, _, rfl⟩ | ⟨_, h0, _⟩
      · refine ⟨?_, hB⟩
        have hx : x' = x := (MskP.of h2).one (MskP.of hX)
        rw [HU.out, HG.out, hx]
      · have := HQ.out; omega
    · exact absurd hZ (hno _ _)))
  have HFt : Hid (∀ W, Hid (Below w.heap.size w W) → Calls Tryd.prog 17 #[.string s] W fun e w' => e = .returned (.string u) ∧ Hid (Below w.heap.size w w')) := fun W hW => sy_law hW.out (by rw [HU.out]; exact FirstT_at s r c hr8 hc1 hc8 g x HMs.out HLt.out HSt.out hn W)
  have heq1 : ∀ (X n : Nat) (W : World), (binOp .eql 30 (.slice (some ⟨X, 0, none⟩) n n) (.slice none 0 0)).run Tryd.prog W = .ok (.bool false) W := fun X n W => Lib.run_eql_slice_nil W 30 9 (some ⟨X, 0, none⟩) n n 0 0 Tryd.underlying30
  have HB0 : Hid (Below w.heap.size w w) := Below.refl _ _
  clear hT hm hB hs ht hZ hX hn hr8 hc1 hc8
  go_enter Tryd.func3, Tryd.ntmps3
  go_wp2_with (first | (go_at_call 8; with_reducible (refine (HCo.out _ HB0).mono ?_); rintro e w1 ⟨rfl, HB1⟩) | (go_at_call 9; with_reducible (refine (HFi.out _ HB1).mono ?_); rintro e w2 ⟨rfl, HB2⟩) | (go_at_call 10; with_reducible (refine (HBo.out _ HB2).mono ?_); rintro e w3 ⟨rfl, HB3⟩) | (go_at_call 11; with_reducible (refine (HLa.out _ HB3).mono ?_); rintro e w4 ⟨rfl, HB4⟩) | (go_at_call 12; with_reducible (refine (HCt.out _ HB4).mono ?_); rintro e w5 ⟨rfl, HB5⟩) | (go_at_call 14; with_reducible (refine (HCe.out _ HB5).mono ?_); rintro e w7 ⟨X7, n7, rfl, HB7⟩) | (go_at_call 15; with_reducible (refine (HCk.out _ HB7).mono ?_); rintro e w8 ⟨rfl, HB8⟩))
  rw [run_makeMap]
  obtain ⟨b, HBb⟩ : ∃ b, Hid (b = w8.heap.size) := ⟨_, rfl⟩
  obtain ⟨W9, HW9⟩ : ∃ W9, Hid (W9 = w8.alloc (.map #[] 0)) := ⟨_, rfl⟩
  have HK9 : Hid (KnowS r c W9 b 0) := by rw [HW9.out, HBb.out]; exact knowS_made r c w8
  have HB9 : Hid (Below w.heap.size w W9) := by rw [HW9.out]; exact HB8.out.alloc HB8.out.size _
  have HTc := hid_w (HTl.out W9 b HK9)
  rw [← HBb.out, ← HW9.out]
  go_upto_region 15 with (go_at_call 16; with_reducible (refine HTc.out.mono ?_); rintro e wa ⟨rfl, HKa⟩)
  have HBx : Hid (Below w.heap.size w wa) := kpt_below HB9.out (Nat.le_refl _) (by rw [HBb.out]; exact HB8.out.size) HKa.out
  have HFc := hid_w (HFt.out wa HBx)
  go_wp2_with (go_at_call 17; with_reducible (refine HFc.out.mono ?_); rintro e wb ⟨rfl, HBy⟩)
  go_ret
  exact ⟨rfl, HBy.out⟩

set_option maxHeartbeats 8000000 in
set_option maxRecDepth 100000 in
theorem dsy_YN (s t : ByteArray) (m : Int) (w : World) (hs : s.size ≤ 4000000000) (ht : t.size ≤ 4000000000) (hm : w.cell? ⟨0, 0, none⟩ = some (.int .i64 m)) (hB : TabAt 1 Lib.deBruijn64tab w) (rt ct : Nat) (hT : Til t.data.toList rt ct) (hZ : ∀ r c, ¬ Shz bdL r c (pz s.data.toList)) :
    Calls Tryd.prog 3 #[.string s, .string t] w fun e w' => e = .returned (.bool true) ∧ Below w.heap.size w w' := by
  have HM : Hid (∀ W, Below w.heap.size w W → W.cell? ⟨0, 0, none⟩ = some (.int .i64 m)) := fun W hW => (hW.cell (p := ⟨0, 0, none⟩) (World.block_lt_of_cell? w _ hm)).trans hm
  have HTb : Hid (∀ W, Below w.heap.size w W → TabAt 1 Lib.deBruijn64tab W) := tab_all hB (by decide)
  obtain ⟨bt, HBt⟩ : ∃ bt : ByteArray, Hid (bt = ⟨(brdT t.data.toList rt ct).toArray⟩) := ⟨_, rfl⟩
  have HBo : Hid (∀ W, Hid (Below w.heap.size w W) → Calls Tryd.prog 10 #[.string t] W fun e w' => e = .returned (.tuple #[.string bt, .int .i64 0]) ∧ Hid (Below w.heap.size w w')) := fun W hW => sy_law hW.out (SBoard_ok t m W (HM.out W hW.out) rt ct hT bt HBt.out)
  have HLa : Hid (∀ W, Hid (Below w.heap.size w W) → Calls Tryd.prog 11 #[.string t] W fun e w' => e = .returned (.bool true) ∧ Hid (Below w.heap.size w w')) := fun W hW => sy_law hW.out (SyLaid_ok t m W (HM.out W hW.out) ht rt ct hT)
  have HCt : Hid (∀ W, Hid (Below w.heap.size w W) → Calls Tryd.prog 12 #[.string t] W fun e w' => e = .returned (.int .i64 0) ∧ Hid (Below w.heap.size w w')) := fun W hW => sy_law hW.out (SCt_ok t m W (HM.out W hW.out) rt ct hT)
  have HCv : Hid (∀ W, Hid (Below w.heap.size w W) → Calls Tryd.prog 13 #[.string t] W fun e w' => e = .returned (.string bt) ∧ Hid (Below w.heap.size w w')) := fun W hW => sy_law hW.out (by rw [HBt.out]; exact Covered_at t rt ct W hT)
  have HCo : Hid (∀ W, Hid (Below w.heap.size w W) → Calls Tryd.prog 8 #[.string s] W fun e w' => e = .returned (.tuple #[.int .i64 0, .int .i64 1]) ∧ Hid (Below w.heap.size w w')) := fun W hW => sy_law hW.out (BCount_no s m W (HM.out W hW.out) (HTb.out W hW.out) hZ)
  have HFi : Hid (∀ W, Hid (Below w.heap.size w W) → Calls Tryd.prog 9 #[.string s] W fun e w' => e = .returned (.tuple #[.string ⟨#[]⟩, .int .i64 1]) ∧ Hid (Below w.heap.size w w')) := fun W hW => sy_law hW.out (BFirst_no s m W (HM.out W hW.out) (HTb.out W hW.out) hZ)
  have HCe : Hid (∀ W, Hid (Below w.heap.size w W) → Calls Tryd.prog 14 #[.string s, .string ⟨#[35, 46]⟩] W fun e w' => e = .returned (.slice none 0 0) ∧ Hid (Below w.heap.size w w')) := fun W hW => sy_law hW.out (SyCells_no s m W (HM.out W hW.out) hs hZ)
  have HCk : Hid (∀ W, Hid (Below w.heap.size w W) → Calls Tryd.prog 15 #[.string s] W fun e w' => e = .returned (.int .i64 1) ∧ Hid (Below w.heap.size w w')) := fun W hW => sy_law hW.out (SCk_no s m W (HM.out W hW.out) hZ)
  have heq0 : ∀ W : World, (binOp .eql 30 (.slice none 0 0) (.slice none 0 0)).run Tryd.prog W = .ok (.bool true) W := fun W => Lib.run_eql_slice_nil W 30 9 none 0 0 0 0 Tryd.underlying30
  have HB0 : Hid (Below w.heap.size w w) := Below.refl _ _
  clear hT hm hB hs ht hZ
  go_enter Tryd.func3, Tryd.ntmps3
  go_wp2_with (first | (go_at_call 8; with_reducible (refine (HCo.out _ HB0).mono ?_); rintro e w1 ⟨rfl, HB1⟩) | (go_at_call 9; with_reducible (refine (HFi.out _ HB1).mono ?_); rintro e w2 ⟨rfl, HB2⟩) | (go_at_call 10; with_reducible (refine (HBo.out _ HB2).mono ?_); rintro e w3 ⟨rfl, HB3⟩) | (go_at_call 11; with_reducible (refine (HLa.out _ HB3).mono ?_); rintro e w4 ⟨rfl, HB4⟩) | (go_at_call 12; with_reducible (refine (HCt.out _ HB4).mono ?_); rintro e w5 ⟨rfl, HB5⟩) | (go_at_call 13; with_reducible (refine (HCv.out _ HB5).mono ?_); rintro e w6 ⟨rfl, HB6⟩) | (go_at_call 14; with_reducible (refine (HCe.out _ HB6).mono ?_); rintro e w7 ⟨rfl, HB7⟩) | (go_at_call 15; with_reducible (refine (HCk.out _ HB7).mono ?_); rintro e w8 ⟨rfl, HB8⟩))
  go_ret
  exact ⟨rfl, HB8.out⟩

set_option maxHeartbeats 8000000 in
set_option maxRecDepth 100000 in
theorem dsy_YZ (s t : ByteArray) (m : Int) (w : World) (hs : s.size ≤ 4000000000) (ht : t.size ≤ 4000000000) (hm : w.cell? ⟨0, 0, none⟩ = some (.int .i64 m)) (hB : TabAt 1 Lib.deBruijn64tab w) (rt ct : Nat) (hT : Til t.data.toList rt ct) (r c x : Nat) (hZ : Shz bdL (r + 1) c (pz s.data.toList)) (hX : OutP (r + 1) c (cef (pz s.data.toList)) (r + 1) 0 x) (hn : cntC x = 0) :
    Calls Tryd.prog 3 #[.string s, .string t] w fun e w' => e = .returned (.bool true) ∧ Below w.heap.size w w' := by
  have HM : Hid (∀ W, Below w.heap.size w W → W.cell? ⟨0, 0, none⟩ = some (.int .i64 m)) := fun W hW => (hW.cell (p := ⟨0, 0, none⟩) (World.block_lt_of_cell? w _ hm)).trans hm
  have HTb : Hid (∀ W, Below w.heap.size w W → TabAt 1 Lib.deBruijn64tab W) := tab_all hB (by decide)
  obtain ⟨bt, HBt⟩ : ∃ bt : ByteArray, Hid (bt = ⟨(brdT t.data.toList rt ct).toArray⟩) := ⟨_, rfl⟩
  have HBo : Hid (∀ W, Hid (Below w.heap.size w W) → Calls Tryd.prog 10 #[.string t] W fun e w' => e = .returned (.tuple #[.string bt, .int .i64 0]) ∧ Hid (Below w.heap.size w w')) := fun W hW => sy_law hW.out (SBoard_ok t m W (HM.out W hW.out) rt ct hT bt HBt.out)
  have HLa : Hid (∀ W, Hid (Below w.heap.size w W) → Calls Tryd.prog 11 #[.string t] W fun e w' => e = .returned (.bool true) ∧ Hid (Below w.heap.size w w')) := fun W hW => sy_law hW.out (SyLaid_ok t m W (HM.out W hW.out) ht rt ct hT)
  have HCt : Hid (∀ W, Hid (Below w.heap.size w W) → Calls Tryd.prog 12 #[.string t] W fun e w' => e = .returned (.int .i64 0) ∧ Hid (Below w.heap.size w w')) := fun W hW => sy_law hW.out (SCt_ok t m W (HM.out W hW.out) rt ct hT)
  have HCv : Hid (∀ W, Hid (Below w.heap.size w W) → Calls Tryd.prog 13 #[.string t] W fun e w' => e = .returned (.string bt) ∧ Hid (Below w.heap.size w w')) := fun W hW => sy_law hW.out (by rw [HBt.out]; exact Covered_at t rt ct W hT)
  obtain ⟨q, HQ⟩ : ∃ q, Hid (q = cntC x) := ⟨_, rfl⟩
  have HBn : Hid (BdN s.data.toList (r + 1) c q) := ⟨hZ, x, hX, HQ.out⟩
  have hr8 := hZ.2.2.1
  have hc1 := hZ.2.2.2.1
  have hc8 := hZ.2.2.2.2.1
  obtain ⟨g, HG⟩ : ∃ g, Hid (g = cef (pz s.data.toList)) := ⟨_, rfl⟩
  have HMs : Hid (MskP (r + 1) c g x) := by rw [HG.out]; exact MskP.of hX
  have HSt : Hid (s.data.toList = tx (r + 1) c g) := by rw [HG.out]; exact (tx_cef hZ).symm
  have HLt : Hid (∀ i, i < r + 1 → ∀ j, j < c → g (i * 8 + j) ∈ bdL) := fun i hi j hj => by rw [HG.out]; exact shz_at hZ hi hj
  have HTl : Hid (∀ W b, Hid (KnowS r c W b 0) → Calls Tryd.prog 16 #[.string s, .map (some b)] W fun e w' => e = .returned (.int .i64 (q : Int)) ∧ Hid (KpT W b w')) := fun W b hK => by
    refine (tilings_all r c hr8 hc1 hc8 32 g x HMs.out HLt.out (free_le x) W b 0 hK (by omega) s HSt.out).mono ?_
    rintro e w' ⟨rfl, _, hk⟩
    exact ⟨by rw [HQ.out], hk⟩
  have HCe : Hid (∀ W, Hid (Below w.heap.size w W) → Calls Tryd.prog 14 #[.string s, .string ⟨#[35, 46]⟩] W fun e w' => ∃ X n : Nat, e = .returned (.slice (some ⟨X, 0, none⟩) n n) ∧ Hid (Below w.heap.size w w')) := fun W hW => (SyCells_ok s m W (HM.out W hW.out) hs _ _ hZ).mono fun _ _ ⟨X, n, h1, h2⟩ => ⟨X, n, h1, hW.out.trans (h2.out.mono hW.out.size)⟩
  have HCk : Hid (∀ W, Hid (Below w.heap.size w W) → Calls Tryd.prog 15 #[.string s] W fun e w' => e = .returned (.int .i64 0) ∧ Hid (Below w.heap.size w w')) := fun W hW => sy_law hW.out (SCk_ok s m W (HM.out W hW.out) _ _ hZ)
  have HCo : Hid (∀ W, Hid (Below w.heap.size w W) → Calls Tryd.prog 8 #[.string s] W fun e w' => e = .returned (.tuple #[.int .i64 0, .int .i64 0]) ∧ Hid (Below w.heap.size w w')) := fun W hW => sy_law hW.out (by have h := BCount_ok s m W (HM.out W hW.out) (HTb.out W hW.out) _ _ _ HBn.out; rw [HQ.out, hn] at h; exact h)
  have HFi : Hid (∀ W, Hid (Below w.heap.size w W) → Calls Tryd.prog 9 #[.string s] W fun e w' => e = .returned (.tuple #[.string ⟨#[]⟩, .int .i64 5]) ∧ Hid (Below w.heap.size w w')) := fun W hW => sy_law hW.out (BFirst_none s m W (HM.out W hW.out) (HTb.out W hW.out) _ _ (by have h := HBn.out; rw [HQ.out, hn] at h; exact h))
  have hq0 : q = 0 := by rw [HQ.out]; exact hn
  subst hq0
  have heq1 : ∀ (X n : Nat) (W : World), (binOp .eql 30 (.slice (some ⟨X, 0, none⟩) n n) (.slice none 0 0)).run Tryd.prog W = .ok (.bool false) W := fun X n W => Lib.run_eql_slice_nil W 30 9 (some ⟨X, 0, none⟩) n n 0 0 Tryd.underlying30
  have HB0 : Hid (Below w.heap.size w w) := Below.refl _ _
  clear hT hm hB hs ht hZ hX hn hr8 hc1 hc8
  go_enter Tryd.func3, Tryd.ntmps3
  go_wp2_with (first | (go_at_call 8; with_reducible (refine (HCo.out _ HB0).mono ?_); rintro e w1 ⟨rfl, HB1⟩) | (go_at_call 9; with_reducible (refine (HFi.out _ HB1).mono ?_); rintro e w2 ⟨rfl, HB2⟩) | (go_at_call 10; with_reducible (refine (HBo.out _ HB2).mono ?_); rintro e w3 ⟨rfl, HB3⟩) | (go_at_call 11; with_reducible (refine (HLa.out _ HB3).mono ?_); rintro e w4 ⟨rfl, HB4⟩) | (go_at_call 12; with_reducible (refine (HCt.out _ HB4).mono ?_); rintro e w5 ⟨rfl, HB5⟩) | (go_at_call 13; with_reducible (refine (HCv.out _ HB5).mono ?_); rintro e w6 ⟨rfl, HB6⟩) | (go_at_call 14; with_reducible (refine (HCe.out _ HB6).mono ?_); rintro e w7 ⟨X7, n7, rfl, HB7⟩) | (go_at_call 15; with_reducible (refine (HCk.out _ HB7).mono ?_); rintro e w8 ⟨rfl, HB8⟩))
  rw [run_makeMap]
  obtain ⟨b, HBb⟩ : ∃ b, Hid (b = w8.heap.size) := ⟨_, rfl⟩
  obtain ⟨W9, HW9⟩ : ∃ W9, Hid (W9 = w8.alloc (.map #[] 0)) := ⟨_, rfl⟩
  have HK9 : Hid (KnowS r c W9 b 0) := by rw [HW9.out, HBb.out]; exact knowS_made r c w8
  have HB9 : Hid (Below w.heap.size w W9) := by rw [HW9.out]; exact HB8.out.alloc HB8.out.size _
  have HTc := hid_w (HTl.out W9 b HK9)
  rw [← HBb.out, ← HW9.out]
  go_wp2_with (go_at_call 16; with_reducible (refine HTc.out.mono ?_); rintro e wa ⟨rfl, HKa⟩)
  have HBx : Hid (Below w.heap.size w wa) := kpt_below HB9.out (Nat.le_refl _) (by rw [HBb.out]; exact HB8.out.size) HKa.out
  go_ret
  exact ⟨rfl, HBx.out⟩

set_option maxHeartbeats 8000000 in
set_option maxRecDepth 100000 in
theorem dsy_YP (s t : ByteArray) (m : Int) (w : World) (hs : s.size ≤ 4000000000) (ht : t.size ≤ 4000000000) (hm : w.cell? ⟨0, 0, none⟩ = some (.int .i64 m)) (hB : TabAt 1 Lib.deBruijn64tab w) (rt ct : Nat) (hT : Til t.data.toList rt ct) (r c x : Nat) (hZ : Shz bdL (r + 1) c (pz s.data.toList)) (hX : OutP (r + 1) c (cef (pz s.data.toList)) (r + 1) 0 x) (hn : 0 < cntC x) :
    Calls Tryd.prog 3 #[.string s, .string t] w fun e w' => e = .returned (.bool true) ∧ Below w.heap.size w w' := by
  have HM : Hid (∀ W, Below w.heap.size w W → W.cell? ⟨0, 0, none⟩ = some (.int .i64 m)) := fun W hW => (hW.cell (p := ⟨0, 0, none⟩) (World.block_lt_of_cell? w _ hm)).trans hm
  have HTb : Hid (∀ W, Below w.heap.size w W → TabAt 1 Lib.deBruijn64tab W) := tab_all hB (by decide)
  obtain ⟨bt, HBt⟩ : ∃ bt : ByteArray, Hid (bt = ⟨(brdT t.data.toList rt ct).toArray⟩) := ⟨_, rfl⟩
  have HBo : Hid (∀ W, Hid (Below w.heap.size w W) → Calls Tryd.prog 10 #[.string t] W fun e w' => e = .returned (.tuple #[.string bt, .int .i64 0]) ∧ Hid (Below w.heap.size w w')) := fun W hW => sy_law hW.out (SBoard_ok t m W (HM.out W hW.out) rt ct hT bt HBt.out)
  have HLa : Hid (∀ W, Hid (Below w.heap.size w W) → Calls Tryd.prog 11 #[.string t] W fun e w' => e = .returned (.bool true) ∧ Hid (Below w.heap.size w w')) := fun W hW => sy_law hW.out (SyLaid_ok t m W (HM.out W hW.out) ht rt ct hT)
  have HCt : Hid (∀ W, Hid (Below w.heap.size w W) → Calls Tryd.prog 12 #[.string t] W fun e w' => e = .returned (.int .i64 0) ∧ Hid (Below w.heap.size w w')) := fun W hW => sy_law hW.out (SCt_ok t m W (HM.out W hW.out) rt ct hT)
  have HCv : Hid (∀ W, Hid (Below w.heap.size w W) → Calls Tryd.prog 13 #[.string t] W fun e w' => e = .returned (.string bt) ∧ Hid (Below w.heap.size w w')) := fun W hW => sy_law hW.out (by rw [HBt.out]; exact Covered_at t rt ct W hT)
  obtain ⟨q, HQ⟩ : ∃ q, Hid (q = cntC x) := ⟨_, rfl⟩
  have HBn : Hid (BdN s.data.toList (r + 1) c q) := ⟨hZ, x, hX, HQ.out⟩
  have hr8 := hZ.2.2.1
  have hc1 := hZ.2.2.2.1
  have hc8 := hZ.2.2.2.2.1
  obtain ⟨g, HG⟩ : ∃ g, Hid (g = cef (pz s.data.toList)) := ⟨_, rfl⟩
  have HMs : Hid (MskP (r + 1) c g x) := by rw [HG.out]; exact MskP.of hX
  have HSt : Hid (s.data.toList = tx (r + 1) c g) := by rw [HG.out]; exact (tx_cef hZ).symm
  have HLt : Hid (∀ i, i < r + 1 → ∀ j, j < c → g (i * 8 + j) ∈ bdL) := fun i hi j hj => by rw [HG.out]; exact shz_at hZ hi hj
  have HTl : Hid (∀ W b, Hid (KnowS r c W b 0) → Calls Tryd.prog 16 #[.string s, .map (some b)] W fun e w' => e = .returned (.int .i64 (q : Int)) ∧ Hid (KpT W b w')) := fun W b hK => by
    refine (tilings_all r c hr8 hc1 hc8 32 g x HMs.out HLt.out (free_le x) W b 0 hK (by omega) s HSt.out).mono ?_
    rintro e w' ⟨rfl, _, hk⟩
    exact ⟨by rw [HQ.out], hk⟩
  have HCe : Hid (∀ W, Hid (Below w.heap.size w W) → Calls Tryd.prog 14 #[.string s, .string ⟨#[35, 46]⟩] W fun e w' => ∃ X n : Nat, e = .returned (.slice (some ⟨X, 0, none⟩) n n) ∧ Hid (Below w.heap.size w w')) := fun W hW => (SyCells_ok s m W (HM.out W hW.out) hs _ _ hZ).mono fun _ _ ⟨X, n, h1, h2⟩ => ⟨X, n, h1, hW.out.trans (h2.out.mono hW.out.size)⟩
  have HCk : Hid (∀ W, Hid (Below w.heap.size w W) → Calls Tryd.prog 15 #[.string s] W fun e w' => e = .returned (.int .i64 0) ∧ Hid (Below w.heap.size w w')) := fun W hW => sy_law hW.out (SCk_ok s m W (HM.out W hW.out) _ _ hZ)
  obtain ⟨u, HU⟩ : ∃ u : ByteArray, Hid (u = ⟨(tx (r + 1) c (fstG 64 x g)).toArray⟩) := ⟨_, rfl⟩
  have hqp : ¬ (q : Int) = 0 := by have := HQ.out; omega
  have hqb : ((q : Int) == 0) = false := beq_false_of_ne hqp
  have HCo : Hid (∀ W, Hid (Below w.heap.size w W) → Calls Tryd.prog 8 #[.string s] W fun e w' => e = .returned (.tuple #[.int .i64 (q : Int), .int .i64 0]) ∧ Hid (Below w.heap.size w w')) := fun W hW => sy_law hW.out (BCount_ok s m W (HM.out W hW.out) (HTb.out W hW.out) _ _ _ HBn.out)
  have HFi : Hid (∀ W, Hid (Below w.heap.size w W) → Calls Tryd.prog 9 #[.string s] W fun e w' => e = .returned (.tuple #[.string u, .int .i64 0]) ∧ Hid (Below w.heap.size w w')) := fun W hW => sy_law hW.out ((FirstX_at s m W (HM.out W hW.out) (HTb.out W hW.out)).mono (by
    rintro e w' ⟨v, er, rfl, hF, hB⟩
    rcases hF.out with ⟨r', c', x', h1, h2, h3⟩ | ⟨_, _, hno⟩
    · obtain ⟨rfl, rfl, e⟩ := bdn_eq HBn.out h1 h2
      rcases h3 with ⟨rfl, _, rfl⟩ | ⟨_, h0, _⟩
      · refine ⟨?_, hB⟩
        have hx : x' = x := (MskP.of h2).one (MskP.of hX)
        rw [HU.out, HG.out, hx]
      · have := HQ.out; omega
    · exact absurd hZ (hno _ _)))
  have HFt : Hid (∀ W, Hid (Below w.heap.size w W) → Calls Tryd.prog 17 #[.string s] W fun e w' => e = .returned (.string u) ∧ Hid (Below w.heap.size w w')) := fun W hW => sy_law hW.out (by rw [HU.out]; exact FirstT_at s r c hr8 hc1 hc8 g x HMs.out HLt.out HSt.out hn W)
  have heq1 : ∀ (X n : Nat) (W : World), (binOp .eql 30 (.slice (some ⟨X, 0, none⟩) n n) (.slice none 0 0)).run Tryd.prog W = .ok (.bool false) W := fun X n W => Lib.run_eql_slice_nil W 30 9 (some ⟨X, 0, none⟩) n n 0 0 Tryd.underlying30
  have HB0 : Hid (Below w.heap.size w w) := Below.refl _ _
  clear hT hm hB hs ht hZ hX hn hr8 hc1 hc8
  go_enter Tryd.func3, Tryd.ntmps3
  go_wp2_with (first | (go_at_call 8; with_reducible (refine (HCo.out _ HB0).mono ?_); rintro e w1 ⟨rfl, HB1⟩) | (go_at_call 9; with_reducible (refine (HFi.out _ HB1).mono ?_); rintro e w2 ⟨rfl, HB2⟩) | (go_at_call 10; with_reducible (refine (HBo.out _ HB2).mono ?_); rintro e w3 ⟨rfl, HB3⟩) | (go_at_call 11; with_reducible (refine (HLa.out _ HB3).mono ?_); rintro e w4 ⟨rfl, HB4⟩) | (go_at_call 12; with_reducible (refine (HCt.out _ HB4).mono ?_); rintro e w5 ⟨rfl, HB5⟩) | (go_at_call 13; with_reducible (refine (HCv.out _ HB5).mono ?_); rintro e w6 ⟨rfl, HB6⟩) | (go_at_call 14; with_reducible (refine (HCe.out _ HB6).mono ?_); rintro e w7 ⟨X7, n7, rfl, HB7⟩) | (go_at_call 15; with_reducible (refine (HCk.out _ HB7).mono ?_); rintro e w8 ⟨rfl, HB8⟩))
  rw [run_makeMap]
  obtain ⟨b, HBb⟩ : ∃ b, Hid (b = w8.heap.size) := ⟨_, rfl⟩
  obtain ⟨W9, HW9⟩ : ∃ W9, Hid (W9 = w8.alloc (.map #[] 0)) := ⟨_, rfl⟩
  have HK9 : Hid (KnowS r c W9 b 0) := by rw [HW9.out, HBb.out]; exact knowS_made r c w8
  have HB9 : Hid (Below w.heap.size w W9) := by rw [HW9.out]; exact HB8.out.alloc HB8.out.size _
  have HTc := hid_w (HTl.out W9 b HK9)
  rw [← HBb.out, ← HW9.out]
  go_upto_region 15 with (go_at_call 16; with_reducible (refine HTc.out.mono ?_); rintro e wa ⟨rfl, HKa⟩)
  have HBx : Hid (Below w.heap.size w wa) := kpt_below HB9.out (Nat.le_refl _) (by rw [HBb.out]; exact HB8.out.size) HKa.out
  have HFc := hid_w (HFt.out wa HBx)
  go_wp2_with (go_at_call 17; with_reducible (refine HFc.out.mono ?_); rintro e wb ⟨rfl, HBy⟩)
  go_ret
  exact ⟨rfl, HBy.out⟩

/-- The law. -/
theorem dsy_at (s t : ByteArray) (m : Int) (w : World) (hs : s.size ≤ 4000000000) (ht : t.size ≤ 4000000000) (hm : w.cell? ⟨0, 0, none⟩ = some (.int .i64 m)) (hB : TabAt 1 Lib.deBruijn64tab w) :
    Calls Tryd.prog 3 #[.string s, .string t] w fun e w' => e = .returned (.bool true) ∧ Below w.heap.size w w' := by
  by_cases hZ : ∃ r c, Shz bdL r c (pz s.data.toList)
  · obtain ⟨r0, c, hZ⟩ := hZ
    obtain ⟨r, rfl⟩ : ∃ r, r0 = r + 1 := ⟨r0 - 1, by have := hZ.2.1; omega⟩
    obtain ⟨x, hX⟩ := out_exS (r + 1) c (cef (pz s.data.toList)) hZ.2.2.1 hZ.2.2.2.2.1
    by_cases hn : cntC x = 0
    · by_cases hT : ∃ r c, Til t.data.toList r c
      · obtain ⟨rt, ct, hT⟩ := hT
        exact dsy_YZ s t m w hs ht hm hB rt ct hT r c x hZ hX hn
      · exact dsy_NZ s t m w hs ht hm hB (fun r c h => hT ⟨r, c, h⟩) r c x hZ hX hn
    · by_cases hT : ∃ r c, Til t.data.toList r c
      · obtain ⟨rt, ct, hT⟩ := hT
        exact dsy_YP s t m w hs ht hm hB rt ct hT r c x hZ hX (by omega)
      · exact dsy_NP s t m w hs ht hm hB (fun r c h => hT ⟨r, c, h⟩) r c x hZ hX (by omega)
  · by_cases hT : ∃ r c, Til t.data.toList r c
    · obtain ⟨rt, ct, hT⟩ := hT
      exact dsy_YN s t m w hs ht hm hB rt ct hT (fun r c h => hZ ⟨r, c, h⟩)
    · exact dsy_NN s t m w hs ht hm hB (fun r c h => hT ⟨r, c, h⟩) (fun r c h => hZ ⟨r, c, h⟩)

end Go.Proofs.YtcnmndbckjmliaaDoor
