/-
  domino.readBoard, Count.
-/
import Derived.Test.YtcnmndbckjmliaaDoorNRd
import Derived.Test.YtcnmndbckjmliaaDoorNLft
import Derived.Test.YtcnmndbckjmliaaDoorNOut
import Derived.Carry
namespace Go.Proofs.YtcnmndbckjmliaaDoor
open Go.RowKit

def bdL : List UInt8 := [35, 46]
set_option maxHeartbeats 1000000 in
theorem readB_at (s : ByteArray) (m : Int) (w : World) (hm : w.cell? ⟨0, 0, none⟩ = some (.int .i64 m)) :
    Calls Tryd.prog 31 #[.string s] w fun e w' => ∃ v, e = .returned v ∧ Hid (RdP bdL s.data.toList v) ∧ Hid (Below w.heap.size w w') := by
  obtain ⟨Z, HZ⟩ : ∃ Z, Hid (Z = shC 0 0 fun _ => 0) := ⟨_, rfl⟩
  have hz : ∀ W : World, (zeroValue 62).run Tryd.prog W = .ok (.agg Z) W := fun W => by rw [HZ.out]; exact (zero_of_info zeroS).1 W
  have HZ6 : Hid (C66 Z) := by rw [HZ.out]; exact shC_66 _ _ _
  obtain ⟨Q, HQ⟩ : ∃ Q, Hid (Q = w.heap.size) := ⟨_, rfl⟩
  obtain ⟨W0, HW0⟩ : ∃ W0, Hid (W0 = w.alloc (.cells Z 62)) := ⟨_, rfl⟩
  have HB0 : Hid (Below w.heap.size w W0) := by rw [HW0.out]; exact (Below.refl _ _).alloc (Nat.le_refl _) _
  have HQ0 : Hid (W0.heap[Q]? = some (.cells Z 62 (0, 0))) := by
    show _ = _
    rw [HW0.out, HQ.out]; exact heap_alloc_last _ _
  have hm0 : W0.cell? ⟨0, 0, none⟩ = some (.int .i64 m) := by rw [HW0.out, World.cell?_alloc_past _ _ _ (World.block_lt_of_cell? w ⟨0, 0, none⟩ hm)]; exact hm
  have HCr := hid_w (read_at s ⟨#[35, 46]⟩ m W0 hm0)
  clear hm hm0
  go_enter Tryd.func31, Tryd.ntmps31
  go_upto_region 1 with fail
  rw [← HQ.out, ← HW0.out]
  have HQa : Hid (∀ W, Below W0.heap.size W0 W → W.heap[Q]? = some (.cells Z 62 (0, 0))) := fun W hW => (hW.block Q (lt_someN HQ0.out)).trans HQ0.out
  go_wp2_with (first | (go_at_call 54; with_reducible (refine HCr.out.mono ?_); rintro e W1 ⟨v, rfl, HR, HB1⟩; obtain ⟨Y, er, rfl, HY6, HYr⟩ := HR.out.parts) | (refine wpList_store66 rfl (.tmp 2) (.tmp 6) rfl Q Y Z rfl rfl (HQa.out _ HB1.out) HY6.out HZ6.out ?_))
  have HQ1 : Hid (W1.heap[Q]? = some (.cells Z 62 (0, 0))) := HQa.out _ HB1.out
  have HBd : Hid (Below w.heap.size w (W1.setRow Q Y)) := below_setRowN (HB0.out.trans (HB1.out.mono HB0.out.size)) Q (by rw [HQ.out]; exact Nat.le_refl _) _
  have HL := hid_w (load_66 (W1.setRow Q Y) Q Y HY6.out (setRow_heap _ _ _ _ _ _ HQ1.out))
  refine bodyPost_ret (v := .tuple #[.agg Y, .int .i64 er]) ?_ rfl ⟨_, rfl, HR, HBd⟩
  rw [results_cell_tmp rfl]
  simp [asAddr, Result.andThen, HL.out]

theorem tab_all {g : Nat} {l : List Nat} {w : World} (h : TabAt g l w) (hl : 0 < l.length) : ∀ W, Below w.heap.size w W → TabAt g l W := fun _ hW =>
  tab_below h hW (World.block_lt_of_cell? w ⟨g, 0, none⟩ (h 0 hl))
/-- What domino.Count answers. -/
def CtP (s : List UInt8) (n : Nat) (er : Int) : Prop := (er = 0 ∧ ∃ r c x, Shz bdL r c (pz s) ∧ OutP r c (cef (pz s)) r 0 x ∧ n = cntC x) ∨ (er = 1 ∧ n = 0 ∧ ∀ r c, ¬ Shz bdL r c (pz s))

set_option maxHeartbeats 4000000 in
set_option maxRecDepth 100000 in
theorem Count_at (s : ByteArray) (m : Int) (w : World) (hm : w.cell? ⟨0, 0, none⟩ = some (.int .i64 m)) (hT : TabAt 1 Lib.deBruijn64tab w) :
    Calls Tryd.prog 8 #[.string s] w fun e w' => ∃ (n : Nat) (er : Int), e = .returned (.tuple #[.int .i64 (n : Int), .int .i64 er]) ∧ Hid (CtP s.data.toList n er) ∧ Hid (Below w.heap.size w w') := by
  obtain ⟨Z, HZ⟩ : ∃ Z, Hid (Z = shC 0 0 fun _ => 0) := ⟨_, rfl⟩
  have hz : ∀ W : World, (zeroValue 62).run Tryd.prog W = .ok (.agg Z) W := fun W => by rw [HZ.out]; exact (zero_of_info zeroS).1 W
  have HZ6 : Hid (C66 Z) := by rw [HZ.out]; exact shC_66 _ _ _
  have HCr := hid_w (readB_at s m w hm)
  have HTb := hid_w (tab_all hT (by decide))
  clear hm hT
  go_enter Tryd.func8, Tryd.ntmps8
  go_upto_region 2 with (first | (go_at_call 31; with_reducible (refine HCr.out.mono ?_); rintro e W1 ⟨v, rfl, HR, HB1⟩; obtain ⟨Y, er, rfl, HY6, HYr⟩ := HR.out.parts) | (refine wpList_store66 rfl (.tmp 4) (.tmp 9) rfl W1.heap.size Y Z rfl rfl (heap_alloc_last _ _) HY6.out HZ6.out ?_))
  try simp only [Act.put]
  obtain ⟨T, HT⟩ : ∃ T, Hid (T = W1.heap.size) := ⟨_, rfl⟩
  obtain ⟨W3, HW3⟩ : ∃ W3, Hid (W3 = (W1.alloc (.cells Z 62)).setRow W1.heap.size Y) := ⟨_, rfl⟩
  rw [← HW3.out, ← HT.out]
  have HB3 : Hid (Below w.heap.size w W3) := by
    rw [HW3.out]; exact below_setRowN (HB1.out.alloc HB1.out.size _) _ HB1.out.size _
  have HT3 : Hid (W3.heap[T]? = some (.cells Y 62 (0, 0))) := by
    show _ = _
    rw [HW3.out, HT.out]; exact setRow_heap _ _ _ _ _ _ (heap_alloc_last _ _)
  rcases HYr.out with ⟨rfl, r, c, hsz, hY⟩ | ⟨rfl, hY, hno⟩
  case inr =>
    have HP : Hid (CtP s.data.toList 0 1) := Or.inr ⟨rfl, rfl, hno⟩
    clear hno hY HYr HR
    go_wp2_with fail
    go_ret2
    exact ⟨0, 1, rfl, HP, HB3⟩
  obtain ⟨f, HF⟩ : ∃ f, Hid (f = cef (pz s.data.toList)) := ⟨_, rfl⟩
  rw [← HF.out] at hY
  have HSz : Hid (Shz bdL r c (pz s.data.toList)) := hsz
  have hr8 : r ≤ 8 := hsz.2.2.1
  have hc8 : c ≤ 8 := hsz.2.2.2.2.1
  obtain ⟨b, HBb⟩ : ∃ b, Hid (b = W3.heap.size) := ⟨_, rfl⟩
  obtain ⟨W4, HW4⟩ : ∃ W4, Hid (W4 = W3.alloc (.map #[] 0)) := ⟨_, rfl⟩
  have HB4 : Hid (Below w.heap.size w W4) := by rw [HW4.out]; exact HB3.out.alloc HB3.out.size _
  have HTf : Hid (W4.heap[T]? = some (.cells (shC r c f) 62 (0, 0))) := by
    show _ = _
    rw [← hY, HW4.out, ((Below.refl W3.heap.size W3).alloc (Nat.le_refl _) _).block T (lt_someN HT3.out)]; exact HT3.out
  have HK4 : Hid (Knows W4 b 0) := by rw [HW4.out, HBb.out]; exact knows_made W3
  have HOc := hid_w (outside_at T r c f W4 HTf.out hr8 hc8)
  have HLc : Hid (∀ x : Nat, Hid (OutP r c f r 0 x) → Calls Tryd.prog 32 #[.map (some b), .int .u64 (x : Int)] W4 fun e w' => ∃ n : Nat, e = .returned (.int .i64 (n : Int)) ∧ Hid (n = cntC x) ∧ Hid (Below w.heap.size w w')) := fun x hx => by
    have hb : w.heap.size ≤ b := by rw [HBb.out]; exact HB3.out.size
    refine (left_at w.heap.size 32 x hx.out.1 (free_le x) W4 b 0 HK4 hb (fun W hW => HTb.out W (HB4.out.trans hW)) (by decide)).mono ?_
    rintro e w' ⟨rfl, _, hg⟩
    exact ⟨_, rfl, rfl, HB4.out.grown hg.out HB4.out.size (fun k hk => by cases hk; exact hb)⟩
  clear hY hsz HYr HR
  go_wp2_with fail
  rw [run_makeMap, ← HBb.out, ← HW4.out]
  go_wp2_with (first | (go_at_call 33; with_reducible (refine HOc.out.mono ?_); rintro e v1 ⟨x, rfl, HOx, rfl⟩) | (go_at_call 32; with_reducible (refine (HLc.out x HOx).mono ?_); rintro e W5 ⟨n, rfl, HNc, HB5⟩))
  go_ret2
  exact ⟨n, 0, rfl, Or.inl ⟨rfl, r, c, x, HSz.out, by rw [← HF.out]; exact HOx.out, HNc.out⟩, HB5⟩

end Go.Proofs.YtcnmndbckjmliaaDoor
