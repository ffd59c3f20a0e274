/-
  The walk of the law FillTexts: for every rows and every text, both of at most 1048576 values, it returns true; nothing old has turned.
-/
import Derived.Test.YtgcagoalnhgljacDoorXFt
import Derived.Test.YtgcagoalnhgljacDoorZLaw
namespace Go.Proofs.YtgcagoalnhgljacDoor
open Go.RowKit

/-- The two cells of block b hold v and u. -/
structure Cel2 (w : World) (b : Nat) (v u : Value) : Prop where
  lt : b < w.heap.size
  eq : w.cell? ⟨b, 0, none⟩ = some v
  eq1 : w.cell? ⟨b, 1, none⟩ = some u
theorem Cel2.below {w w' : World} {b : Nat} {v u : Value} (h : Cel2 w b v u) (hb : Below w.heap.size w w') : Cel2 w' b v u :=
  ⟨Nat.lt_of_lt_of_le h.lt hb.size, (hb.cell (p := ⟨b, 0, none⟩) h.lt).trans h.eq, (hb.cell (p := ⟨b, 1, none⟩) h.lt).trans h.eq1⟩
theorem readR_small {l : List UInt8} {c p : Int} {q : List (List Int)} (h : ReadR l c p q) : SmT q := by
  rcases h with ⟨_, _, _, rfl⟩ | ⟨_, _, _, _, rfl⟩ | ⟨ls, _, _, _, h⟩
  · exact SmT.nil
  · exact SmT.nil
  · rcases h with ⟨h, _, _, rfl⟩ | ⟨_, _, _, rfl⟩
    · exact tab_SmT (tchk_ok.1 h)
    · exact SmT.nil

set_option maxHeartbeats 8000000 in
set_option maxRecDepth 100000 in
theorem texts_0 (a : Option Addr) (ca : Nat) (ls : List (List Int)) (l : List UInt8) (m : Int) (w : World) (ht : Table w a ls) (hl : ls.length ≤ 2000000) (hf : ls.flatten.length ≤ 2000000) (hs : (bytesOf l).size ≤ 1048576) (K0 : Cel w 0 (.int .i64 m)) (c p : Int) (q : List (List Int)) (R : Hid (ReadR l c p q)) (d : Int) (hd : (d != 0) = true) (E : Hid (tchk ls = d)) :
    Calls Tryd.prog 3 #[.slice a ls.length ca, .string (bytesOf l)] w fun e w' => e = .returned (.bool true) ∧ Below w.heap.size w w' := by
  have HS : Hid ((bytesOf l).size ≤ 1048576) := hs
  clear hs
  have HSm : Hid (SmT q) := readR_small R.out
  have HL : Hid (ls.length ≤ 17592186044416) := by show _ ≤ _; omega
  have HF : Hid (ls.flatten.length ≤ 2000000) := hf
  clear hf
  have hd0 : Hid (d ≠ 0) := bne_iff_ne.1 hd
  go_enter Tryd.func3, Tryd.ntmps3
  go_wp2_with fail
  refine (Write_at (t := []) _ _ _ _ ht HL.out rfl ⟨E.out, by rw [if_neg hd0.out]⟩).mono ?_
  rintro e w1 ⟨rfl, hb⟩
  have HB1 : Hid (Below w.heap.size w w1) := hb
  replace ht := ht.below hb
  replace K0 := K0.below hb
  clear hb
  rw [bytes_empty]
  go_wp2_with fail
  refine (Read_at _ m _ (by have := HS.out; unfold maxLen; omega) K0.eq K0.lt R.out).mono ?_
  rintro e w2 ⟨v, rfl, hT, hb⟩
  have HB2 : Hid (Below w.heap.size w w2) := HB1.out.trans (hb.mono HB1.out.size)
  replace ht := ht.below hb
  replace K0 := K0.below hb
  obtain ⟨a2, n2, c2, rfl, T2, HN2⟩ := hT.table HSm.out.all
  clear hb hT
  have hba : Below w2.heap.size w2 (w2.alloc (.cells #[.int .i64 c, .int .i64 p] 27)) := (Below.refl _ _).alloc (Nat.le_refl _) _
  have HB2x : Hid (Below w.heap.size w (w2.alloc (.cells #[.int .i64 c, .int .i64 p] 27))) := HB2.out.trans (hba.mono HB2.out.size)
  replace ht := ht.below hba
  replace K0 := K0.below hba
  replace T2 := T2.below hba
  have K2 : Cel2 (w2.alloc (.cells #[.int .i64 c, .int .i64 p] 27)) w2.heap.size (.int .i64 c) (.int .i64 p) := ⟨by simp, by rw [World.cell?_alloc_at _ _ _ _ rfl]; rfl, by rw [World.cell?_alloc_at _ _ _ _ rfl]; rfl⟩
  clear hba
  go_wp2_with fail
  refine (FromText_at _ _ HS.out R.out).mono ?_
  rintro e w3 ⟨v, rfl, hT, hb⟩
  have HB3 : Hid (Below w.heap.size w w3) := HB2x.out.trans (hb.mono HB2x.out.size)
  replace ht := ht.below hb
  replace K0 := K0.below hb
  replace T2 := T2.below hb
  replace K2 := K2.below hb
  obtain ⟨a3, n3, c3, rfl, T3, HN3⟩ := hT.table HSm.out.all
  clear hb hT
  have hba : Below w3.heap.size w3 (w3.alloc (.cells #[.int .i64 c, .int .i64 p] 27)) := (Below.refl _ _).alloc (Nat.le_refl _) _
  have HB3x : Hid (Below w.heap.size w (w3.alloc (.cells #[.int .i64 c, .int .i64 p] 27))) := HB3.out.trans (hba.mono HB3.out.size)
  replace ht := ht.below hba
  replace K0 := K0.below hba
  replace T2 := T2.below hba
  replace K2 := K2.below hba
  replace T3 := T3.below hba
  have K3 : Cel2 (w3.alloc (.cells #[.int .i64 c, .int .i64 p] 27)) w3.heap.size (.int .i64 c) (.int .i64 p) := ⟨by simp, by rw [World.cell?_alloc_at _ _ _ _ rfl]; rfl, by rw [World.cell?_alloc_at _ _ _ _ rfl]; rfl⟩
  clear hba
  have h2a := K2.eq
  have h2b := K2.eq1
  have h3a := K3.eq
  have h3b := K3.eq1
  go_wp2_with fail
  refine (RowsL_same _ _ _ _ _ _ q _ T2 T3 HN2.out HN3.out (by have := HSm.out.1; omega)).mono ?_
  rintro e w4 ⟨rfl, hd⟩
  have hb : Below (w3.alloc (.cells #[.int .i64 c, .int .i64 p] 27)).heap.size (w3.alloc (.cells #[.int .i64 c, .int .i64 p] 27)) w4 := by
    obtain ⟨n, rfl⟩ := hd
    exact below_drewN (Below.refl _ _) n
  have HB4 : Hid (Below w.heap.size w w4) := HB3x.out.trans (hb.mono HB3x.out.size)
  replace ht := ht.below hb
  replace K0 := K0.below hb
  replace T2 := T2.below hb
  replace K2 := K2.below hb
  replace T3 := T3.below hb
  replace K3 := K3.below hb
  clear hb hd
  clear h2a h2b h3a h3b
  go_wp2_with fail
  refine (RTab_is _ _ _ _ _ ht rfl hl HF.out E).mono ?_
  rintro e w5 ⟨rfl, hb⟩
  have HB5 : Hid (Below w.heap.size w w5) := HB4.out.trans (hb.mono HB4.out.size)
  replace ht := ht.below hb
  replace K0 := K0.below hb
  replace T2 := T2.below hb
  replace K2 := K2.below hb
  replace T3 := T3.below hb
  replace K3 := K3.below hb
  clear hb
  go_wp2
  go_ret
  exact ⟨rfl, HB5.out⟩

set_option maxHeartbeats 8000000 in
set_option maxRecDepth 100000 in
theorem texts_1 (a : Option Addr) (ca : Nat) (ls : List (List Int)) (l : List UInt8) (m : Int) (w : World) (ht : Table w a ls) (hl : ls.length ≤ 2000000) (hf : ls.flatten.length ≤ 2000000) (hs : (bytesOf l).size ≤ 1048576) (K0 : Cel w 0 (.int .i64 m)) (c p : Int) (q : List (List Int)) (R : Hid (ReadR l c p q)) (HT : Hid (IsTab ls)) (E : Hid (tchk ls = 0)) :
    Calls Tryd.prog 3 #[.slice a ls.length ca, .string (bytesOf l)] w fun e w' => e = .returned (.bool true) ∧ Below w.heap.size w w' := by
  have HS : Hid ((bytesOf l).size ≤ 1048576) := hs
  clear hs
  have HSm : Hid (SmT q) := readR_small R.out
  have HL : Hid (ls.length ≤ 17592186044416) := by show _ ≤ _; omega
  have HF : Hid (ls.flatten.length ≤ 2000000) := hf
  clear hf
  go_enter Tryd.func3, Tryd.ntmps3
  go_wp2_with fail
  refine (Write_at (t := ttxt ls) _ _ _ _ ht HL.out rfl ⟨E.out, by rw [if_pos rfl]⟩).mono ?_
  rintro e w1 ⟨rfl, hb⟩
  have HB1 : Hid (Below w.heap.size w w1) := hb
  replace ht := ht.below hb
  replace K0 := K0.below hb
  clear hb
  go_wp2_with fail
  refine (Read_at _ m _ (by have := HS.out; unfold maxLen; omega) K0.eq K0.lt R.out).mono ?_
  rintro e w2 ⟨v, rfl, hT, hb⟩
  have HB2 : Hid (Below w.heap.size w w2) := HB1.out.trans (hb.mono HB1.out.size)
  replace ht := ht.below hb
  replace K0 := K0.below hb
  obtain ⟨a2, n2, c2, rfl, T2, HN2⟩ := hT.table HSm.out.all
  clear hb hT
  have hba : Below w2.heap.size w2 (w2.alloc (.cells #[.int .i64 c, .int .i64 p] 27)) := (Below.refl _ _).alloc (Nat.le_refl _) _
  have HB2x : Hid (Below w.heap.size w (w2.alloc (.cells #[.int .i64 c, .int .i64 p] 27))) := HB2.out.trans (hba.mono HB2.out.size)
  replace ht := ht.below hba
  replace K0 := K0.below hba
  replace T2 := T2.below hba
  have K2 : Cel2 (w2.alloc (.cells #[.int .i64 c, .int .i64 p] 27)) w2.heap.size (.int .i64 c) (.int .i64 p) := ⟨by simp, by rw [World.cell?_alloc_at _ _ _ _ rfl]; rfl, by rw [World.cell?_alloc_at _ _ _ _ rfl]; rfl⟩
  clear hba
  go_wp2_with fail
  refine (FromText_at _ _ HS.out R.out).mono ?_
  rintro e w3 ⟨v, rfl, hT, hb⟩
  have HB3 : Hid (Below w.heap.size w w3) := HB2x.out.trans (hb.mono HB2x.out.size)
  replace ht := ht.below hb
  replace K0 := K0.below hb
  replace T2 := T2.below hb
  replace K2 := K2.below hb
  obtain ⟨a3, n3, c3, rfl, T3, HN3⟩ := hT.table HSm.out.all
  clear hb hT
  have hba : Below w3.heap.size w3 (w3.alloc (.cells #[.int .i64 c, .int .i64 p] 27)) := (Below.refl _ _).alloc (Nat.le_refl _) _
  have HB3x : Hid (Below w.heap.size w (w3.alloc (.cells #[.int .i64 c, .int .i64 p] 27))) := HB3.out.trans (hba.mono HB3.out.size)
  replace ht := ht.below hba
  replace K0 := K0.below hba
  replace T2 := T2.below hba
  replace K2 := K2.below hba
  replace T3 := T3.below hba
  have K3 : Cel2 (w3.alloc (.cells #[.int .i64 c, .int .i64 p] 27)) w3.heap.size (.int .i64 c) (.int .i64 p) := ⟨by simp, by rw [World.cell?_alloc_at _ _ _ _ rfl]; rfl, by rw [World.cell?_alloc_at _ _ _ _ rfl]; rfl⟩
  clear hba
  have h2a := K2.eq
  have h2b := K2.eq1
  have h3a := K3.eq
  have h3b := K3.eq1
  go_wp2_with fail
  refine (RowsL_same _ _ _ _ _ _ q _ T2 T3 HN2.out HN3.out (by have := HSm.out.1; omega)).mono ?_
  rintro e w4 ⟨rfl, hd⟩
  have hb : Below (w3.alloc (.cells #[.int .i64 c, .int .i64 p] 27)).heap.size (w3.alloc (.cells #[.int .i64 c, .int .i64 p] 27)) w4 := by
    obtain ⟨n, rfl⟩ := hd
    exact below_drewN (Below.refl _ _) n
  have HB4 : Hid (Below w.heap.size w w4) := HB3x.out.trans (hb.mono HB3x.out.size)
  replace ht := ht.below hb
  replace K0 := K0.below hb
  replace T2 := T2.below hb
  replace K2 := K2.below hb
  replace T3 := T3.below hb
  replace K3 := K3.below hb
  clear hb hd
  clear h2a h2b h3a h3b
  go_wp2_with fail
  refine (RTab_is _ _ _ _ _ ht rfl hl HF.out E).mono ?_
  rintro e w5 ⟨rfl, hb⟩
  have HB5 : Hid (Below w.heap.size w w5) := HB4.out.trans (hb.mono HB4.out.size)
  replace ht := ht.below hb
  replace K0 := K0.below hb
  replace T2 := T2.below hb
  replace K2 := K2.below hb
  replace T3 := T3.below hb
  replace K3 := K3.below hb
  clear hb
  go_wp2_with fail
  refine (RText_at _ _ _ _ _ ht rfl HT.out).mono ?_
  rintro e w6 ⟨rfl, hb⟩
  have HB6 : Hid (Below w.heap.size w w6) := HB5.out.trans (hb.mono HB5.out.size)
  replace ht := ht.below hb
  replace K0 := K0.below hb
  replace T2 := T2.below hb
  replace K2 := K2.below hb
  replace T3 := T3.below hb
  replace K3 := K3.below hb
  clear hb
  go_wp2
  go_ret
  exact ⟨rfl, HB6.out⟩

theorem texts_any (a : Option Addr) (ca : Nat) (ls : List (List Int)) (l : List UInt8) (m : Int) (w : World) (ht : Table w a ls) (hl : ls.length ≤ 2000000) (hf : ls.flatten.length ≤ 2000000) (hs : (bytesOf l).size ≤ 1048576) (K0 : Cel w 0 (.int .i64 m)) :
    Calls Tryd.prog 3 #[.slice a ls.length ca, .string (bytesOf l)] w fun e w' => e = .returned (.bool true) ∧ Below w.heap.size w w' := by
  obtain ⟨c, p, q, R⟩ := readR_any l
  by_cases h0 : tchk ls = 0
  · exact texts_1 a ca ls l m w ht hl hf hs K0 c p q R (tchk_ok.1 h0) h0
  · exact texts_0 a ca ls l m w ht hl hf hs K0 c p q R _ (bne_iff_ne.2 h0) rfl

end Go.Proofs.YtgcagoalnhgljacDoor
