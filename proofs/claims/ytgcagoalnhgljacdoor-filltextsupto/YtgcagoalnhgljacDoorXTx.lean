/-
  The contract of ferref.Text.
-/
import Derived.Test.YtgcagoalnhgljacDoorXWr
namespace Go.Proofs.YtgcagoalnhgljacDoor
open Go.RowKit

theorem bytesOf_append (l m : List UInt8) : bytesOf l ++ bytesOf m = bytesOf (l ++ m) := by
  have h : (bytesOf l ++ bytesOf m).data.toList = l ++ m := by
    simp [bytesOf]
  have := Go.WideShapes.bytes_inj (a := bytesOf l ++ bytesOf m) (b := bytesOf (l ++ m)) (by rw [h]; rfl)
  exact this
theorem join_snoc (xs : List (List UInt8)) (y : List UInt8) (c : UInt8) (h : xs ≠ []) : Lib.join (xs ++ [y]) [c] = Lib.join xs [c] ++ (c :: y) := by
  cases xs with
  | nil => exact absurd rfl h
  | cons x xs => rw [List.cons_append, Lib.join_cons, Lib.join_cons]; simp [Lib.joinTail]
/-- The rows ahead of row k, a slash behind each. -/
def preT (ls : List (List Int)) (k : Nat) : List UInt8 := ((ls.take k).map fun r => rtxt r ++ [47]).flatten
theorem preT_succ {ls : List (List Int)} {k : Nat} (hk : k < ls.length) : preT ls (k + 1) = preT ls k ++ (rtxt (row ls k) ++ [47]) := by
  unfold preT
  rw [List.take_succ_eq_append_getElem hk, List.map_append, List.flatten_append]
  simp [row, List.getD, List.getElem?_eq_getElem hk]
theorem preT_join (ls : List (List Int)) : ∀ k, k < ls.length → ttxt ls = preT ls k ++ ttxt (ls.drop k) := by
  intro k
  induction k with
  | zero => intro _; simp [preT]
  | succ k ih =>
    intro hk
    rw [ih (by omega), preT_succ (by omega), List.append_assoc]
    congr 1
    rw [List.drop_eq_getElem_cons (by omega : k < ls.length), List.drop_eq_getElem_cons hk]
    have e : ls[k] = row ls k := by simp [row, List.getD, List.getElem?_eq_getElem (show k < ls.length by omega)]
    unfold ttxt
    rw [List.map_cons, Lib.join_cons, e, List.map_cons, Lib.join_cons]
    simp [Lib.joinTail]
theorem preT_last {ls : List (List Int)} {k : Nat} (hk : k + 1 = ls.length) : ttxt ls = preT ls k ++ rtxt (row ls k) := by
  rw [preT_join ls k (by omega)]
  congr 1
  rw [List.drop_eq_getElem_cons (by omega), List.drop_of_length_le (by omega)]
  have e : ls[k] = row ls k := by simp [row, List.getD, List.getElem?_eq_getElem (show k < ls.length by omega)]
  unfold ttxt
  rw [List.map_cons, List.map_nil, Lib.join_one, e]
def preL (r : List Int) (t : Nat) : List UInt8 := rtxt (r.take t)
theorem preL_zero (r : List Int) : preL r 0 = [] := by simp [preL, rtxt, Lib.join_nil]
theorem preL_one {r : List Int} (h : 0 < r.length) : preL r 1 = ltxt (r.getD 0 0) := by
  unfold preL
  rw [take_snoc r 0 h, List.take_zero, List.nil_append, rtxt, List.map_cons, List.map_nil, Lib.join_one]
theorem preL_succ {r : List Int} {t : Nat} (h0 : 0 < t) (h : t < r.length) : preL r (t + 1) = preL r t ++ (32 :: ltxt (r.getD t 0)) := by
  unfold preL rtxt
  rw [take_snoc r t h, List.map_append, List.map_cons, List.map_nil, join_snoc _ _ _ (by
    intro e
    have := congrArg List.length e
    rw [List.length_map, List.length_take, List.length_nil] at this; omega)]

theorem preT_len {ls : List (List Int)} (h : IsTab ls) {k : Nat} (hk : k < ls.length) : (preT ls k).length ≤ 160 := by
  have h1 := preT_join ls k hk
  have h2 := ttxt_len h.rowsOk
  have h3 := h.few
  rw [h1, List.length_append] at h2
  omega
theorem preL_len {r : List Int} (h : ∀ z ∈ r, Lt z) (hr : r.length ≤ 40) (t : Nat) : (preL r t).length ≤ 120 := by
  have := rtxt_len (r := r.take t) (fun z hz => h z (List.mem_of_mem_take hz))
  rw [List.length_take] at this
  unfold preL; omega
theorem bytesOf_size (l : List UInt8) : (bytesOf l).size = l.length := by rw [Lib.size_eq, bytesOf_data]

set_option maxHeartbeats 8000000 in
set_option maxRecDepth 100000 in
theorem RText_at (a : Option Addr) (n cap : Nat) (ls : List (List Int)) (w : World) (hs : Table w a ls) (hn : n = ls.length) (hp : IsTab ls) :
    Calls Tryd.prog 10 #[.slice a n cap] w fun e w' => e = .returned (.string (bytesOf (ttxt ls))) ∧ Below w.heap.size w w' := by
  subst hn
  have h40 := hp.rows
  have HT : Hid (IsTab ls) := hp
  have HS : Hid (Table w a ls) := hs
  clear hp hs
  go_enter Tryd.func10, Tryd.ntmps10
  go_wp2
  go_loopw [3, 4] (fun v i wr => ∃ k : Nat, k ≤ ls.length ∧ i = .int .i64 k ∧ Hid (v = .string (bytesOf (if k < ls.length then preT ls k else ttxt ls))) ∧ Hid (Below w.heap.size w wr)) (fun _ i _ => ls.length - (intOf i).toNat)
  case atStart =>
    refine ⟨0, Nat.zero_le _, rfl, ?_, Below.refl _ _⟩
    show _ = _
    by_cases h : 0 < ls.length
    · rw [if_pos h]; rfl
    · rw [if_neg h, List.eq_nil_of_length_eq_zero (by omega : ls.length = 0)]; rfl
  case round =>
    obtain ⟨k, hk, rfl, HV, HB⟩ := hrel
    by_cases hlt : k < ls.length
    · have hlt' : (k : Int) < (ls.length : Int) := by omega
      have HLT : Hid (k < ls.length) := hlt
      have hv := HV.out
      rw [if_pos hlt] at hv
      subst hv
      obtain ⟨b, off, ai, m, ci, rfl, HCe, HM, HSk, -, hmb⟩ := HS.out.elemB hlt
      have hc := HCe.out _ HB.out
      have hm40 : m ≤ 40 := by rw [HM.out]; exact HT.out.width hlt
      obtain ⟨pr, HPr⟩ : ∃ pr, Hid (pr = preT ls k) := ⟨_, rfl⟩
      rw [← HPr.out]
      have HPl : Hid (pr.length ≤ 160) := by show _ ≤ _; rw [HPr.out]; exact preT_len HT.out hlt
      have HRl : Hid (∀ t, (preL (row ls k) t).length ≤ 120) := preL_len (HT.out.rowsOk _ (row_mem hlt)).2 (HT.out.width hlt)
      clear HV
      go_wp2
      go_loopw [3, 5] (fun v i wr => ∃ t : Nat, t ≤ m ∧ i = .int .i64 t ∧ Hid (v = .string (bytesOf (pr ++ preL (row ls k) t))) ∧ Hid (Below w.heap.size w wr)) (fun _ i _ => m - (intOf i).toNat)
      case atStart => exact ⟨0, Nat.zero_le _, rfl, by show _ = _; rw [preL_zero, List.append_nil], HB⟩
      case round =>
        obtain ⟨t, ht, rfl, HVt, HBt⟩ := hrel
        have hv := HVt.out
        subst hv
        clear HVt
        have hc := HCe.out _ HBt.out
        obtain ⟨x, HX⟩ : ∃ x, Hid (x = pr ++ preL (row ls k) t) := ⟨_, rfl⟩
        rw [← HX.out]
        have hxs : (bytesOf x).size ≤ 280 := by rw [bytesOf_size, HX.out, List.length_append]; have := HPl.out; have := HRl.out t; omega
        by_cases htl : t < m
        · have htl' : (t : Int) < (m : Int) := by omega
          have HTR : Hid (t < (row ls k).length) := by show _ < _; rw [← HM.out]; exact htl
          obtain ⟨b2, off2, z, hai, HZ, -, -, hcz⟩ := (HSk.out.below HBt.out).elem HTR.out
          subst hai
          have hzb : 1 ≤ z ∧ z ≤ 99 := by rw [HZ.out]; exact HT.out.letters HLT.out HTR.out
          obtain ⟨I, hI⟩ : ∃ I : Nat, I = z.toNat := ⟨_, rfl⟩
          obtain rfl : z = (I : Int) := by omega
          have hI100 : I < 100 := by omega
          have HTx : Hid (Lib.decDigits I = ltxt ((row ls k).getD t 0)) := by show _ = _; rw [← HZ.out]; simp [ltxt]
          have hds : (Lib.decDigits I).length ≤ 2 := by
            have := (atoi_ltxt (z := (I : Int)) ⟨hzb.1, hzb.2⟩).2
            simpa [ltxt] using this
          clear hzb hI HZ
          rcases Nat.eq_zero_or_pos t with h0 | h0
          · subst h0
            rw [Nat.add_zero] at hcz
            have HN : Hid (bytesOf x ++ ⟨(Lib.decDigits I).toArray⟩ = bytesOf (pr ++ preL (row ls k) 1)) := by
              show _ = _
              rw [preL_one HTR.out, HX.out, preL_zero, List.append_nil, ← HTx.out]
              exact bytesOf_append pr _
            go_wp2_with (go_at_call 17; refine (Go.Proofs.Tryd.strconv_Itoa_small I hI100 _).mono ?_; rintro e w' ⟨rfl, hww⟩; obtain rfl := hww)
            rw [HN.out]
            refine ⟨⟨1, by omega, rfl, rfl, HBt⟩, ?_⟩
            simp [intOf]; omega
          · obtain ⟨y, hyy⟩ : ∃ y, y = x ++ [32] := ⟨_, rfl⟩
            have HYy : Hid (y = x ++ [32]) := hyy
            clear hyy
            have he32 : bytesOf x ++ (⟨#[32]⟩ : ByteArray) = bytesOf y := by rw [HYy.out]; exact bytesOf_append x [32]
            have hys : (bytesOf y).size ≤ 281 := by rw [bytesOf_size, HYy.out, List.length_append]; rw [bytesOf_size] at hxs; simp; omega
            have HN : Hid (bytesOf y ++ ⟨(Lib.decDigits I).toArray⟩ = bytesOf (pr ++ preL (row ls k) (t + 1))) := by
              show _ = _
              rw [preL_succ h0 HTR.out, HYy.out, HX.out, ← HTx.out]
              have h1 := bytesOf_append ((pr ++ preL (row ls k) t) ++ [32]) (Lib.decDigits I)
              have h2 : (pr ++ preL (row ls k) t ++ [32]) ++ Lib.decDigits I = pr ++ (preL (row ls k) t ++ 32 :: Lib.decDigits I) := by simp
              rw [h2] at h1
              exact h1
            have g0 : decide ((t : Int) > 0) = true := decide_eq_true (by omega)
            go_wp2_with (go_at_call 17; refine (Go.Proofs.Tryd.strconv_Itoa_small I hI100 _).mono ?_; rintro e w' ⟨rfl, hww⟩; obtain rfl := hww)
            rw [HN.out]
            refine ⟨⟨t + 1, by omega, by go_num, rfl, HBt⟩, ?_⟩
            simp [intOf]; omega
        · obtain rfl : t = m := by omega
          have HE : Hid (x = pr ++ rtxt (row ls k)) := by
            show _ = _; rw [HX.out]; unfold preL; rw [HM.out, List.take_length]
          by_cases hlast : k + 1 < ls.length
          · obtain ⟨y, hyy⟩ : ∃ y, y = x ++ [47] := ⟨_, rfl⟩
            have HYy : Hid (y = x ++ [47]) := hyy
            clear hyy
            have he47 : bytesOf x ++ (⟨#[47]⟩ : ByteArray) = bytesOf y := by rw [HYy.out]; exact bytesOf_append x [47]
            have HN : Hid (Value.string (bytesOf y) = .string (bytesOf (if k + 1 < ls.length then preT ls (k + 1) else ttxt ls))) := by
              show _ = _
              rw [if_pos hlast, preT_succ HLT.out, HYy.out, HE.out, HPr.out, List.append_assoc]
            have hl1 : (k : Int) + 1 < (ls.length : Int) := by omega
            go_wp2
            go_roundw
            case rel => first | exact ⟨k + 1, HLT.out, by go_num, HN, HBt⟩ | ((repeat apply Exists.intro); exact ⟨⟨k + 1, HLT.out, by go_num, HN, HBt⟩, rfl⟩)
            case measure => have := HLT.out; simp [intOf]; omega
          · have HN : Hid (Value.string (bytesOf x) = .string (bytesOf (if k + 1 < ls.length then preT ls (k + 1) else ttxt ls))) := by
              show _ = _
              rw [if_neg hlast, preT_last (ls := ls) (k := k) (by have := HLT.out; omega), HE.out, HPr.out]
            have hl1 : ¬ (k : Int) + 1 < (ls.length : Int) := by omega
            go_wp2
            go_roundw
            case rel => first | exact ⟨k + 1, HLT.out, by go_num, HN, HBt⟩ | ((repeat apply Exists.intro); exact ⟨⟨k + 1, HLT.out, by go_num, HN, HBt⟩, rfl⟩)
            case measure => have := HLT.out; simp [intOf]; omega
    · obtain rfl : k = ls.length := by omega
      have hv := HV.out
      rw [if_neg (by omega)] at hv
      subst hv
      clear HV
      go_wp2
      go_ret
      exact ⟨rfl, HB.out⟩

end Go.Proofs.YtgcagoalnhgljacDoor
