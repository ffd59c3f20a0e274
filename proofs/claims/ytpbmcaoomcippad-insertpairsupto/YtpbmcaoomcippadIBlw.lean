/-
  There and back: plain facts; the contract of ferlaw.Same over pairs; the walk of ferkeep.InsertBack.
-/
import Derived.Test.YtpbmcaoomcippadIBk2
import Derived.Test.YtpbmcaoomcippadIMkp
import Derived.Test.YtpbmcaoomcippadIEq
namespace Go.Proofs.Ytpbmcaoomcippad
open Go.RowKit

theorem numW_getD {zs : List Int} {i : Nat} (hi : i < zs.length) : (numW zs).getD i (0, 0) = ((i : Int) + 1, zs.getD i 0) := by simp [numW, List.getD, hi]
theorem numW_ordered (zs : List Int) : Ordered (numW zs) := fun i hi => by
  rw [numW_length] at hi
  rw [numW_getD (by omega), numW_getD hi]
  left; show (i : Int) + 1 < ((i + 1 : Nat) : Int) + 1; omega
theorem numW_snd (zs : List Int) : (numW zs).map Prod.snd = zs := by
  refine ext_getD (by rw [List.length_map, numW_length]) (fun j hj => ?_)
  rw [List.length_map, numW_length] at hj
  rw [map_snd_getD, numW_getD hj]
theorem numW_fst (zs : List Int) : (numW zs).map Prod.fst = tab zs.length (fun i => (i : Int) + 1) := by
  unfold numW tab
  rw [List.map_map]; rfl
theorem numW_plet {zs : List Int} (h : lchk zs = 0) : PLet (numW zs) := fun c hc => by
  obtain ⟨h1, h2⟩ := lchk_ok.1 h
  obtain ⟨i, hi, rfl⟩ := List.mem_map.1 hc
  rw [List.mem_range] at hi
  refine ⟨⟨by show 1 ≤ (i : Int) + 1; omega, by show (i : Int) + 1 ≤ 99; omega⟩, h2 _ (getD_mem hi)⟩
theorem shapeL_of {p q : List (List Int)} (h1 : ∀ i, (row p i).length = (row q i).length) (h2 : p.length = q.length) : shapeL p = shapeL q := by
  unfold shapeL; rw [h2]; exact tab_congr (fun j _ => by rw [h1])
theorem mk_both {l : List (Int × Int)} (hl : l.length ≤ 40) (hp : PLet l) (ho : Ordered l) : bothC (mk l).1 (mk l).2 = 0 ∧ (mk l).2.flatten.length = l.length ∧ undo (mk l).2.flatten.length (mk l).1 (mk l).2 = l := by
  obtain ⟨hm, _, _⟩ := mk_made l.length l rfl ho
  obtain ⟨hl1, hl2⟩ := mk_letters l.length l rfl
  have hperm := mk_perm l.length l rfl ho
  have t1 : IsTab (mk l).1 := hm.tp.isTab (by rw [hl2]; exact hl) (fun z hz => by
    obtain ⟨c, hc, rfl⟩ := List.mem_map.1 (hl1 z hz)
    exact (hp c hc).2)
  have t2 : IsTab (mk l).2 := hm.tq.isTab (by rw [hm.cnt]; exact hl) (fun z hz => by
    obtain ⟨c, hc, rfl⟩ := List.mem_map.1 (hperm.mem_iff.1 hz)
    exact (hp c hc).1)
  exact ⟨bothC_ok.2 ⟨t1, t2, shapeL_of hm.lens hm.len⟩, hm.cnt, by rw [hm.cnt]; exact hm.back⟩
theorem back_make {zs : List Int} (h : lchk zs = 0) : BkR (mk (numW zs)).1 (mk (numW zs)).2 0 zs := by
  obtain ⟨h1, h2⟩ := lchk_ok.1 h
  obtain ⟨b1, b2, b3⟩ := mk_both (l := numW zs) (by rw [numW_length]; exact h1) (numW_plet h) (numW_ordered zs)
  have hperm := mk_perm _ (numW zs) rfl (numW_ordered zs)
  rw [numW_fst] at hperm
  have hmem : ∀ z ∈ (mk (numW zs)).2.flatten, 1 ≤ z ∧ z ≤ (mk (numW zs)).2.flatten.length := fun z hz => by
    rw [b2, numW_length]
    obtain ⟨j, hj, rfl⟩ := tab_mem (hperm.mem_iff.1 hz)
    omega
  have hstd : stdB (mk (numW zs)).2 = true := by
    unfold stdB contL
    rw [ones_perm (fun z hz => (hmem z hz).1)]
    unfold okPerm
    rw [decide_eq_true_eq]
    refine ⟨hmem, hperm.nodup_iff.2 ?_⟩
    unfold tab
    rw [List.nodup_iff_pairwise_ne, List.pairwise_map]
    exact List.Pairwise.imp (fun {a b} hab e => by omega) (List.pairwise_lt_range (n := zs.length))
  refine ⟨(backC_ok.2 ⟨b1, hstd⟩).symm, ?_⟩
  rw [if_pos rfl, b3, numW_snd]
theorem undo_pairs {p q : List (List Int)} (h : bothC p q = 0) : MpR (undo q.flatten.length p q) 0 p q := by
  obtain ⟨q1, q2, q3⟩ := PQ.of_both h
  obtain ⟨m1, m2, m3⟩ := undo_mk q.flatten.length p q q1.tp q1.tq q1.lens q1.len rfl
  refine ⟨Or.inr (Or.inl ⟨by rw [undo_length]; exact q2, fun c hc => ⟨q1.bd _ (m3 c hc).1, q3 _ (m3 c hc).2⟩, m2, rfl⟩), ?_, ?_⟩
  · rw [if_pos rfl, m1]
  · rw [if_pos rfl, m1]

set_option maxHeartbeats 4000000 in
set_option maxRecDepth 100000 in
theorem SameP_same (a b : Option Addr) (n m ca cb : Nat) (l : List (Int × Int)) (w : World) (hs : ShowsP w a l) (ht : ShowsP w b l) (hn : n = l.length) (hm : m = l.length) :
    Calls Try.prog 21 #[.slice a n ca, .slice b m cb] w fun e w' => e = .returned (.bool true) ∧ ∃ n, w' = w.drewN n := by
  subst hn; subst hm
  have hl := hs.len
  have HS : Hid (ShowsP w a l) := hs
  have HT : Hid (ShowsP w b l) := ht
  have hb : ((l.length : Int) != (l.length : Int)) = false := by simp
  clear hs ht
  go_enter Try.func21, Try.ntmps21
  go_wp2
  go_loopw [13] (fun i wr => ∃ k : Nat, k ≤ l.length ∧ i = .int .i64 k ∧ ∃ n, wr = w.drewN n) (fun i _ => l.length - (intOf i).toNat)
  case atStart => exact ⟨0, Nat.zero_le _, rfl, 0, rfl⟩
  case round =>
    obtain ⟨k, hk, rfl, n, rfl⟩ := hrel
    by_cases hlt : k < l.length
    · have hlt' : (k : Int) < (l.length : Int) := by omega
      obtain ⟨b1, o1, x, y, rfl, -, HE, hc0, hc1⟩ := HS.out.elem hlt
      obtain ⟨b2, o2, x', y', rfl, -, HE', hd0, hd1⟩ := HT.out.elem hlt
      obtain ⟨rfl, rfl⟩ : x' = x ∧ y' = y := by have := HE.out.trans HE'.out.symm; simp only [Prod.mk.injEq] at this; exact ⟨this.1.symm, this.2.symm⟩
      go_wp2_with fail
      go_quiet (fail)
      go_wp2
      go_roundw
      case rel => exact ⟨k + 1, by omega, by go_num, _, by first | exact rfl | exact drewN_two _ _ _⟩
      case measure => simp [intOf]; omega
    · obtain rfl : k = l.length := by omega
      go_wp2
      go_ret
      exact ⟨rfl, n, rfl⟩

end Go.Proofs.Ytpbmcaoomcippad
