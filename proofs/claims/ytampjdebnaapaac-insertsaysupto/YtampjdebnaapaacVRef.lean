/-
  The contracts of ferref.Count, Rows, Had, Upward, Plain, Twin.
-/
import Derived.Test.YtampjdebnaapaacUTrn
import Derived.Test.YtampjdebnaapaacQPerm
namespace Go.Proofs.Ytampjdebnaapaac
open Go.RowKit

set_option maxHeartbeats 2000000 in
theorem RCount_at (a : Option Addr) (n cap : Nat) (ls : List (List Int)) (w : World) (hs : Table w a ls) (hn : n = ls.length) (hl : ls.length ≤ 2000000) (hf : ls.flatten.length ≤ 2000000) :
    Calls Try.prog 28 #[.slice a n cap] w fun e w' => e = .returned (.int .i64 (ls.flatten.length : Nat)) ∧ Below w.heap.size w w' := by
  subst hn
  go_enter Try.func28, Try.ntmps28
  go_wp2_with fail
  refine (Joined_is _ _ _ _ _ hs rfl hl hf).mono ?_
  rintro e w' ⟨v, rfl, hO, hb⟩
  obtain ⟨m, HM⟩ : ∃ m, Hid (m = ls.flatten.length) := ⟨_, rfl⟩
  obtain ⟨av, cv, hsh⟩ := hO.shape
  rw [← HM.out] at hsh
  subst hsh
  clear hO
  go_wp2
  go_ret
  exact ⟨ret_int (by rw [HM.out]), hb⟩

set_option maxHeartbeats 2000000 in
theorem RRows_at (a : Option Addr) (n cap : Nat) (ls : List (List Int)) (w : World) (hs : Table w a ls) (hn : n = ls.length) (hl : ls.length ≤ 1000) :
    Calls Try.prog 19 #[.slice a n cap] w fun e w' => ∃ v, e = .returned v ∧ Owns w' w.heap.size v (shapeL ls) ∧ Below w.heap.size w w' := by
  subst hn
  have HS : Hid (Table w a ls) := hs
  clear hs
  go_enter Try.func19, Try.ntmps19
  go_wp2
  go_loopw [3, 4] (fun v i wr => ∃ k : Nat, k ≤ ls.length ∧ i = .int .i64 k ∧ Hid (Owns wr w.heap.size v (tab k (fun j => ((row ls j).length : Nat)))) ∧ Hid (Below w.heap.size w wr)) (fun _ i _ => ls.length - (intOf i).toNat)
  case atStart => exact ⟨0, Nat.zero_le _, rfl, World.ownsRow_nil _ _ _ _, Below.refl _ _⟩
  case round =>
    obtain ⟨k, hk, rfl, HO, HB⟩ := hrel
    by_cases hlt : k < ls.length
    · have hlt' : (k : Int) < (ls.length : Int) := by omega
      obtain ⟨b, off, ai, m, ci, rfl, HCe, HM, -, -, hmb⟩ := HS.out.elemB hlt
      have hc := HCe.out _ HB.out
      go_wp2_with (at_builtin; refine append_int (x := (m : Int)) rfl _ _ rfl rfl HO.out rfl ?c1 ?c2 ?_)
      case c1 => rw [tab_length]; omega
      case c2 => exact HB.out.size
      intro v' w2 hO' hb'
      have HO3 : Hid (Owns w2 w.heap.size v' (tab (k + 1) (fun j => ((row ls j).length : Nat)))) := by show Owns _ _ _ _; rw [tab_succ]; rw [HM.out] at hO'; exact hO'
      have HB3 : Hid (Below w.heap.size w w2) := HB.out.trans hb'
      clear hO' hb'
      go_wp2
      go_roundw
      case rel => exact ⟨k + 1, by omega, by go_num, HO3, HB3⟩
      case measure => simp [intOf]; omega
    · obtain rfl : k = ls.length := by omega
      go_wp2
      go_ret
      exact ⟨_, rfl, HO.out, HB.out⟩
theorem cnt_take (l : List Int) (k : Nat) (hk : k < l.length) (n J : Nat) (hJ : l.getD k 0 = (J : Int) + 1) {x : Int} (hx : x = cnt (l.take k) J + 1) :
    tab n (upd (cnt (l.take k)) J x) = tab n (cnt (l.take (k + 1))) := by
  refine tab_congr (fun j _ => ?_)
  rw [take_snoc l k hk, cnt_snoc, hJ]
  unfold upd
  by_cases e : j = J
  · subst e; rw [if_pos rfl, if_pos rfl, hx]
  · rw [if_neg e, if_neg (by omega)]; omega

set_option maxHeartbeats 2000000 in
theorem Had_at (a : Option Addr) (n cap : Nat) (l : List Int) (w : World) (hs : Shows w a l) (hn : n = l.length) (h40 : l.length ≤ 40) (hb : ∀ z ∈ l, 1 ≤ z ∧ z ≤ 99) :
    Calls Try.prog 20 #[.slice a n cap] w fun e w' => ∃ v, e = .returned v ∧ Owns w' w.heap.size v (had l) ∧ Below w.heap.size w w' := by
  subst hn
  have HBd : Hid (∀ z ∈ l, 1 ≤ z ∧ z ≤ 99) := hb
  clear hb
  by_cases h0 : 0 < l.length
  · have hb0 : ((l.length : Int) == 0) = false := by simp; intro e; subst e; simp at h0
    have hne : Hid (l ≠ []) := fun e => by rw [e] at h0; simp at h0
    have HMx : Hid (((mx l : Nat) : Int) ∈ l) := mx_in (fun z hz => (HBd.out z hz).1) hne.out
    have HMx2 : Hid (∀ z ∈ l, z ≤ ((mx l : Nat) : Int)) := fun z hz => by have := mx_ge hz; omega
    have hm99 : mx l ≤ 99 := mx_le (fun z hz => (HBd.out z hz).2)
    obtain ⟨M, HM⟩ : ∃ M, Hid (M = mx l) := ⟨_, rfl⟩
    rw [← HM.out] at HMx HMx2 hm99
    obtain ⟨i0, hi, hz0, hz1, hz2⟩ := info_parts Try.info3
    go_enter Try.func20, Try.ntmps20
    go_wp2_with fail
    refine (Max_ok _ _ l M _ hs h0 (by omega) HMx.out HMx2.out).mono ?_
    rintro e w0 ⟨rfl, hw0⟩
    obtain rfl : w = w0 := hw0.symm
    clear hw0
    go_wp2_with (at_make; refine wpList_make_full _ rfl _ _ 22 rfl w.heap.size 3 i0 (.int .i64 0) 1 Try.underlying22 hi hz0 hz1 _ _ _ _ M rfl rfl rfl rfl ?b1 ?b2 ?b3 ?_)
    case b1 => rw [hz2]; omega
    case b2 => unfold maxLen; omega
    case b3 => exact Nat.le_refl _
    intro w1 hown hgrow
    have HB1 : Hid (Below w.heap.size w w1) := (Below.refl _ _).grown hgrow (Nat.le_refl _) (fun k h => by cases h)
    have HO1 : Hid (Owns w1 w.heap.size (.slice (some ⟨w.heap.size, 0, none⟩) M M) (tab M (cnt (l.take 0)))) := (owns_made hown).tabCongr (fun j _ => by simp [cnt])
    clear hown hgrow
    go_wp2
    go_loopw [4] (fun i wr => ∃ k : Nat, k ≤ l.length ∧ i = .int .i64 k ∧ Hid (Owns wr w.heap.size (.slice (some ⟨w.heap.size, 0, none⟩) M M) (tab M (cnt (l.take k)))) ∧ Hid (Below w.heap.size w wr)) (fun i _ => l.length - (intOf i).toNat)
    case atStart => exact ⟨0, Nat.zero_le _, rfl, HO1, HB1⟩
    case round =>
      obtain ⟨k, hk, rfl, HO, HB⟩ := hrel
      by_cases hlt : k < l.length
      · have hlt' : (k : Int) < (l.length : Int) := by omega
        obtain ⟨b, off, z, rfl, HZ, -, -, hcz⟩ := (hs.below HB.out).elem hlt
        have hzm : z ∈ l := by rw [HZ.out]; exact getD_mem hlt
        have hzb := HBd.out z hzm
        have hzM := HMx2.out z hzm
        obtain ⟨hzb1, hzb2⟩ := hzb
        clear hzm
        obtain ⟨J, hJ⟩ : ∃ J : Nat, J = (z - 1).toNat := ⟨_, rfl⟩
        obtain rfl : z = (J : Int) + 1 := by omega
        have hJM : J < M := by omega
        have hJM' : (J : Int) < (M : Int) := by omega
        obtain ⟨hfz, hcc⟩ := HO.out.tabAt hJM
        have hcb := cnt_bd (l.take k) J
        rw [List.length_take] at hcb
        obtain ⟨u, HU⟩ : ∃ u, Hid (u = cnt (l.take k) J) := ⟨_, rfl⟩
        rw [← HU.out] at hcc hcb
        obtain ⟨hc0, hc1⟩ := hcb
        have hc2 : u ≤ 40 := by omega
        clear hJ hc1
        go_wp2
        go_roundw
        case rel => exact ⟨k + 1, by omega, by go_num, by
                      show Owns _ _ _ _
                      rw [← cnt_take l k hlt M J HZ.out.symm (x := u + 1) (by rw [HU.out])]; exact HO.out.tabStore J (u + 1), HB.out.setCell (Nat.le_refl _) _⟩
        case measure => simp [intOf]; omega
      · obtain rfl : k = l.length := by omega
        have HE : Hid (Owns wr w.heap.size (.slice (some ⟨w.heap.size, 0, none⟩) M M) (had l)) := by
          have := HO.out
          rw [List.take_length, HM.out] at this
          show Owns _ _ _ _
          rw [HM.out]; exact this
        go_wp2
        go_ret
        exact ⟨_, rfl, HE.out, HB.out⟩
  · obtain rfl : l = [] := List.eq_nil_of_length_eq_zero (by omega)
    go_enter Try.func20, Try.ntmps20
    go_wp2
    go_ret
    exact ⟨_, rfl, World.ownsRow_nil _ _ _ _, Below.refl _ _⟩
theorem up_take (ls : List (List Int)) (k : Nat) (hk : k < ls.length) : (ls.take (k + 1)).reverse.flatten = row ls k ++ (ls.take k).reverse.flatten := by
  rw [List.take_succ_eq_append_getElem hk, List.reverse_append]
  simp [row, List.getD, List.getElem?_eq_getElem hk]

set_option maxHeartbeats 4000000 in
theorem Upward_at (a : Option Addr) (n cap : Nat) (ls : List (List Int)) (w : World) (hs : Table w a ls) (hn : n = ls.length) (hp : IsTab ls) :
    Calls Try.prog 22 #[.slice a n cap] w fun e w' => ∃ v, e = .returned v ∧ Owns w' w.heap.size v (wordL ls) ∧ Below w.heap.size w w' := by
  subst hn
  have h40 := hp.rows
  have HT : Hid (IsTab ls) := hp
  have HS : Hid (Table w a ls) := hs
  clear hs hp
  go_enter Try.func22, Try.ntmps22
  go_wp2
  go_loopw [3, 4] (fun v i wr => ∃ k : Nat, k ≤ ls.length ∧ i = .int .i64 k ∧ Hid (Owns wr w.heap.size v (ls.take k).reverse.flatten) ∧ Hid (Below w.heap.size w wr)) (fun _ i _ => ls.length - (intOf i).toNat)
  case atStart => exact ⟨0, Nat.zero_le _, rfl, World.ownsRow_nil _ _ _ _, Below.refl _ _⟩
  case round =>
    obtain ⟨k, hk, rfl, HO, HB⟩ := hrel
    by_cases hlt : k < ls.length
    · have hlt' : (k : Int) < (ls.length : Int) := by omega
      obtain ⟨b, off, ai, m, ci, rfl, HCe, HM, HSk, HNk, hmb⟩ := HS.out.elemB hlt
      have hc := HCe.out _ HB.out
      have HSk' : Hid (Shows wr ai (row ls k)) := HSk.out.below HB.out
      have HW : Hid ((row ls k).length ≤ 40) := HT.out.width hlt
      have HRl : Hid ((ls.take k).reverse.flatten.length ≤ 40) := by show _ ≤ _; rw [flat_rev_len]; have := flat_take_le ls k; have := HT.out.few; omega
      have HRw : Hid (∀ z ∈ (ls.take k).reverse.flatten, -9223372036854775808 ≤ z ∧ z ≤ 9223372036854775807) := fun z hz => by
        obtain ⟨r, hr, hz⟩ := List.mem_flatten.1 hz
        have := HT.out.mem (List.mem_flatten.2 ⟨r, List.mem_of_mem_take (List.mem_reverse.1 hr), hz⟩)
        omega
      have HOn : Hid (Owns wr wr.heap.size (.slice none 0 0) []) := World.ownsRow_nil _ _ _ _
      obtain ⟨rl, HR⟩ : ∃ rl, Hid (rl = (ls.take k).reverse.flatten) := ⟨_, rfl⟩
      rw [← HR.out] at HO HRl HRw
      go_wp2_with (at_builtin; refine append_src rfl _ _ rfl rfl rfl HOn.out HSk'.out HM.out HNk.out ?c1 ?c2 ?_)
      case c1 => have := HW.out; simp; omega
      case c2 => exact Nat.le_refl _
      intro v1 w2 hO1 hb1 _
      have HO1 : Hid (Owns w2 wr.heap.size v1 (row ls k)) := by show Owns _ _ _ _; simpa using hO1
      have HO2 : Hid (Owns w2 w.heap.size u3 rl) := HO.out.below hb1
      obtain ⟨a2, n2, c2, hv2, hS2, HN2, HNn2⟩ := HO2.out.src (by have := HRl.out; omega) HRw.out
      have HB2 : Hid (Below wr.heap.size wr w2) := hb1
      subst hv2
      have HS2 : Hid (Shows w2 a2 rl) := hS2
      clear hO1 hb1 hS2 HO2
      go_wp2_with (at_builtin; refine append_src rfl _ _ rfl rfl rfl HO1.out HS2.out HN2.out HNn2.out ?c3 ?c4 ?_)
      case c3 => have := HW.out; have := HRl.out; omega
      case c4 => exact HB2.out.size
      intro v3 w3 hO3 hb3 _
      have HO3 : Hid (Owns w3 w.heap.size v3 (ls.take (k + 1)).reverse.flatten) := by
        show Owns _ _ _ _
        rw [up_take ls k hlt, ← HR.out]; exact hO3.mono HB.out.size
      have HB3 : Hid (Below w.heap.size w w3) := HB.out.trans ((HB2.out.trans hb3).mono HB.out.size)
      clear hO3 hb3
      go_wp2
      go_roundw
      case rel => exact ⟨k + 1, by omega, by go_num, HO3, HB3⟩
      case measure => simp [intOf]; omega
    · obtain rfl : k = ls.length := by omega
      have HE : Hid (Owns wr w.heap.size u3 (wordL ls)) := by have := HO.out; rw [List.take_length] at this; exact this
      go_wp2
      go_ret
      exact ⟨_, rfl, HE.out, HB.out⟩
theorem plain_std {ls : List (List Int)} (h : IsTab ls) : (pchk ls.flatten == 0) = stdB ls := by
  unfold stdB contL
  rw [ones_perm (fun _ hz => (h.mem hz).1)]
  unfold pchk
  rw [if_neg (by have := h.few; omega)]
  cases okPerm ls.flatten <;> rfl

set_option maxHeartbeats 2000000 in
theorem Plain_at (a : Option Addr) (n cap : Nat) (ls : List (List Int)) (w : World) (hs : Table w a ls) (hn : n = ls.length) (hp : IsTab ls) {t : Bool} (ht : stdB ls = t) :
    Calls Try.prog 23 #[.slice a n cap] w fun e w' => e = .returned (.bool t) ∧ Below w.heap.size w w' := by
  subst hn
  have hf := hp.few
  have hr := hp.rows
  have HP : Hid ((pchk ls.flatten == 0) = t) := by show _ = _; rw [plain_std hp]; exact ht
  obtain ⟨d, hd⟩ : ∃ d, pchk ls.flatten = d := ⟨_, rfl⟩
  have E : Hid (pchk ls.flatten = d) := hd
  have HD : Hid ((d == 0) = t) := by rw [← hd]; exact HP.out
  have hwf : ∀ z ∈ ls.flatten, -9223372036854775808 ≤ z ∧ z ≤ 9223372036854775807 := fun z hz => by have := hp.mem hz; omega
  have HWf : Hid (∀ z ∈ ls.flatten, -9223372036854775808 ≤ z ∧ z ≤ 9223372036854775807) := hwf
  have HF : Hid (ls.flatten.length ≤ 40) := hf
  clear hd HP ht hp hwf hf
  go_enter Try.func23, Try.ntmps23
  go_wp2_with fail
  refine (Joined_is _ _ _ _ _ hs rfl (by omega) (by have := HF.out; omega)).mono ?_
  rintro e w1 ⟨v, rfl, hO, hb⟩
  obtain ⟨av, nv, cv, rfl, hS, hnv, -⟩ := hO.opened (by have := HF.out; omega) HWf.out
  have HN : Hid (nv = ls.flatten.length) := hnv
  clear hnv hO
  go_wp2_with fail
  refine (RPerm_is _ _ _ _ _ hS HN.out E).mono ?_
  rintro e w2 ⟨rfl, hw2⟩
  obtain rfl : w1 = w2 := hw2.symm
  clear hw2
  go_wp2
  go_ret
  exact ⟨ret_bool HD.out, hb⟩
end Go.Proofs.Ytampjdebnaapaac
