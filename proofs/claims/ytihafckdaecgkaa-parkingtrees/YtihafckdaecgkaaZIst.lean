/-
  isTree: marks of what hangs together.
-/
import Derived.Test.YtihafckdaecgkaaZSrq
import Derived.Test.YtihafckdaecgkaaZRnd
import Derived.Test.YtihafckdaecgkaaZOwb
namespace Go.Proofs.Ytihafckdaecgkaa
open Go.RowKit

/-- isTree, edge by edge. -/
def itr (lo hi : Int) (m : Int → Int) : List (Int × Int) → Bool
  | [] => true
  | e :: l => inIv [e.1, e.2] lo hi && (decide (m e.1 ≠ m e.2) && itr lo hi (mrg m e) l)
theorem two_wf {x y : Int} (hx : -9223372036854775808 ≤ x ∧ x ≤ 9223372036854775807) (hy : -9223372036854775808 ≤ y ∧ y ≤ 9223372036854775807) : ∀ z ∈ [x, y], -9223372036854775808 ≤ z ∧ z ≤ 9223372036854775807 := by
  intro z hz
  simp only [List.mem_cons, List.not_mem_nil, or_false] at hz
  rcases hz with rfl | rfl <;> assumption
theorem getD_memP {L : List (Int × Int)} {k : Nat} (h : k < L.length) : L.getD k (0, 0) ∈ L := by
  simp [List.getD, h]
theorem inIv_two {x y lo hi : Int} (h : inIv [x, y] lo hi = true) : lo ≤ x ∧ x ≤ hi ∧ lo ≤ y ∧ y ≤ hi := by
  simp [inIv] at h; omega
theorem shows_two (w : World) (x y : Int) (hx : -9223372036854775808 ≤ x ∧ x ≤ 9223372036854775807) (hy : -9223372036854775808 ≤ y ∧ y ≤ 9223372036854775807) (g : Nat) (hg : w.heap[g]? = some (.cells #[.int .i64 x, .int .i64 y] 3 (0, 0))) : Shows w (some ⟨g, 0, none⟩) [x, y] := by
  have h := owns_of_row (w := w) (base := 0) (g := g) (n := 2) (zs := [x, y]) (Nat.zero_le _) hg rfl (by simp)
  obtain ⟨a, c, hv, hs⟩ := h.shows (by simp) (two_wf hx hy)
  cases hv; exact hs

set_option maxHeartbeats 4000000 in
set_option maxRecDepth 100000 in
theorem isTree_at (a : Option Addr) (n cap f : Nat) (L : List (Int × Int)) (t : Bool) (w : World) (hs : ShowsP w a L) (hwf : ∀ e ∈ L, (-9223372036854775808 ≤ e.1 ∧ e.1 ≤ 9223372036854775807) ∧ -9223372036854775808 ≤ e.2 ∧ e.2 ≤ 9223372036854775807) (hn : n = L.length) (h20 : n ≤ 20) (hf : f ≤ 1) (ht : itr f ((f + n : Nat) : Int) id L = t) :
    Calls Try.prog 20 #[.slice a n cap, .int .i64 f] w fun e w' => e = .returned (.bool t) ∧ Hid (Below w.heap.size w w') := by
  obtain ⟨M, HM⟩ : ∃ M : Nat, Hid (M = f + n) := ⟨_, rfl⟩
  obtain ⟨N, HN⟩ : ∃ N : Nat, Hid (N = M + 1) := ⟨_, rfl⟩
  have hM : (f : Int) + (n : Int) = (M : Int) := by have := HM.out; omega
  have hM1 : (M : Int) + 1 = (N : Int) := by have := HN.out; omega
  have hN1 : 1 ≤ N := by have := HN.out; omega
  have hN22 : N ≤ 30 := by have := HN.out; have := HM.out; omega
  have HS : Hid (ShowsP w a L) := hs
  have HW : Hid (∀ e ∈ L, (-9223372036854775808 ≤ e.1 ∧ e.1 ≤ 9223372036854775807) ∧ -9223372036854775808 ≤ e.2 ∧ e.2 ≤ 9223372036854775807) := hwf
  have HNz : Hid (n = L.length) := hn
  have HT : Hid (itr f M id L = t) := by rw [HM.out]; exact ht
  clear hs hwf hn ht
  obtain ⟨i1, hj, hy0, hy1, hy2⟩ := info_parts Try.info3
  go_enter Try.func20, Try.ntmps20
  go_wp2_with (at_make; refine wpList_make_full _ rfl _ _ 23 rfl w.heap.size 3 i1 (.int .i64 0) 1 Try.underlying23 hj hy0 hy1 _ _ _ _ N rfl rfl rfl rfl ?b1 ?b2 ?b3 ?_)
  case b1 => rw [hy2]; omega
  case b2 => unfold maxLen; omega
  case b3 => exact Nat.le_refl _
  intro w1 hown hgrow
  have HB1 : Hid (Below w.heap.size w w1) := (Below.refl _ _).grown hgrow (Nat.le_refl _) (fun k h => by cases h)
  have HO1 : Hid (Owns w1 w.heap.size (.slice (some ⟨w.heap.size, 0, none⟩) N N) (tab N (fun i => if i < 0 then (i : Int) else 0))) := (owns_mkT hown).tabSame (fun j _ => by simp)
  clear hown hgrow hj hy0 hy1 hy2 i1
  go_wp2
  go_loopw [7, 23] (fun _ q wr => ∃ k : Nat, k ≤ N ∧ q = .int .i64 k ∧ Hid (Owns wr w.heap.size (.slice (some ⟨w.heap.size, 0, none⟩) N N) (tab N (fun i => if i < k then (i : Int) else 0))) ∧ Hid (Below w.heap.size w wr)) (fun _ q _ => N - (intOf q).toNat)
  case atStart => exact ⟨0, Nat.zero_le _, rfl, HO1, HB1⟩
  case round =>
    clear HO1 HB1
    obtain ⟨k, hk, rfl, HO, HB⟩ := hrel
    by_cases hlt : k < N
    · have hlt' : (k : Int) < (N : Int) := by omega
      obtain ⟨hkf, hkc⟩ := HO.out.tabBox (j := k) hlt
      go_wp2
      go_roundw
      case rel =>
        refine ⟨k + 1, by omega, by go_num, ?_, HB.out.setCell (Nat.le_refl _) _⟩
        refine (HO.out.tabPut k (k : Int)).tabSame (fun j hj => ?_)
        unfold updT
        by_cases e : j = k
        · subst e; simp
        · rw [if_neg e]
          dsimp only
          by_cases e2 : j < k
          · rw [if_pos e2, if_pos (by omega)]
          · rw [if_neg e2, if_neg (by omega)]
      case measure => simp [intOf]; omega
    · obtain rfl : k = N := by omega
      have HO2 : Hid (Owns wr w.heap.size (.slice (some ⟨w.heap.size, 0, none⟩) k k) (tab k (fun i => (L.take 0).foldl mrg id (i : Int)))) := HO.out.tabSame (fun j hj => by rw [if_pos hj]; rfl)
      have HT0 : Hid (itr f M ((L.take 0).foldl mrg id) (L.drop 0) = t) := HT
      clear HO hk hlt
      go_wp2
      go_loopw [9, 10, 11, 12, 13, 33] (fun _ _ _ _ _ q wr => ∃ j : Nat, j ≤ n ∧ q = .int .i64 j ∧ Hid (Owns wr w.heap.size (.slice (some ⟨w.heap.size, 0, none⟩) k k) (tab k (fun i => (L.take j).foldl mrg id (i : Int)))) ∧ Hid (itr f M ((L.take j).foldl mrg id) (L.drop j) = t) ∧ Hid (Below w.heap.size w wr)) (fun _ _ _ _ _ q _ => n - (intOf q).toNat)
      case atStart => exact ⟨0, Nat.zero_le _, rfl, HO2, HT0, HB⟩
      case round =>
        clear HO2 HT0 HB
        obtain ⟨j, hj, rfl, HO, HTj, HB⟩ := hrel
        by_cases hlt : j < n
        · have hlt' : (j : Int) < (n : Int) := by omega
          obtain ⟨m, Hm⟩ : ∃ m : Int → Int, Hid (m = (L.take j).foldl mrg id) := ⟨_, rfl⟩
          rw [← Hm.out] at HO HTj
          have hjL : j < L.length := by rw [← HNz.out]; exact hlt
          obtain ⟨b, off, x, y, rfl, -, HE, hc0, hc1⟩ := (HS.out.below HB.out).elem hjL
          have hmem : (x, y) ∈ L := by rw [HE.out]; exact getD_memP hjL
          obtain ⟨hx, hy⟩ := HW.out _ hmem
          have HTd : Hid ((inIv [x, y] f M && (decide (m x ≠ m y) && itr f M (mrg m (x, y)) (L.drop (j + 1)))) = t) := by
            have h1 := HTj.out
            rw [List.drop_eq_getElem_cons hjL, show L[j] = (x, y) by rw [HE.out]; simp [List.getD, hjL]] at h1
            exact h1
          have Hm2 : Hid ((L.take (j + 1)).foldl mrg id = mrg m (x, y)) := by
            show _ = _
            rw [List.take_add_one, List.foldl_append, ← Hm.out, List.getElem?_eq_getElem hjL, show L[j] = (x, y) by rw [HE.out]; simp [List.getD, hjL]]; rfl
          obtain ⟨W, HWd⟩ : ∃ W, Hid (W = (wr.alloc (.cells #[.int .i64 x, .int .i64 y] 34)).alloc (.cells #[.int .i64 x, .int .i64 y] 3)) := ⟨_, rfl⟩
          have HBW : Hid (Below wr.heap.size wr W) := by rw [HWd.out]; exact ((Below.refl _ _).alloc (Nat.le_refl _) _).alloc (by simp) _
          have HOW : Hid (Owns W w.heap.size (.slice (some ⟨w.heap.size, 0, none⟩) k k) (tab k (fun i => m (i : Int)))) := HO.out.below HBW.out
          have HSW : Hid (Shows W (some ⟨wr.heap.size + 1, 0, none⟩) [x, y]) := shows_two W x y hx hy _ (by rw [HWd.out]; exact heap_alloc2_new _ _ _)
          have hf0 : W.cell? ⟨wr.heap.size, 0, none⟩ = some (.int .i64 x) := by rw [HWd.out, World.cell?_alloc_past _ _ _ (by simp), World.cell?_alloc_at _ _ _ _ rfl]; rfl
          have hf1 : W.cell? ⟨wr.heap.size, 1, none⟩ = some (.int .i64 y) := by rw [HWd.out, World.cell?_alloc_past _ _ _ (by simp), World.cell?_alloc_at _ _ _ _ rfl]; rfl
          have HBn : Hid (Below w.heap.size w W) := HB.out.trans (HBW.out.mono HB.out.size)
          obtain ⟨t1, HT1⟩ : ∃ t1, Hid (t1 = inIv [x, y] f M) := ⟨_, rfl⟩
          rw [← HT1.out] at HTd
          have HC : Hid (Calls Try.prog 27 #[.slice (some ⟨wr.heap.size + 1, 0, none⟩) 2 2, .int .i64 f, .int .i64 M] W fun e w' => e = .returned (.bool t1) ∧ w' = W) := areWithin_at _ 2 2 [x, y] f M t1 W HSW.out rfl HT1.out.symm
          clear HE HSW hx hy hmem HO HTj
          go_wp2_with fail
          rw [← HWd.out]
          refine HC.out.mono ?_
          rintro e w9 ⟨rfl, hw9⟩
          obtain rfl : W = w9 := hw9.symm
          clear hw9 HC HWd hc0 hc1
          cases t1 with
          | false =>
            have HF : Hid (t = false) := HTd.out.symm
            obtain rfl := HF.out
            go_wp2
            go_ret
            exact ⟨rfl, HBn⟩
          | true =>
            obtain ⟨p, rfl⟩ : ∃ p : Nat, x = p := ⟨x.toNat, by have := inIv_two HT1.out.symm; omega⟩
            obtain ⟨q, rfl⟩ : ∃ q : Nat, y = q := ⟨y.toNat, by have := inIv_two HT1.out.symm; omega⟩
            have hpk : p < k := by have := inIv_two HT1.out.symm; omega
            have hqk : q < k := by have := inIv_two HT1.out.symm; omega
            obtain ⟨-, hp⟩ := HOW.out.tabBox (j := p) hpk
            obtain ⟨-, hq⟩ := HOW.out.tabBox (j := q) hqk
            obtain ⟨mp, Hmp⟩ : ∃ mp, Hid (mp = m p) := ⟨_, rfl⟩
            obtain ⟨mq, Hmq⟩ : ∃ mq, Hid (mq = m q) := ⟨_, rfl⟩
            rw [← Hmp.out] at hp
            rw [← Hmq.out] at hq
            rw [← Hmp.out, ← Hmq.out] at HTd
            have hpk' : (p : Int) < (k : Int) := by omega
            have hqk' : (q : Int) < (k : Int) := by omega
            go_wp2_with fail
            go_quiet (fail)
            obtain ⟨Wd, HWd⟩ : ∃ Wd, Hid (Wd = W.drewN nq) := ⟨_, rfl⟩
            have HOd : Hid (Owns Wd w.heap.size (.slice (some ⟨w.heap.size, 0, none⟩) k k) (tab k (fun z => if z < 0 then mrg m (p, q) (z : Int) else m (z : Int)))) := by
              rw [HWd.out]
              exact (HOW.out.below (below_drewN (Below.refl _ _) nq)).tabSame (fun j _ => by simp)
            have HBd : Hid (Below w.heap.size w Wd) := by rw [HWd.out]; exact below_drewN HBn.out nq
            rw [← HWd.out]
            clear HWd HOW HBn HBW hf0 hf1 hp hq HB
            by_cases he : mp = mq
            · have hb : (mp == mq) = true := beq_iff_eq.2 he
              have HF : Hid (t = false) := by show _ = _; have := HTd.out; rw [he] at this; simpa using this.symm
              obtain rfl := HF.out
              go_wp2
              go_ret
              exact ⟨rfl, HBd⟩
            · have hb : (mp == mq) = false := beq_eq_false_iff_ne.2 he
              have HTn : Hid (itr f M (mrg m (p, q)) (L.drop (j + 1)) = t) := by show _ = _; have := HTd.out; simpa [he] using this
              go_wp2
              go_loopw [12, 13, 61] (fun _ _ q' wq => ∃ i : Nat, i ≤ k ∧ q' = .int .i64 i ∧ Hid (Owns wq w.heap.size (.slice (some ⟨w.heap.size, 0, none⟩) k k) (tab k (fun z => if z < i then mrg m (p, q) (z : Int) else m (z : Int)))) ∧ Hid (Below w.heap.size w wq)) (fun _ _ q' _ => k - (intOf q').toNat)
              case atStart => exact ⟨0, Nat.zero_le _, rfl, HOd, HBd⟩
              case round =>
                clear HOd HBd
                obtain ⟨i, hi, rfl, HO, HB⟩ := hrel
                by_cases hik : i < k
                · have hik' : (i : Int) < (k : Int) := by omega
                  obtain ⟨hif, hic⟩ := HO.out.tabBox (j := i) hik
                  rw [if_neg (Nat.lt_irrefl i)] at hic
                  obtain ⟨mi, Hmi⟩ : ∃ mi, Hid (mi = m i) := ⟨_, rfl⟩
                  rw [← Hmi.out] at hic
                  by_cases hem : mi = mp
                  · have hbm : (mi == mp) = true := beq_iff_eq.2 hem
                    go_wp2
                    go_roundw
                    case rel =>
                      refine ⟨i + 1, by omega, by go_num, ?_, HB.out.setCell (Nat.le_refl _) _⟩
                      refine (HO.out.tabPut i mq).tabSame (fun z hz => ?_)
                      unfold updT
                      by_cases e : z = i
                      · subst e
                        rw [if_pos rfl, if_pos (by omega)]
                        unfold mrg
                        rw [if_pos (by rw [← Hmi.out, hem]; exact Hmp.out)]
                        exact Hmq.out
                      · rw [if_neg e]
                        dsimp only
                        by_cases e2 : z < i
                        · rw [if_pos e2, if_pos (by omega)]
                        · rw [if_neg e2, if_neg (by omega)]
                    case measure => simp [intOf]; omega
                  · have hbm : (mi == mp) = false := beq_eq_false_iff_ne.2 hem
                    go_wp2
                    go_roundw
                    case rel =>
                      refine ⟨i + 1, by omega, by go_num, ?_, HB⟩
                      refine HO.out.tabSame (fun z hz => ?_)
                      by_cases e : z = i
                      · subst e
                        rw [if_neg (Nat.lt_irrefl z), if_pos (by omega)]
                        unfold mrg
                        rw [if_neg (fun c => hem (by rw [Hmi.out, c]; exact Hmp.out.symm))]
                      · by_cases e2 : z < i
                        · rw [if_pos e2, if_pos (by omega)]
                        · rw [if_neg e2, if_neg (by omega)]
                    case measure => simp [intOf]; omega
                · obtain rfl : i = k := by omega
                  go_wp2
                  go_roundw
                  case rel =>
                    refine ⟨j + 1, by omega, by go_num, ?_, ?_, HB⟩
                    · refine HO.out.tabSame (fun z hz => ?_)
                      rw [if_pos hz, Hm2.out]
                    · rw [Hm2.out]; exact HTn
                  case measure => simp [intOf]; omega
        · obtain rfl : j = n := by omega
          have HF : Hid (t = true) := by
            have := HTj.out
            rw [List.drop_of_length_le (by rw [← HNz.out]; exact Nat.le_refl _)] at this
            exact this.symm
          obtain rfl := HF.out
          go_wp2
          go_ret
          exact ⟨rfl, HB⟩
end Go.Proofs.Ytihafckdaecgkaa
