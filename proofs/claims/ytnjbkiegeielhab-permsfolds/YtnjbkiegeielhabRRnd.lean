/-
  The contracts of perms.Rounds and perms.Unrounds.
-/
import Derived.Test.YtnjbkiegeielhabRCyc
namespace Go.Proofs.Ytnjbkiegeielhab
open Go.RowKit

theorem Max_at (a : Option Addr) (n cap : Nat) (zs : List Int) (M : Int) (w : World) (hs : Shows w a zs) (hn : n = zs.length) (h0 : 0 < zs.length) (h40 : zs.length ≤ 1000) (hM : M ∈ zs) (hM2 : ∀ z ∈ zs, z ≤ M) :
    Calls Try.prog 53 #[.slice a n cap] w fun e w' => e = .returned (.int .i64 M) ∧ w' = w := by
  subst hn; exact Max_ok a cap zs M w hs h0 h40 hM hM2

theorem max_ex : ∀ (l : List Int), l ≠ [] → ∃ y ∈ l, ∀ z ∈ l, z ≤ y := by
  intro l
  induction l with
  | nil => intro h; exact absurd rfl h
  | cons a l ih =>
    intro _
    by_cases e : l = []
    · subst e; exact ⟨a, by simp, by simp⟩
    · obtain ⟨y, hy, hz⟩ := ih e
      by_cases ha : a ≤ y
      · exact ⟨y, by simp [hy], by intro z h; rcases List.mem_cons.1 h with rfl | h; exact ha; exact hz z h⟩
      · exact ⟨a, by simp, by intro z h; rcases List.mem_cons.1 h with rfl | h; exact Int.le_refl _; have := hz z h; omega⟩

theorem UpTo.len {p : List Int} (hp : IsPerm p) {k : Nat} {bs : List (List Int)} (h : UpTo p k bs) : bs.flatten.length ≤ 40 := by
  have key : bs.flatten.Nodup := by
    have : ∀ cs : List (List Int), (∀ b ∈ cs, Block p b) → cs.Pairwise (fun b c => b.headD 0 < c.headD 0) → cs.flatten.Nodup := by
      intro cs
      induction cs with
      | nil => intro _ _; simp
      | cons c cs ih =>
        intro he hr
        rw [List.pairwise_cons] at hr
        rw [List.flatten_cons, List.nodup_append]
        refine ⟨?_, ih (fun b hb => he b (by simp [hb])) hr.2, ?_⟩
        · obtain ⟨n, m, ht, rfl, h1, h2⟩ := (he c (by simp)).n
          exact ht.nodup hp h1 h2
        · intro x hx y hy e
          subst e
          obtain ⟨d, hd, hxd⟩ := List.mem_flatten.1 hy
          have := (he c (by simp)).meet (he d (by simp [hd])) hx hxd
          subst this
          have := hr.1 c hd; omega
    exact this bs (fun b hb => (h.each b hb).1) h.rise
  have hb : ∀ z ∈ bs.flatten, 1 ≤ z ∧ z ≤ (p.length : Nat) := by
    intro z hz
    obtain ⟨b, hb, hzb⟩ := List.mem_flatten.1 hz
    exact (h.each b hb).1.bounds hp hzb
  have hs := S_counts p.length bs.flatten hb
  have := S_le (n := p.length) (f := fun v => bs.flatten.countP (fun z => decide (z = (v : Int) + 1))) (g := fun _ => 1) (fun i _ => nodup_count key _)
  rw [hs, S_one] at this
  have := hp.len
  omega

set_option maxHeartbeats 4000000 in
theorem Rounds_ok (a : Option Addr) (cap : Nat) (zs : List Int) (w : World) (hs : Shows w a zs) (hp : IsPerm zs) :
    Calls Try.prog 36 #[.slice a zs.length cap] w fun e w' => ∃ v bs, e = .returned (.tuple #[v, .int .i64 0]) ∧ Blocks zs bs ∧ Owns w' w.heap.size v bs.flatten ∧ Below w.heap.size w w' := by
  have E : Hid (pchk zs = 0) := pchk_ok.2 hp
  have HP : Hid (IsPerm zs) := hp
  have h40 := hp.len
  clear hp
  obtain ⟨i0, hi, hz0, hz1, hz2⟩ := info_parts Try.info3
  go_enter Try.func36, Try.ntmps36
  go_wp2_with fail
  refine (Check_is _ _ _ _ _ hs rfl E).mono ?_
  rintro e w0 ⟨rfl, hb0⟩
  have HB0 : Hid (Below w.heap.size w w0) := hb0
  clear hb0
  go_wp2_with (at_make; refine wpList_make_own _ rfl _ _ 22 rfl w.heap.size 3 i0 (.int .i64 0) 1 Try.underlying22 hi hz0 hz1 _ _ _ zs.length rfl rfl rfl ?b1 ?b2 ?b3 ?_)
  case b1 => rw [hz2]; omega
  case b2 => unfold maxLen; omega
  case b3 => exact HB0.out.size
  intro w1 hown hgrow
  have HB1 : Hid (Below w.heap.size w w1) := HB0.out.grown hgrow HB0.out.size (fun k h => by cases h)
  obtain ⟨g, hg⟩ : ∃ g, g = w0.heap.size := ⟨_, rfl⟩
  rw [← hg] at hown ⊢
  have HO1 : Hid (Owns w1 w.heap.size (.slice (some ⟨g, 0, none⟩) 0 zs.length) ([] : List (List Int)).flatten) := hown
  clear hown hgrow hg
  go_wp2
  go_loopw [5, 6] (fun v i wr => ∃ (k : Nat) (bs : List (List Int)), k ≤ zs.length ∧ i = .int .i64 ((k : Int) + 1) ∧ Hid (UpTo zs k bs) ∧ Hid (Owns wr w.heap.size v bs.flatten) ∧ Hid (Below w.heap.size w wr)) (fun _ i _ => (zs.length + 1 - (intOf i).toNat : Nat))
  case atStart => exact ⟨0, [], Nat.zero_le _, rfl, UpTo.zero HP.out, HO1, HB1⟩
  case round =>
    obtain ⟨k, bs, hk, rfl, HU, HO, HB⟩ := hrel
    by_cases hlt : k < zs.length
    · have hle : decide ((k : Int) + 1 ≤ (zs.length : Int)) = true := by simp; omega
      have hle' : (k : Int) + 1 ≤ (zs.length : Int) := by omega
      obtain ⟨m, hT⟩ := turns_ex HP.out (n := (k : Int) + 1) (by omega) (by omega)
      have HT : Hid (Turns zs ((k : Int) + 1) m) := hT
      have hm2 := hT.2.1
      have hm1 := hT.1
      have hlen := HU.out.len HP.out
      have hs1 := hs.below HB.out
      have HLT : Hid (k < zs.length) := hlt
      clear hT
      go_wp2_with fail
      refine (cycleFrom_ok _ _ _ k m _ hs1 HP.out HLT.out HT.out).mono ?_
      rintro e w2 ⟨v2, rfl, hO2, hb2⟩
      have HB2 : Hid (Below w.heap.size w w2) := HB.out.trans (hb2.mono HB.out.size)
      have HOq : Hid (Owns w2 w.heap.size u5 bs.flatten) := HO.out.below hb2
      have HPB : Hid (∀ z ∈ path zs ((k : Int) + 1) m, 0 ≤ z ∧ z ≤ 1000) := fun z hz => by
        obtain ⟨j, _, rfl⟩ := mem_path.1 hz
        have := iter_bounds HP.out (n := (k : Int) + 1) (by omega) (by omega) j
        omega
      obtain ⟨a2, n2, c2, rfl, S2, hn2, hnone2⟩ := hO2.src (by rw [path_length]; omega) (small_wf HPB.out)
      clear hb2 hO2 hs1
      have HN2 : Hid (n2 = (path zs ((k : Int) + 1) m).length) := hn2
      obtain ⟨M, hM1, hM2⟩ := max_ex (path zs ((k : Int) + 1) m) (by intro e; have := congrArg List.length e; rw [path_length] at this; simp at this; omega)
      have HM1 : Hid (M ∈ path zs ((k : Int) + 1) m) := hM1
      have HM2 : Hid (∀ z ∈ path zs ((k : Int) + 1) m, z ≤ M) := hM2
      clear hM1 hM2 hn2
      go_wp2_with fail
      refine (Max_at _ _ _ (path zs ((k : Int) + 1) m) M _ S2 HN2.out (by rw [path_length]; omega) (by rw [path_length]; omega) HM1.out HM2.out).mono ?_
      rintro e w3 ⟨rfl, rfl⟩
      by_cases hMk : M = (k : Int) + 1
      · subst hMk
        have hbe : ((k : Int) + 1 == (k : Int) + 1) = true := by simp
        have HBl : Hid (Block zs (path zs ((k : Int) + 1) m)) := ⟨⟨_, m, HT.out, rfl, by omega, by omega⟩, by rw [path_head HT.out.1]; exact HM2.out⟩
        go_wp2_with (at_builtin; refine append_src rfl _ _ rfl rfl rfl HOq.out S2 HN2.out hnone2.out ?c1 ?c2 ?_)
        case c1 => rw [path_length]; omega
        case c2 => exact HB2.out.size
        intro v4 w4 hO4 hb4 hk4
        have HO4 : Hid (Owns w4 w.heap.size v4 (bs ++ [path zs ((k : Int) + 1) m]).flatten) := by
          show Owns _ _ _ _; rw [List.flatten_append]; simpa using hO4
        have HB4 : Hid (Below w.heap.size w w4) := HB2.out.trans hb4
        clear hO4 hb4 hk4
        go_wp2
        go_roundw
        case rel => exact ⟨k + 1, _, HLT.out, by go_num, HU.out.more HBl.out (path_head HT.out.1), HO4, HB4⟩
        case measure => have := HLT.out; simp [intOf]; omega
      · have hbe : (M == (k : Int) + 1) = false := beq_eq_false_iff_ne.2 hMk
        have HNo : Hid (∀ b, Block zs b → b.headD 0 ≠ (k : Int) + 1) := fun b hb he => by
          obtain ⟨n', m', ht', rfl, h1, h2⟩ := hb.n
          rw [path_head ht'.1] at he
          subst he
          have := ht'.uniq HT.out
          subst this
          have h3 := hb.top M HM1.out
          rw [path_head ht'.1] at h3
          have h4 := HM2.out ((k : Int) + 1) (mem_path.2 ⟨0, by omega, rfl⟩)
          exact hMk (by omega)
        clear hMk
        go_wp2
        go_roundw
        case rel => exact ⟨k + 1, bs, HLT.out, by go_num, HU.out.same HNo.out, HOq, HB2⟩
        case measure => have := HLT.out; simp [intOf]; omega
    · obtain rfl : k = zs.length := by omega
      have hle : decide ((zs.length : Int) + 1 ≤ (zs.length : Int)) = false := by simp; omega
      go_wp2
      go_ret2
      exact ⟨_, bs, rfl, HU.out.blocks HP.out, HO.out, HB.out⟩

end Go.Proofs.Ytnjbkiegeielhab
