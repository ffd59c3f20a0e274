/-
  The walk of the law PartsMerges: for every slice that can be read it returns true; nothing old has turned.
-/
import Derived.Test.YtopdmbgfdlnfdaaMgd
namespace Go.Proofs.Ytopdmbgfdlnfdaa
open Go.RowKit

theorem of_drew {w w' : World} (h : ∃ n, w' = w.drewN n) : Below w.heap.size w w' := by obtain ⟨n, rfl⟩ := h; exact below_drewN (Below.refl _ _) n

theorem chkD_part {zs : List Int} (h : IsPart zs) (h0 : chkD zs ≠ 0) : chkD zs = 3 ∧ ¬ Dist zs := by
  rcases chkD_cases zs with ⟨e, _, _⟩ | ⟨e, _, _⟩ | ⟨_, e⟩ | ⟨_, e⟩
  · exact absurd e h0
  · exact ⟨e, fun hd => h0 (chkD_ok.2 hd)⟩
  · rw [chk_ok.2 h] at e; omega
  · rw [chk_ok.2 h] at e; omega
theorem twice_pos {zs : List Int} (h : IsPart zs) (hd : ¬ Dist zs) : ∃ k : Nat, 1 ≤ k ∧ twiceV zs = k := by
  rcases twiceV_spec zs with h1 | ⟨k, h1, _, h3, _⟩
  · exact absurd ((twice_dist h).1 h1) hd
  · exact ⟨k, h1, h3⟩

theorem Merged_at {zs q : List Int} {c : Int} (a : Option Addr) (cap : Nat) (w : World) (hs : Shows w a zs) (hnone : Hid (a = none → zs = [] ∧ cap = 0)) (hp : IsPart zs) (hr : MergeR zs c q) :
    Calls Try.prog 24 #[.slice a zs.length cap] w fun e w' => ∃ v, e = .returned (.tuple #[v, .int .i64 c]) ∧ Owns w' w.heap.size v q ∧ Below w.heap.size w w' := by
  rcases hr with ⟨h, hc, hq⟩ | ⟨h, he, hc, hq⟩ | ⟨h, he, hc, hq⟩
  · exact absurd ((chk_ok.2 hp).symm.trans h).symm hc
  · rw [hc, hq]; exact (Merged_even a cap zs w hs h he).mono fun e w' ⟨he, hw⟩ => ⟨_, he, World.ownsRow_nil _ _ _ _, of_drew hw⟩
  · rw [hc, hq]; exact Merged_ok a cap zs w hs hnone h he
theorem Splitted_at {zs q : List Int} {c : Int} (a : Option Addr) (cap : Nat) (w : World) (hs : Shows w a zs) (hnone : Hid (a = none → zs = [] ∧ cap = 0)) (hp : IsPart zs) (hr : SplitR zs c q) :
    Calls Try.prog 25 #[.slice a zs.length cap] w fun e w' => ∃ v, e = .returned (.tuple #[v, .int .i64 c]) ∧ Owns w' w.heap.size v q ∧ Below w.heap.size w w' := by
  rcases hr with ⟨h, hc, hq⟩ | ⟨h, hc, hq⟩
  · obtain ⟨h3, hd⟩ := chkD_part hp (by rw [h]; exact hc)
    obtain ⟨k, hk, hkk⟩ := twice_pos hp hd
    rw [hq, ← h, h3]; exact (Splitted_err a cap zs w hs k (by omega) hkk).mono fun e w' ⟨he, hw⟩ => ⟨_, he, World.ownsRow_nil _ _ _ _, of_drew hw⟩
  · rw [hc, hq]; exact Splitted_ok a cap zs w hs hnone hp.small ((twice_dist hp).2 h)
theorem Moved_at {zs q : List Int} {c : Int} {m : Bool} (a : Option Addr) (cap : Nat) (w : World) (hs : Shows w a zs) (hnone : Hid (a = none → zs = [] ∧ cap = 0)) (hp : IsPart zs) (hr : FrankR zs c q m) :
    Calls Try.prog 26 #[.slice a zs.length cap] w fun e w' => ∃ v, e = .returned (.tuple #[v, .bool m, .int .i64 c]) ∧ Owns w' w.heap.size v q ∧ Below w.heap.size w w' := by
  rcases hr with ⟨h, hc, hq, hm⟩ | ⟨hz, hc, hq, hm⟩ | ⟨h, hn, hd, hc, hq, hm⟩ | ⟨h, hn, hd, hc, hq, hm⟩ | ⟨h, hn, hd, hu, hc, hq, hm⟩
  · obtain ⟨h3, hd⟩ := chkD_part hp (by rw [h]; exact hc)
    obtain ⟨k, hk, hkk⟩ := twice_pos hp hd
    rw [hq, hm, ← h, h3]; exact (Moved_err a cap zs w hs k (by omega) hkk).mono fun e w' ⟨he, hw⟩ => ⟨_, he, World.ownsRow_nil _ _ _ _, of_drew hw⟩
  · rw [hz, hc, hq, hm]; exact (Moved_nil a cap w).mono fun e w' ⟨he, hw⟩ => ⟨_, he, World.ownsRow_nil _ _ _ _, of_drew hw⟩
  · rw [hc]; exact Moved_ok a cap zs q m w hs hnone hp hn ((twice_dist hp).2 h) (Or.inl ⟨hd.1, hd.2, hq, hm⟩)
  · rw [hc]; exact Moved_ok a cap zs q m w hs hnone hp hn ((twice_dist hp).2 h) (Or.inr (Or.inl ⟨hd.1, hd.2, hq, hm⟩))
  · rw [hc]
    refine Moved_ok a cap zs q m w hs hnone hp hn ((twice_dist hp).2 h) (Or.inr (Or.inr ⟨?_, ?_, hq, hm⟩))
    · have := runN_le zs; unfold frankDown at hd; unfold frankUp at hu; omega
    · have := runN_le zs; unfold frankDown at hd; unfold frankUp at hu; omega

theorem list_at (a b : Option Addr) (ca cb n m : Nat) (w : World) (q : List Int) (c : Int) (hs : Shows w a q) (ht : Shows w b q) (hn : Hid (n = q.length)) (hm : Hid (m = q.length)) (hc : c ≠ 0 → q = []) :
    Calls Try.prog 14 #[.slice a n ca, .int .i64 c, .slice b m cb, .int .i64 c] w fun e w' => e = .returned (.bool true) ∧ ∃ n, w' = w.drewN n := by
  by_cases h : c = 0
  · subst h; exact list_ok a b ca cb n m w q hs ht hn hm
  · have := hc h
    subst this
    obtain rfl : n = 0 := hn.out
    exact list_err a b ca cb m w c (bne_iff_ne.2 h)

theorem mergeR_q {zs q : List Int} {c : Int} (h : MergeR zs c q) : (c ≠ 0 → q = []) ∧ Small q := by
  rcases h with ⟨_, hc, hq⟩ | ⟨_, _, hc, hq⟩ | ⟨h, he, hc, hq⟩
  · exact ⟨fun _ => hq, by rw [hq]; exact ⟨fun z hz => (by cases hz), by decide⟩⟩
  · exact ⟨fun _ => hq, by rw [hq]; exact ⟨fun z hz => (by cases hz), by decide⟩⟩
  · exact ⟨fun h0 => absurd hc h0, by rw [hq]; exact (euler_there h he).1.1.small⟩
theorem splitR_q {zs q : List Int} {c : Int} (h : SplitR zs c q) : (c ≠ 0 → q = []) ∧ Small q := by
  rcases h with ⟨_, hc, hq⟩ | ⟨h, hc, hq⟩
  · exact ⟨fun _ => hq, by rw [hq]; exact ⟨fun z hz => (by cases hz), by decide⟩⟩
  · exact ⟨fun h0 => absurd hc h0, by rw [hq]; exact (euler_back h).1.small⟩
theorem frankR_q {zs q : List Int} {c : Int} {m : Bool} (h : FrankR zs c q m) : (c ≠ 0 → q = []) ∧ Small q := by
  have nil : Small [] := ⟨fun z hz => (by cases hz), by decide⟩
  rcases h with ⟨_, hc, hq, _⟩ | ⟨_, hc, hq, _⟩ | ⟨h, hn, hd, hc, hq, _⟩ | ⟨h, hn, hd, hc, hq, _⟩ | ⟨h, hn, hd, hu, hc, hq, _⟩
  · exact ⟨fun _ => hq, by rw [hq]; exact nil⟩
  · exact ⟨fun _ => hq, by rw [hq]; exact nil⟩
  · exact ⟨fun h0 => absurd hc h0, by rw [hq]; exact (down_up h hn hd).1.1.small⟩
  · exact ⟨fun h0 => absurd hc h0, by rw [hq]; exact (up_down h hn hd).1.1.small⟩
  · exact ⟨fun h0 => absurd hc h0, by rw [hq]; exact h.1.small⟩

set_option maxHeartbeats 8000000 in
theorem merges_ok (a : Option Addr) (cap : Nat) (zs qa qb qc : List Int) (m : Bool) (c1 c2 c3 : Int) (w : World) (hs : Shows w a zs) (hcap : zs.length ≤ cap) (hnone : Hid (a = none → zs = [] ∧ cap = 0)) (hp : IsPart zs) (E : Hid (chk zs = 0))
    (r1 : Hid (MergeR zs c1 qa)) (r2 : Hid (SplitR zs c2 qb)) (r3 : Hid (FrankR zs c3 qc m)) (p1 : Hid ((c1 ≠ 0 → qa = []) ∧ Small qa)) (p2 : Hid ((c2 ≠ 0 → qb = []) ∧ Small qb)) (p3 : Hid ((c3 ≠ 0 → qc = []) ∧ Small qc)) :
    Calls Try.prog 4 #[.slice a zs.length cap] w fun e w' => e = .returned (.bool true) ∧ Below w.heap.size w w' := by
  go_enter Try.func4, Try.ntmps4
  go_wp2_with fail
  refine (Merge_at _ _ _ _ hs rfl r1.out).mono ?_
  rintro e w1 ⟨va, rfl, hoa, hb⟩
  have HB1 : Hid (Below w.heap.size w w1) := hb
  obtain ⟨aa, na, ka, rfl, Sa, hna, -⟩ := hoa.opened (by have := p1.out.2.len; omega) (small_wf' p1.out.2)
  have Na : Hid (na = (qa).length) := hna
  clear hoa hna
  clear hb
  have Sp := hs.below HB1.out
  go_wp2_with fail
  refine (Split_at _ _ _ _ Sp rfl r2.out).mono ?_
  rintro e w2 ⟨vb, rfl, hob, hb⟩
  have HB2 : Hid (Below w.heap.size w w2) := HB1.out.trans (hb.mono HB1.out.size)
  replace Sa := Sa.below hb
  replace Sp := Sp.below hb
  obtain ⟨ab, nb, kb, rfl, Sb, hnb, -⟩ := hob.opened (by have := p2.out.2.len; omega) (small_wf' p2.out.2)
  have Nb : Hid (nb = (qb).length) := hnb
  clear hob hnb
  clear hb
  go_wp2_with fail
  refine (Franklin_at _ _ _ _ Sp rfl hcap r3.out).mono ?_
  rintro e w3 ⟨vc, rfl, hoc, hb⟩
  have HB3 : Hid (Below w.heap.size w w3) := HB2.out.trans (hb.mono HB2.out.size)
  replace Sa := Sa.below hb
  replace Sp := Sp.below hb
  replace Sb := Sb.below hb
  obtain ⟨ac, nc, kc, rfl, Sc, hnc, -⟩ := hoc.opened (by have := p3.out.2.len; omega) (small_wf' p3.out.2)
  have Nc : Hid (nc = (qc).length) := hnc
  clear hoc hnc
  clear hb
  go_wp2_with fail
  refine (Part_is _ _ _ _ Sp E).mono ?_
  rintro e w4 ⟨rfl, hd⟩
  have hb : Below w3.heap.size w3 w4 := by obtain ⟨n, rfl⟩ := hd; exact below_drewN (Below.refl _ _) n
  have HB4 : Hid (Below w.heap.size w w4) := HB3.out.trans (hb.mono HB3.out.size)
  replace Sa := Sa.below hb
  replace Sp := Sp.below hb
  replace Sb := Sb.below hb
  replace Sc := Sc.below hb
  clear hd hb
  go_wp2_with fail
  refine (Merged_at _ _ _ Sp hnone hp r1.out).mono ?_
  rintro e w5 ⟨vx, rfl, hox, hb⟩
  have HB5 : Hid (Below w.heap.size w w5) := HB4.out.trans (hb.mono HB4.out.size)
  replace Sa := Sa.below hb
  replace Sp := Sp.below hb
  replace Sb := Sb.below hb
  replace Sc := Sc.below hb
  obtain ⟨ax, nx, kx, rfl, Sx, hnx, -⟩ := hox.opened (by have := p1.out.2.len; omega) (small_wf' p1.out.2)
  have Nx : Hid (nx = (qa).length) := hnx
  clear hox hnx
  clear hb
  go_wp2_with fail
  refine (Splitted_at _ _ _ Sp hnone hp r2.out).mono ?_
  rintro e w6 ⟨vy, rfl, hoy, hb⟩
  have HB6 : Hid (Below w.heap.size w w6) := HB5.out.trans (hb.mono HB5.out.size)
  replace Sa := Sa.below hb
  replace Sp := Sp.below hb
  replace Sb := Sb.below hb
  replace Sc := Sc.below hb
  replace Sx := Sx.below hb
  obtain ⟨ay, ny, ky, rfl, Sy, hny, -⟩ := hoy.opened (by have := p2.out.2.len; omega) (small_wf' p2.out.2)
  have Ny : Hid (ny = (qb).length) := hny
  clear hoy hny
  clear hb
  go_wp2_with fail
  refine (Moved_at _ _ _ Sp hnone hp r3.out).mono ?_
  rintro e w7 ⟨vz, rfl, hoz, hb⟩
  have HB7 : Hid (Below w.heap.size w w7) := HB6.out.trans (hb.mono HB6.out.size)
  replace Sa := Sa.below hb
  replace Sp := Sp.below hb
  replace Sb := Sb.below hb
  replace Sc := Sc.below hb
  replace Sx := Sx.below hb
  replace Sy := Sy.below hb
  obtain ⟨az, nz, kz, rfl, Sz, hnz, -⟩ := hoz.opened (by have := p3.out.2.len; omega) (small_wf' p3.out.2)
  have Nz : Hid (nz = (qc).length) := hnz
  clear hoz hnz
  clear hb
  go_wp2_with fail
  refine (list_at _ _ _ _ _ _ _ qa c1 Sa Sx Na Nx p1.out.1).mono ?_
  rintro e w8 ⟨rfl, hd⟩
  have hb : Below w7.heap.size w7 w8 := by obtain ⟨n, rfl⟩ := hd; exact below_drewN (Below.refl _ _) n
  have HB8 : Hid (Below w.heap.size w w8) := HB7.out.trans (hb.mono HB7.out.size)
  replace Sa := Sa.below hb
  replace Sp := Sp.below hb
  replace Sb := Sb.below hb
  replace Sc := Sc.below hb
  replace Sx := Sx.below hb
  replace Sy := Sy.below hb
  replace Sz := Sz.below hb
  clear hd hb
  go_wp2_with fail
  refine (list_at _ _ _ _ _ _ _ qb c2 Sb Sy Nb Ny p2.out.1).mono ?_
  rintro e w9 ⟨rfl, hd⟩
  have hb : Below w8.heap.size w8 w9 := by obtain ⟨n, rfl⟩ := hd; exact below_drewN (Below.refl _ _) n
  have HB9 : Hid (Below w.heap.size w w9) := HB8.out.trans (hb.mono HB8.out.size)
  replace Sa := Sa.below hb
  replace Sp := Sp.below hb
  replace Sb := Sb.below hb
  replace Sc := Sc.below hb
  replace Sx := Sx.below hb
  replace Sy := Sy.below hb
  replace Sz := Sz.below hb
  clear hd hb
  go_wp2_with fail
  refine (list_at _ _ _ _ _ _ _ qc c3 Sc Sz Nc Nz p3.out.1).mono ?_
  rintro e w10 ⟨rfl, hd⟩
  have hb : Below w9.heap.size w9 w10 := by obtain ⟨n, rfl⟩ := hd; exact below_drewN (Below.refl _ _) n
  have HB10 : Hid (Below w.heap.size w w10) := HB9.out.trans (hb.mono HB9.out.size)
  replace Sa := Sa.below hb
  replace Sp := Sp.below hb
  replace Sb := Sb.below hb
  replace Sc := Sc.below hb
  replace Sx := Sx.below hb
  replace Sy := Sy.below hb
  replace Sz := Sz.below hb
  clear hd hb
  cases m
  · go_wp2_with fail
    go_ret
    exact ⟨rfl, HB10.out⟩
  · go_wp2_with fail
    go_ret
    exact ⟨rfl, HB10.out⟩

set_option maxHeartbeats 8000000 in
theorem merges_err (a : Option Addr) (cap : Nat) (zs : List Int) (c : Int) (w : World) (hs : Shows w a zs) (hcap : zs.length ≤ cap) (hc : (c != 0) = true) (E : Hid (chk zs = c))
    (r1 : Hid (MergeR zs c [])) (r2 : Hid (SplitR zs c [])) (r3 : Hid (FrankR zs c [] false)) :
    Calls Try.prog 4 #[.slice a zs.length cap] w fun e w' => e = .returned (.bool true) ∧ Below w.heap.size w w' := by
  go_enter Try.func4, Try.ntmps4
  go_wp2_with fail
  refine (Merge_at _ _ _ _ hs rfl r1.out).mono ?_
  rintro e w1 ⟨va, rfl, hoa, hb⟩
  have HB1 : Hid (Below w.heap.size w w1) := hb
  obtain ⟨aa, na, ka, rfl, Sa, hna, -⟩ := hoa.opened (by decide) (by decide)
  have Na : Hid (na = ([] : List Int).length) := hna
  clear hoa hna
  clear hb
  have Sp := hs.below HB1.out
  go_wp2_with fail
  refine (Split_at _ _ _ _ Sp rfl r2.out).mono ?_
  rintro e w2 ⟨vb, rfl, hob, hb⟩
  have HB2 : Hid (Below w.heap.size w w2) := HB1.out.trans (hb.mono HB1.out.size)
  replace Sa := Sa.below hb
  replace Sp := Sp.below hb
  obtain ⟨ab, nb, kb, rfl, Sb, hnb, -⟩ := hob.opened (by decide) (by decide)
  have Nb : Hid (nb = ([] : List Int).length) := hnb
  clear hob hnb
  clear hb
  go_wp2_with fail
  refine (Franklin_at _ _ _ _ Sp rfl hcap r3.out).mono ?_
  rintro e w3 ⟨vc, rfl, hoc, hb⟩
  have HB3 : Hid (Below w.heap.size w w3) := HB2.out.trans (hb.mono HB2.out.size)
  replace Sa := Sa.below hb
  replace Sp := Sp.below hb
  replace Sb := Sb.below hb
  obtain ⟨ac, nc, kc, rfl, Sc, hnc, -⟩ := hoc.opened (by decide) (by decide)
  have Nc : Hid (nc = ([] : List Int).length) := hnc
  clear hoc hnc
  clear hb
  go_wp2_with fail
  refine (Part_is _ _ _ _ Sp E).mono ?_
  rintro e w4 ⟨rfl, hd⟩
  have hb : Below w3.heap.size w3 w4 := by obtain ⟨n, rfl⟩ := hd; exact below_drewN (Below.refl _ _) n
  have HB4 : Hid (Below w.heap.size w w4) := HB3.out.trans (hb.mono HB3.out.size)
  replace Sa := Sa.below hb
  replace Sp := Sp.below hb
  replace Sb := Sb.below hb
  replace Sc := Sc.below hb
  clear hd hb
  obtain rfl : na = 0 := Na.out
  obtain rfl : nb = 0 := Nb.out
  obtain rfl : nc = 0 := Nc.out
  go_wp2_with fail
  go_ret
  exact ⟨rfl, HB4.out⟩

theorem merges_any (a : Option Addr) (cap : Nat) (zs : List Int) (w : World) (hs : Shows w a zs) (hcap : zs.length ≤ cap) (hnone : a = none → zs = [] ∧ cap = 0) :
    Calls Try.prog 4 #[.slice a zs.length cap] w fun e w' => e = .returned (.bool true) ∧ Below w.heap.size w w' := by
  by_cases h : chk zs = 0
  · have hp := chk_ok.1 h
    obtain ⟨c1, qa, r1⟩ : ∃ c q, MergeR zs c q := by
      cases he : evenB zs with
      | true => exact ⟨3, [], Or.inr (Or.inl ⟨hp, he, rfl, rfl⟩)⟩
      | false => exact ⟨0, _, Or.inr (Or.inr ⟨hp, he, rfl, rfl⟩)⟩
    obtain ⟨c2, qb, r2⟩ : ∃ c q, SplitR zs c q := by
      by_cases hd : chkD zs = 0
      · exact ⟨0, _, Or.inr ⟨chkD_ok.1 hd, rfl, rfl⟩⟩
      · exact ⟨_, [], Or.inl ⟨rfl, hd, rfl⟩⟩
    obtain ⟨c3, qc, m, r3⟩ : ∃ c q m, FrankR zs c q m := by
      by_cases hd : chkD zs = 0
      · have hD := chkD_ok.1 hd
        by_cases hn : 0 < zs.length
        · by_cases h1 : frankDown zs
          · exact ⟨_, _, _, .down hD hn h1⟩
          · by_cases h2 : frankUp zs
            · exact ⟨_, _, _, .up hD hn h2⟩
            · exact ⟨_, _, _, .stay hD hn h1 h2⟩
        · obtain rfl : zs = [] := List.eq_nil_of_length_eq_zero (by omega)
          exact ⟨_, _, _, .nil⟩
      · exact ⟨_, _, _, .err rfl hd⟩
    exact merges_ok a cap zs qa qb qc m c1 c2 c3 w hs hcap hnone hp h r1 r2 r3 (mergeR_q r1) (splitR_q r2) (frankR_q r3)
  · have hD : chkD zs = chk zs := by unfold chkD; rw [if_neg h]
    exact merges_err a cap zs _ w hs hcap (bne_iff_ne.2 h) rfl (Or.inl ⟨rfl, h, rfl⟩) (Or.inl ⟨hD, h, rfl⟩) (.err hD h)

#print axioms merges_any
end Go.Proofs.Ytopdmbgfdlnfdaa
