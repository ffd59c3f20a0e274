/-
  The law ferlaw.ParkingTrees.
-/
import Derived.Test.YtihafckdaecgkaaZBkc
import Derived.Test.YtihafckdaecgkaaZGrw
import Derived.Test.YtihafckdaecgkaaZCdd
import Derived.Test.YtihafckdaecgkaaZUng
import Derived.Test.YtihafckdaecgkaaZPrd
import Derived.Test.YtihafckdaecgkaaZPkw
import Derived.Deep.CutBlock
import Derived.Deep.DeepCutAuto
namespace Go.Proofs.Ytihafckdaecgkaa
open Go.RowKit

set_option maxHeartbeats 1000000 in
set_option maxRecDepth 100000 in
theorem listt_ok (a b : Option Addr) (ca cb n m : Nat) (w : World) (zs : List Int) (hs : Shows w a zs) (ht : Shows w b zs) (hn : Hid (n = zs.length)) (hm : Hid (m = zs.length)) :
    Calls Try.prog 7 #[.slice a n ca, .int .i64 0, .slice b m cb, .int .i64 0] w fun e w' => e = .returned (.bool true) ∧ Hid (Below w.heap.size w w') := by
  go_enter Try.func7, Try.ntmps7
  go_wp2_with (go_at_call 18; refine (Same_at _ _ _ _ _ _ zs zs _ hs ht hn.out hm.out true (by simp)).mono ?_; rintro e w1 ⟨rfl, k, rfl⟩)
  go_ret
  exact ⟨rfl, below_drewN (Below.refl _ _) k⟩

theorem bool_of (P : Prop) : ∃ t : Bool, (t = true ↔ P) := by
  by_cases h : P
  · exact ⟨true, by simp [h]⟩
  · exact ⟨false, by simp [h]⟩
theorem vb_of {n : Nat} {es : List Int} (h : es.length = n + 2) : VB (rgV 1 (n + 1)) es := fun v hv => by
  have := mem_rgV.1 hv; omega
theorem inIv_snoc {c : List Int} {k : Nat} (hk : k < c.length) {z lo hi : Int} (h : z = c.getD k 0) : inIv (c.take (k + 1)) lo hi = (inIv (c.take k) lo hi && (decide (lo ≤ z) && decide (z ≤ hi))) := by
  rw [take_snoc _ _ hk]
  unfold inIv
  rw [List.all_append, h]
  simp [List.getD, hk]
theorem ui_same {n : Nat} {L : List (Int × Int)} {D F : Nat → Int} {l1 l2 : List Int} (hn : n = L.length) (h1 : UI n (jnU L) D l1 n 0) (h2 : UI n (jnU L) F l2 n 0) : tab n D = tab n F := by
  obtain ⟨hL, hP⟩ := un_back h2 (jnU_je L) hn
  have hj : JE (jnU L) (L.map nrm) := fun a b => by
    rw [jnU_je L a b]
    constructor
    · rintro (h | h)
      · have := List.mem_map_of_mem (f := nrm) h
        rcases nrm_cases a b with e | e
        · rw [e] at this; exact Or.inl this
        · rw [e] at this; exact Or.inr this
      · have := List.mem_map_of_mem (f := nrm) h
        rcases nrm_cases b a with e | e
        · rw [e] at this; exact Or.inr this
        · rw [e] at this; exact Or.inl this
    · rintro (h | h)
      · obtain ⟨⟨p, q⟩, he, e⟩ := List.mem_map.1 h
        rcases nrm_cases p q with e2 | e2
        · rw [e2] at e; simp only [Prod.mk.injEq] at e; obtain ⟨rfl, rfl⟩ := e; exact Or.inl he
        · rw [e2] at e; simp only [Prod.mk.injEq] at e; obtain ⟨rfl, rfl⟩ := e; exact Or.inr he
      · obtain ⟨⟨p, q⟩, he, e⟩ := List.mem_map.1 h
        rcases nrm_cases p q with e2 | e2
        · rw [e2] at e; simp only [Prod.mk.injEq] at e; obtain ⟨rfl, rfl⟩ := e; exact Or.inr he
        · rw [e2] at e; simp only [Prod.mk.injEq] at e; obtain ⟨rfl, rfl⟩ := e; exact Or.inl he
  exact tab_congr (un_root hL hP.symm hj h1)
theorem nrm_srt {n k : Nat} {D : Nat → Int} : (trl D n k).map nrm = trl D n k := by
  induction k with
  | zero => rfl
  | succ k ih =>
    rw [trl, List.map_append, ih, List.map_map]
    congr 1
    refine List.map_congr_left (fun v _ => ?_)
    simp only [Function.comp_apply]
    unfold nrm
    simp only [Prod.mk.injEq]
    omega
theorem trr_nrm : ∀ {c es : List Int} {M : List (Int × Int)}, TrR es c M → M.map nrm = M
  | [], es, M, h => by
    obtain ⟨a, b, _, h2, _, _, rfl⟩ := h
    simp only [List.map_cons, List.map_nil, List.cons.injEq, and_true]
    unfold nrm
    simp only [Prod.mk.injEq]
    omega
  | o :: c, es, M, h => by
    obtain ⟨x, M', _, rfl, h3⟩ := h
    rw [List.map_cons, trr_nrm h3]
    congr 1
    unfold nrm
    simp only [Prod.mk.injEq]
    omega

set_option maxHeartbeats 8000000 in
set_option maxRecDepth 100000 in
theorem ptree_at (HSC : SortC) (d a b : Option Addr) (r n m cd ca cb : Nat) (zs ys : List Int) (L : List (Int × Int)) (w : World) (hu : ShowsP w d L) (hs : Shows w a zs) (ht : Shows w b ys) (hwf : WfP L) (hr : r = L.length) (hn : n = zs.length) (hm : m = ys.length) (hna : n ≤ ca) :
    Calls Try.prog 3 #[.slice d r cd, .slice a n ca, .slice b m cb] w fun e w' => e = .returned (.bool true) ∧ Below w.heap.size w w' := by
  have HS : Hid (Shows w a zs) := hs
  have HT : Hid (Shows w b ys) := ht
  have HU : Hid (ShowsP w d L) := hu
  have HN : Hid (n = zs.length) := hn
  have HM : Hid (m = ys.length) := hm
  have HR : Hid (r = L.length) := hr
  have HWf : Hid (WfP L) := hwf
  have hnb : n ≤ 17592186044416 := by have := hs.len; omega
  have hmb : m ≤ 17592186044416 := by have := ht.len; omega
  have hrb : r ≤ 8796093022208 := by have := hu.len; omega
  obtain ⟨r1, Hr1⟩ : ∃ r1 : Nat, Hid (r1 = r + 1) := ⟨_, rfl⟩
  have hr1 : (r : Int) + 1 = (r1 : Int) := by have := Hr1.out; omega
  have HC1 := Code_c d r cd L w hu hwf hr
  clear hs ht hu hn hm hr hwf
  go_enter Try.func3, Try.ntmps3
  go_wp2_with fail
  refine HC1.mono ?_
  rintro e w1 ⟨v7, E1, rfl, HZ1, HB1⟩
  clear HC1
  go_upto_block 0 with fail
  go_cut [33] (fun _ wx => Hid (Below w.heap.size w wx))
  case first =>
    by_cases h19 : r ≤ 19
    · by_cases h0 : r = 0
      · rcases HZ1.out with ⟨⟨h1, _⟩ | ⟨_, _, rfl⟩, rfl⟩ | ⟨_, h1, _⟩
        · exact absurd h1 (by rw [← HR.out]; omega)
        · have hg : ¬ (20 : Int) < (r1 : Int) := by have := Hr1.out; omega
          have hl : (r1 : Int) < 2 := by have := Hr1.out; omega
          clear h0
          go_wp2
          go_meet
          exact HB1
        · exact absurd h1 (by rw [← HR.out]; omega)
      · obtain ⟨t, ht⟩ := bool_of (Tr (rgV 1 (r + 1)) L)
        have HIs := IsTree_at d r cd 1 r1 L t w1 (HU.out.below HB1.out) HR.out (by omega) (Nat.le_refl _) (by have := Hr1.out; omega) ht
        rw [show ((1 : Nat) : Int) = 1 from rfl] at HIs
        have HTt : Hid (t = true ↔ Tr (rgV 1 (r + 1)) L) := ht
        have hg : ¬ (20 : Int) < (r1 : Int) := by have := Hr1.out; omega
        have hl : ¬ (r1 : Int) < 2 := by have := Hr1.out; omega
        have H19 : Hid (1 ≤ r ∧ r ≤ 19) := by show _ ∧ _; omega
        clear ht h19 h0
        go_wp2_with fail
        refine HIs.mono ?_
        rintro e w2 ⟨rfl, HBa⟩
        have HB2 : Hid (Below w.heap.size w w2) := HB1.out.trans (HBa.out.mono HB1.out.size)
        rcases t with _ | _
        · rcases HZ1.out with ⟨⟨h1, _⟩ | ⟨_, _, rfl⟩, rfl⟩ | ⟨_, _, _, h1, _⟩
          · exact absurd h1 (by rw [← HR.out]; have := H19.out; omega)
          · clear HIs HBa HZ1 HB1
            go_wp2
            go_meet
            exact HB2
          · rw [← HR.out] at h1
            have := HTt.out.2 h1
            cases this
        · have hT := HTt.out.1 rfl
          rcases HZ1.out with ⟨⟨h1, _⟩ | ⟨_, h1, _⟩, _⟩ | ⟨rfl, _, _, _, c, es, hE, hel, hC, hO⟩
          · exact absurd h1 (by rw [← HR.out]; have := H19.out; omega)
          · rw [← HR.out] at h1
            exact absurd h1 (fun h => by rcases h with h | h; have := H19.out; omega; exact h hT)
          · rw [← HR.out] at hel
            have HP := Pruned_at d r cd L es w2 (HU.out.below HB2.out) HR.out H19.out.1 (by have := H19.out; omega) hT hE (vb_of hel)
            have HCu : Hid (∀ k, CdR es k L → k = c) := fun k hk => (cdr_uniq hT hE (vb_of hel) hk hC)
            have hcb := inIv_iff.1 (code_tree HR.out hT hE hel hC).2.1
            have hcl := (code_tree HR.out hT hE hel hC).1
            have HOc : Hid (Owns w2 w.heap.size v7 c) := hO.below HBa.out
            have Hcb : Hid (c.length ≤ 18 ∧ ∀ z ∈ c, 1 ≤ z ∧ z ≤ 20) := by
              have := H19.out
              exact ⟨by omega, fun z hz => by have := hcb z hz; omega⟩
            clear hE hel hC hO hcb hcl hT HZ1 HIs HBa HB1
            go_wp2_with fail
            refine HP.mono ?_
            rintro e w3 ⟨v30, k, rfl, HCk, HOk, HBk⟩
            obtain rfl : k = c := HCu.out k HCk.out
            have HB3 : Hid (Below w.heap.size w w3) := HB2.out.trans (HBk.out.mono HB2.out.size)
            obtain ⟨ax, cx, hvx, hsx⟩ := (HOc.out.below HBk.out).shows (by have := Hcb.out.1; omega) (fun z hz => by have := Hcb.out.2 z hz; omega)
            obtain ⟨ay, cy, rfl, hsy⟩ := HOk.out.shows (by have := Hcb.out.1; omega) (fun z hz => by have := Hcb.out.2 z hz; omega)
            have HLi := listt_ok ax ay cx cy k.length k.length w3 k hsx hsy rfl rfl
            rw [← hvx] at HLi
            clear hsx hsy hvx HP HCu HCk HOk HBk HOc HB2
            go_wp2_with fail
            refine HLi.mono ?_
            rintro e w4 ⟨rfl, HB4⟩
            have HB5 : Hid (Below w.heap.size w w4) := HB3.out.trans (HB4.out.mono HB3.out.size)
            go_wp2
            go_meet
            exact HB5
    · rcases HZ1.out with ⟨⟨_, rfl⟩ | ⟨h1, _⟩, rfl⟩ | ⟨_, _, h1, _⟩
      · have hg : (20 : Int) < (r1 : Int) := by have := Hr1.out; omega
        go_wp2
        go_meet
        exact HB1
      · exact absurd h1 (by rw [← HR.out]; omega)
      · exact absurd h1 (by rw [← HR.out]; omega)
  case rest =>
    clear HZ1 HB1
    have HB1 := hcut
    clear hcut
    obtain ⟨wA, hwA⟩ : ∃ wA, wA = wc := ⟨_, rfl⟩
    subst hwA
    have HT1 := Tree_c HSC a n ca zs wA (HS.out.below HB1.out) HN.out
    obtain ⟨n2, Hn2⟩ : ∃ n2 : Nat, Hid (n2 = n + 2) := ⟨_, rfl⟩
    have hn2 : (n : Int) + 2 = (n2 : Int) := by have := Hn2.out; omega
    go_wp2_with fail
    refine HT1.mono ?_
    rintro e w2 ⟨v10, E2, rfl, HZ2, HBa⟩
    have HB2 : Hid (Below w.heap.size w w2) := HB1.out.trans (HBa.out.mono HB1.out.size)
    have HloA : Hid (w.heap.size ≤ wA.heap.size) := HB1.out.size
    have Ht0 : Hid (false = !inIv (zs.take 0) 1 (n2 : Int)) := rfl
    clear HT1 HBa HB1
    go_wp2
    go_loopw [12, 13, 66] (fun v12 _ v66 wq => ∃ k : Nat, ∃ t : Bool, k ≤ n ∧ v66 = .int .i64 (k : Int) ∧ v12 = .bool t ∧ Hid (t = !inIv (zs.take k) 1 (n2 : Int)) ∧ wq = w2) (fun _ _ v66 _ => n - (intOf v66).toNat)
    case atStart => exact ⟨0, false, Nat.zero_le _, rfl, rfl, Ht0, rfl⟩
    case round =>
      clear Ht0
      obtain ⟨k, t, hk, rfl, rfl, Ht, hw⟩ := hrel
      obtain rfl : w2 = wr := hw.symm
      clear hw
      by_cases hkn : k < n
      · have hkn' : (k : Int) < (n : Int) := by omega
        have hkz : k < zs.length := by rw [← HN.out]; exact hkn
        obtain ⟨b1, o1, z, rfl, Hz, hz1, hz2, hcz⟩ := (HS.out.below HB2.out).elem (k := k) hkz
        have Hsn : Hid (∀ t' : Bool, t' = !(!t && (decide (1 ≤ z) && decide (z ≤ (n2 : Int)))) → t' = !inIv (zs.take (k + 1)) 1 (n2 : Int)) := fun t' h => by
          rw [inIv_snoc hkz Hz.out, h, Ht.out]; simp
        rcases t with _ | _
        · by_cases c1 : z < 1
          · have HR1 : Hid (true = !inIv (zs.take (k + 1)) 1 (n2 : Int)) := Hsn.out true (by simp; omega)
            go_wp2
            go_roundw
            case rel => exact ⟨k + 1, true, by omega, by go_num, rfl, HR1, by first | rfl | trivial⟩
            case measure => simp [intOf]; omega
          · by_cases c2 : (n2 : Int) < z
            · have HR1 : Hid (true = !inIv (zs.take (k + 1)) 1 (n2 : Int)) := Hsn.out true (by simp; omega)
              go_wp2
              go_roundw
              case rel => exact ⟨k + 1, true, by omega, by go_num, rfl, HR1, by first | rfl | trivial⟩
              case measure => simp [intOf]; omega
            · have HR1 : Hid (false = !inIv (zs.take (k + 1)) 1 (n2 : Int)) := Hsn.out false (by simp; omega)
              go_wp2
              go_roundw
              case rel => exact ⟨k + 1, false, by omega, by go_num, rfl, HR1, by first | rfl | trivial⟩
              case measure => simp [intOf]; omega
        · have HR1 : Hid (true = !inIv (zs.take (k + 1)) 1 (n2 : Int)) := Hsn.out true (by simp)
          go_wp2
          go_roundw
          case rel => exact ⟨k + 1, true, by omega, by go_num, rfl, HR1, by first | rfl | trivial⟩
          case measure => simp [intOf]; omega
      · obtain rfl : k = n := by omega
        have hkn' : ¬ (k : Int) < (k : Int) := by omega
        have HtI : Hid (inIv zs 1 ((zs.length + 2 : Nat) : Int) = !t) := by
          have h := Ht.out
          rw [List.take_of_length_le (by rw [← HN.out]; exact Nat.le_refl _), Hn2.out, HN.out] at h
          show _ = _
          rw [h, Bool.not_not]
        clear Ht hkn
        go_upto_block 3 with fail
        go_cut [97] (fun _ wx => Hid (Below w.heap.size w wx))
        case first =>
          by_cases h18 : k ≤ 18
          · have hg : ¬ (18 : Int) < (k : Int) := by omega
            rcases t with _ | _
            · rcases HZ2.out with ⟨⟨h1, _⟩ | ⟨_, h1, _⟩, _⟩ | ⟨rfl, _, hiv, M, X, hM, hX, hS, hO⟩
              · exact absurd h1 (by rw [← HN.out]; omega)
              · rw [HtI.out] at h1; cases h1
              · have hcb : ∀ z ∈ zs, 1 ≤ z ∧ z ≤ (zs.length : Int) + 2 := fun z hz => by have := inIv_iff.1 hiv z hz; omega
                have HCo := Coded_at a k ca zs w2 (HS.out.below HB2.out) HN.out hna h18 hcb
                have HUq : Hid (∀ M', TrR (tst zs) zs M' → M' = M) := fun M' h => trr_uniq (St_start hcb) h hM
                have HMn : Hid (M.map nrm = M) := trr_nrm hM
                have hXl : X.length = k + 1 := by rw [hX.length_eq, hM.len, HN.out]
                obtain ⟨a5, c5, rfl, hs5⟩ := hO.shows (by omega)
                have HXs : Hid (X.Perm M ∧ SrtP X) := ⟨hX, hS⟩
                have HSX : Hid (ShowsP w2 a5 X) := hs5
                obtain ⟨y, Hy⟩ : ∃ y, Hid (y = X.length) := ⟨_, rfl⟩
                rw [← Hy.out]
                clear hX hS hO hs5 hXl hM hiv hcb HZ2
                go_wp2_with fail
                refine HCo.mono ?_
                rintro e w3 ⟨v3, M', X', rfl, HX', HO', HBb⟩
                have HB3 : Hid (Below w.heap.size w w3) := HB2.out.trans (HBb.out.mono HB2.out.size)
                obtain rfl : M' = M := HUq.out M' HX'.out.1
                obtain rfl : X = X' := HXs.out.2.uniq HX'.out.2.2 (HXs.out.1.trans (by rw [← HMn.out]; exact HX'.out.2.1.symm))
                obtain ⟨a6, c6, rfl, hs6⟩ := HO'.out.shows (by rw [← Hy.out]; have := Hy.out; have := HXs.out.1.length_eq; have := HX'.out.1.len; have := HN.out; omega)
                have HSm := SameP_same a5 a6 y X.length c5 c6 X w3 (HSX.out.below HBb.out) hs6 Hy.out rfl
                rw [← Hy.out] at HSm ⊢
                clear HCo HUq hs6 HO' HBb HB2 HX'
                go_wp2_with fail
                refine HSm.mono ?_
                rintro e w4 ⟨rfl, nq4, rfl⟩
                have HB4 : Hid (Below w.heap.size w (w3.drewN nq4)) := below_drewN HB3.out nq4
                go_wp2
                rw [Hy.out]
                go_meet
                exact HB4
            · rcases HZ2.out with ⟨⟨h1, _⟩ | ⟨_, _, rfl⟩, rfl⟩ | ⟨_, _, hiv, _⟩
              · exact absurd h1 (by rw [← HN.out]; omega)
              · go_wp2
                go_meet
                exact HB2
              · rw [HtI.out] at hiv; cases hiv
          · have hg : (18 : Int) < (k : Int) := by omega
            rcases HZ2.out with ⟨⟨_, rfl⟩ | ⟨h1, _⟩, rfl⟩ | ⟨_, h1, _⟩
            · go_wp2
              go_meet
              exact HB2
            · exact absurd h1 (by rw [← HN.out]; omega)
            · exact absurd h1 (by rw [← HN.out]; omega)
        case rest =>
          clear HZ2 HB2 HtI HloA
          have HB2 := hcut
          clear hcut
          obtain ⟨wB, hwB⟩ : ∃ wB, wB = wc := ⟨_, rfl⟩
          subst hwB
          have HR1 := Rooted_c HSC b m cb ys wB (HT.out.below HB2.out) HM.out
          go_wp2_with fail
          refine HR1.mono ?_
          rintro e w3 ⟨v14, E3, rfl, HZ3, HBa⟩
          have HB3 : Hid (Below w.heap.size w w3) := HB2.out.trans (HBa.out.mono HB2.out.size)
          clear HR1 HBa HB2
          obtain ⟨c, Hc⟩ : ∃ c : Int, Hid (plC ys (m : Int) = c) := ⟨_, rfl⟩
          have HCa := Cars_at b m cb ys (m : Int) c w3 (HT.out.below HB3.out) HM.out Hc.out
          have Hpl : Hid (plC ys (ys.length : Int) = c) := by rw [← HM.out]; exact Hc.out
          obtain ⟨B1, HB1'⟩ := bool_of (c = 0 ∧ ¬ Free (lk ys) ys.length)
          have HBl : Hid (B1 = true ↔ c = 0 ∧ ¬ Free (lk ys) ys.length) := HB1'
          clear HB1'
          go_wp2_with fail
          refine HCa.mono ?_
          rintro e w4 ⟨rfl, hw4⟩
          obtain rfl : w3 = w4 := hw4.symm
          clear hw4 HCa
          go_upto_region 28 with fail
          go_cut [132] (fun s132 wx => s132 = .bool B1 ∧ Hid (Below w3.heap.size w3 wx))
          case first =>
            by_cases hc0 : c = 0
            · subst hc0
              obtain ⟨h20, hz⟩ := plC_ok.1 Hpl.out
              have HP := Parked_at b m cb ys w3 (HT.out.below HB3.out) HM.out (by rw [HM.out]; exact h20) hz
              clear h20 hz
              go_wp2_with fail
              refine HP.mono ?_
              rintro e w4 ⟨v4, rfl, HPk, HB4⟩
              clear HP
              rcases HPk.out with ⟨hF, g, cp, rfl, _⟩ | ⟨hF, rfl⟩
              · obtain rfl : B1 = false := by
                  cases hB : B1 with
                  | false => rfl
                  | true => exact absurd hF (HBl.out.1 hB).2
                have heq : (binOp .eql 23 (.slice (some ⟨g, 0, none⟩) ys.length cp) (.slice none 0 0)).run Try.prog w4 = .ok (.bool false) w4 := Lib.run_eql_slice_nil w4 23 3 (some ⟨g, 0, none⟩) ys.length cp 0 0 Try.underlying23
                clear hF
                go_wp2
                go_meet
                exact ⟨rfl, HB4⟩
              · obtain rfl : B1 = true := HBl.out.2 (by first | exact ⟨rfl, hF⟩ | exact ⟨trivial, hF⟩ | exact hF)
                have heq : (binOp .eql 23 (.slice none 0 0) (.slice none 0 0)).run Try.prog w4 = .ok (.bool true) w4 := Lib.run_eql_slice_nil w4 23 3 none 0 0 0 0 Try.underlying23
                clear hF
                go_wp2
                go_meet
                exact ⟨rfl, HB4⟩
            · obtain rfl : B1 = false := by
                cases hB : B1 with
                | false => rfl
                | true => exact absurd (HBl.out.1 hB).1 hc0
              have hcb : (c == 0) = false := beq_eq_false_iff_ne.2 hc0
              have HB4 : Hid (Below w3.heap.size w3 w3) := Below.refl _ _
              go_wp2
              go_meet
              exact ⟨rfl, HB4⟩
          case rest =>
            obtain ⟨rfl, HBc⟩ := hcut
            obtain ⟨wC, hwC⟩ : ∃ wC, wC = wc := ⟨_, rfl⟩
            subst hwC
            go_upto_if 132 with fail
            go_cut [16] (fun s16 wx => s16 = .int .i64 E3 ∧ Hid (wx = wC))
            case first =>
              rcases B1 with _ | _
              · have hEc : c = E3 := by
                  have hb := HBl.out
                  rcases HZ3.out with ⟨h1, h2, _⟩ | ⟨h1, h2, _⟩
                  · rw [Hpl.out] at h2
                    unfold pkE at h1
                    rw [Hpl.out] at h1
                    by_cases hc0 : c = 0
                    · have := hb.2 ⟨hc0, fun hF => h2 ⟨hc0, hF⟩⟩
                      cases this
                    · rw [if_neg hc0] at h1; exact h1.symm
                  · rw [Hpl.out] at h2; rw [h1, h2]
                subst hEc
                go_wp2
                go_meet
                exact ⟨rfl, rfl⟩
              · have hEc : E3 = 5 := by
                  have hb := HBl.out.1 rfl
                  rcases HZ3.out with ⟨h1, _, _⟩ | ⟨_, _, h2, _⟩
                  · unfold pkE at h1
                    rw [Hpl.out, if_pos hb.1] at h1; exact h1
                  · exact absurd h2 hb.2
                subst hEc
                go_wp2
                go_meet
                exact ⟨rfl, rfl⟩
            case rest =>
              obtain ⟨rfl, HW⟩ := hcut
              obtain rfl : wC = wc := HW.out.symm
              clear HW
              have HBd : Hid (Below w.heap.size w wC) := HB3.out.trans (HBc.out.mono HB3.out.size)
              go_upto_region 30 with fail
              go_cut [155] (fun s155 wx => s155 = .bool false ∧ Hid (Below w.heap.size w wx))
              case first =>
                have hEE : (E3 != E3) = false := by simp
                rcases HZ3.out with ⟨h1, _, rfl⟩ | ⟨rfl, hpl, hfr, X, hX, hS, hO⟩
                · have hne : (E3 != 0) = true := bne_iff_ne.2 (by rw [h1]; exact pkE_no)
                  have hn0 : (E3 == 0) = false := beq_eq_false_iff_ne.2 (by rw [h1]; exact pkE_no)
                  clear h1
                  go_wp2
                  go_meet
                  exact ⟨rfl, HBd⟩
                · have h20 := (plC_ok.1 hpl).1
                  have hLo := long_of hpl hfr
                  have HG := Grew_at b m cb ys wC (HT.out.below HBd.out) HM.out (by rw [HM.out]; exact h20) (by rw [HM.out]; exact hLo)
                  have hXl : X.length = ys.length := by rw [hX.length_eq]; exact trl_len hLo
                  obtain ⟨a5, c5, rfl, hs5⟩ := hO.shows (by omega)
                  have HXs : Hid (X.Perm (trl (dOf ys) m m) ∧ SrtP X) := by rw [HM.out]; exact ⟨hX, hS⟩
                  have HSX : Hid (ShowsP wC a5 X) := hs5.below HBc.out
                  have Hxl : Hid (X.length ≤ 20) := by show _ ≤ _; omega
                  obtain ⟨y, Hy⟩ : ∃ y, Hid (y = X.length) := ⟨_, rfl⟩
                  rw [← Hy.out]
                  clear hX hS hO hs5 hXl hLo hpl hfr h20 HZ3
                  go_wp2_with fail
                  refine HG.mono ?_
                  rintro e w5 ⟨v5, X', rfl, HX', HO', HBb⟩
                  have HB5 : Hid (Below w.heap.size w w5) := HBd.out.trans (HBb.out.mono HBd.out.size)
                  obtain rfl : X = X' := HXs.out.2.uniq HX'.out.2 (HXs.out.1.trans HX'.out.1.symm)
                  obtain ⟨a6, c6, rfl, hs6⟩ := HO'.out.shows (by have := Hxl.out; omega)
                  have HSm := SameP_same a5 a6 y X.length c5 c6 X w5 (HSX.out.below HBb.out) hs6 Hy.out rfl
                  rw [← Hy.out] at HSm ⊢
                  clear HG hs6 HO' HBb HX'
                  go_wp2_with fail
                  refine HSm.mono ?_
                  rintro e w6 ⟨rfl, nq6, rfl⟩
                  have HB6 : Hid (Below w.heap.size w (w5.drewN nq6)) := below_drewN HB5.out nq6
                  go_wp2
                  rw [Hy.out]
                  go_meet
                  exact ⟨rfl, HB6⟩
              case rest =>
                obtain ⟨rfl, HBe⟩ := hcut
                obtain ⟨wD, hwD⟩ : ∃ wD, wD = wc := ⟨_, rfl⟩
                subst hwD
                clear HZ3 HBc HBd HB3 HBl Hpl Hc
                have HU1 := Unrooted_c d r cd L wD (HU.out.below HBe.out) HWf.out HR.out
                go_wp2_with fail
                refine HU1.mono ?_
                rintro e w6 ⟨v17, E4, rfl, HZ4, HBa⟩
                have HB6 : Hid (Below w.heap.size w w6) := HBe.out.trans (HBa.out.mono HBe.out.size)
                clear HU1 HBa HBe
                by_cases h20 : r ≤ 20
                · have hg : ¬ (20 : Int) < (r : Int) := by omega
                  obtain ⟨t, ht⟩ := bool_of (Tr (rgV 0 (r + 1)) L)
                  have HIs := IsTree_at d r cd 0 r L t w6 (HU.out.below HB6.out) HR.out h20 (by omega) (by omega) ht
                  rw [show ((0 : Nat) : Int) = 0 from rfl] at HIs
                  have HTt : Hid (t = true ↔ Tr (rgV 0 (r + 1)) L) := ht
                  clear ht
                  go_wp2_with fail
                  refine HIs.mono ?_
                  rintro e w7 ⟨rfl, HBa⟩
                  have HB7 : Hid (Below w.heap.size w w7) := HB6.out.trans (HBa.out.mono HB6.out.size)
                  rcases t with _ | _
                  · rcases HZ4.out with ⟨⟨h1, _⟩ | ⟨_, _, rfl⟩, rfl⟩ | ⟨_, _, h1, _⟩
                    · exact absurd h1 (by rw [← HR.out]; omega)
                    · clear HIs HBa HZ4 HB6
                      go_wp2
                      go_ret
                      exact ⟨rfl, HB7.out⟩
                    · rw [← HR.out] at h1
                      have := HTt.out.2 h1
                      cases this
                  · have hT := HTt.out.1 rfl
                    rcases HZ4.out with ⟨⟨h1, _⟩ | ⟨_, h1, _⟩, _⟩ | ⟨rfl, _, _, D, line, hUI, hO⟩
                    · exact absurd h1 (by rw [← HR.out]; omega)
                    · rw [← HR.out] at h1
                      exact absurd hT h1
                    · rw [← HR.out] at hUI hO
                      have HUg := Ungrew_at d r cd L w7 (HU.out.below HB7.out) HR.out h20 hT
                      have HUi : Hid (UI r (jnU L) D line r 0) := hUI
                      have hbz := (plC_ok.1 (un_rooted HR.out h20 hUI).1).2
                      have Hbz : Hid (∀ z ∈ tab r D, 1 ≤ z ∧ z ≤ 20) := fun z hz => by
                        have := hbz z hz
                        rw [tab_length] at this
                        omega
                      have HOd : Hid (Owns w7 wD.heap.size v17 (tab r D)) := hO.below HBa.out
                      clear hO hUI hbz hT HZ4 HIs HBa HB6
                      go_wp2_with fail
                      refine HUg.mono ?_
                      rintro e w8 ⟨v8, rfl, HUe, HBb⟩
                      have HB8 : Hid (Below w.heap.size w w8) := HB7.out.trans (HBb.out.mono HB7.out.size)
                      obtain ⟨F, l2, hF, hOF⟩ := HUe.out
                      have hFD := ui_same HR.out HUi.out hF
                      rw [← hFD] at hOF
                      obtain ⟨ax, cx, hvx, hsx⟩ := (HOd.out.below HBb.out).shows (by rw [tab_length]; omega) (fun z hz => by have := Hbz.out z hz; omega)
                      obtain ⟨ay, cy, hvy, hsy⟩ := hOF.shows (by rw [tab_length]; omega) (fun z hz => by have := Hbz.out z hz; omega)
                      have HLi := listt_ok ax ay cx cy (tab r D).length (tab r D).length w8 (tab r D) hsx hsy rfl rfl
                      rw [← hvx, ← hvy] at HLi
                      clear hsx hsy hvx hvy hFD hF hOF HUg HUe HBb
                      go_wp2_with fail
                      refine HLi.mono ?_
                      rintro e w9 ⟨rfl, HB9⟩
                      go_wp2
                      go_ret
                      exact ⟨rfl, HB8.out.trans (HB9.out.mono HB8.out.size)⟩
                · have hg : (20 : Int) < (r : Int) := by omega
                  rcases HZ4.out with ⟨⟨_, rfl⟩ | ⟨h1, _⟩, rfl⟩ | ⟨_, h1, _⟩
                  · go_wp2
                    go_ret
                    exact ⟨rfl, HB6.out⟩
                  · exact absurd h1 (by rw [← HR.out]; omega)
                  · exact absurd h1 (by rw [← HR.out]; omega)
end Go.Proofs.Ytihafckdaecgkaa
