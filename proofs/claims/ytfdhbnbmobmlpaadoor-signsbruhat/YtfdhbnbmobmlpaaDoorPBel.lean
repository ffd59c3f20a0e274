/-
  The contract of perms.Below.
-/
import Derived.Test.YtfdhbnbmobmlpaaDoorPChk
import Derived.Test.YtfdhbnbmobmlpaaDoorBMath
namespace Go.Proofs.YtfdhbnbmobmlpaaDoor
open Go.RowKit

def lead (xs ys : List Int) (i : Nat) : Nat → Int := fun j => ((cnt ((j : Int) + 1) (ys.take i) : Nat) : Int) - ((cnt ((j : Int) + 1) (xs.take i) : Nat) : Int)
def midB (xs ys : List Int) (i m : Nat) : Nat → Int := fun j => lead xs ys i j + if j < m then 1 else 0
def midA (xs ys : List Int) (i Y m : Nat) : Nat → Int := fun j => midB xs ys i Y j - if j < m then 1 else 0

theorem cnt_le (k : Int) (l : List Int) : cnt k l ≤ l.length := List.countP_le_length
theorem cnt_snoc (k : Int) (l : List Int) (z : Int) : cnt k (l ++ [z]) = cnt k l + ind (k ≤ z) := by rw [cnt_app, cnt_cons]; simp [cnt]
theorem lead_bound {xs ys : List Int} (hx : xs.length ≤ 40) (hy : ys.length ≤ 40) (i j : Nat) : -40 ≤ lead xs ys i j ∧ lead xs ys i j ≤ 40 := by
  unfold lead
  have h1 := cnt_le ((j : Int) + 1) (ys.take i)
  have h2 := cnt_le ((j : Int) + 1) (xs.take i)
  rw [List.length_take] at h1 h2
  omega
theorem midB_step (xs ys : List Int) (i m j : Nat) : midB xs ys i (m + 1) j = upd (midB xs ys i m) m (midB xs ys i m m + 1) j := by
  unfold upd midB
  by_cases e : j = m
  · subst e; simp
  · rw [if_neg e]
    by_cases h : j < m
    · rw [if_pos h, if_pos (by omega)]
    · rw [if_neg h, if_neg (by omega)]
theorem midA_step (xs ys : List Int) (i Y m j : Nat) : midA xs ys i Y (m + 1) j = upd (midA xs ys i Y m) m (midA xs ys i Y m m - 1) j := by
  unfold upd midA
  by_cases e : j = m
  · subst e; simp
  · rw [if_neg e]
    by_cases h : j < m
    · rw [if_pos h, if_pos (by omega)]
    · rw [if_neg h, if_neg (by omega)]
theorem lead_step {xs ys : List Int} {i X Y : Nat} (hx : i < xs.length) (hy : i < ys.length) (eX : xs.getD i 0 = (X : Int)) (eY : ys.getD i 0 = (Y : Int)) (j : Nat) : midA xs ys i Y X j = lead xs ys (i + 1) j := by
  unfold midA midB lead
  rw [take_snoc xs i hx, take_snoc ys i hy, cnt_snoc, cnt_snoc, eX, eY]
  unfold ind
  by_cases h1 : j < Y <;> by_cases h2 : j < X
  · rw [if_pos h1, if_pos h2, if_pos (by omega), if_pos (by omega)]; omega
  · rw [if_pos h1, if_neg h2, if_pos (by omega), if_neg (by omega)]; omega
  · rw [if_neg h1, if_pos h2, if_neg (by omega), if_pos (by omega)]; omega
  · rw [if_neg h1, if_neg h2, if_neg (by omega), if_neg (by omega)]; omega

/-- Below, so far. -/
def SoFar (xs ys : List Int) (i : Nat) : Prop := ∀ i' j, i' ≤ i → j < xs.length → 0 ≤ lead xs ys i' j

theorem sofar_under {xs ys : List Int} (hx : IsPerm xs) (hy : IsPerm ys) (hl : xs.length = ys.length) (h : SoFar xs ys xs.length) : Under xs ys := by
  rw [under_iff hx hy hl]
  intro i k hi hk
  by_cases e : k < xs.length
  · have := h i k hi e
    unfold lead at this; omega
  · have : cnt ((k : Int) + 1) (xs.take i) = 0 := by
      unfold cnt; rw [List.countP_eq_zero]; intro z hz; have := hx.high z (List.mem_of_mem_take hz); simp; omega
    omega
theorem under_lead {xs ys : List Int} (h : Under xs ys) (i j : Nat) : 0 ≤ lead xs ys i j := by
  have := h i ((j : Int) + 1)
  unfold lead; omega

set_option maxHeartbeats 1000000 in
theorem Below_ok (a b : Option Addr) (ca cb : Nat) (xs ys : List Int) (t : Bool) (w : World) (hs : Shows w a xs) (ht : Shows w b ys) (hx : IsPerm xs) (hy : IsPerm ys) (hl : xs.length = ys.length) (hT : t = true ↔ Under xs ys) :
    Calls Tryd.prog 8 #[.slice a xs.length ca, .slice b ys.length cb] w fun e w' => e = .returned (.tuple #[.bool t, .int .i64 0]) ∧ Below w.heap.size w w' := by
  have E : Hid (two xs ys = 0) := two_ok.2 ⟨hx, hy, hl⟩
  have h40 := hx.len
  have HX : Hid (IsPerm xs) := hx
  have HY : Hid (IsPerm ys) := hy
  have HL : Hid (xs.length = ys.length) := hl
  have HT : Hid (t = true ↔ Under xs ys) := hT
  have HBD : Hid (∀ i j, -40 ≤ lead xs ys i j ∧ lead xs ys i j ≤ 40) := fun i j => lead_bound hx.len hy.len i j
  clear hx hy hT hl
  obtain ⟨i0, hi, hz0, hz1, hz2⟩ := info_parts Tryd.info3
  go_enter Tryd.func8, Tryd.ntmps8
  go_wp2_with fail
  refine (checkTwo_is _ _ _ _ _ _ _ _ _ hs ht rfl rfl E).mono ?_
  rintro e w0 ⟨rfl, hb0⟩
  have HB0 : Hid (Below w.heap.size w w0) := hb0
  clear hb0
  go_wp2_with (at_make; refine wpList_make_full _ rfl _ _ 22 rfl w.heap.size 3 i0 (.int .i64 0) 1 Tryd.underlying22 hi hz0 hz1 _ _ _ _ xs.length rfl rfl rfl rfl ?b1 ?b2 ?b3 ?_)
  case b1 => rw [hz2]; omega
  case b2 => unfold maxLen; omega
  case b3 => exact HB0.out.size
  intro w1 hown hgrow
  have HB1 : Hid (Below w.heap.size w w1) := HB0.out.grown hgrow HB0.out.size (fun k h => by cases h)
  obtain ⟨g, hg⟩ : ∃ g, g = w0.heap.size := ⟨_, rfl⟩
  have HG : Hid (w.heap.size ≤ g) := by show _ ≤ _; rw [hg]; exact HB0.out.size
  have HO1 : Hid (Owns w1 w.heap.size (.slice (some ⟨g, 0, none⟩) xs.length xs.length) (tab xs.length (lead xs ys 0))) := by rw [hg]; exact (owns_made hown).tabCongr (fun j _ => by simp [lead, cnt])
  rw [← hg]
  clear hown hgrow hg
  go_wp2
  go_loopw [24] (fun i wr => ∃ k : Nat, k ≤ xs.length ∧ i = .int .i64 k ∧ Hid (SoFar xs ys k) ∧ Hid (Owns wr w.heap.size (.slice (some ⟨g, 0, none⟩) xs.length xs.length) (tab xs.length (lead xs ys k))) ∧ Hid (Below w.heap.size w wr)) (fun i _ => xs.length - (intOf i).toNat)
  case atStart => exact ⟨0, Nat.zero_le _, rfl, fun i' j h1 h2 => by
                    obtain rfl : i' = 0 := by omega
                    simp [lead, cnt], HO1, HB1⟩
  case round =>
    obtain ⟨k, hk, rfl, HS, HO, HB⟩ := hrel
    by_cases hlt : k < xs.length
    · have hlt' : (k : Int) < (xs.length : Int) := by omega
      have hly : k < ys.length := by have := HL.out; omega
      have hly' : (k : Int) < (ys.length : Int) := by omega
      have HLT : Hid (k < xs.length) := hlt
      obtain ⟨ba, oa, x, rfl, HXz, -, -, hca⟩ := (hs.below HB.out).elem hlt
      obtain ⟨bb, ob, y, rfl, HYz, -, -, hcb⟩ := (ht.below HB.out).elem hly
      have hxb := HX.out.bounds hlt
      have hyb := HY.out.bounds hly
      rw [← HXz.out] at hxb
      rw [← HYz.out] at hyb
      obtain ⟨X, rfl⟩ : ∃ X : Nat, x = X := ⟨x.toNat, by omega⟩
      obtain ⟨Y, rfl⟩ : ∃ Y : Nat, y = Y := ⟨y.toNat, by omega⟩
      have hX : X ≤ xs.length := by omega
      have hY : Y ≤ xs.length := by have := HL.out; omega
      have HSt : Hid (∀ j, midA xs ys k Y X j = lead xs ys (k + 1) j) := fun j => lead_step hlt hly HXz.out.symm HYz.out.symm j
      clear hxb hyb
      go_wp2
      go_loopw [31] (fun i wq => ∃ m : Nat, m ≤ Y ∧ i = .int .i64 m ∧ Hid (Owns wq w.heap.size (.slice (some ⟨g, 0, none⟩) xs.length xs.length) (tab xs.length (midB xs ys k m))) ∧ Hid (Below w.heap.size w wq)) (fun i _ => Y - (intOf i).toNat)
      case atStart => exact ⟨0, Nat.zero_le _, rfl, HO.out.tabCongr (fun j _ => by simp [midB]), HB⟩
      case round =>
        obtain ⟨m, hm, rfl, HO2, HB2⟩ := hrel
        by_cases hml : m < Y
        · have hml' : (m : Int) < (Y : Int) := by omega
          have hmn : (m : Int) < (xs.length : Int) := by omega
          obtain ⟨hfz, hcz⟩ := HO2.out.tabAt (j := m) (by omega)
          have hub : -40 ≤ midB xs ys k m m ∧ midB xs ys k m m ≤ 41 := by have := HBD.out k m; unfold midB; split <;> omega
          obtain ⟨u, HU⟩ : ∃ u, Hid (u = midB xs ys k m m) := ⟨_, rfl⟩
          rw [← HU.out] at hcz hub
          go_wp2
          go_roundw
          case rel => exact ⟨m + 1, by omega, by go_num, (HO2.out.tabStore m (u + 1)).tabCongr (fun j _ => by rw [midB_step, ← HU.out]), HB2.out.setCell HG.out _⟩
          case measure => simp [intOf]; omega
        · obtain rfl : m = Y := by omega
          have hca2 : wr.cell? ⟨ba, oa + k, none⟩ = some (.int .i64 (X : Int)) := by
            obtain ⟨b2, o2, x2, hbb, HX2, -, -, hc2⟩ := (hs.below HB2.out).elem HLT.out
            simp only [Option.some.injEq, Addr.mk.injEq, and_true] at hbb
            obtain ⟨rfl, rfl⟩ := hbb
            rw [hc2, HX2.out, ← HXz.out]
          go_wp2
          go_loopw [45] (fun i wq => ∃ n : Nat, n ≤ X ∧ i = .int .i64 n ∧ Hid (Owns wq w.heap.size (.slice (some ⟨g, 0, none⟩) xs.length xs.length) (tab xs.length (midA xs ys k m n))) ∧ Hid (Below w.heap.size w wq)) (fun i _ => X - (intOf i).toNat)
          case atStart => exact ⟨0, Nat.zero_le _, rfl, HO2.out.tabCongr (fun j _ => by simp [midA]), HB2⟩
          case round =>
            obtain ⟨n, hn, rfl, HO3, HB3⟩ := hrel
            by_cases hnl : n < X
            · have hnl' : (n : Int) < (X : Int) := by omega
              have hnn : (n : Int) < (xs.length : Int) := by omega
              obtain ⟨hfz, hcz⟩ := HO3.out.tabAt (j := n) (by omega)
              have hub : -41 ≤ midA xs ys k m n n ∧ midA xs ys k m n n ≤ 41 := by
                have := HBD.out k n
                unfold midA midB; split <;> split <;> omega
              obtain ⟨u, HU⟩ : ∃ u, Hid (u = midA xs ys k m n n) := ⟨_, rfl⟩
              rw [← HU.out] at hcz hub
              go_wp2
              go_roundw
              case rel => exact ⟨n + 1, by omega, by go_num, (HO3.out.tabStore n (u - 1)).tabCongr (fun j _ => by rw [midA_step, ← HU.out]), HB3.out.setCell HG.out _⟩
              case measure => simp [intOf]; omega
            · obtain rfl : n = X := by omega
              have HO4 : Hid (Owns wr w.heap.size (.slice (some ⟨g, 0, none⟩) xs.length xs.length) (tab xs.length (lead xs ys (k + 1)))) := HO3.out.tabCongr (fun j _ => HSt.out j)
              clear HO HO2 HO3
              go_wp2
              go_loopw [57] (fun i wq => ∃ l : Nat, l ≤ xs.length ∧ i = .int .i64 l ∧ Hid (∀ j, j < l → 0 ≤ lead xs ys (k + 1) j) ∧ wq = wr) (fun i _ => xs.length - (intOf i).toNat)
              case atStart => exact ⟨0, Nat.zero_le _, rfl, fun j hj => by omega, rfl⟩
              case round =>
                obtain ⟨l, hl2, rfl, HR, rfl⟩ := hrel
                by_cases hll : l < xs.length
                · have hll' : (l : Int) < (xs.length : Int) := by omega
                  obtain ⟨hfz, hcz⟩ := HO4.out.tabAt hll
                  have hub := HBD.out (k + 1) l
                  obtain ⟨u, HU⟩ : ∃ u, Hid (u = lead xs ys (k + 1) l) := ⟨_, rfl⟩
                  rw [← HU.out] at hcz hub
                  by_cases hu0 : u < 0
                  · have hb : decide (u < 0) = true := by simpa using hu0
                    have HF : Hid (t = false) := by
                      cases t with
                      | false => rfl
                      | true => have := under_lead (HT.out.1 rfl) (k + 1) l; rw [← HU.out] at this; omega
                    obtain rfl := HF.out
                    go_wp2
                    go_ret2
                    exact ⟨rfl, HB3.out⟩
                  · have hb : decide (u < 0) = false := by simpa using hu0
                    have HE : Hid (0 ≤ u) := by show _ ≤ _; omega
                    go_wp2
                    go_roundw
                    case rel => exact ⟨l + 1, by omega, by go_num, fun j hj => by
                                  by_cases hj' : j < l
                                  · exact HR.out j hj'
                                  · obtain rfl : j = l := by omega
                                    rw [← HU.out]; exact HE.out, by trivial⟩
                    case measure => simp [intOf]; omega
                · obtain rfl : l = xs.length := by omega
                  have HS2 : Hid (SoFar xs ys (k + 1)) := fun i' j h1 h2 => by
                    by_cases e : i' ≤ k
                    · exact HS.out i' j e h2
                    · obtain rfl : i' = k + 1 := by omega
                      exact HR.out j h2
                  go_wp2
                  go_roundw
                  case rel => exact ⟨k + 1, by have := HLT.out; omega, by go_num, HS2, HO4, HB3⟩
                  case measure => have := HLT.out; simp [intOf]; omega
    · obtain rfl : k = xs.length := by omega
      have HF : Hid (t = true) := HT.out.2 (sofar_under HX.out HY.out HL.out HS.out)
      obtain rfl := HF.out
      go_wp2
      go_ret2
      exact ⟨rfl, HB.out⟩

theorem Below_err (a b : Option Addr) (ca cb : Nat) (xs ys : List Int) (c : Int) (w : World) (hs : Shows w a xs) (ht : Shows w b ys) (h : two xs ys = c) (hc : (c != 0) = true) :
    Calls Tryd.prog 8 #[.slice a xs.length ca, .slice b ys.length cb] w fun e w' => e = .returned (.tuple #[.bool false, .int .i64 c]) ∧ Below w.heap.size w w' := by
  have E : Hid (two xs ys = c) := h
  clear h
  go_enter Tryd.func8, Tryd.ntmps8
  go_wp2_with fail
  refine (checkTwo_is _ _ _ _ _ _ _ _ _ hs ht rfl rfl E).mono ?_
  rintro e w' ⟨rfl, hb⟩
  go_wp2_with fail
  go_ret2
  exact ⟨rfl, hb⟩

/-- What Below answers. -/
def BelR (xs ys : List Int) (c : Int) (t : Bool) : Prop := two xs ys = c ∧ (c = 0 → (t = true ↔ Under xs ys)) ∧ (c ≠ 0 → t = false)

theorem Below_at {xs ys : List Int} {c : Int} {t : Bool} (a b : Option Addr) (n m ca cb : Nat) (w : World) (hs : Shows w a xs) (ht : Shows w b ys) (hn : n = xs.length) (hm : m = ys.length) (hr : BelR xs ys c t) :
    Calls Tryd.prog 8 #[.slice a n ca, .slice b m cb] w fun e w' => e = .returned (.tuple #[.bool t, .int .i64 c]) ∧ Below w.heap.size w w' := by
  subst hn; subst hm
  obtain ⟨h, h1, h2⟩ := hr
  by_cases hc : c = 0
  · subst hc
    obtain ⟨hx, hy, hl⟩ := two_ok.1 h
    exact Below_ok a b ca cb xs ys t w hs ht hx hy hl (h1 rfl)
  · rw [h2 hc]; exact Below_err a b ca cb xs ys c w hs ht h (bne_iff_ne.2 hc)

theorem belR_ex (xs ys : List Int) : ∃ c t, BelR xs ys c t := by
  by_cases h : two xs ys = 0
  · by_cases h2 : Under xs ys
    · exact ⟨0, true, h, fun _ => ⟨fun _ => h2, fun _ => rfl⟩, fun h => absurd rfl h⟩
    · exact ⟨0, false, h, fun _ => ⟨fun h3 => (Bool.noConfusion h3), fun h3 => absurd h3 h2⟩, fun h3 => absurd rfl h3⟩
  · exact ⟨_, false, rfl, fun h3 => absurd h3 h, fun _ => rfl⟩

#print axioms Below_at
end Go.Proofs.YtfdhbnbmobmlpaaDoor
