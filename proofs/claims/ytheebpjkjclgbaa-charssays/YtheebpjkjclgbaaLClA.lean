/-
  For the law CharsSays: its callees' contracts in one form each, whether they refuse or not.
-/
import Derived.Test.YtheebpjkjclgbaaKTab
import Derived.Test.YtheebpjkjclgbaaLCls
import Derived.Test.YtheebpjkjclgbaaLChr
import Derived.Test.YtheebpjkjclgbaaRPrt
import Derived.Test.YtheebpjkjclgbaaCApt
namespace Go.Proofs.Ytheebpjkjclgbaa
open Go.RowKit

/-- The code of Strips, and its list. -/
def strF (zs : List Int) (k : Int) : Int := if ptC zs ≠ 0 then ptC zs else if k < 1 then 1 else 0
def strL (zs : List Int) (k : Int) : List (List Int × Nat) := if strF zs k = 0 then stpL zs k.toNat else []
theorem strF_zero {zs : List Int} {k : Int} : strF zs k = 0 ↔ ptC zs = 0 ∧ 1 ≤ k := by
  unfold strF
  by_cases h : ptC zs = 0
  · rw [if_neg (by simp [h])]
    by_cases h2 : k < 1
    · rw [if_pos h2]; constructor
      · intro q; cases q
      · rintro ⟨_, q⟩; omega
    · rw [if_neg h2]; exact ⟨fun _ => ⟨h, by omega⟩, fun _ => rfl⟩
  · rw [if_pos h]; exact ⟨fun q => absurd q h, fun q => q.1⟩
theorem Strips_all (a : Option Addr) (n cap : Nat) (k : Int) (zs : List Int) (w : World) (hs : Shows w a zs) (hn : n = zs.length) (hk : k ≤ 9223372036854775807) :
    Calls Try.prog 4 #[.slice a n cap, .int .i64 k] w fun e w' => ∃ v X, e = .returned (.tuple #[v, .int .i64 (strF zs k)]) ∧ Hid (Stl w' w.heap.size v X) ∧ Hid (X.map Prod.snd = strL zs k) ∧ Hid (Below w.heap.size w w') := by
  by_cases h : ptC zs = 0 ∧ 1 ≤ k
  · have h0 := strF_zero.2 h
    obtain ⟨kn, rfl⟩ : ∃ kn : Nat, k = (kn : Int) := ⟨k.toNat, by omega⟩
    refine (Strips_ok a n cap kn zs w hs hn (pt_of h.1) (by omega) (by omega)).mono ?_
    rintro e w' ⟨v, rfl, X, h1, h2, h3⟩
    refine ⟨v, X, by rw [h0], h1, ?_, h3⟩
    show _ = _
    unfold strL
    rw [if_pos h0, h2, Int.toNat_natCast]
  · have h0 : strF zs k ≠ 0 := fun q => h (strF_zero.1 q)
    refine (Strips_code a n cap k zs w hs hn h).mono ?_
    rintro e w' ⟨r, rfl, HR, HB⟩
    refine ⟨.slice none 0 0, [], ?_, Stl.nil _ _, ?_, HB⟩
    · rw [HR.out]
      congr 5
      unfold strC strF
      by_cases h1 : ptC zs = 0
      · rw [if_neg (by simp [h1]), if_neg (by simp [h1]), if_pos (by rcases Int.lt_or_le k 1 with q | q; exact q; exact absurd ⟨h1, q⟩ h)]
      · rw [if_pos h1, if_pos h1]
    · show _ = _
      unfold strL
      rw [if_neg h0]; rfl

/-- What Character tells. -/
def chrV (zs cs : List Int) : Int := if chrC zs cs = 0 then chi (natL cs) zs else 0
theorem chrC_zero {zs cs : List Int} : chrC zs cs = 0 ↔ Good zs cs := by
  refine ⟨fun h => ?_, chrC_good⟩
  unfold chrC at h
  by_cases h1 : ptC zs = 0
  · rw [if_neg (by simp [h1])] at h
    by_cases h2 : ptC cs = 0
    · rw [if_neg (by simp [h2])] at h
      by_cases h3 : szN zs = szN cs
      · rw [if_neg (by simp [h3])] at h
        by_cases h4 : 12 < szN zs
        · rw [if_pos h4] at h; cases h
        · exact ⟨h1, h2, h3, by omega⟩
      · rw [if_pos h3] at h; cases h
    · rw [if_pos h2] at h; exact absurd h h2
  · rw [if_pos h1] at h; exact absurd h h1
theorem Character_all (a ac : Option Addr) (n nc cap cc : Nat) (zs cs : List Int) (w : World) (hs : Shows w a zs) (hn : n = zs.length) (hsc : Shows w ac cs) (hnc : nc = cs.length) (hcc : nc ≤ cc) :
    Calls Try.prog 8 #[.slice a n cap, .slice ac nc cc] w fun e w' => e = .returned (.tuple #[.int .i64 (chrV zs cs), .int .i64 (chrC zs cs)]) ∧ Hid (Below w.heap.size w w') := by
  by_cases h : Good zs cs
  · refine (Character_ok a ac n nc cap cc zs cs w hs hn hsc hnc hcc h).mono ?_
    rintro e w' ⟨rfl, hb⟩
    refine ⟨?_, hb⟩
    unfold chrV
    rw [chrC_good h, if_pos rfl]
  · refine (Character_code a ac n nc cap cc zs cs w hs hn hsc hnc h).mono ?_
    rintro e w' ⟨r, rfl, HR, rfl⟩
    refine ⟨?_, Below.refl _ _⟩
    unfold chrV
    rw [if_neg (fun q => h (chrC_zero.1 q)), HR.out]

/-- .. Class. -/
def clsF (c : List Int) : Int := if ptC c ≠ 0 then ptC c else if 12 < szN c then 2 else 0
def clsV (c : List Int) : Int := if clsF c = 0 then (clN (szN c) c : Int) else 0
theorem clsF_zero {c : List Int} : clsF c = 0 ↔ ptC c = 0 ∧ szN c ≤ 12 := by
  unfold clsF
  by_cases h1 : ptC c = 0
  · rw [if_neg (by simp [h1])]
    by_cases h2 : 12 < szN c
    · rw [if_pos h2]; constructor
      · intro q; cases q
      · rintro ⟨_, q⟩; omega
    · rw [if_neg h2]; exact ⟨fun _ => ⟨h1, by omega⟩, fun _ => rfl⟩
  · rw [if_pos h1]; exact ⟨fun q => absurd q h1, fun q => q.1⟩
theorem Class_all (a : Option Addr) (m cap : Nat) (c : List Int) (w : World) (hs : Shows w a c) (hm : m = c.length) :
    Calls Try.prog 12 #[.slice a m cap] w fun e w' => e = .returned (.tuple #[.int .i64 (clsV c), .int .i64 (clsF c)]) ∧ w' = w := by
  by_cases h : ptC c = 0 ∧ szN c ≤ 12
  · refine (Class_ok a m cap (szN c) c w hs hm (pt_of h.1) rfl h.2).mono ?_
    rintro e w' ⟨rfl, rfl⟩
    refine ⟨?_, rfl⟩
    unfold clsV
    rw [clsF_zero.2 h, if_pos rfl]
  · refine (Class_code a m cap c w hs hm h).mono ?_
    rintro e w' ⟨r, rfl, HR, rfl⟩
    refine ⟨?_, rfl⟩
    unfold clsV
    rw [if_neg (fun q => h (clsF_zero.1 q)), HR.out]
    congr 5
    unfold clsC clsF
    by_cases h1 : ptC c = 0
    · rw [if_neg (by simp [h1]), if_neg (by simp [h1]), if_pos (by rcases Nat.lt_or_ge 12 (szN c) with q | q; exact q; exact absurd ⟨h1, q⟩ h)]
    · rw [if_pos h1, if_pos h1]

set_option maxHeartbeats 1000000 in
theorem tabr_ok (a b : Option Addr) (ca cb n m : Nat) (w : World) (ls : List (List Int)) (hs : Table w a ls) (ht : Table w b ls) (hn : Hid (n = ls.length)) (hm : Hid (m = ls.length)) (hl : ls.length ≤ 17592186044416) :
    Calls Try.prog 16 #[.slice a n ca, .int .i64 0, .slice b m cb, .int .i64 0] w fun e w' => e = .returned (.bool true) ∧ ∃ n, w' = w.drewN n := by
  go_enter Try.func16, Try.ntmps16
  go_wp2_with (go_at_call 34; refine (RowsL_r _ _ _ _ _ _ ls _ hs ht hn.out hm.out hl).mono ?_; rintro e w1 ⟨rfl, hd⟩)
  go_ret
  exact ⟨rfl, hd⟩

end Go.Proofs.Ytheebpjkjclgbaa
