/-
  What holds of all tilings of the diamonds of order 1 to 4, by the kernel.
-/
import Derived.Test.YtcnmndbckjmliaaDoorNPz
namespace Go.Proofs.YtcnmndbckjmliaaDoor
open Go.RowKit

/-- A block that may be turned begins in k. -/
def quN (S k : Nat) : Bool := (gN S k == 108 && gN S (k + 1) == 114 && gN S (k + 8) == 108 && gN S (k + 9) == 114) || (gN S k == 117 && gN S (k + 1) == 117 && gN S (k + 8) == 100 && gN S (k + 9) == 100)
def flN (S : Nat) : Bool := (List.range 54).any fun k => decide (k % 8 < 7) && quN S k
/-- The half in k has its other half. -/
def prN (G k : Nat) : Bool :=
  if gN G k = 108 then decide (k % 8 < 7) && gN G (k + 1) == 114 else if gN G k = 114 then decide (1 ≤ k % 8) && gN G (k - 1) == 108 else if gN G k = 117 then decide (k < 56) && gN G (k + 8) == 100 else if gN G k = 100 then decide (8 ≤ k) && gN G (k - 8) == 117 else gN G k == 46
/-- A tiling of the diamond of order n. -/
def tiN (n G : Nat) : Bool := (List.range 64).all fun k => if k / 8 < 2 * n ∧ k % 8 < 2 * n then prN G k && ((gN G k == 46) == (gN (dmK n) k == 46)) else gN G k == 0
/-- The four cells of a block. -/
def inB (a k : Nat) : Bool := k == a || k == a + 1 || k == a + 8 || k == a + 9
def disN : List Nat → Bool
  | [] => true
  | a :: l => (l.all fun b => !inB a b && !inB a (b + 1) && !inB a (b + 8) && !inB a (b + 9)) && disN l
/-- What shuffling comes to. -/
def shN (n S : Nat) : Bool :=
  let G0 := spNI (2 * n) n S (2 * n)
  let q := cbNI (2 * (n + 1)) G0 (2 * (n + 1))
  decide (n + 1 ≤ q.2.length) && tiN (n + 1) q.1 && disN q.2 && (q.2.all fun k => decide (k < 54) && decide (k % 8 < 7) && gN q.1 k == 108 && gN q.1 (k + 1) == 114 && gN q.1 (k + 8) == 108 && gN q.1 (k + 9) == 114)
    && ((List.range 64).all fun k => gN G0 k == gN q.1 k || q.2.any fun a => inB a k)
    && (decide (n < 3) || (List.range 8).all fun i => !(gN (cbNJ 7 (cbNI 8 G0 7) i).1 (56 + i) == 35) && !(gN (cbNJ i (cbNI 8 G0 i) 7).1 (i * 8 + 7) == 35))
def holN (n S : Nat) : Bool := flN S && (n == 4 || shN n S)
set_option maxRecDepth 1000000 in
theorem all1 : chk (holN 1) 33 (dmC 1) (dmO 1) = true := by decide +kernel
set_option maxRecDepth 1000000 in
theorem all2 : chk (holN 2) 33 (dmC 2) (dmO 2) = true := by decide +kernel
set_option maxRecDepth 1000000 in
theorem all3 : chk (holN 3) 33 (dmC 3) (dmO 3) = true := by decide +kernel
set_option maxRecDepth 1000000 in
theorem all4 : chk (holN 4) 33 (dmC 4) (dmO 4) = true := by decide +kernel
set_option maxRecDepth 1000000 in
theorem cnt14 : cntC (dmC 1) = 2 ∧ cntC (dmC 2) = 8 ∧ cntC (dmC 3) = 64 ∧ cntC (dmC 4) = 1024 := by decide +kernel

end Go.Proofs.YtcnmndbckjmliaaDoor
