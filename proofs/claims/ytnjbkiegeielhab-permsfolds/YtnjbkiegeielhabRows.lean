/-
  No cell of these rows narrows 'for every input' (looked for: loops, veiled, ifaces, maps, wideKeys, modest, calm, conditions, laid).
  DERIVED. THE GIVEN ROWS OF THIS SEAT. 6 by the template 'for every input the law returns true; each argument reads behind the call as it read before'; 0 by the template 'total and deterministic' (their statements: YtnjbkiegeielhabTotals.lean).
  GIVEN WITH THE SEED: the statements are not yours to turn. If you find one false, say at which input.
  Laid BY PROGRAM, IN A SANDBOX (cutbox-rows.mjs): the forced cells as the released guide's own fill.sh prints them over the translation b4bef339c2e6ce1b… (all of the seat's roots in one cut). By AI agents, Wed Nov 11 2026. No macro, syntax, notation, axiom, sorry.
-/
import Derived.Test.YtnjbkiegeielhabChecked
import GoSem.Claim
import GoSem.ClaimJoined
import GoSem.ClaimMapViews
import Derived.JoinedTies
import Derived.KernelRfl
namespace Go.Proofs.Ytnjbkiegeielhab
/- THE CELL 'sum', in the pinned program and in every row, IS THE sha256 OF THE DUMP (.gsa) THAT YtnjbkiegeielhabProg.lean LOADS. Nothing in Lean hashes anything: it is a label: what it is worth is what the hold of that sum in a sandbox is worth. -/
noncomputable def Try.pinned : Pinned := { name := "ytnjbkiegeielhab", sum := "b4bef339c2e6ce1b3788293479785b6bc0a741d745927e439305d192430f7786", checked := Try.checked }
namespace Rows
def none {H : Type} : Left H := { results := [], args := [] }

/-- 'ferlaw.PermsCodes': WHATEVER THE INPUT: true; the input reads as it did. -/
def permsCodesSpec : ChangeSpec := { name := "permsCodes", fn := fun _ => fun
  | [d1, d2, d3] => { results := [.lit (.bool true)], args := [d1, d2, d3] }
  | _ => none }
def permsCodesRow : OpenClaim := { program := "ytnjbkiegeielhab", sum := "b4bef339c2e6ce1b3788293479785b6bc0a741d745927e439305d192430f7786", func := "ferrers/ferlaw.PermsCodes", spec := "permsCodes", apart := false }
def PermsCodesSaid : Prop := permsCodesRow.holds Try.pinned (OpenSpec.ofChange permsCodesSpec)

/-- ITS FALSE NEIGHBOUR: 'it returns false'. Refute it at one input. -/
def permsCodesWrong : ChangeSpec := { name := "permsCodes", fn := fun _ => fun
  | [d1, d2, d3] => { results := [.lit (.bool false)], args := [d1, d2, d3] }
  | _ => none }
def PermsCodesWrongFalsely : Prop := permsCodesRow.holds Try.pinned (OpenSpec.ofChange permsCodesWrong)

/-- 'ferlaw.PermsWords': WHATEVER THE INPUT: true; the input reads as it did. -/
def permsWordsSpec : ChangeSpec := { name := "permsWords", fn := fun _ => fun
  | [d1, d2, d3, d4] => { results := [.lit (.bool true)], args := [d1, d2, d3, d4] }
  | _ => none }
def permsWordsRow : OpenClaim := { program := "ytnjbkiegeielhab", sum := "b4bef339c2e6ce1b3788293479785b6bc0a741d745927e439305d192430f7786", func := "ferrers/ferlaw.PermsWords", spec := "permsWords", apart := false }
def PermsWordsSaid : Prop := permsWordsRow.holds Try.pinned (OpenSpec.ofChange permsWordsSpec)

/-- ITS FALSE NEIGHBOUR: 'it returns false'. Refute it at one input. -/
def permsWordsWrong : ChangeSpec := { name := "permsWords", fn := fun _ => fun
  | [d1, d2, d3, d4] => { results := [.lit (.bool false)], args := [d1, d2, d3, d4] }
  | _ => none }
def PermsWordsWrongFalsely : Prop := permsWordsRow.holds Try.pinned (OpenSpec.ofChange permsWordsWrong)

/-- 'ferlaw.PermsFolds': WHATEVER THE INPUT: true; the input reads as it did. -/
def permsFoldsSpec : ChangeSpec := { name := "permsFolds", fn := fun _ => fun
  | [d1, d2] => { results := [.lit (.bool true)], args := [d1, d2] }
  | _ => none }
def permsFoldsRow : OpenClaim := { program := "ytnjbkiegeielhab", sum := "b4bef339c2e6ce1b3788293479785b6bc0a741d745927e439305d192430f7786", func := "ferrers/ferlaw.PermsFolds", spec := "permsFolds", recurses := true, apart := false }
def PermsFoldsSaid : Prop := permsFoldsRow.holds Try.pinned (OpenSpec.ofChange permsFoldsSpec)

/-- ITS FALSE NEIGHBOUR: 'it returns false'. Refute it at one input. -/
def permsFoldsWrong : ChangeSpec := { name := "permsFolds", fn := fun _ => fun
  | [d1, d2] => { results := [.lit (.bool false)], args := [d1, d2] }
  | _ => none }
def PermsFoldsWrongFalsely : Prop := permsFoldsRow.holds Try.pinned (OpenSpec.ofChange permsFoldsWrong)

/-- 'ferkeep.PermsGroup': WHATEVER THE INPUT: true; the input reads as it did. -/
def permsGroupSpec : ChangeSpec := { name := "permsGroup", fn := fun _ => fun
  | [d1, d2, d3, d4] => { results := [.lit (.bool true)], args := [d1, d2, d3, d4] }
  | _ => none }
def permsGroupRow : OpenClaim := { program := "ytnjbkiegeielhab", sum := "b4bef339c2e6ce1b3788293479785b6bc0a741d745927e439305d192430f7786", func := "ferrers/ferkeep.PermsGroup", spec := "permsGroup", apart := false }
def PermsGroupSaid : Prop := permsGroupRow.holds Try.pinned (OpenSpec.ofChange permsGroupSpec)

/-- ITS FALSE NEIGHBOUR: 'it returns false'. Refute it at one input. -/
def permsGroupWrong : ChangeSpec := { name := "permsGroup", fn := fun _ => fun
  | [d1, d2, d3, d4] => { results := [.lit (.bool false)], args := [d1, d2, d3, d4] }
  | _ => none }
def PermsGroupWrongFalsely : Prop := permsGroupRow.holds Try.pinned (OpenSpec.ofChange permsGroupWrong)

/-- 'ferkeep.PermsMacmahon': WHATEVER THE INPUT: true; the input reads as it did. -/
def permsMacmahonSpec : ChangeSpec := { name := "permsMacmahon", fn := fun _ => fun
  | [d] => { results := [.lit (.bool true)], args := [d] }
  | _ => none }
def permsMacmahonRow : OpenClaim := { program := "ytnjbkiegeielhab", sum := "b4bef339c2e6ce1b3788293479785b6bc0a741d745927e439305d192430f7786", func := "ferrers/ferkeep.PermsMacmahon", spec := "permsMacmahon", apart := false }
def PermsMacmahonSaid : Prop := permsMacmahonRow.holds Try.pinned (OpenSpec.ofChange permsMacmahonSpec)

/-- ITS FALSE NEIGHBOUR: 'it returns false'. Refute it at one input. -/
def permsMacmahonWrong : ChangeSpec := { name := "permsMacmahon", fn := fun _ => fun
  | [d] => { results := [.lit (.bool false)], args := [d] }
  | _ => none }
def PermsMacmahonWrongFalsely : Prop := permsMacmahonRow.holds Try.pinned (OpenSpec.ofChange permsMacmahonWrong)

/-- 'ferkeep.PermsBruhat': WHATEVER THE INPUT: true; the input reads as it did. -/
def permsBruhatSpec : ChangeSpec := { name := "permsBruhat", fn := fun _ => fun
  | [d1, d2, d3] => { results := [.lit (.bool true)], args := [d1, d2, d3] }
  | _ => none }
def permsBruhatRow : OpenClaim := { program := "ytnjbkiegeielhab", sum := "b4bef339c2e6ce1b3788293479785b6bc0a741d745927e439305d192430f7786", func := "ferrers/ferkeep.PermsBruhat", spec := "permsBruhat", apart := false }
def PermsBruhatSaid : Prop := permsBruhatRow.holds Try.pinned (OpenSpec.ofChange permsBruhatSpec)

/-- ITS FALSE NEIGHBOUR: 'it returns false'. Refute it at one input. -/
def permsBruhatWrong : ChangeSpec := { name := "permsBruhat", fn := fun _ => fun
  | [d1, d2, d3] => { results := [.lit (.bool false)], args := [d1, d2, d3] }
  | _ => none }
def PermsBruhatWrongFalsely : Prop := permsBruhatRow.holds Try.pinned (OpenSpec.ofChange permsBruhatWrong)

/- THE SECOND FORM. 'bulk': how many values and letters a reading holds, each counted each time it is reached (what is shared counts as often as it is met; a slice's spare places count too). A statement '..UptoSaid' is the law's where the arguments, and the package variables that the reading takes, are together of bulk at most 1048576: NARROWER than '..Said'. Prove '..Said' where nothing that the law and all that it calls make is longer than what came in: it says more and counts as full. Else prove '..UptoSaid'. A law counts once. -/
mutual
def uptoBulk {H : Type} : DataW H → Nat
  | .lit (.string bytes) => bytes.length + 1
  | .lit _ => 1
  | .nil => 1
  | .ptr d => uptoBulk d + 1
  | .slice elems spare => uptoBulkAll elems + uptoBulkAll spare + 1
  | .agg parts => uptoBulkAll parts + 1
  | .iface _ d => uptoBulk d + 1
  | .map entries => uptoBulkEntries entries + 1
  | .held _ => 1
def uptoBulkAll {H : Type} : List (DataW H) → Nat
  | [] => 0
  | d :: r => uptoBulk d + uptoBulkAll r
def uptoBulkEntries {H : Type} : List (Lit × DataW H) → Nat
  | [] => 0
  | x :: r => uptoBulkEntry x + uptoBulkEntries r
def uptoBulkEntry {H : Type} : Lit × DataW H → Nat
  | (.string bytes, d) => bytes.length + uptoBulk d + 1
  | (_, d) => uptoBulk d + 1
 end
def uptoSmall : (H : Type) → List (DataW H) → Bool := fun _ ds => decide (uptoBulkAll ds ≤ 1048576)
def OpenSpec.upto (s : _root_.Go.ChangeSpec) : _root_.Go.OpenSpec := { _root_.Go.OpenSpec.ofChange s with cond := some uptoSmall }

/-- 'ferlaw.PermsCodes', WHERE WHAT IT READS IS OF BULK AT MOST 1048576: true; the input reads as it did. -/
def permsCodesUptoRow : OpenClaim := { program := "ytnjbkiegeielhab", sum := "b4bef339c2e6ce1b3788293479785b6bc0a741d745927e439305d192430f7786", func := "ferrers/ferlaw.PermsCodes", spec := "permsCodes", apart := false, narrowed := true }
def PermsCodesUptoSaid : Prop := permsCodesUptoRow.holds Try.pinned (OpenSpec.upto permsCodesSpec)

/-- 'ferlaw.PermsWords', WHERE WHAT IT READS IS OF BULK AT MOST 1048576: true; the input reads as it did. -/
def permsWordsUptoRow : OpenClaim := { program := "ytnjbkiegeielhab", sum := "b4bef339c2e6ce1b3788293479785b6bc0a741d745927e439305d192430f7786", func := "ferrers/ferlaw.PermsWords", spec := "permsWords", apart := false, narrowed := true }
def PermsWordsUptoSaid : Prop := permsWordsUptoRow.holds Try.pinned (OpenSpec.upto permsWordsSpec)

/-- 'ferlaw.PermsFolds', WHERE WHAT IT READS IS OF BULK AT MOST 1048576: true; the input reads as it did. -/
def permsFoldsUptoRow : OpenClaim := { program := "ytnjbkiegeielhab", sum := "b4bef339c2e6ce1b3788293479785b6bc0a741d745927e439305d192430f7786", func := "ferrers/ferlaw.PermsFolds", spec := "permsFolds", recurses := true, apart := false, narrowed := true }
def PermsFoldsUptoSaid : Prop := permsFoldsUptoRow.holds Try.pinned (OpenSpec.upto permsFoldsSpec)

/-- 'ferkeep.PermsGroup', WHERE WHAT IT READS IS OF BULK AT MOST 1048576: true; the input reads as it did. -/
def permsGroupUptoRow : OpenClaim := { program := "ytnjbkiegeielhab", sum := "b4bef339c2e6ce1b3788293479785b6bc0a741d745927e439305d192430f7786", func := "ferrers/ferkeep.PermsGroup", spec := "permsGroup", apart := false, narrowed := true }
def PermsGroupUptoSaid : Prop := permsGroupUptoRow.holds Try.pinned (OpenSpec.upto permsGroupSpec)

/-- 'ferkeep.PermsMacmahon', WHERE WHAT IT READS IS OF BULK AT MOST 1048576: true; the input reads as it did. -/
def permsMacmahonUptoRow : OpenClaim := { program := "ytnjbkiegeielhab", sum := "b4bef339c2e6ce1b3788293479785b6bc0a741d745927e439305d192430f7786", func := "ferrers/ferkeep.PermsMacmahon", spec := "permsMacmahon", apart := false, narrowed := true }
def PermsMacmahonUptoSaid : Prop := permsMacmahonUptoRow.holds Try.pinned (OpenSpec.upto permsMacmahonSpec)

/-- 'ferkeep.PermsBruhat', WHERE WHAT IT READS IS OF BULK AT MOST 1048576: true; the input reads as it did. -/
def permsBruhatUptoRow : OpenClaim := { program := "ytnjbkiegeielhab", sum := "b4bef339c2e6ce1b3788293479785b6bc0a741d745927e439305d192430f7786", func := "ferrers/ferkeep.PermsBruhat", spec := "permsBruhat", apart := false, narrowed := true }
def PermsBruhatUptoSaid : Prop := permsBruhatUptoRow.holds Try.pinned (OpenSpec.upto permsBruhatSpec)

end Rows
end Go.Proofs.Ytnjbkiegeielhab
