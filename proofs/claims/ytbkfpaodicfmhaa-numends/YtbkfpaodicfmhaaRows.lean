/-
  No cell of these rows narrows 'for every input' (looked for: loops, veiled, ifaces, maps, wideKeys, modest, calm, conditions, laid).
  DERIVED. THE GIVEN ROWS OF THIS SEAT. 5 by the template 'for every input the law returns true; each argument reads behind the call as it read before'; 0 by the template 'total and deterministic' (their statements: YtbkfpaodicfmhaaTotals.lean).
  GIVEN WITH THE SEED: the statements are not yours to turn. If you find one false, say at which input.
  Laid BY PROGRAM, IN A SANDBOX (cutbox-rows.mjs): the forced cells as the released guide's own fill.sh prints them over the translation 9c11b2987f724561… (all of the seat's roots in one cut). By AI agents, Wed Nov 11 2026. No macro, syntax, notation, axiom, sorry.
-/
import Derived.Test.YtbkfpaodicfmhaaChecked
import GoSem.Claim
import GoSem.ClaimJoined
import GoSem.ClaimMapViews
import Derived.JoinedTies
import Derived.KernelRfl
namespace Go.Proofs.Ytbkfpaodicfmhaa
/- THE CELL 'sum', in the pinned program and in every row, IS THE sha256 OF THE DUMP (.gsa) THAT YtbkfpaodicfmhaaProg.lean LOADS. Nothing in Lean hashes anything: it is a label: what it is worth is what the hold of that sum in a sandbox is worth. -/
noncomputable def Try.pinned : Pinned := { name := "ytbkfpaodicfmhaa", sum := "9c11b2987f724561e61380ff27c47bd553d4d1e100872b9d51b5e0853d2a6b6c", checked := Try.checked }
namespace Rows
def none {H : Type} : Left H := { results := [], args := [] }

/-- 'halberdlaw9.Nums': WHATEVER THE INPUT: true; the input reads as it did. -/
def numsSpec : ChangeSpec := { name := "nums", fn := fun _ => fun
  | [d1, d2, d3] => { results := [.lit (.bool true)], args := [d1, d2, d3] }
  | _ => none }
def numsRow : OpenClaim := { program := "ytbkfpaodicfmhaa", sum := "9c11b2987f724561e61380ff27c47bd553d4d1e100872b9d51b5e0853d2a6b6c", func := "halberd/halberdlaw9.Nums", spec := "nums", unfollowed := true, recurses := true, apart := false }
def NumsSaid : Prop := numsRow.holds Try.pinned (OpenSpec.ofChange numsSpec)

/-- ITS FALSE NEIGHBOUR: 'it returns false'. Refute it at one input. -/
def numsWrong : ChangeSpec := { name := "nums", fn := fun _ => fun
  | [d1, d2, d3] => { results := [.lit (.bool false)], args := [d1, d2, d3] }
  | _ => none }
def NumsWrongFalsely : Prop := numsRow.holds Try.pinned (OpenSpec.ofChange numsWrong)

/-- 'halberdlaw9.NumRules': WHATEVER THE INPUT: true; the input reads as it did. -/
def numRulesSpec : ChangeSpec := { name := "numRules", fn := fun _ => fun
  | [d1, d2, d3, d4] => { results := [.lit (.bool true)], args := [d1, d2, d3, d4] }
  | _ => none }
def numRulesRow : OpenClaim := { program := "ytbkfpaodicfmhaa", sum := "9c11b2987f724561e61380ff27c47bd553d4d1e100872b9d51b5e0853d2a6b6c", func := "halberd/halberdlaw9.NumRules", spec := "numRules", unfollowed := true, recurses := true, apart := false }
def NumRulesSaid : Prop := numRulesRow.holds Try.pinned (OpenSpec.ofChange numRulesSpec)

/-- ITS FALSE NEIGHBOUR: 'it returns false'. Refute it at one input. -/
def numRulesWrong : ChangeSpec := { name := "numRules", fn := fun _ => fun
  | [d1, d2, d3, d4] => { results := [.lit (.bool false)], args := [d1, d2, d3, d4] }
  | _ => none }
def NumRulesWrongFalsely : Prop := numRulesRow.holds Try.pinned (OpenSpec.ofChange numRulesWrong)

/-- 'halberdlaw9.NumTurns': WHATEVER THE INPUT: true; the input reads as it did. -/
def numTurnsSpec : ChangeSpec := { name := "numTurns", fn := fun _ => fun
  | [d1, d2, d3] => { results := [.lit (.bool true)], args := [d1, d2, d3] }
  | _ => none }
def numTurnsRow : OpenClaim := { program := "ytbkfpaodicfmhaa", sum := "9c11b2987f724561e61380ff27c47bd553d4d1e100872b9d51b5e0853d2a6b6c", func := "halberd/halberdlaw9.NumTurns", spec := "numTurns", unfollowed := true, recurses := true, apart := false }
def NumTurnsSaid : Prop := numTurnsRow.holds Try.pinned (OpenSpec.ofChange numTurnsSpec)

/-- ITS FALSE NEIGHBOUR: 'it returns false'. Refute it at one input. -/
def numTurnsWrong : ChangeSpec := { name := "numTurns", fn := fun _ => fun
  | [d1, d2, d3] => { results := [.lit (.bool false)], args := [d1, d2, d3] }
  | _ => none }
def NumTurnsWrongFalsely : Prop := numTurnsRow.holds Try.pinned (OpenSpec.ofChange numTurnsWrong)

/-- 'halberdlaw9.NumEnds': WHATEVER THE INPUT: true; the input reads as it did. -/
def numEndsSpec : ChangeSpec := { name := "numEnds", fn := fun _ => fun
  | [d1, d2, d3] => { results := [.lit (.bool true)], args := [d1, d2, d3] }
  | _ => none }
def numEndsRow : OpenClaim := { program := "ytbkfpaodicfmhaa", sum := "9c11b2987f724561e61380ff27c47bd553d4d1e100872b9d51b5e0853d2a6b6c", func := "halberd/halberdlaw9.NumEnds", spec := "numEnds", unfollowed := true, recurses := true, apart := false }
def NumEndsSaid : Prop := numEndsRow.holds Try.pinned (OpenSpec.ofChange numEndsSpec)

/-- ITS FALSE NEIGHBOUR: 'it returns false'. Refute it at one input. -/
def numEndsWrong : ChangeSpec := { name := "numEnds", fn := fun _ => fun
  | [d1, d2, d3] => { results := [.lit (.bool false)], args := [d1, d2, d3] }
  | _ => none }
def NumEndsWrongFalsely : Prop := numEndsRow.holds Try.pinned (OpenSpec.ofChange numEndsWrong)

/-- 'halberdlaw9.NumFolds': WHATEVER THE INPUT: true; the input reads as it did. -/
def numFoldsSpec : ChangeSpec := { name := "numFolds", fn := fun _ => fun
  | [d1, d2, d3] => { results := [.lit (.bool true)], args := [d1, d2, d3] }
  | _ => none }
def numFoldsRow : OpenClaim := { program := "ytbkfpaodicfmhaa", sum := "9c11b2987f724561e61380ff27c47bd553d4d1e100872b9d51b5e0853d2a6b6c", func := "halberd/halberdlaw9.NumFolds", spec := "numFolds", unfollowed := true, recurses := true, apart := false }
def NumFoldsSaid : Prop := numFoldsRow.holds Try.pinned (OpenSpec.ofChange numFoldsSpec)

/-- ITS FALSE NEIGHBOUR: 'it returns false'. Refute it at one input. -/
def numFoldsWrong : ChangeSpec := { name := "numFolds", fn := fun _ => fun
  | [d1, d2, d3] => { results := [.lit (.bool false)], args := [d1, d2, d3] }
  | _ => none }
def NumFoldsWrongFalsely : Prop := numFoldsRow.holds Try.pinned (OpenSpec.ofChange numFoldsWrong)

/- THE SECOND FORM. 'bulk': how many values and letters a reading holds, each counted each time it is reached (what is shared counts as often as it is met; a slice's spare places count too). A statement '..UptoSaid' is the law's where the arguments, and the package variables that the reading takes, are together of bulk at most 1048576: NARROWER than '..Said'. Prove '..Said' where nothing that the law and all that it calls make is longer than what came in: it says more and counts as full. Else prove '..UptoSaid'. A law counts once. -/
mutual
def uptoBulk {H : Type} : DataW H → Nat
  | .lit (.string bytes) => bytes.length + 1
  | .lit _ => 1
  | .nil => 1
  | .ptr d => uptoBulk d + 1
  | .slice elems spare => uptoBulkAll elems + uptoBulkAll spare + 1
  | .agg parts => uptoBulkAll parts + 1
  | .iface _ d => uptoBulk d + 1
  | .map entries => uptoBulkEntries entries + 1
  | .held _ => 1
def uptoBulkAll {H : Type} : List (DataW H) → Nat
  | [] => 0
  | d :: r => uptoBulk d + uptoBulkAll r
def uptoBulkEntries {H : Type} : List (Lit × DataW H) → Nat
  | [] => 0
  | x :: r => uptoBulkEntry x + uptoBulkEntries r
def uptoBulkEntry {H : Type} : Lit × DataW H → Nat
  | (.string bytes, d) => bytes.length + uptoBulk d + 1
  | (_, d) => uptoBulk d + 1
 end
def uptoSmall : (H : Type) → List (DataW H) → Bool := fun _ ds => decide (uptoBulkAll ds ≤ 1048576)
def OpenSpec.upto (s : _root_.Go.ChangeSpec) : _root_.Go.OpenSpec := { _root_.Go.OpenSpec.ofChange s with cond := some uptoSmall }

/-- 'halberdlaw9.Nums', WHERE WHAT IT READS IS OF BULK AT MOST 1048576: true; the input reads as it did. -/
def numsUptoRow : OpenClaim := { program := "ytbkfpaodicfmhaa", sum := "9c11b2987f724561e61380ff27c47bd553d4d1e100872b9d51b5e0853d2a6b6c", func := "halberd/halberdlaw9.Nums", spec := "nums", unfollowed := true, recurses := true, apart := false, narrowed := true }
def NumsUptoSaid : Prop := numsUptoRow.holds Try.pinned (OpenSpec.upto numsSpec)

/-- 'halberdlaw9.NumRules', WHERE WHAT IT READS IS OF BULK AT MOST 1048576: true; the input reads as it did. -/
def numRulesUptoRow : OpenClaim := { program := "ytbkfpaodicfmhaa", sum := "9c11b2987f724561e61380ff27c47bd553d4d1e100872b9d51b5e0853d2a6b6c", func := "halberd/halberdlaw9.NumRules", spec := "numRules", unfollowed := true, recurses := true, apart := false, narrowed := true }
def NumRulesUptoSaid : Prop := numRulesUptoRow.holds Try.pinned (OpenSpec.upto numRulesSpec)

/-- 'halberdlaw9.NumTurns', WHERE WHAT IT READS IS OF BULK AT MOST 1048576: true; the input reads as it did. -/
def numTurnsUptoRow : OpenClaim := { program := "ytbkfpaodicfmhaa", sum := "9c11b2987f724561e61380ff27c47bd553d4d1e100872b9d51b5e0853d2a6b6c", func := "halberd/halberdlaw9.NumTurns", spec := "numTurns", unfollowed := true, recurses := true, apart := false, narrowed := true }
def NumTurnsUptoSaid : Prop := numTurnsUptoRow.holds Try.pinned (OpenSpec.upto numTurnsSpec)

/-- 'halberdlaw9.NumEnds', WHERE WHAT IT READS IS OF BULK AT MOST 1048576: true; the input reads as it did. -/
def numEndsUptoRow : OpenClaim := { program := "ytbkfpaodicfmhaa", sum := "9c11b2987f724561e61380ff27c47bd553d4d1e100872b9d51b5e0853d2a6b6c", func := "halberd/halberdlaw9.NumEnds", spec := "numEnds", unfollowed := true, recurses := true, apart := false, narrowed := true }
def NumEndsUptoSaid : Prop := numEndsUptoRow.holds Try.pinned (OpenSpec.upto numEndsSpec)

/-- 'halberdlaw9.NumFolds', WHERE WHAT IT READS IS OF BULK AT MOST 1048576: true; the input reads as it did. -/
def numFoldsUptoRow : OpenClaim := { program := "ytbkfpaodicfmhaa", sum := "9c11b2987f724561e61380ff27c47bd553d4d1e100872b9d51b5e0853d2a6b6c", func := "halberd/halberdlaw9.NumFolds", spec := "numFolds", unfollowed := true, recurses := true, apart := false, narrowed := true }
def NumFoldsUptoSaid : Prop := numFoldsUptoRow.holds Try.pinned (OpenSpec.upto numFoldsSpec)

end Rows
end Go.Proofs.Ytbkfpaodicfmhaa
