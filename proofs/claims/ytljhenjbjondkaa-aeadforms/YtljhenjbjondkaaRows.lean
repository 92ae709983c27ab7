/-
  No cell of these rows narrows 'for every input' (looked for: loops, veiled, ifaces, maps, wideKeys, modest, calm, conditions, laid).
  DERIVED. THE GIVEN ROWS OF THIS SEAT. 4 by the template 'for every input the law returns true; each argument reads behind the call as it read before'; 0 by the template 'total and deterministic' (their statements: YtljhenjbjondkaaTotals.lean).
  GIVEN WITH THE SEED: the statements are not yours to turn. If you find one false, say at which input.
  Laid BY PROGRAM, IN A SANDBOX (cutbox-rows.mjs): the forced cells as the released guide's own fill.sh prints them over the translation 17d85cb7a6abd0f3… (all of the seat's roots in one cut). By AI agents, Wed Nov 11 2026. No macro, syntax, notation, axiom, sorry.
-/
import Derived.Test.YtljhenjbjondkaaChecked
import GoSem.Claim
import GoSem.ClaimJoined
import GoSem.ClaimMapViews
import Derived.JoinedTies
import Derived.KernelRfl
namespace Go.Proofs.Ytljhenjbjondkaa
/- THE CELL 'sum', in the pinned program and in every row, IS THE sha256 OF THE DUMP (.gsa) THAT YtljhenjbjondkaaProg.lean LOADS. Nothing in Lean hashes anything: it is a label: what it is worth is what the hold of that sum in a sandbox is worth. -/
noncomputable def Try.pinned : Pinned := { name := "ytljhenjbjondkaa", sum := "17d85cb7a6abd0f3daae75f739ba7c0e89af8db87acf8e925ab2d613e7dbeaf8", checked := Try.checked }
namespace Rows
def none {H : Type} : Left H := { results := [], args := [] }

/-- 'halberdlaw8.AeadBack': WHATEVER THE INPUT: true; the input reads as it did. -/
def aeadBackSpec : ChangeSpec := { name := "aeadBack", fn := fun _ => fun
  | [d1, d2, d3, d4, d5] => { results := [.lit (.bool true)], args := [d1, d2, d3, d4, d5] }
  | _ => none }
def aeadBackRow : OpenClaim := { program := "ytljhenjbjondkaa", sum := "17d85cb7a6abd0f3daae75f739ba7c0e89af8db87acf8e925ab2d613e7dbeaf8", func := "halberd/halberdlaw8.AeadBack", spec := "aeadBack", inPlace := ["math/bits.Add64"], unfollowed := true, recurses := true, apart := false }
def AeadBackSaid : Prop := aeadBackRow.holds Try.pinned (OpenSpec.ofChange aeadBackSpec)

/-- ITS FALSE NEIGHBOUR: 'it returns false'. Refute it at one input. -/
def aeadBackWrong : ChangeSpec := { name := "aeadBack", fn := fun _ => fun
  | [d1, d2, d3, d4, d5] => { results := [.lit (.bool false)], args := [d1, d2, d3, d4, d5] }
  | _ => none }
def AeadBackWrongFalsely : Prop := aeadBackRow.holds Try.pinned (OpenSpec.ofChange aeadBackWrong)

/-- 'halberdlaw8.AeadSuites': WHATEVER THE INPUT: true; the input reads as it did. -/
def aeadSuitesSpec : ChangeSpec := { name := "aeadSuites", fn := fun _ => fun
  | [d1, d2, d3, d4] => { results := [.lit (.bool true)], args := [d1, d2, d3, d4] }
  | _ => none }
def aeadSuitesRow : OpenClaim := { program := "ytljhenjbjondkaa", sum := "17d85cb7a6abd0f3daae75f739ba7c0e89af8db87acf8e925ab2d613e7dbeaf8", func := "halberd/halberdlaw8.AeadSuites", spec := "aeadSuites", inPlace := ["math/bits.Add64"], unfollowed := true, recurses := true, apart := false }
def AeadSuitesSaid : Prop := aeadSuitesRow.holds Try.pinned (OpenSpec.ofChange aeadSuitesSpec)

/-- ITS FALSE NEIGHBOUR: 'it returns false'. Refute it at one input. -/
def aeadSuitesWrong : ChangeSpec := { name := "aeadSuites", fn := fun _ => fun
  | [d1, d2, d3, d4] => { results := [.lit (.bool false)], args := [d1, d2, d3, d4] }
  | _ => none }
def AeadSuitesWrongFalsely : Prop := aeadSuitesRow.holds Try.pinned (OpenSpec.ofChange aeadSuitesWrong)

/-- 'halberdlaw8.AeadForms': WHATEVER THE INPUT: true; the input reads as it did. -/
def aeadFormsSpec : ChangeSpec := { name := "aeadForms", fn := fun _ => fun
  | [d1, d2, d3] => { results := [.lit (.bool true)], args := [d1, d2, d3] }
  | _ => none }
def aeadFormsRow : OpenClaim := { program := "ytljhenjbjondkaa", sum := "17d85cb7a6abd0f3daae75f739ba7c0e89af8db87acf8e925ab2d613e7dbeaf8", func := "halberd/halberdlaw8.AeadForms", spec := "aeadForms", inPlace := ["math/bits.Add64"], unfollowed := true, recurses := true, apart := false }
def AeadFormsSaid : Prop := aeadFormsRow.holds Try.pinned (OpenSpec.ofChange aeadFormsSpec)

/-- ITS FALSE NEIGHBOUR: 'it returns false'. Refute it at one input. -/
def aeadFormsWrong : ChangeSpec := { name := "aeadForms", fn := fun _ => fun
  | [d1, d2, d3] => { results := [.lit (.bool false)], args := [d1, d2, d3] }
  | _ => none }
def AeadFormsWrongFalsely : Prop := aeadFormsRow.holds Try.pinned (OpenSpec.ofChange aeadFormsWrong)

/-- 'halberdlaw8.AeadTwins': WHATEVER THE INPUT: true; the input reads as it did. -/
def aeadTwinsSpec : ChangeSpec := { name := "aeadTwins", fn := fun _ => fun
  | [d1, d2, d3, d4, d5] => { results := [.lit (.bool true)], args := [d1, d2, d3, d4, d5] }
  | _ => none }
def aeadTwinsRow : OpenClaim := { program := "ytljhenjbjondkaa", sum := "17d85cb7a6abd0f3daae75f739ba7c0e89af8db87acf8e925ab2d613e7dbeaf8", func := "halberd/halberdlaw8.AeadTwins", spec := "aeadTwins", inPlace := ["math/bits.Add64"], unfollowed := true, recurses := true, apart := false }
def AeadTwinsSaid : Prop := aeadTwinsRow.holds Try.pinned (OpenSpec.ofChange aeadTwinsSpec)

/-- ITS FALSE NEIGHBOUR: 'it returns false'. Refute it at one input. -/
def aeadTwinsWrong : ChangeSpec := { name := "aeadTwins", fn := fun _ => fun
  | [d1, d2, d3, d4, d5] => { results := [.lit (.bool false)], args := [d1, d2, d3, d4, d5] }
  | _ => none }
def AeadTwinsWrongFalsely : Prop := aeadTwinsRow.holds Try.pinned (OpenSpec.ofChange aeadTwinsWrong)

/- THE SECOND FORM. 'bulk': how many values and letters a reading holds, each counted each time it is reached (what is shared counts as often as it is met; a slice's spare places count too). A statement '..UptoSaid' is the law's where the arguments, and the package variables that the reading takes, are together of bulk at most 1048576: NARROWER than '..Said'. Prove '..Said' where nothing that the law and all that it calls make is longer than what came in: it says more and counts as full. Else prove '..UptoSaid'. A law counts once. -/
mutual
def uptoBulk {H : Type} : DataW H → Nat
  | .lit (.string bytes) => bytes.length + 1
  | .lit _ => 1
  | .nil => 1
  | .ptr d => uptoBulk d + 1
  | .slice elems spare => uptoBulkAll elems + uptoBulkAll spare + 1
  | .agg parts => uptoBulkAll parts + 1
  | .iface _ d => uptoBulk d + 1
  | .map entries => uptoBulkEntries entries + 1
  | .held _ => 1
def uptoBulkAll {H : Type} : List (DataW H) → Nat
  | [] => 0
  | d :: r => uptoBulk d + uptoBulkAll r
def uptoBulkEntries {H : Type} : List (Lit × DataW H) → Nat
  | [] => 0
  | x :: r => uptoBulkEntry x + uptoBulkEntries r
def uptoBulkEntry {H : Type} : Lit × DataW H → Nat
  | (.string bytes, d) => bytes.length + uptoBulk d + 1
  | (_, d) => uptoBulk d + 1
 end
def uptoSmall : (H : Type) → List (DataW H) → Bool := fun _ ds => decide (uptoBulkAll ds ≤ 1048576)
def OpenSpec.upto (s : _root_.Go.ChangeSpec) : _root_.Go.OpenSpec := { _root_.Go.OpenSpec.ofChange s with cond := some uptoSmall }

/-- 'halberdlaw8.AeadBack', WHERE WHAT IT READS IS OF BULK AT MOST 1048576: true; the input reads as it did. -/
def aeadBackUptoRow : OpenClaim := { program := "ytljhenjbjondkaa", sum := "17d85cb7a6abd0f3daae75f739ba7c0e89af8db87acf8e925ab2d613e7dbeaf8", func := "halberd/halberdlaw8.AeadBack", spec := "aeadBack", inPlace := ["math/bits.Add64"], unfollowed := true, recurses := true, apart := false, narrowed := true }
def AeadBackUptoSaid : Prop := aeadBackUptoRow.holds Try.pinned (OpenSpec.upto aeadBackSpec)

/-- 'halberdlaw8.AeadSuites', WHERE WHAT IT READS IS OF BULK AT MOST 1048576: true; the input reads as it did. -/
def aeadSuitesUptoRow : OpenClaim := { program := "ytljhenjbjondkaa", sum := "17d85cb7a6abd0f3daae75f739ba7c0e89af8db87acf8e925ab2d613e7dbeaf8", func := "halberd/halberdlaw8.AeadSuites", spec := "aeadSuites", inPlace := ["math/bits.Add64"], unfollowed := true, recurses := true, apart := false, narrowed := true }
def AeadSuitesUptoSaid : Prop := aeadSuitesUptoRow.holds Try.pinned (OpenSpec.upto aeadSuitesSpec)

/-- 'halberdlaw8.AeadForms', WHERE WHAT IT READS IS OF BULK AT MOST 1048576: true; the input reads as it did. -/
def aeadFormsUptoRow : OpenClaim := { program := "ytljhenjbjondkaa", sum := "17d85cb7a6abd0f3daae75f739ba7c0e89af8db87acf8e925ab2d613e7dbeaf8", func := "halberd/halberdlaw8.AeadForms", spec := "aeadForms", inPlace := ["math/bits.Add64"], unfollowed := true, recurses := true, apart := false, narrowed := true }
def AeadFormsUptoSaid : Prop := aeadFormsUptoRow.holds Try.pinned (OpenSpec.upto aeadFormsSpec)

/-- 'halberdlaw8.AeadTwins', WHERE WHAT IT READS IS OF BULK AT MOST 1048576: true; the input reads as it did. -/
def aeadTwinsUptoRow : OpenClaim := { program := "ytljhenjbjondkaa", sum := "17d85cb7a6abd0f3daae75f739ba7c0e89af8db87acf8e925ab2d613e7dbeaf8", func := "halberd/halberdlaw8.AeadTwins", spec := "aeadTwins", inPlace := ["math/bits.Add64"], unfollowed := true, recurses := true, apart := false, narrowed := true }
def AeadTwinsUptoSaid : Prop := aeadTwinsUptoRow.holds Try.pinned (OpenSpec.upto aeadTwinsSpec)

end Rows
end Go.Proofs.Ytljhenjbjondkaa
