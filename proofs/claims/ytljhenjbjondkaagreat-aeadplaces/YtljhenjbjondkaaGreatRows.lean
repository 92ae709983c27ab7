/-
  No cell of these rows narrows 'for every input' (looked for: loops, veiled, ifaces, maps, wideKeys, modest, calm, conditions, laid).
  DERIVED. THE GIVEN ROWS OF THIS SEAT. 2 by the template 'for every input the law returns true; each argument reads behind the call as it read before'; 0 by the template 'total and deterministic' (their statements: YtljhenjbjondkaaGreatTotals.lean).
  GIVEN WITH THE SEED: the statements are not yours to turn. If you find one false, say at which input.
  Laid BY PROGRAM, IN A SANDBOX (cutbox-rows.mjs): the forced cells as the released guide's own fill.sh prints them over the translation 5e8f8f2e1f18f3a9… (all of the seat's roots in one cut). By AI agents, Wed Nov 11 2026. No macro, syntax, notation, axiom, sorry.
-/
import Derived.Test.YtljhenjbjondkaaGreatChecked
import GoSem.Claim
import GoSem.ClaimJoined
import GoSem.ClaimMapViews
import Derived.JoinedTies
import Derived.KernelRfl
namespace Go.Proofs.YtljhenjbjondkaaGreat
/- THE CELL 'sum', in the pinned program and in every row, IS THE sha256 OF THE DUMP (.gsa) THAT YtljhenjbjondkaaGreatProg.lean LOADS. Nothing in Lean hashes anything: it is a label: what it is worth is what the hold of that sum in a sandbox is worth. -/
noncomputable def Tryz.pinned : Pinned := { name := "ytljhenjbjondkaagreat", sum := "5e8f8f2e1f18f3a9ea50a05078dfd6797b5a567e5accfe1208e37ec8e0535ad4", checked := Tryz.checked }
namespace Rows
def none {H : Type} : Left H := { results := [], args := [] }

/-- 'halberdlaw8.Aeads': WHATEVER THE INPUT: true; the input reads as it did. -/
def aeadsSpec : ChangeSpec := { name := "aeads", fn := fun _ => fun
  | [d1, d2, d3, d4, d5] => { results := [.lit (.bool true)], args := [d1, d2, d3, d4, d5] }
  | _ => none }
def aeadsRow : OpenClaim := { program := "ytljhenjbjondkaagreat", sum := "5e8f8f2e1f18f3a9ea50a05078dfd6797b5a567e5accfe1208e37ec8e0535ad4", func := "halberd/halberdlaw8.Aeads", spec := "aeads", inPlace := ["math/bits.Add64"], unfollowed := true, recurses := true, apart := false }
def AeadsSaid : Prop := aeadsRow.holds Tryz.pinned (OpenSpec.ofChange aeadsSpec)

/-- ITS FALSE NEIGHBOUR: 'it returns false'. Refute it at one input. -/
def aeadsWrong : ChangeSpec := { name := "aeads", fn := fun _ => fun
  | [d1, d2, d3, d4, d5] => { results := [.lit (.bool false)], args := [d1, d2, d3, d4, d5] }
  | _ => none }
def AeadsWrongFalsely : Prop := aeadsRow.holds Tryz.pinned (OpenSpec.ofChange aeadsWrong)

/-- 'halberdlaw8.AeadPlaces': WHATEVER THE INPUT: true; the input reads as it did. -/
def aeadPlacesSpec : ChangeSpec := { name := "aeadPlaces", fn := fun _ => fun
  | [d1, d2, d3, d4, d5, d6] => { results := [.lit (.bool true)], args := [d1, d2, d3, d4, d5, d6] }
  | _ => none }
def aeadPlacesRow : OpenClaim := { program := "ytljhenjbjondkaagreat", sum := "5e8f8f2e1f18f3a9ea50a05078dfd6797b5a567e5accfe1208e37ec8e0535ad4", func := "halberd/halberdlaw8.AeadPlaces", spec := "aeadPlaces", inPlace := ["math/bits.Add64"], unfollowed := true, recurses := true, apart := false }
def AeadPlacesSaid : Prop := aeadPlacesRow.holds Tryz.pinned (OpenSpec.ofChange aeadPlacesSpec)

/-- ITS FALSE NEIGHBOUR: 'it returns false'. Refute it at one input. -/
def aeadPlacesWrong : ChangeSpec := { name := "aeadPlaces", fn := fun _ => fun
  | [d1, d2, d3, d4, d5, d6] => { results := [.lit (.bool false)], args := [d1, d2, d3, d4, d5, d6] }
  | _ => none }
def AeadPlacesWrongFalsely : Prop := aeadPlacesRow.holds Tryz.pinned (OpenSpec.ofChange aeadPlacesWrong)

/- THE SECOND FORM. 'bulk': how many values and letters a reading holds, each counted each time it is reached (what is shared counts as often as it is met; a slice's spare places count too). A statement '..UptoSaid' is the law's where the arguments, and the package variables that the reading takes, are together of bulk at most 1048576: NARROWER than '..Said'. Prove '..Said' where nothing that the law and all that it calls make is longer than what came in: it says more and counts as full. Else prove '..UptoSaid'. A law counts once. -/
mutual
def uptoBulk {H : Type} : DataW H → Nat
  | .lit (.string bytes) => bytes.length + 1
  | .lit _ => 1
  | .nil => 1
  | .ptr d => uptoBulk d + 1
  | .slice elems spare => uptoBulkAll elems + uptoBulkAll spare + 1
  | .agg parts => uptoBulkAll parts + 1
  | .iface _ d => uptoBulk d + 1
  | .map entries => uptoBulkEntries entries + 1
  | .held _ => 1
def uptoBulkAll {H : Type} : List (DataW H) → Nat
  | [] => 0
  | d :: r => uptoBulk d + uptoBulkAll r
def uptoBulkEntries {H : Type} : List (Lit × DataW H) → Nat
  | [] => 0
  | x :: r => uptoBulkEntry x + uptoBulkEntries r
def uptoBulkEntry {H : Type} : Lit × DataW H → Nat
  | (.string bytes, d) => bytes.length + uptoBulk d + 1
  | (_, d) => uptoBulk d + 1
 end
def uptoSmall : (H : Type) → List (DataW H) → Bool := fun _ ds => decide (uptoBulkAll ds ≤ 1048576)
def OpenSpec.upto (s : _root_.Go.ChangeSpec) : _root_.Go.OpenSpec := { _root_.Go.OpenSpec.ofChange s with cond := some uptoSmall }

/-- 'halberdlaw8.Aeads', WHERE WHAT IT READS IS OF BULK AT MOST 1048576: true; the input reads as it did. -/
def aeadsUptoRow : OpenClaim := { program := "ytljhenjbjondkaagreat", sum := "5e8f8f2e1f18f3a9ea50a05078dfd6797b5a567e5accfe1208e37ec8e0535ad4", func := "halberd/halberdlaw8.Aeads", spec := "aeads", inPlace := ["math/bits.Add64"], unfollowed := true, recurses := true, apart := false, narrowed := true }
def AeadsUptoSaid : Prop := aeadsUptoRow.holds Tryz.pinned (OpenSpec.upto aeadsSpec)

/-- 'halberdlaw8.AeadPlaces', WHERE WHAT IT READS IS OF BULK AT MOST 1048576: true; the input reads as it did. -/
def aeadPlacesUptoRow : OpenClaim := { program := "ytljhenjbjondkaagreat", sum := "5e8f8f2e1f18f3a9ea50a05078dfd6797b5a567e5accfe1208e37ec8e0535ad4", func := "halberd/halberdlaw8.AeadPlaces", spec := "aeadPlaces", inPlace := ["math/bits.Add64"], unfollowed := true, recurses := true, apart := false, narrowed := true }
def AeadPlacesUptoSaid : Prop := aeadPlacesUptoRow.holds Tryz.pinned (OpenSpec.upto aeadPlacesSpec)

end Rows
end Go.Proofs.YtljhenjbjondkaaGreat
