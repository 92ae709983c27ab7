/-
  No cell of these rows narrows 'for every input' (looked for: loops, veiled, ifaces, maps, wideKeys, modest, calm, conditions, laid).
  DERIVED. THE GIVEN ROWS OF THIS SEAT. 4 by the template 'for every input the law returns true; each argument reads behind the call as it read before'; 0 by the template 'total and deterministic' (their statements: YtpniinolkflfjaaTotals.lean).
  GIVEN WITH THE SEED: the statements are not yours to turn. If you find one false, say at which input.
  Laid BY PROGRAM, IN A SANDBOX (cutbox-rows.mjs): the forced cells as the released guide's own fill.sh prints them over the translation 22f2cdbbbf9d1de4… (all of the seat's roots in one cut). By AI agents, Wed Nov 11 2026. No macro, syntax, notation, axiom, sorry.
-/
import Derived.Test.YtpniinolkflfjaaChecked
import GoSem.Claim
import GoSem.ClaimJoined
import GoSem.ClaimMapViews
import Derived.JoinedTies
import Derived.KernelRfl
namespace Go.Proofs.Ytpniinolkflfjaa
/- THE CELL 'sum', in the pinned program and in every row, IS THE sha256 OF THE DUMP (.gsa) THAT YtpniinolkflfjaaProg.lean LOADS. Nothing in Lean hashes anything: it is a label: what it is worth is what the hold of that sum in a sandbox is worth. -/
noncomputable def Try.pinned : Pinned := { name := "ytpniinolkflfjaa", sum := "22f2cdbbbf9d1de4f6daa5d946bc2761d61c3522201aa04e40eb78f10740aa07", checked := Try.checked }
namespace Rows
def none {H : Type} : Left H := { results := [], args := [] }

/-- 'halberdlaw10.Xcurves': WHATEVER THE INPUT: true; the input reads as it did. -/
def xcurvesSpec : ChangeSpec := { name := "xcurves", fn := fun _ => fun
  | [d1, d2] => { results := [.lit (.bool true)], args := [d1, d2] }
  | _ => none }
def xcurvesRow : OpenClaim := { program := "ytpniinolkflfjaa", sum := "22f2cdbbbf9d1de4f6daa5d946bc2761d61c3522201aa04e40eb78f10740aa07", func := "halberd/halberdlaw10.Xcurves", spec := "xcurves", apart := false }
def XcurvesSaid : Prop := xcurvesRow.holds Try.pinned (OpenSpec.ofChange xcurvesSpec)

/-- ITS FALSE NEIGHBOUR: 'it returns false'. Refute it at one input. -/
def xcurvesWrong : ChangeSpec := { name := "xcurves", fn := fun _ => fun
  | [d1, d2] => { results := [.lit (.bool false)], args := [d1, d2] }
  | _ => none }
def XcurvesWrongFalsely : Prop := xcurvesRow.holds Try.pinned (OpenSpec.ofChange xcurvesWrong)

/-- 'halberdlaw10.XcurveAgrees': WHATEVER THE INPUT: true; the input reads as it did. -/
def xcurveAgreesSpec : ChangeSpec := { name := "xcurveAgrees", fn := fun _ => fun
  | [d1, d2, d3] => { results := [.lit (.bool true)], args := [d1, d2, d3] }
  | _ => none }
def xcurveAgreesRow : OpenClaim := { program := "ytpniinolkflfjaa", sum := "22f2cdbbbf9d1de4f6daa5d946bc2761d61c3522201aa04e40eb78f10740aa07", func := "halberd/halberdlaw10.XcurveAgrees", spec := "xcurveAgrees", apart := false }
def XcurveAgreesSaid : Prop := xcurveAgreesRow.holds Try.pinned (OpenSpec.ofChange xcurveAgreesSpec)

/-- ITS FALSE NEIGHBOUR: 'it returns false'. Refute it at one input. -/
def xcurveAgreesWrong : ChangeSpec := { name := "xcurveAgrees", fn := fun _ => fun
  | [d1, d2, d3] => { results := [.lit (.bool false)], args := [d1, d2, d3] }
  | _ => none }
def XcurveAgreesWrongFalsely : Prop := xcurveAgreesRow.holds Try.pinned (OpenSpec.ofChange xcurveAgreesWrong)

/-- 'halberdlaw10.XcurveTop': WHATEVER THE INPUT: true; the input reads as it did. -/
def xcurveTopSpec : ChangeSpec := { name := "xcurveTop", fn := fun _ => fun
  | [d1, d2, d3] => { results := [.lit (.bool true)], args := [d1, d2, d3] }
  | _ => none }
def xcurveTopRow : OpenClaim := { program := "ytpniinolkflfjaa", sum := "22f2cdbbbf9d1de4f6daa5d946bc2761d61c3522201aa04e40eb78f10740aa07", func := "halberd/halberdlaw10.XcurveTop", spec := "xcurveTop", apart := false }
def XcurveTopSaid : Prop := xcurveTopRow.holds Try.pinned (OpenSpec.ofChange xcurveTopSpec)

/-- ITS FALSE NEIGHBOUR: 'it returns false'. Refute it at one input. -/
def xcurveTopWrong : ChangeSpec := { name := "xcurveTop", fn := fun _ => fun
  | [d1, d2, d3] => { results := [.lit (.bool false)], args := [d1, d2, d3] }
  | _ => none }
def XcurveTopWrongFalsely : Prop := xcurveTopRow.holds Try.pinned (OpenSpec.ofChange xcurveTopWrong)

/-- 'halberdlaw10.XcurveReduced': WHATEVER THE INPUT: true; the input reads as it did. -/
def xcurveReducedSpec : ChangeSpec := { name := "xcurveReduced", fn := fun _ => fun
  | [d1, d2] => { results := [.lit (.bool true)], args := [d1, d2] }
  | _ => none }
def xcurveReducedRow : OpenClaim := { program := "ytpniinolkflfjaa", sum := "22f2cdbbbf9d1de4f6daa5d946bc2761d61c3522201aa04e40eb78f10740aa07", func := "halberd/halberdlaw10.XcurveReduced", spec := "xcurveReduced", apart := false }
def XcurveReducedSaid : Prop := xcurveReducedRow.holds Try.pinned (OpenSpec.ofChange xcurveReducedSpec)

/-- ITS FALSE NEIGHBOUR: 'it returns false'. Refute it at one input. -/
def xcurveReducedWrong : ChangeSpec := { name := "xcurveReduced", fn := fun _ => fun
  | [d1, d2] => { results := [.lit (.bool false)], args := [d1, d2] }
  | _ => none }
def XcurveReducedWrongFalsely : Prop := xcurveReducedRow.holds Try.pinned (OpenSpec.ofChange xcurveReducedWrong)

/- THE SECOND FORM. 'bulk': how many values and letters a reading holds, each counted each time it is reached (what is shared counts as often as it is met; a slice's spare places count too). A statement '..UptoSaid' is the law's where the arguments, and the package variables that the reading takes, are together of bulk at most 1048576: NARROWER than '..Said'. Prove '..Said' where nothing that the law and all that it calls make is longer than what came in: it says more and counts as full. Else prove '..UptoSaid'. A law counts once. -/
mutual
def uptoBulk {H : Type} : DataW H → Nat
  | .lit (.string bytes) => bytes.length + 1
  | .lit _ => 1
  | .nil => 1
  | .ptr d => uptoBulk d + 1
  | .slice elems spare => uptoBulkAll elems + uptoBulkAll spare + 1
  | .agg parts => uptoBulkAll parts + 1
  | .iface _ d => uptoBulk d + 1
  | .map entries => uptoBulkEntries entries + 1
  | .held _ => 1
def uptoBulkAll {H : Type} : List (DataW H) → Nat
  | [] => 0
  | d :: r => uptoBulk d + uptoBulkAll r
def uptoBulkEntries {H : Type} : List (Lit × DataW H) → Nat
  | [] => 0
  | x :: r => uptoBulkEntry x + uptoBulkEntries r
def uptoBulkEntry {H : Type} : Lit × DataW H → Nat
  | (.string bytes, d) => bytes.length + uptoBulk d + 1
  | (_, d) => uptoBulk d + 1
 end
def uptoSmall : (H : Type) → List (DataW H) → Bool := fun _ ds => decide (uptoBulkAll ds ≤ 1048576)
def OpenSpec.upto (s : _root_.Go.ChangeSpec) : _root_.Go.OpenSpec := { _root_.Go.OpenSpec.ofChange s with cond := some uptoSmall }

/-- 'halberdlaw10.Xcurves', WHERE WHAT IT READS IS OF BULK AT MOST 1048576: true; the input reads as it did. -/
def xcurvesUptoRow : OpenClaim := { program := "ytpniinolkflfjaa", sum := "22f2cdbbbf9d1de4f6daa5d946bc2761d61c3522201aa04e40eb78f10740aa07", func := "halberd/halberdlaw10.Xcurves", spec := "xcurves", apart := false, narrowed := true }
def XcurvesUptoSaid : Prop := xcurvesUptoRow.holds Try.pinned (OpenSpec.upto xcurvesSpec)

/-- 'halberdlaw10.XcurveAgrees', WHERE WHAT IT READS IS OF BULK AT MOST 1048576: true; the input reads as it did. -/
def xcurveAgreesUptoRow : OpenClaim := { program := "ytpniinolkflfjaa", sum := "22f2cdbbbf9d1de4f6daa5d946bc2761d61c3522201aa04e40eb78f10740aa07", func := "halberd/halberdlaw10.XcurveAgrees", spec := "xcurveAgrees", apart := false, narrowed := true }
def XcurveAgreesUptoSaid : Prop := xcurveAgreesUptoRow.holds Try.pinned (OpenSpec.upto xcurveAgreesSpec)

/-- 'halberdlaw10.XcurveTop', WHERE WHAT IT READS IS OF BULK AT MOST 1048576: true; the input reads as it did. -/
def xcurveTopUptoRow : OpenClaim := { program := "ytpniinolkflfjaa", sum := "22f2cdbbbf9d1de4f6daa5d946bc2761d61c3522201aa04e40eb78f10740aa07", func := "halberd/halberdlaw10.XcurveTop", spec := "xcurveTop", apart := false, narrowed := true }
def XcurveTopUptoSaid : Prop := xcurveTopUptoRow.holds Try.pinned (OpenSpec.upto xcurveTopSpec)

/-- 'halberdlaw10.XcurveReduced', WHERE WHAT IT READS IS OF BULK AT MOST 1048576: true; the input reads as it did. -/
def xcurveReducedUptoRow : OpenClaim := { program := "ytpniinolkflfjaa", sum := "22f2cdbbbf9d1de4f6daa5d946bc2761d61c3522201aa04e40eb78f10740aa07", func := "halberd/halberdlaw10.XcurveReduced", spec := "xcurveReduced", apart := false, narrowed := true }
def XcurveReducedUptoSaid : Prop := xcurveReducedUptoRow.holds Try.pinned (OpenSpec.upto xcurveReducedSpec)

end Rows
end Go.Proofs.Ytpniinolkflfjaa
