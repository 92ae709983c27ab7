/-
  No cell of these rows narrows 'for every input' (looked for: loops, veiled, ifaces, maps, wideKeys, modest, calm, conditions, laid).
  DERIVED. THE GIVEN ROWS OF THIS SEAT. 6 by the template 'for every input the law returns true; each argument reads behind the call as it read before'; 0 by the template 'total and deterministic' (their statements: YtfjodabkfjfcbaaTotals.lean).
  GIVEN WITH THE SEED: the statements are not yours to turn. If you find one false, say at which input.
  Laid BY PROGRAM, IN A SANDBOX (cutbox-rows.mjs): the forced cells as the released guide's own fill.sh prints them over the translation f2006bb3a89de10d… (all of the seat's roots in one cut). By AI agents, Wed Nov 11 2026. No macro, syntax, notation, axiom, sorry.
-/
import Derived.Test.YtfjodabkfjfcbaaChecked
import GoSem.Claim
import GoSem.ClaimJoined
import GoSem.ClaimMapViews
import Derived.JoinedTies
import Derived.KernelRfl
namespace Go.Proofs.Ytfjodabkfjfcbaa
/- THE CELL 'sum', in the pinned program and in every row, IS THE sha256 OF THE DUMP (.gsa) THAT YtfjodabkfjfcbaaProg.lean LOADS. Nothing in Lean hashes anything: it is a label: what it is worth is what the hold of that sum in a sandbox is worth. -/
noncomputable def Try.pinned : Pinned := { name := "ytfjodabkfjfcbaa", sum := "f2006bb3a89de10d2eb48a26bc8ac754d1cffe78ef6b28a77396404e6ff2ebf2", checked := Try.checked }
namespace Rows
def none {H : Type} : Left H := { results := [], args := [] }

/-- 'halberdlaw5.Gcms': WHATEVER THE INPUT: true; the input reads as it did. -/
def gcmsSpec : ChangeSpec := { name := "gcms", fn := fun _ => fun
  | [d1, d2, d3, d4] => { results := [.lit (.bool true)], args := [d1, d2, d3, d4] }
  | _ => none }
def gcmsRow : OpenClaim := { program := "ytfjodabkfjfcbaa", sum := "f2006bb3a89de10d2eb48a26bc8ac754d1cffe78ef6b28a77396404e6ff2ebf2", func := "halberd/halberdlaw5.Gcms", spec := "gcms", apart := false }
def GcmsSaid : Prop := gcmsRow.holds Try.pinned (OpenSpec.ofChange gcmsSpec)

/-- ITS FALSE NEIGHBOUR: 'it returns false'. Refute it at one input. -/
def gcmsWrong : ChangeSpec := { name := "gcms", fn := fun _ => fun
  | [d1, d2, d3, d4] => { results := [.lit (.bool false)], args := [d1, d2, d3, d4] }
  | _ => none }
def GcmsWrongFalsely : Prop := gcmsRow.holds Try.pinned (OpenSpec.ofChange gcmsWrong)

/-- 'halberdlaw5.GcmBack': WHATEVER THE INPUT: true; the input reads as it did. -/
def gcmBackSpec : ChangeSpec := { name := "gcmBack", fn := fun _ => fun
  | [d1, d2, d3, d4, d5] => { results := [.lit (.bool true)], args := [d1, d2, d3, d4, d5] }
  | _ => none }
def gcmBackRow : OpenClaim := { program := "ytfjodabkfjfcbaa", sum := "f2006bb3a89de10d2eb48a26bc8ac754d1cffe78ef6b28a77396404e6ff2ebf2", func := "halberd/halberdlaw5.GcmBack", spec := "gcmBack", apart := false }
def GcmBackSaid : Prop := gcmBackRow.holds Try.pinned (OpenSpec.ofChange gcmBackSpec)

/-- ITS FALSE NEIGHBOUR: 'it returns false'. Refute it at one input. -/
def gcmBackWrong : ChangeSpec := { name := "gcmBack", fn := fun _ => fun
  | [d1, d2, d3, d4, d5] => { results := [.lit (.bool false)], args := [d1, d2, d3, d4, d5] }
  | _ => none }
def GcmBackWrongFalsely : Prop := gcmBackRow.holds Try.pinned (OpenSpec.ofChange gcmBackWrong)

/-- 'halberdlaw5.GhashSums': WHATEVER THE INPUT: true; the input reads as it did. -/
def ghashSumsSpec : ChangeSpec := { name := "ghashSums", fn := fun _ => fun
  | [d1, d2, d3] => { results := [.lit (.bool true)], args := [d1, d2, d3] }
  | _ => none }
def ghashSumsRow : OpenClaim := { program := "ytfjodabkfjfcbaa", sum := "f2006bb3a89de10d2eb48a26bc8ac754d1cffe78ef6b28a77396404e6ff2ebf2", func := "halberd/halberdlaw5.GhashSums", spec := "ghashSums", apart := false }
def GhashSumsSaid : Prop := ghashSumsRow.holds Try.pinned (OpenSpec.ofChange ghashSumsSpec)

/-- ITS FALSE NEIGHBOUR: 'it returns false'. Refute it at one input. -/
def ghashSumsWrong : ChangeSpec := { name := "ghashSums", fn := fun _ => fun
  | [d1, d2, d3] => { results := [.lit (.bool false)], args := [d1, d2, d3] }
  | _ => none }
def GhashSumsWrongFalsely : Prop := ghashSumsRow.holds Try.pinned (OpenSpec.ofChange ghashSumsWrong)

/-- 'halberdlaw5.GcmParts': WHATEVER THE INPUT: true; the input reads as it did. -/
def gcmPartsSpec : ChangeSpec := { name := "gcmParts", fn := fun _ => fun
  | [d1, d2, d3, d4] => { results := [.lit (.bool true)], args := [d1, d2, d3, d4] }
  | _ => none }
def gcmPartsRow : OpenClaim := { program := "ytfjodabkfjfcbaa", sum := "f2006bb3a89de10d2eb48a26bc8ac754d1cffe78ef6b28a77396404e6ff2ebf2", func := "halberd/halberdlaw5.GcmParts", spec := "gcmParts", apart := false }
def GcmPartsSaid : Prop := gcmPartsRow.holds Try.pinned (OpenSpec.ofChange gcmPartsSpec)

/-- ITS FALSE NEIGHBOUR: 'it returns false'. Refute it at one input. -/
def gcmPartsWrong : ChangeSpec := { name := "gcmParts", fn := fun _ => fun
  | [d1, d2, d3, d4] => { results := [.lit (.bool false)], args := [d1, d2, d3, d4] }
  | _ => none }
def GcmPartsWrongFalsely : Prop := gcmPartsRow.holds Try.pinned (OpenSpec.ofChange gcmPartsWrong)

/-- 'halberdlaw5.GcmForms': WHATEVER THE INPUT: true; the input reads as it did. -/
def gcmFormsSpec : ChangeSpec := { name := "gcmForms", fn := fun _ => fun
  | [d1, d2, d3, d4] => { results := [.lit (.bool true)], args := [d1, d2, d3, d4] }
  | _ => none }
def gcmFormsRow : OpenClaim := { program := "ytfjodabkfjfcbaa", sum := "f2006bb3a89de10d2eb48a26bc8ac754d1cffe78ef6b28a77396404e6ff2ebf2", func := "halberd/halberdlaw5.GcmForms", spec := "gcmForms", apart := false }
def GcmFormsSaid : Prop := gcmFormsRow.holds Try.pinned (OpenSpec.ofChange gcmFormsSpec)

/-- ITS FALSE NEIGHBOUR: 'it returns false'. Refute it at one input. -/
def gcmFormsWrong : ChangeSpec := { name := "gcmForms", fn := fun _ => fun
  | [d1, d2, d3, d4] => { results := [.lit (.bool false)], args := [d1, d2, d3, d4] }
  | _ => none }
def GcmFormsWrongFalsely : Prop := gcmFormsRow.holds Try.pinned (OpenSpec.ofChange gcmFormsWrong)

/-- 'halberdlaw5.GcmTwins': WHATEVER THE INPUT: true; the input reads as it did. -/
def gcmTwinsSpec : ChangeSpec := { name := "gcmTwins", fn := fun _ => fun
  | [d1, d2, d3, d4] => { results := [.lit (.bool true)], args := [d1, d2, d3, d4] }
  | _ => none }
def gcmTwinsRow : OpenClaim := { program := "ytfjodabkfjfcbaa", sum := "f2006bb3a89de10d2eb48a26bc8ac754d1cffe78ef6b28a77396404e6ff2ebf2", func := "halberd/halberdlaw5.GcmTwins", spec := "gcmTwins", apart := false }
def GcmTwinsSaid : Prop := gcmTwinsRow.holds Try.pinned (OpenSpec.ofChange gcmTwinsSpec)

/-- ITS FALSE NEIGHBOUR: 'it returns false'. Refute it at one input. -/
def gcmTwinsWrong : ChangeSpec := { name := "gcmTwins", fn := fun _ => fun
  | [d1, d2, d3, d4] => { results := [.lit (.bool false)], args := [d1, d2, d3, d4] }
  | _ => none }
def GcmTwinsWrongFalsely : Prop := gcmTwinsRow.holds Try.pinned (OpenSpec.ofChange gcmTwinsWrong)

/- THE SECOND FORM. 'bulk': how many values and letters a reading holds, each counted each time it is reached (what is shared counts as often as it is met; a slice's spare places count too). A statement '..UptoSaid' is the law's where the arguments, and the package variables that the reading takes, are together of bulk at most 1048576: NARROWER than '..Said'. Prove '..Said' where nothing that the law and all that it calls make is longer than what came in: it says more and counts as full. Else prove '..UptoSaid'. A law counts once. -/
mutual
def uptoBulk {H : Type} : DataW H → Nat
  | .lit (.string bytes) => bytes.length + 1
  | .lit _ => 1
  | .nil => 1
  | .ptr d => uptoBulk d + 1
  | .slice elems spare => uptoBulkAll elems + uptoBulkAll spare + 1
  | .agg parts => uptoBulkAll parts + 1
  | .iface _ d => uptoBulk d + 1
  | .map entries => uptoBulkEntries entries + 1
  | .held _ => 1
def uptoBulkAll {H : Type} : List (DataW H) → Nat
  | [] => 0
  | d :: r => uptoBulk d + uptoBulkAll r
def uptoBulkEntries {H : Type} : List (Lit × DataW H) → Nat
  | [] => 0
  | x :: r => uptoBulkEntry x + uptoBulkEntries r
def uptoBulkEntry {H : Type} : Lit × DataW H → Nat
  | (.string bytes, d) => bytes.length + uptoBulk d + 1
  | (_, d) => uptoBulk d + 1
 end
def uptoSmall : (H : Type) → List (DataW H) → Bool := fun _ ds => decide (uptoBulkAll ds ≤ 1048576)
def OpenSpec.upto (s : _root_.Go.ChangeSpec) : _root_.Go.OpenSpec := { _root_.Go.OpenSpec.ofChange s with cond := some uptoSmall }

/-- 'halberdlaw5.Gcms', WHERE WHAT IT READS IS OF BULK AT MOST 1048576: true; the input reads as it did. -/
def gcmsUptoRow : OpenClaim := { program := "ytfjodabkfjfcbaa", sum := "f2006bb3a89de10d2eb48a26bc8ac754d1cffe78ef6b28a77396404e6ff2ebf2", func := "halberd/halberdlaw5.Gcms", spec := "gcms", apart := false, narrowed := true }
def GcmsUptoSaid : Prop := gcmsUptoRow.holds Try.pinned (OpenSpec.upto gcmsSpec)

/-- 'halberdlaw5.GcmBack', WHERE WHAT IT READS IS OF BULK AT MOST 1048576: true; the input reads as it did. -/
def gcmBackUptoRow : OpenClaim := { program := "ytfjodabkfjfcbaa", sum := "f2006bb3a89de10d2eb48a26bc8ac754d1cffe78ef6b28a77396404e6ff2ebf2", func := "halberd/halberdlaw5.GcmBack", spec := "gcmBack", apart := false, narrowed := true }
def GcmBackUptoSaid : Prop := gcmBackUptoRow.holds Try.pinned (OpenSpec.upto gcmBackSpec)

/-- 'halberdlaw5.GhashSums', WHERE WHAT IT READS IS OF BULK AT MOST 1048576: true; the input reads as it did. -/
def ghashSumsUptoRow : OpenClaim := { program := "ytfjodabkfjfcbaa", sum := "f2006bb3a89de10d2eb48a26bc8ac754d1cffe78ef6b28a77396404e6ff2ebf2", func := "halberd/halberdlaw5.GhashSums", spec := "ghashSums", apart := false, narrowed := true }
def GhashSumsUptoSaid : Prop := ghashSumsUptoRow.holds Try.pinned (OpenSpec.upto ghashSumsSpec)

/-- 'halberdlaw5.GcmParts', WHERE WHAT IT READS IS OF BULK AT MOST 1048576: true; the input reads as it did. -/
def gcmPartsUptoRow : OpenClaim := { program := "ytfjodabkfjfcbaa", sum := "f2006bb3a89de10d2eb48a26bc8ac754d1cffe78ef6b28a77396404e6ff2ebf2", func := "halberd/halberdlaw5.GcmParts", spec := "gcmParts", apart := false, narrowed := true }
def GcmPartsUptoSaid : Prop := gcmPartsUptoRow.holds Try.pinned (OpenSpec.upto gcmPartsSpec)

/-- 'halberdlaw5.GcmForms', WHERE WHAT IT READS IS OF BULK AT MOST 1048576: true; the input reads as it did. -/
def gcmFormsUptoRow : OpenClaim := { program := "ytfjodabkfjfcbaa", sum := "f2006bb3a89de10d2eb48a26bc8ac754d1cffe78ef6b28a77396404e6ff2ebf2", func := "halberd/halberdlaw5.GcmForms", spec := "gcmForms", apart := false, narrowed := true }
def GcmFormsUptoSaid : Prop := gcmFormsUptoRow.holds Try.pinned (OpenSpec.upto gcmFormsSpec)

/-- 'halberdlaw5.GcmTwins', WHERE WHAT IT READS IS OF BULK AT MOST 1048576: true; the input reads as it did. -/
def gcmTwinsUptoRow : OpenClaim := { program := "ytfjodabkfjfcbaa", sum := "f2006bb3a89de10d2eb48a26bc8ac754d1cffe78ef6b28a77396404e6ff2ebf2", func := "halberd/halberdlaw5.GcmTwins", spec := "gcmTwins", apart := false, narrowed := true }
def GcmTwinsUptoSaid : Prop := gcmTwinsUptoRow.holds Try.pinned (OpenSpec.upto gcmTwinsSpec)

end Rows
end Go.Proofs.Ytfjodabkfjfcbaa
