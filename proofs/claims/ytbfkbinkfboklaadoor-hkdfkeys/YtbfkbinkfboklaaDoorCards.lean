/-
  DERIVED. GIVEN WITH THE SEED: THE CARDS: each row of YtbfkbinkfboklaaDoorRows.lean that lists a variable, with what it lists TIED to the program's text (the seventh form; the later family's looks); each row that meets fmt, with fmt's text TOLD by the authors' own Lean function (tested against real Go, not proved from fmt's source: count such statements apart). THE CARD IS WHAT COUNTS. Prove the row's statement (the work); the ties are given (YtbfkbinkfboklaaDoorTie.lean); close each card by the builder's one call (the guide's Derived/Test/ToyasCard.lean, 'card_holds'). Laid BY PROGRAM, IN A SANDBOX (cutbox-door.mjs). By AI agents, Wed Nov 11 2026. No macro, syntax, notation, axiom, sorry.
-/
import Derived.Test.YtbfkbinkfboklaaDoorRows
import GoSem.ClaimSeven
namespace Go.Proofs.YtbfkbinkfboklaaDoor
namespace Rows

/-- THE TIED CARD OF 'halberdlaw3.Hkdfs'. -/
def hkdfsCard : Claim7 := { stood := { row := hkdfsRow, standIns := [], harness := (true, "ba4f4f3d7e4eba6f6c00cbe2811b726bf11c08da414799edb1ee5f736860c90d"), looks := false }, kinds := [], alts := [], laidByText := true, laidKinds := [.data], laidTests := true, laidLooks := .later }
def HkdfsCardSaid : Prop := Claim7.holds Tryd.pinned (.plain (OpenSpec.ofChange hkdfsSpec)) hkdfsCard

/-- THE TIED CARD OF 'halberdlaw3.HkdfBegins'. -/
def hkdfBeginsCard : Claim7 := { stood := { row := hkdfBeginsRow, standIns := [], harness := (true, "ba4f4f3d7e4eba6f6c00cbe2811b726bf11c08da414799edb1ee5f736860c90d"), looks := false }, kinds := [], alts := [], laidByText := true, laidKinds := [.data], laidTests := true, laidLooks := .later }
def HkdfBeginsCardSaid : Prop := Claim7.holds Tryd.pinned (.plain (OpenSpec.ofChange hkdfBeginsSpec)) hkdfBeginsCard

/-- THE TIED CARD OF 'halberdlaw3.HkdfKeys'. -/
def hkdfKeysCard : Claim7 := { stood := { row := hkdfKeysRow, standIns := [], harness := (true, "ba4f4f3d7e4eba6f6c00cbe2811b726bf11c08da414799edb1ee5f736860c90d"), looks := false }, kinds := [], alts := [], laidByText := true, laidKinds := [.data], laidTests := true, laidLooks := .later }
def HkdfKeysCardSaid : Prop := Claim7.holds Tryd.pinned (.plain (OpenSpec.ofChange hkdfKeysSpec)) hkdfKeysCard

/-- THE TIED CARD OF 'halberdlaw3.HkdfLabels'. -/
def hkdfLabelsCard : Claim7 := { stood := { row := hkdfLabelsRow, standIns := [], harness := (true, "ba4f4f3d7e4eba6f6c00cbe2811b726bf11c08da414799edb1ee5f736860c90d"), looks := false }, kinds := [], alts := [], laidByText := true, laidKinds := [.data], laidTests := true, laidLooks := .later }
def HkdfLabelsCardSaid : Prop := Claim7.holds Tryd.pinned (.plain (OpenSpec.ofChange hkdfLabelsSpec)) hkdfLabelsCard

/-- THE TIED CARD OF 'halberdlaw3.HkdfForms'. -/
def hkdfFormsCard : Claim7 := { stood := { row := hkdfFormsRow, standIns := [], harness := (true, "ba4f4f3d7e4eba6f6c00cbe2811b726bf11c08da414799edb1ee5f736860c90d"), looks := false }, kinds := [], alts := [], laidByText := true, laidKinds := [.data], laidTests := true, laidLooks := .later }
def HkdfFormsCardSaid : Prop := Claim7.holds Tryd.pinned (.plain (OpenSpec.ofChange hkdfFormsSpec)) hkdfFormsCard

/-- THE SECOND FORM's CARD OF 'halberdlaw3.Hkdfs'. -/
def hkdfsUptoCard : Claim7 := { stood := { row := hkdfsUptoRow, standIns := [], harness := (true, "ba4f4f3d7e4eba6f6c00cbe2811b726bf11c08da414799edb1ee5f736860c90d"), looks := false }, kinds := [], alts := [], laidByText := true, laidKinds := [.data], laidTests := true, laidLooks := .later }
def HkdfsUptoCardSaid : Prop := Claim7.holds Tryd.pinned (.plain (OpenSpec.upto hkdfsSpec)) hkdfsUptoCard

/-- THE SECOND FORM's CARD OF 'halberdlaw3.HkdfBegins'. -/
def hkdfBeginsUptoCard : Claim7 := { stood := { row := hkdfBeginsUptoRow, standIns := [], harness := (true, "ba4f4f3d7e4eba6f6c00cbe2811b726bf11c08da414799edb1ee5f736860c90d"), looks := false }, kinds := [], alts := [], laidByText := true, laidKinds := [.data], laidTests := true, laidLooks := .later }
def HkdfBeginsUptoCardSaid : Prop := Claim7.holds Tryd.pinned (.plain (OpenSpec.upto hkdfBeginsSpec)) hkdfBeginsUptoCard

/-- THE SECOND FORM's CARD OF 'halberdlaw3.HkdfKeys'. -/
def hkdfKeysUptoCard : Claim7 := { stood := { row := hkdfKeysUptoRow, standIns := [], harness := (true, "ba4f4f3d7e4eba6f6c00cbe2811b726bf11c08da414799edb1ee5f736860c90d"), looks := false }, kinds := [], alts := [], laidByText := true, laidKinds := [.data], laidTests := true, laidLooks := .later }
def HkdfKeysUptoCardSaid : Prop := Claim7.holds Tryd.pinned (.plain (OpenSpec.upto hkdfKeysSpec)) hkdfKeysUptoCard

/-- THE SECOND FORM's CARD OF 'halberdlaw3.HkdfLabels'. -/
def hkdfLabelsUptoCard : Claim7 := { stood := { row := hkdfLabelsUptoRow, standIns := [], harness := (true, "ba4f4f3d7e4eba6f6c00cbe2811b726bf11c08da414799edb1ee5f736860c90d"), looks := false }, kinds := [], alts := [], laidByText := true, laidKinds := [.data], laidTests := true, laidLooks := .later }
def HkdfLabelsUptoCardSaid : Prop := Claim7.holds Tryd.pinned (.plain (OpenSpec.upto hkdfLabelsSpec)) hkdfLabelsUptoCard

/-- THE SECOND FORM's CARD OF 'halberdlaw3.HkdfForms'. -/
def hkdfFormsUptoCard : Claim7 := { stood := { row := hkdfFormsUptoRow, standIns := [], harness := (true, "ba4f4f3d7e4eba6f6c00cbe2811b726bf11c08da414799edb1ee5f736860c90d"), looks := false }, kinds := [], alts := [], laidByText := true, laidKinds := [.data], laidTests := true, laidLooks := .later }
def HkdfFormsUptoCardSaid : Prop := Claim7.holds Tryd.pinned (.plain (OpenSpec.upto hkdfFormsSpec)) hkdfFormsUptoCard
end Rows
end Go.Proofs.YtbfkbinkfboklaaDoor
