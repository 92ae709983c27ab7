/-
  The program's listed table: what the rows' condition gives the walks; the door's own heap meets it.
-/
import Derived.Test.YtbfkbinkfboklaaDoorRows
import Derived.Test.YtbfkbinkfboklaaDoorImE
import Derived.ProofKit
import Derived.LaidMore
import Derived.OpenShut
import Derived.Stop.Joined
import Derived.Lib.LaidTab
namespace Go.Proofs.YtbfkbinkfboklaaDoor
open Go.ChangeShapes Go.WideShapes Go.ChangeAt Go.WideMaps Go.WideElems Go.RowKit
abbrev laid1 : List (String × DataW Unit) := [("halberd/sha.roundWords", Rows.laid_halberd_sha_roundWords)]
theorem gRound : Tryd.prog.globalNamed "halberd/sha.roundWords" = some 0 := by kernel_rfl
theorem tRound : (Tryd.prog.globals[0]?).map (·.type) = some 78 := by kernel_rfl
/-- The door's own heap meets the condition. -/
theorem door_met (os : Os) (args : Array Value) : laidMetH Tryd.prog laid1 ((World.doorLaid Tryd.prog 14 os).forCall (fun _ _ => 0) ⟨#[], args, []⟩).memory :=
  laidMetH_of_parts3 (fuel := 8) (laidMet_of_run' 8 (by kernel_rfl) (by kernel_rfl)) (by kernel_rfl) (by kernel_rfl)
def roundZ : List Int := Sha5.kTab.map fun n : Nat => (n : Int)
theorem laid_tab : (Rows.laid_halberd_sha_roundWords : DataW Unit) = Lib.tabData .u64 roundZ := by kernel_rfl
/-- What the condition gives the walks. -/
theorem tab_of_laid {W : World} (h : laidMetH Tryd.prog laid1 W) : Im.Tab W := by
  rw [MakeChecks.laidMetH_plain _ _ _ (by kernel_rfl)] at h
  have h1 : laidMet Tryd.prog [("halberd/sha.roundWords", Lib.tabData .u64 roundZ)] W := by rw [← laid_tab]; exact h
  have hT := Lib.tabIs_of_head gRound tRound Tryd.underlying78 Tryd.underlying67 (by kernel_rfl) (by kernel_rfl) h1
  intro i hi
  have hl : Sha5.kTab.length = 80 := rfl
  have hc := hT.cell gRound i (by simp [roundZ, hl]; exact hi)
  rw [hc]
  simp [roundZ, List.getD_eq_getElem?_getD, List.getElem?_eq_getElem (show i < Sha5.kTab.length by omega)]
end Go.Proofs.YtbfkbinkfboklaaDoor
