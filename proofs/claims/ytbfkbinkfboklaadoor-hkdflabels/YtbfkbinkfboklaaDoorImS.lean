/-
  Small forms of the contracts for the laws' walks: forks with a name of their own, sums by the number of bits.
-/
import Derived.Test.YtbfkbinkfboklaaDoorImU
import Derived.Test.YtbfkbinkfboklaaDoorShaF
import Derived.Deep.RegionWith
namespace Go.Proofs.Im
open Go.RowKit Go.Proofs.Sha Go.Proofs.Be
theorem hfork2 (wide : Bool) (g : Nat) (s : ByteArray) (w : World) (h : Wrote w g wide s) :
    Calls Tryd.prog 41 #[.pointer (some ⟨g, 0, none⟩)] w fun e w' => ∃ g', e = .returned (.pointer (some ⟨g', 0, none⟩)) ∧ Hid (w.heap.size ≤ g') ∧ Below w.heap.size w w' ∧ Hid (Wrote w' g' wide s) :=
  (hfork_any wide g s w h).mono fun _ _ ⟨h1, h2, h3⟩ => ⟨w.heap.size, h1, Nat.le_refl _, h2, h3⟩
theorem hsum_256 (g : Nat) (s : ByteArray) (w : World) (h : Wrote w g false s) (hT : Tab w) (hs : s.size ≤ 288230376151711744) :
    Calls Tryd.prog 31 #[.pointer (some ⟨g, 0, none⟩)] w fun e w' => e = .returned (.string (digS 256 s)) ∧ Below w.heap.size w w' := hsum_any false g s w h hT hs
theorem hsum_384 (g : Nat) (s : ByteArray) (w : World) (h : Wrote w g true s) (hT : Tab w) (hs : s.size ≤ 288230376151711744) :
    Calls Tryd.prog 31 #[.pointer (some ⟨g, 0, none⟩)] w fun e w' => e = .returned (.string (digS 384 s)) ∧ Below w.heap.size w w' := hsum_any true g s w h hT hs
theorem new2_256 (w : World) :
    Calls Tryd.prog 28 #[.int .i64 256] w fun e w' => ∃ g, e = .returned (.tuple #[.pointer (some ⟨g, 0, none⟩), .int .i64 0]) ∧ Hid (w.heap.size ≤ g) ∧ Below w.heap.size w w' ∧ Hid (Wrote w' g false ⟨#[]⟩) := newK2 false w
theorem new2_384 (w : World) :
    Calls Tryd.prog 28 #[.int .i64 384] w fun e w' => ∃ g, e = .returned (.tuple #[.pointer (some ⟨g, 0, none⟩), .int .i64 0]) ∧ Hid (w.heap.size ≤ g) ∧ Below w.heap.size w w' ∧ Hid (Wrote w' g true ⟨#[]⟩) := newK2 true w
/-- A write behind what was written: the text's new form, and what stays. -/
theorem write2 (wide : Bool) (g : Nat) (s t : ByteArray) (w : World) (h : Wrote w g wide s) (hg : 0 < g) (hT : Tab w) (hs : s.size + t.size ≤ 288230376151711744) :
    Calls Tryd.prog 42 #[.pointer (some ⟨g, 0, none⟩), .string t] w fun e w' => e = .returned (.tuple #[]) ∧ But g w w' ∧ Hid (Wrote w' g wide (s ++ t)) := write_any wide g s t w h hg hT hs
end Go.Proofs.Im
