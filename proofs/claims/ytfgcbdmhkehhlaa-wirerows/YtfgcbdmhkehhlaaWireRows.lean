/-
  For every list of numbers and every text the law WireRows answers true, and its arguments read as before. Conditions: none (the text is of at most 140737488355328 bytes by the form's own reach).
-/
import Derived.Test.YtfgcbdmhkehhlaaC
import Derived.Test.YtfgcbdmhkehhlaaE
import Derived.Deep.RegionHeld3
import Derived.BigQuiet
import Derived.Deep.QuietTactic
import Derived.WalkSmall
import Derived.Test.YtfgcbdmhkehhlaaRows
import Derived.WalkKit
import Derived.ProofKit
import Derived.OpenShut
import Derived.ShutString
import Derived.SizedLaws
import Derived.ChangeOld
import Derived.Below
namespace Go.Proofs.Ytfgcbdmhkehhlaa.wireRows
open Go.ChangeShapes Go.WideShapes Go.ChangeAt Go.RowKit
open Go.ChangeMaps (open_string shut_string)
set_option linter.unusedVariables false

theorem own : ownKnob Try.prog.godebug = none := by kernel_rfl
theorem laidOut : laidOutB Try.prog = true := by kernel_rfl

/-- A slice of integers that came in: nil, or a row of cells that hold zs. -/
def IsRow (k : IntKind) (w : World) (a : Option Addr) (len cap : Nat) (zs : List Int) : Prop :=
  (a = none ∧ len = 0 ∧ cap = 0 ∧ zs = []) ∨
  ∃ x, a = some x ∧ len ≤ cap ∧ cap ≤ maxLen ∧ zs.length = cap ∧ (∀ i, i < zs.length → w.cell? (x.add i) = some (.int k (zs.getD i 0))) ∧ ∀ n ∈ zs, (Lit.int k n).wf = true

theorem and_of (z : Int) (m : Nat) (hm : m < 9223372036854775808) : bits .and .i64 z (m : Int) = (((z % 18446744073709551616).toNat &&& m : Nat) : Int) := by
  have hx : (z % 18446744073709551616).toNat &&& m ≤ m := Nat.and_le_right
  show IntKind.i64.wrap ((BitVec.ofInt 64 z &&& BitVec.ofInt 64 (m : Int)).toNat : Int) = _
  rw [BitVec.toNat_and, ofInt_u64 m (by omega), BitVec.toNat_ofInt, show ((2 ^ 64 : Nat) : Int) = 18446744073709551616 from rfl]
  exact IntWalk.i64_in _ (by omega)
theorem mask1 (z : Int) : bits .and .i64 z 255 = z % 256 := by
  have h := and_of z 255 (by omega); rw [nat_mask8] at h; refine Eq.trans h ?_; omega
theorem mask2 (z : Int) : bits .and .i64 z 65535 = z % 65536 := by
  have h := and_of z 65535 (by omega); rw [nat_mask16] at h; refine Eq.trans h ?_; omega
theorem mask3 (z : Int) : bits .and .i64 z 16777215 = z % 16777216 := by
  have h := and_of z 16777215 (by omega); rw [nat_mask24] at h; refine Eq.trans h ?_; omega
theorem mask4 (z : Int) : bits .and .i64 z 4294967295 = z % 4294967296 := by
  have h := and_of z 4294967295 (by omega); rw [nat_mask32] at h; refine Eq.trans h ?_; omega
/-- What one round writes. -/
def rowL (z : Int) (j : Nat) : List UInt8 := beL (z % (256 ^ (1 + j % 4) : Nat)).toNat (1 + j % 4)
/-- What j rounds have written. -/
def allR (zs : List Int) : Nat → List UInt8
  | 0 => []
  | j + 1 => allR zs j ++ rowL (zs.getD j 0) j
theorem allR_part (zs : List Int) (j n : Nat) (h : j < n) : ∃ rest, allR zs n = allR zs j ++ (rowL (zs.getD j 0) j ++ rest) := by
  induction n with
  | zero => omega
  | succ n ih =>
    by_cases hj : j = n
    · subst hj; exact ⟨[], by simp [allR]⟩
    · obtain ⟨rest, hr⟩ := ih (by omega)
      exact ⟨rest ++ rowL (zs.getD n 0) n, by simp [allR, hr]⟩
theorem last_byte (A k : Nat) (h : k < (beS A (k + 1)).size) : ((beS A (k + 1))[k]'h).toNat = A % 256 := by
  rw [get_byt]
  unfold byt
  rw [beS_list]
  simp only [beL]
  rw [List.getD_eq_getElem?_getD, List.getElem?_append_right (by rw [beL_length]; exact Nat.le_refl _), beL_length]
  simp
/-- What round i wrote is read back at its place. -/
theorem readsR (S : ByteArray) (zs : List Int) (i j k A p : Nat) (hij : i < j) (hS : S.data.toList = allR zs j) (hs : S.size ≤ 9000) (hk : 1 + i % 4 = k) (hA : rowL (zs.getD i 0) i = beL A k) (hf : A < 256 ^ k) (hp : p = (allR zs i).length) :
    holdsB S.size p k = true ∧ numV S p k = A ∧ p + k = (allR zs (i + 1)).length ∧ p + k ≤ S.size := by
  obtain ⟨rest, hr⟩ := allR_part zs i j hij
  rw [hr, hA] at hS
  have hz : S.size = p + k + rest.length := by rw [ba_size S, hS, hp]; simp [beL_length]; omega
  refine ⟨holdsB_true (by omega) (by omega) (by omega), ?_, ?_, by omega⟩
  · rw [hp]; exact numV_be _ rest S A k hS hf
  · simp only [allR, List.length_append, hA, beL_length, hp]
theorem and3 (j : Nat) (h : j < 1000) : bits .and .i64 (j : Int) 3 = ((j % 4 : Nat) : Int) := by
  have hx : j &&& 3 < 2 ^ 63 := Nat.and_lt_two_pow _ (by omega)
  show IntKind.i64.wrap ((BitVec.ofInt 64 (j : Int) &&& BitVec.ofInt 64 ((3 : Nat) : Int)).toNat : Int) = _
  rw [BitVec.toNat_and, ofInt_u64 j (by omega), ofInt_u64 3 (by omega), nat_mask2] at *
  exact IntWalk.i64_in _ (by omega)
theorem num_same (e : Int) (w : World) : Calls Try.prog 16 #[.int .i64 e] w fun e' w' => e' = .returned (.int .i64 e) ∧ w' = w := by
  go_enter Try.func16, Try.ntmps16
  go_wp2
  go_ret
  exact ⟨rfl, rfl⟩
/-- A call that makes new memory alone leaves an old cell, and what is old, as it was. -/
theorem held_of {f : FuncId} {args : Array Value} {v : Ending} {w u : World} {p : Addr} {x : Value} (h : Calls Try.prog f args u fun e u' => e = v ∧ Below u.heap.size u u') (hp : p.block < w.heap.size) (hc : u.cell? p = some x) (hb : Below w.heap.size w u) :
    Calls Try.prog f args u fun e u' => e = v ∧ u'.cell? p = some x ∧ Below w.heap.size w u' :=
  h.mono fun _ _ ⟨he, hbu⟩ => ⟨he, by rw [hbu.cell (Nat.lt_of_lt_of_le hp hb.size)]; exact hc, hb.trans (hbu.mono hb.size)⟩
theorem ends_z (S t : ByteArray) (hs : S.size ≤ 9000) (ht : t.size ≤ 140737488355328) : (S ++ t ++ ⟨#[122]⟩).size = S.size + t.size + 1 ∧ numV (S ++ t ++ ⟨#[122]⟩) (S.size + t.size) 1 = 122 := by
  refine ⟨by rw [ByteArray.size_append, ByteArray.size_append]; rfl, ?_⟩
  have h := numV_be (S.data.toList ++ t.data.toList) [] (S ++ t ++ ⟨#[122]⟩) 122 1 (by rw [app_list, app_list]; rfl) (by decide)
  rwa [List.length_append, ← ba_size, ← ba_size] at h
set_option maxHeartbeats 4000000 in
set_option maxRecDepth 100000 in
theorem walk_pos (b off len0 cap0 : Nat) (z0 : List Int) (a1 : ByteArray) (w : World) (hl2 : len0 ≤ maxLen) (hbl : b < w.heap.size) (hcell : ∀ i, i < len0 → w.cell? ⟨b, off + i, none⟩ = some (.int .i64 (z0.getD i 0))) (w1 : a1.size ≤ 140737488355328) :
    Calls Try.prog 8 #[.slice (some ⟨b, off, none⟩) len0 cap0, .string a1] w fun e w' => e = .returned (.bool true) ∧ Below w.heap.size w w' := by
  unfold maxLen at hl2
  have HB := Lib.hid hbl; have HCELL := Lib.hid hcell
  clear hbl hcell
  go_enter Try.func8, Try.ntmps8
  go_wp2_with (go_at_call 17; refine (awake_any _).mono ?_; rintro e u1 ⟨rfl, b1⟩)
  go_loopw [5, 6] (fun all i wr => ∃ (j : Nat) (S : ByteArray), j ≤ len0 ∧ j ≤ 40 ∧ i = .int .i64 j ∧ all = .string S ∧ Hid (S.data.toList = allR z0 j) ∧ S.size ≤ j * 4 ∧ Below w.heap.size w wr) (fun _ i _ => 40 - (intOf i).toNat)
  case atStart => exact ⟨0, ⟨#[]⟩, by omega, by omega, rfl, rfl, rfl, by decide, b1⟩
  case round =>
    obtain ⟨j, S, hj, hj30, rfl, rfl, HS, hsz, hb⟩ := hrel
    by_cases hlt : j < len0 ∧ j < 40
    · obtain ⟨l1, l2⟩ := hlt
      obtain ⟨z, hz⟩ : ∃ z, z0.getD j 0 = z := ⟨_, rfl⟩
      have hcl : wr.cell? ⟨b, off + j, none⟩ = some (.int .i64 z) := by rw [hb.cell (p := ⟨b, off + j, none⟩) HB.out, ← hz]; exact HCELL.out j l1
      have hk := and3 j (by omega)
      have h4 : j % 4 = 0 ∨ j % 4 = 1 ∨ j % 4 = 2 ∨ j % 4 = 3 := by omega
      rcases h4 with h4 | h4 | h4 | h4
      · rw [h4] at hk
        have hk' : bits .and .i64 (j : Int) 3 = 0 := hk
        obtain ⟨A, hA⟩ : ∃ A : Nat, z % 256 = A := ⟨(z % 256).toNat, by omega⟩
        have gA : bits .and .i64 z 255 = A := (mask1 z).trans hA
        have HA : Hid (A < 256) := by show A < 256; omega
        have HR : Hid (rowL (z0.getD j 0) j = beL A 1) := by
          show rowL (z0.getD j 0) j = beL A 1
          unfold rowL
          rw [hz, h4]
          show beL (z % ((256 ^ 1 : Nat) : Int)).toNat 1 = beL A 1
          rw [show ((256 ^ 1 : Nat) : Int) = 256 from rfl, hA, Int.toNat_natCast]
        have hby : ∀ (h : 0 < (beS A 1).size), (((beS A 1)[0]'h).toNat : Int) = z % 256 := fun h => by
          rw [last_byte A 0 h]; omega
        clear hk h4 hz hA
        go_wp2_with fail
        have x1 : IntKind.i64.wrap 8 = 8 := by decide
        have x2 : IntKind.i64.wrap 256 = 256 := by decide
        have x3 : IntKind.i64.wrap 255 = 255 := by decide
        go_region_held3 (fun w' => w'.cell? ⟨b, off + j, none⟩ = some (.int .i64 z) ∧ Below w.heap.size w w') (first | exact hS | exact ⟨hcl, hb⟩ | (simp only [World.cell?_drew]; exact ⟨hcl, hb.drew⟩))
          (first | (go_at_call 18; refine (held_of (p := ⟨b, off + j, none⟩) (x := .int .i64 z) (put_1 A _ HA.out) HB.out ?_ hb.drew).mono ?_; (simp only [World.cell?_drew]; exact hcl); rintro e u2 ⟨rfl, hS⟩))
        obtain ⟨hc2, hb2⟩ := hS
        have z1 : (beS A 1).size = 1 := beS_size A 1
        go_wp2_with fail
        go_quiet ((go_at_call 16; exact Calls.quiet_of_same (num_same _ _)))
        go_wp2_with fail
        exact ⟨⟨j + 1, S ++ beS A 1, by omega, by omega, by go_num, rfl, (by show (S ++ beS A 1).data.toList = allR z0 j ++ rowL (z0.getD j 0) j; rw [app_list, HS.out, HR.out, beS_list]), by rw [ByteArray.size_append, z1]; omega, below_drewN hb2 _⟩, by simp [intOf]; omega⟩
      · rw [h4] at hk
        have hk' : bits .and .i64 (j : Int) 3 = 1 := hk
        obtain ⟨A, hA⟩ : ∃ A : Nat, z % 65536 = A := ⟨(z % 65536).toNat, by omega⟩
        have gA : bits .and .i64 z 65535 = A := (mask2 z).trans hA
        have HA : Hid (A < 65536) := by show A < 65536; omega
        have HR : Hid (rowL (z0.getD j 0) j = beL A 2) := by
          show rowL (z0.getD j 0) j = beL A 2
          unfold rowL
          rw [hz, h4]
          show beL (z % ((256 ^ 2 : Nat) : Int)).toNat 2 = beL A 2
          rw [show ((256 ^ 2 : Nat) : Int) = 65536 from rfl, hA, Int.toNat_natCast]
        have hby : ∀ (h : 1 < (beS A 2).size), (((beS A 2)[1]'h).toNat : Int) = z % 256 := fun h => by
          rw [last_byte A 1 h]; omega
        clear hk h4 hz hA
        go_wp2_with fail
        have x1 : IntKind.i64.wrap 16 = 16 := by decide
        have x2 : IntKind.i64.wrap 65536 = 65536 := by decide
        have x3 : IntKind.i64.wrap 65535 = 65535 := by decide
        go_region_held3 (fun w' => w'.cell? ⟨b, off + j, none⟩ = some (.int .i64 z) ∧ Below w.heap.size w w') (first | exact hS | exact ⟨hcl, hb⟩ | (simp only [World.cell?_drew]; exact ⟨hcl, hb.drew⟩))
          (first | (go_at_call 18; refine (held_of (p := ⟨b, off + j, none⟩) (x := .int .i64 z) (put_2 A _ HA.out) HB.out ?_ hb.drew).mono ?_; (simp only [World.cell?_drew]; exact hcl); rintro e u2 ⟨rfl, hS⟩))
        obtain ⟨hc2, hb2⟩ := hS
        have z1 : (beS A 2).size = 2 := beS_size A 2
        go_wp2_with fail
        go_quiet ((go_at_call 16; exact Calls.quiet_of_same (num_same _ _)))
        go_wp2_with fail
        exact ⟨⟨j + 1, S ++ beS A 2, by omega, by omega, by go_num, rfl, (by show (S ++ beS A 2).data.toList = allR z0 j ++ rowL (z0.getD j 0) j; rw [app_list, HS.out, HR.out, beS_list]), by rw [ByteArray.size_append, z1]; omega, below_drewN hb2 _⟩, by simp [intOf]; omega⟩
      · rw [h4] at hk
        have hk' : bits .and .i64 (j : Int) 3 = 2 := hk
        obtain ⟨A, hA⟩ : ∃ A : Nat, z % 16777216 = A := ⟨(z % 16777216).toNat, by omega⟩
        have gA : bits .and .i64 z 16777215 = A := (mask3 z).trans hA
        have HA : Hid (A < 16777216) := by show A < 16777216; omega
        have HR : Hid (rowL (z0.getD j 0) j = beL A 3) := by
          show rowL (z0.getD j 0) j = beL A 3
          unfold rowL
          rw [hz, h4]
          show beL (z % ((256 ^ 3 : Nat) : Int)).toNat 3 = beL A 3
          rw [show ((256 ^ 3 : Nat) : Int) = 16777216 from rfl, hA, Int.toNat_natCast]
        have hby : ∀ (h : 2 < (beS A 3).size), (((beS A 3)[2]'h).toNat : Int) = z % 256 := fun h => by
          rw [last_byte A 2 h]; omega
        clear hk h4 hz hA
        go_wp2_with fail
        have x1 : IntKind.i64.wrap 24 = 24 := by decide
        have x2 : IntKind.i64.wrap 16777216 = 16777216 := by decide
        have x3 : IntKind.i64.wrap 16777215 = 16777215 := by decide
        go_region_held3 (fun w' => w'.cell? ⟨b, off + j, none⟩ = some (.int .i64 z) ∧ Below w.heap.size w w') (first | exact hS | exact ⟨hcl, hb⟩ | (simp only [World.cell?_drew]; exact ⟨hcl, hb.drew⟩))
          (first | (go_at_call 18; refine (held_of (p := ⟨b, off + j, none⟩) (x := .int .i64 z) (put_3 A _ HA.out) HB.out ?_ hb.drew).mono ?_; (simp only [World.cell?_drew]; exact hcl); rintro e u2 ⟨rfl, hS⟩))
        obtain ⟨hc2, hb2⟩ := hS
        have z1 : (beS A 3).size = 3 := beS_size A 3
        go_wp2_with fail
        go_quiet ((go_at_call 16; exact Calls.quiet_of_same (num_same _ _)))
        go_wp2_with fail
        exact ⟨⟨j + 1, S ++ beS A 3, by omega, by omega, by go_num, rfl, (by show (S ++ beS A 3).data.toList = allR z0 j ++ rowL (z0.getD j 0) j; rw [app_list, HS.out, HR.out, beS_list]), by rw [ByteArray.size_append, z1]; omega, below_drewN hb2 _⟩, by simp [intOf]; omega⟩
      · rw [h4] at hk
        have hk' : bits .and .i64 (j : Int) 3 = 3 := hk
        obtain ⟨A, hA⟩ : ∃ A : Nat, z % 4294967296 = A := ⟨(z % 4294967296).toNat, by omega⟩
        have gA : bits .and .i64 z 4294967295 = A := (mask4 z).trans hA
        have HA : Hid (A < 4294967296) := by show A < 4294967296; omega
        have HR : Hid (rowL (z0.getD j 0) j = beL A 4) := by
          show rowL (z0.getD j 0) j = beL A 4
          unfold rowL
          rw [hz, h4]
          show beL (z % ((256 ^ 4 : Nat) : Int)).toNat 4 = beL A 4
          rw [show ((256 ^ 4 : Nat) : Int) = 4294967296 from rfl, hA, Int.toNat_natCast]
        have hby : ∀ (h : 3 < (beS A 4).size), (((beS A 4)[3]'h).toNat : Int) = z % 256 := fun h => by
          rw [last_byte A 3 h]; omega
        clear hk h4 hz hA
        go_wp2_with fail
        have x1 : IntKind.i64.wrap 32 = 32 := by decide
        have x2 : IntKind.i64.wrap 4294967296 = 4294967296 := by decide
        have x3 : IntKind.i64.wrap 4294967295 = 4294967295 := by decide
        go_region_held3 (fun w' => w'.cell? ⟨b, off + j, none⟩ = some (.int .i64 z) ∧ Below w.heap.size w w') (first | exact hS | exact ⟨hcl, hb⟩ | (simp only [World.cell?_drew]; exact ⟨hcl, hb.drew⟩))
          (first | (go_at_call 18; refine (held_of (p := ⟨b, off + j, none⟩) (x := .int .i64 z) (put_4 A _ HA.out) HB.out ?_ hb.drew).mono ?_; (simp only [World.cell?_drew]; exact hcl); rintro e u2 ⟨rfl, hS⟩))
        obtain ⟨hc2, hb2⟩ := hS
        have z1 : (beS A 4).size = 4 := beS_size A 4
        go_wp2_with fail
        go_quiet ((go_at_call 16; exact Calls.quiet_of_same (num_same _ _)))
        go_wp2_with fail
        exact ⟨⟨j + 1, S ++ beS A 4, by omega, by omega, by go_num, rfl, (by show (S ++ beS A 4).data.toList = allR z0 j ++ rowL (z0.getD j 0) j; rw [app_list, HS.out, HR.out, beS_list]), by rw [ByteArray.size_append, z1]; omega, below_drewN hb2 _⟩, by simp [intOf]; omega⟩
    · have hSz : S.size ≤ 9000 := by omega
      have hN : ∀ i : Nat, i < len0 → i < 40 → i < j := by omega
      have HN := Lib.hid hN
      have e0 := hb.size
      have HE : Hid (S.size = (allR z0 j).length) := by show S.size = (allR z0 j).length; rw [ba_size S, HS.out]
      have h12 : ¬ (j < len0) ∨ (j < len0 ∧ ¬ (j < 40)) := by omega
      clear hlt hN
      rcases h12 with hend | ⟨hend, hend2⟩
      all_goals
        go_wp2_with fail
        go_loopw [10, 11] (fun at' i ws => ∃ (m p : Nat), m ≤ j ∧ i = .int .i64 m ∧ at' = .int .i64 p ∧ Hid (p = (allR z0 m).length) ∧ Below w.heap.size w ws) (fun _ i _ => 40 - (intOf i).toNat)
        case atStart => exact ⟨0, 0, by omega, rfl, rfl, rfl, hb⟩
        case round =>
          clear hend
          obtain ⟨m, p, hm, rfl, rfl, HP, hbs⟩ := hrel
          by_cases hlt : m < len0 ∧ m < 40
          · obtain ⟨l1, l2⟩ := hlt
            have hmj := HN.out m l1 l2
            obtain ⟨z, hz⟩ : ∃ z, z0.getD m 0 = z := ⟨_, rfl⟩
            have hcl : wr.cell? ⟨b, off + m, none⟩ = some (.int .i64 z) := by rw [hbs.cell (p := ⟨b, off + m, none⟩) HB.out, ← hz]; exact HCELL.out m l1
            have h4 : m % 4 = 0 ∨ m % 4 = 1 ∨ m % 4 = 2 ∨ m % 4 = 3 := by omega
            rcases h4 with h4 | h4 | h4 | h4
            · have hk' : bits .and .i64 (m : Int) 3 = 0 := by have := and3 m (by omega); rw [h4] at this; exact this
              obtain ⟨A, hA⟩ : ∃ A : Nat, z % 256 = A := ⟨(z % 256).toNat, by omega⟩
              have gA : bits .and .i64 z 255 = A := (mask1 z).trans hA
              have HR : rowL (z0.getD m 0) m = beL A 1 := by
                unfold rowL
                rw [hz, h4]
                show beL (z % ((256 ^ 1 : Nat) : Int)).toNat 1 = beL A 1
                rw [show ((256 ^ 1 : Nat) : Int) = 256 from rfl, hA, Int.toNat_natCast]
              obtain ⟨r1, r2, r3, r4⟩ := readsR S z0 m j 1 A p hmj HS.out hSz (by omega) HR (by show A < 256; omega) HP.out
              have H1 : Hid (∀ w, Calls Try.prog 9 #[.string S, .int .i64 p] w fun e w' => e = .returned (.tuple #[.int .i64 A, .int .i64 (p + 1), .int .i64 0]) ∧ w = w') := fun w =>
                (u8_yes S p w (by unfold maxLen; omega) r1).mono fun e w' ⟨he, hw⟩ => ⟨by rw [he, Int.toNat_natCast, r2], hw⟩
              have HP' := Lib.hid r3
              clear hA HR r1 r2 r3 h4 hz
              go_wp2_with fail
              refine (H1.out _).mono ?_
              rintro e u2 ⟨rfl, rfl⟩
              go_wp2_with (go_at_call 16; go_in)
              have x1 : IntKind.i64.wrap 8 = 8 := by decide
              have x2 : IntKind.i64.wrap 256 = 256 := by decide
              have x3 : IntKind.i64.wrap 255 = 255 := by decide
              have x4 : IntKind.i64.wrap ((p : Int) + 1) = (p : Int) + 1 := IntWalk.i64_in _ (by omega)
              go_quiet (fail)
              clear x4
              go_wp2_with fail
              exact ⟨⟨m + 1, p + 1, by omega, by go_num, by go_num, HP'.out, below_drewN hbs _⟩, by simp [intOf]; omega⟩
            · have hk' : bits .and .i64 (m : Int) 3 = 1 := by have := and3 m (by omega); rw [h4] at this; exact this
              obtain ⟨A, hA⟩ : ∃ A : Nat, z % 65536 = A := ⟨(z % 65536).toNat, by omega⟩
              have gA : bits .and .i64 z 65535 = A := (mask2 z).trans hA
              have HR : rowL (z0.getD m 0) m = beL A 2 := by
                unfold rowL
                rw [hz, h4]
                show beL (z % ((256 ^ 2 : Nat) : Int)).toNat 2 = beL A 2
                rw [show ((256 ^ 2 : Nat) : Int) = 65536 from rfl, hA, Int.toNat_natCast]
              obtain ⟨r1, r2, r3, r4⟩ := readsR S z0 m j 2 A p hmj HS.out hSz (by omega) HR (by show A < 65536; omega) HP.out
              have H1 : Hid (∀ w, Calls Try.prog 10 #[.string S, .int .i64 p] w fun e w' => e = .returned (.tuple #[.int .i64 A, .int .i64 (p + 2), .int .i64 0]) ∧ w = w') := fun w =>
                (u16_yes S p w (by unfold maxLen; omega) r1).mono fun e w' ⟨he, hw⟩ => ⟨by rw [he, Int.toNat_natCast, r2], hw⟩
              have HP' := Lib.hid r3
              clear hA HR r1 r2 r3 h4 hz
              go_wp2_with fail
              refine (H1.out _).mono ?_
              rintro e u2 ⟨rfl, rfl⟩
              go_wp2_with (go_at_call 16; go_in)
              have x1 : IntKind.i64.wrap 16 = 16 := by decide
              have x2 : IntKind.i64.wrap 65536 = 65536 := by decide
              have x3 : IntKind.i64.wrap 65535 = 65535 := by decide
              have x4 : IntKind.i64.wrap ((p : Int) + 2) = (p : Int) + 2 := IntWalk.i64_in _ (by omega)
              go_quiet (fail)
              clear x4
              go_wp2_with fail
              exact ⟨⟨m + 1, p + 2, by omega, by go_num, by go_num, HP'.out, below_drewN hbs _⟩, by simp [intOf]; omega⟩
            · have hk' : bits .and .i64 (m : Int) 3 = 2 := by have := and3 m (by omega); rw [h4] at this; exact this
              obtain ⟨A, hA⟩ : ∃ A : Nat, z % 16777216 = A := ⟨(z % 16777216).toNat, by omega⟩
              have gA : bits .and .i64 z 16777215 = A := (mask3 z).trans hA
              have HR : rowL (z0.getD m 0) m = beL A 3 := by
                unfold rowL
                rw [hz, h4]
                show beL (z % ((256 ^ 3 : Nat) : Int)).toNat 3 = beL A 3
                rw [show ((256 ^ 3 : Nat) : Int) = 16777216 from rfl, hA, Int.toNat_natCast]
              obtain ⟨r1, r2, r3, r4⟩ := readsR S z0 m j 3 A p hmj HS.out hSz (by omega) HR (by show A < 16777216; omega) HP.out
              have H1 : Hid (∀ w, Calls Try.prog 11 #[.string S, .int .i64 p] w fun e w' => e = .returned (.tuple #[.int .i64 A, .int .i64 (p + 3), .int .i64 0]) ∧ w = w') := fun w =>
                (u24_yes S p w (by unfold maxLen; omega) r1).mono fun e w' ⟨he, hw⟩ => ⟨by rw [he, Int.toNat_natCast, r2], hw⟩
              have HP' := Lib.hid r3
              clear hA HR r1 r2 r3 h4 hz
              go_wp2_with fail
              refine (H1.out _).mono ?_
              rintro e u2 ⟨rfl, rfl⟩
              go_wp2_with (go_at_call 16; go_in)
              have x1 : IntKind.i64.wrap 24 = 24 := by decide
              have x2 : IntKind.i64.wrap 16777216 = 16777216 := by decide
              have x3 : IntKind.i64.wrap 16777215 = 16777215 := by decide
              have x4 : IntKind.i64.wrap ((p : Int) + 3) = (p : Int) + 3 := IntWalk.i64_in _ (by omega)
              go_quiet (fail)
              clear x4
              go_wp2_with fail
              exact ⟨⟨m + 1, p + 3, by omega, by go_num, by go_num, HP'.out, below_drewN hbs _⟩, by simp [intOf]; omega⟩
            · have hk' : bits .and .i64 (m : Int) 3 = 3 := by have := and3 m (by omega); rw [h4] at this; exact this
              obtain ⟨A, hA⟩ : ∃ A : Nat, z % 4294967296 = A := ⟨(z % 4294967296).toNat, by omega⟩
              have gA : bits .and .i64 z 4294967295 = A := (mask4 z).trans hA
              have HR : rowL (z0.getD m 0) m = beL A 4 := by
                unfold rowL
                rw [hz, h4]
                show beL (z % ((256 ^ 4 : Nat) : Int)).toNat 4 = beL A 4
                rw [show ((256 ^ 4 : Nat) : Int) = 4294967296 from rfl, hA, Int.toNat_natCast]
              obtain ⟨r1, r2, r3, r4⟩ := readsR S z0 m j 4 A p hmj HS.out hSz (by omega) HR (by show A < 4294967296; omega) HP.out
              have H1 : Hid (∀ w, Calls Try.prog 12 #[.string S, .int .i64 p] w fun e w' => e = .returned (.tuple #[.int .i64 A, .int .i64 (p + 4), .int .i64 0]) ∧ w = w') := fun w =>
                (u32_yes S p w (by unfold maxLen; omega) r1).mono fun e w' ⟨he, hw⟩ => ⟨by rw [he, Int.toNat_natCast, r2], hw⟩
              have HP' := Lib.hid r3
              clear hA HR r1 r2 r3 h4 hz
              go_wp2_with fail
              refine (H1.out _).mono ?_
              rintro e u2 ⟨rfl, rfl⟩
              go_wp2_with (go_at_call 16; go_in)
              have x1 : IntKind.i64.wrap 32 = 32 := by decide
              have x2 : IntKind.i64.wrap 4294967296 = 4294967296 := by decide
              have x3 : IntKind.i64.wrap 4294967295 = 4294967295 := by decide
              have x4 : IntKind.i64.wrap ((p : Int) + 4) = (p : Int) + 4 := IntWalk.i64_in _ (by omega)
              go_quiet (fail)
              clear x4
              go_wp2_with fail
              exact ⟨⟨m + 1, p + 4, by omega, by go_num, by go_num, HP'.out, below_drewN hbs _⟩, by simp [intOf]; omega⟩
          · obtain rfl : m = j := by omega
            obtain rfl : p = S.size := by rw [HE.out]; exact HP.out
            obtain ⟨e1, e2⟩ := ends_z S a1 hSz w1
            have H1 : Hid (∀ w, Calls Try.prog 9 #[.string (S ++ a1 ++ ⟨#[122]⟩), .int .i64 ((S.size : Int) + a1.size)] w fun e w' => e = .returned (.tuple #[.int .i64 122, .int .i64 ((S.size : Int) + a1.size + 1), .int .i64 0]) ∧ w = w') := fun w =>
              (u8_yes (S ++ a1 ++ ⟨#[122]⟩) ((S.size : Int) + a1.size) w (by rw [e1]; unfold maxLen; omega) (holdsB_true (by omega) (by rw [e1]; omega) (by rw [e1]; omega))).mono fun e w' ⟨he, hw⟩ => ⟨by rw [he, show ((S.size : Int) + a1.size).toNat = S.size + a1.size by omega, e2]; rfl, hw⟩
            clear e1 e2
            go_wp2_with fail
            all_goals
              refine (H1.out _).mono ?_
              rintro e u2 ⟨rfl, rfl⟩
              go_wp2
              go_ret
              exact ⟨rfl, hbs⟩
theorem u8_z (T : ByteArray) (n : Nat) (h1 : T.size = n + 1) (h2 : numV T n 1 = 122) (hn : n ≤ 140737488355328) (w : World) :
    Calls Try.prog 9 #[.string T, .int .i64 n] w fun e w' => e = .returned (.tuple #[.int .i64 122, .int .i64 ((n : Int) + 1), .int .i64 0]) ∧ w = w' :=
  (u8_yes T n w (by rw [h1]; unfold maxLen; omega) (holdsB_true (by omega) (by rw [h1]; omega) (by rw [h1]; omega))).mono fun e w' ⟨he, hw⟩ => ⟨by rw [he, Int.toNat_natCast, h2]; rfl, hw⟩
set_option maxHeartbeats 1000000 in
set_option maxRecDepth 100000 in
theorem walk_zero (a0 : Option Addr) (cap0 : Nat) (a1 : ByteArray) (w : World) (w1 : a1.size ≤ 140737488355328) :
    Calls Try.prog 8 #[.slice a0 0 cap0, .string a1] w fun e w' => e = .returned (.bool true) ∧ Below w.heap.size w w' := by
  obtain ⟨e1, e2⟩ := ends_z ⟨#[]⟩ a1 (by decide) w1
  have e0 : (⟨#[]⟩ : ByteArray).size = 0 := rfl
  rw [e0, Nat.zero_add] at e1 e2
  have H1 : Hid (∀ w, Calls Try.prog 9 #[.string (⟨#[]⟩ ++ a1 ++ ⟨#[122]⟩), .int .i64 a1.size] w fun e w' => e = .returned (.tuple #[.int .i64 122, .int .i64 ((a1.size : Int) + 1), .int .i64 0]) ∧ w = w') := fun w =>
    u8_z _ _ e1 e2 w1 w
  clear e0 e1 e2
  go_enter Try.func8, Try.ntmps8
  go_wp2_with (go_at_call 17; refine (awake_any _).mono ?_; rintro e u1 ⟨rfl, b1⟩)
  refine wp_loop_rounds 1 ?_
  rw [rounds_succ]
  go_wp2_with fail
  refine wp_loop_rounds 1 ?_
  rw [rounds_succ]
  go_wp2_with fail
  refine (H1.out _).mono ?_
  rintro e u2 ⟨rfl, rfl⟩
  go_wp2
  go_ret
  exact ⟨rfl, b1⟩
theorem walk (a0 : Option Addr) (len0 cap0 : Nat) (z0 : List Int) (a1 : ByteArray) (w : World) (w0 : IsRow .i64 w a0 len0 cap0 z0) (w1 : a1.size ≤ 140737488355328) :
    Calls Try.prog 8 #[.slice a0 len0 cap0, .string a1] w fun e w' => e = .returned (.bool true) ∧ Below w.heap.size w w' := by
  by_cases h0 : len0 = 0
  · subst h0; exact walk_zero a0 cap0 a1 w w1
  · rcases w0 with ⟨_, h, _, _⟩ | ⟨x, rfl, hl, hm, hz, hcell, hwz⟩
    · exact absurd h h0
    · obtain ⟨b, off, spot⟩ := x
      have hc := hcell 0 (by omega)
      obtain rfl : spot = none := by simpa [Addr.add] using World.cell?_spot hc
      have hcell' : ∀ i, i < len0 → w.cell? ⟨b, off + i, none⟩ = some (.int .i64 (z0.getD i 0)) := fun i hi => by
        have := hcell i (by omega)
        rwa [show (⟨b, off, none⟩ : Addr).add i = ⟨b, off + i, none⟩ by unfold Addr.add; split <;> simp_all] at this
      exact walk_pos b off len0 cap0 z0 a1 w (by omega) (World.block_lt_of_cell? w ⟨b, off + 0, none⟩ (hcell' 0 (by omega))) hcell' w1

set_option maxRecDepth 100000 in
theorem lifted (os : Os) (started : os.Started) (H : Type) (enc : TypeId × Value → H) :
    ReturnsInHanded {} Try.checked os 8 .any (Rows.wireRowsSpec.pre6 enc Try.prog Try.f8 Rows.wireRowsRow.domain false) (Rows.wireRowsSpec.post enc Try.prog Try.f8 false true false false) := by
  refine returnsInHanded_of_change_sized (C := Try.checked) own started (by kernel_rfl) Try.func8
    (ChangeSpec.witness6 (enc := enc) (C := Try.checked) false ⟨#[], #[.slice none 0 0, .string ByteArray.empty], []⟩ 8 (by kernel_rfl) (by kernel_rfl) (by kernel_rfl) (by kernel_rfl)) ?_
  intro W base args ds gs before hval0 hW hcnd hsz0 _
  have hsz : (DataW.weightsEach Try.prog (Try.f8.params.toList ++ Rows.wireRowsSpec.plain.varTypes Try.prog) (ds ++ gs)).all (· ≤ reachBytes) = true := hsz0
  clear hsz0
  have hval : ∀ (j : Nat) t v, Try.f8.params[j]? = some t → args[j]? = some v → Value.okWide Try.prog W .any base t v := hval0
  have hW' := hW
  obtain ⟨p, q, hA0, hV, rfl, hfz, hnd⟩ := hW
  have hA : DataW.TrodAll enc Try.prog W 0 (fun _ => true) true Try.f8.params.toList args.toList ds p := hA0
  rw [Try.params8] at hA hval hsz
  obtain ⟨v0, vs0, d0, ds0, p0, q0, hargs, rfl, rfl, h0, r0⟩ := trodAll_cons hA
  obtain ⟨v1, vs1, d1, ds1, p1, q1, rfl, rfl, rfl, h1, r1⟩ := trodAll_cons r0
  obtain ⟨rfl, rfl, rfl⟩ := trodAll_nil r1
  obtain rfl : args = #[v0, v1] := by cases args; simp_all
  obtain ⟨rfl, rfl⟩ := trodVars_none hV
  obtain ⟨a0, len0, cap0, rfl⟩ := okWide_slice Try.underlying41 (hval 0 41 v0 rfl rfl)
  have k0 := h0
  have lt0 : ∀ x ∈ p0, x.block < W.heap.size := by obtain ⟨m, hm⟩ := k0; exact DataW.trod_lt m _ _ _ hm
  obtain ⟨z0, w0⟩ : ∃ zs, IsRow .i64 W a0 len0 cap0 zs := by
    obtain ⟨fuel, hf⟩ := h0
    rcases open_ints Try.underlying41 Try.underlying3 (by kernel_rfl) hf with ⟨hcs, _⟩ | ⟨x, l, c, zs, hcs, _, hl, hm, hz, _, hcell, hwz⟩
    · simp [Value.cells] at hcs
      obtain ⟨rfl, rfl, rfl⟩ := hcs
      exact ⟨[], .inl ⟨rfl, rfl, rfl, rfl⟩⟩
    · simp [Value.cells] at hcs
      obtain ⟨rfl, rfl, rfl⟩ := hcs
      exact ⟨zs, .inr ⟨_, rfl, hl, hm, by simpa using hz, hcell, hwz⟩⟩
  obtain ⟨a1, rfl, rfl, rfl, w1⟩ := open_string Try.underlying9 (hval 1 9 v1 rfl rfl) h1
  clear hA0 hval0
  have r1 : a1.size ≤ 140737488355328 := by
    have := sized_string hsz (j := 1) (t := 9) rfl rfl
    simp [reachBytes] at this; omega
  refine (walk a0 len0 cap0 z0 a1 W w0 r1).mono fun e W' ⟨he, bel⟩ => ?_
  subst he
  exact ⟨_, rfl, _, _, _, [], _, [], hW', trodAll_mk1 (shut_bool Try.underlying4 _), (trodAll_cons_mk (Below.trod laidOut (by kernel_rfl) (of_decide_eq_true (by kernel_rfl)) k0 bel lt0) (trodAll_cons_mk (shut_string Try.underlying9 w1) trodAll_mk0)), rfl, bel.frame _, fun h => by cases h⟩

theorem over : Rows.wireRowsRow.holds Try.pinned (OpenSpec.ofChange Rows.wireRowsSpec) :=
  OpenClaim.holds_of_wide 8 Try.f8 rfl rfl rfl rfl rfl rfl rfl ⟨rfl, rfl, rfl, rfl, rfl⟩ rfl rfl rfl rfl rfl (by kernel_rfl) Try.func8 (by kernel_rfl)
    (of_decide_eq_true (by kernel_rfl)) (by unfold Func.isWrapper; first | (rw [if_pos (by decide +kernel)]; kernel_rfl) | (rw [if_neg (by decide +kernel)]; exact ⟨rfl, rfl⟩))
    (fun os started H enc _ => lifted os started H enc)

theorem proved : Rows.WireRowsSaid := over
#print axioms proved
end Go.Proofs.Ytfgcbdmhkehhlaa.wireRows
