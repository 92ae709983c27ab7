/-
  However a text is written to a Hash of package sha in parts, its Sum is the text's at once, and another Hash does not know of it.
-/
import Derived.Test.YtghkifcoeimcdaaDoorImT
import Derived.Test.YtghkifcoeimcdaaDoorRows
import Derived.WalkKit
import Derived.ProofKit
import Derived.OpenShut
import Derived.ShutString
import Derived.Test.YtghkifcoeimcdaaDoorImW
import Derived.Test.YtghkifcoeimcdaaDoorTie
import Derived.Test.YtghkifcoeimcdaaDoorCards
import Derived.SevenTiedAt
import Derived.SizedLaws
import Derived.Stop.Joined
import Derived.LaidMore
import Derived.ChangeOld
import Derived.Below
namespace Go.Proofs.YtghkifcoeimcdaaDoor.shaSplits
open Go.ChangeShapes Go.WideShapes Go.ChangeAt Go.RowKit
open Go.Proofs.YtghkifcoeimcdaaDoor
open Go.ChangeMaps (open_string shut_string)
set_option linter.unusedVariables false

theorem own : ownKnob Tryd.prog.godebug = none := by kernel_rfl
theorem laidOut : laidOutB Tryd.prog = true := by kernel_rfl

/-- A slice of integers that came in: nil, or a row of cells that hold zs. -/
def IsRow (k : IntKind) (w : World) (a : Option Addr) (len cap : Nat) (zs : List Int) : Prop :=
  (a = none ∧ len = 0 ∧ cap = 0 ∧ zs = []) ∨
  ∃ x, a = some x ∧ len ≤ cap ∧ cap ≤ maxLen ∧ zs.length = cap ∧ (∀ i, i < zs.length → w.cell? (x.add i) = some (.int k (zs.getD i 0))) ∧ ∀ n ∈ zs, (Lit.int k n).wf = true

set_option maxHeartbeats 4000000 in
set_option maxRecDepth 10000 in
theorem walk (a0 : Bool) (a1 : ByteArray) (a2 : Option Addr) (len2 cap2 : Nat) (z2 : List Int) (w : World) (r1 : a1.size ≤ 140737488355328) (w2 : IsRow .i64 w a2 len2 cap2 z2) (hT : Im.Tab w) :
    Calls Tryd.prog 8 #[.bool a0, .string a1, .slice a2 len2 cap2] w fun e w' => e = .returned (.bool true) ∧ Below w.heap.size w w' := by
  have HT := Lib.hid hT
  have HR := Lib.hid r1
  have HS : Hid (a1.size ≤ 288230376151711744) := by show _ ≤ _; omega
  have HB : Hid (Below w.heap.size w w) := Below.refl _ _
  have HC : Hid (∀ i, i < len2 → ∃ b off z, a2 = some ⟨b, off, none⟩ ∧ b < w.heap.size ∧ w.cell? ⟨b, off + i, none⟩ = some (.int .i64 z)) := by
    intro i hi
    rcases w2 with ⟨_, h, _, _⟩ | ⟨x, rfl, hl, hm, hz, hcell, hwz⟩
    · omega
    · obtain ⟨b, off, spot⟩ := x
      have hc0 := hcell 0 (by omega)
      obtain rfl : spot = none := by simpa [Addr.add] using World.cell?_spot hc0
      have hc := hcell i (by omega)
      rw [show (⟨b, off, none⟩ : Addr).add i = ⟨b, off + i, none⟩ by unfold Addr.add; split <;> simp_all] at hc
      exact ⟨b, off, _, rfl, World.block_lt_of_cell? w ⟨b, off + i, none⟩ hc, hc⟩
  clear hT r1 w2
  cases a0
  · go_enter Tryd.func8, Tryd.ntmps8
    go_upto_region 10 with (first
      | (go_at_call 12; refine (Im.awake_any _ (HT.out.below HB.out HT.out.pos)).mono ?_; rintro e u ⟨rfl, hb⟩; have HB := Lib.hid (Im.go_on HB.out hb); clear hb)
      | (go_at_call 13; have _t := H0; refine (Im.new2_256 _).mono ?_; rintro e u2 ⟨g2, rfl, hg2, hb, H2⟩; have n02 : Hid (g < g2) := Nat.lt_of_lt_of_le H0.out.lt hg2.out; have hg2 := Lib.hid (Nat.le_trans HB.out.size hg2.out); have H0 := Lib.hid (H0.out.below hb H0.out.lt); have HB := Lib.hid (Im.go_on HB.out hb); clear hb)
      | (go_at_call 13; refine (Im.new2_256 _).mono ?_; rintro e u1 ⟨g, rfl, hg, hb, H0⟩; have hg := Lib.hid (Nat.le_trans HB.out.size hg.out); have HB := Lib.hid (Im.go_on HB.out hb); clear hb)
      | (go_at_call 11; refine (Im.num_same _ _).mono ?_; rintro e u3 ⟨rfl, rfl⟩))
    go_wp2_with (fail)
    go_loopw [12, 13] (fun v i wx => ∃ (q r : ByteArray) (j : Nat), Hid (q ++ r = a1) ∧ v = .string r ∧ i = .int .i64 j ∧ Hid (j ≤ 3000) ∧ Hid (Below w.heap.size w wx) ∧ Hid (Im.Wrote wx g false q) ∧ Hid (Im.Wrote wx g2 false ⟨#[]⟩)) (fun _ i _ => 3000 - (intOf i).toNat)
    case atStart => exact ⟨⟨#[]⟩, a1, 0, Im.emp_app a1, rfl, rfl, Nat.zero_le 3000, HB, H0, H2⟩
    case round =>
      clear HB H0 H2
      obtain ⟨q, r, j, hq, rfl, rfl, hj, HB, H0, H2⟩ := hrel
      have hqz : Hid (q.size + r.size ≤ 140737488355328) := by show _ ≤ _; rw [← ByteArray.size_append, hq.out]; exact HR.out
      by_cases hr : r = ⟨#[]⟩
      · subst hr
        have hq1 : q = a1 := by have := hq.out; rwa [show (⟨#[]⟩ : ByteArray) = ByteArray.empty from rfl, ByteArray.append_empty] at this
        have b1 : ((⟨#[]⟩ : ByteArray) == ⟨#[]⟩) = true := by decide
        subst hq1
        have z1 := Sha.digS_256 q
        go_wp2_with (first
          | (go_at_call 9; refine (Im.sum2_256 _ _ (HT.out.below HB.out HT.out.pos) (by first | exact HS.out | decide)).mono ?_; rintro e u10 ⟨rfl, hb⟩; have H0 := Lib.hid (H0.out.below hb H0.out.lt); have H2 := Lib.hid (H2.out.below hb H2.out.lt); have HB := Lib.hid (Im.go_on HB.out hb); clear hb)
          | (go_at_call_of 16 (Value.pointer (some (⟨g, 0, none⟩ : Addr))); refine (Im.hsum_256 g _ _ H0.out (HT.out.below HB.out HT.out.pos) HS.out).mono ?_; rintro e u11 ⟨rfl, hb⟩; have H0 := Lib.hid (H0.out.below hb H0.out.lt); have H2 := Lib.hid (H2.out.below hb H2.out.lt); have HB := Lib.hid (Im.go_on HB.out hb); clear hb)
          | (go_at_call_of 16 (Value.pointer (some (⟨g2, 0, none⟩ : Addr))); refine (Im.hsum_256 g2 _ _ H2.out (HT.out.below HB.out HT.out.pos) (by decide)).mono ?_; rintro e u11 ⟨rfl, hb⟩; have H0 := Lib.hid (H0.out.below hb H0.out.lt); have H2 := Lib.hid (H2.out.below hb H2.out.lt); have HB := Lib.hid (Im.go_on HB.out hb); clear hb))
        go_ret
        exact ⟨rfl, HB.out⟩
      · have rz : 0 < r.size := Nat.pos_of_ne_zero fun h => hr (ByteArray.size_eq_zero_iff.1 h)
        have b1 : r.toList.isEmpty = false := Im.isE rz
        clear hr
        by_cases hlt : j < 3000
        · have jl : ((j : Int) < 3000) = True := eq_true (by omega)
          have HJ := Lib.hid hlt
          have hrz := Lib.hid rz
          clear hlt rz
          by_cases hjl : j < len2
          · obtain ⟨b, off, z, rfl, hbw, hz⟩ := HC.out j hjl
            have hjl' : (j : Int) < (len2 : Int) := by omega
            have hjl2 : ((j : Int) < (len2 : Int)) = True := eq_true hjl'
            clear hjl
            have hc : wr.cell? ⟨b, off + j, none⟩ = some (.int .i64 z) := by rw [HB.out.cell (p := ⟨b, off + j, none⟩) hbw]; exact hz
            obtain ⟨m, hm⟩ : ∃ m : Nat, bits .and .i64 z 63 = (m : Int) := ⟨(z % 64).toNat, by rw [Im.mask63]; omega⟩
            by_cases hmr : m < r.size
            · have hmr' : (m < r.size) = True := eq_true hmr
              have m4 : (m : Int) ≤ (r.size : Int) := by omega
              have HM := Lib.hid hmr
              clear hmr
              go_wp2_with (first
                | (go_at_call_of 15 (Value.pointer (some (⟨g, 0, none⟩ : Addr))); refine (Im.write2 false g q _ _ H0.out (Nat.lt_of_lt_of_le HT.out.pos hg.out) (HT.out.below HB.out HT.out.pos) (by first | (have := hqz.out; omega) | (rw [ByteArray.size_extract]; have := hqz.out; omega))).mono ?_; rintro e v1 ⟨rfl, hB, H0⟩; have H2 := Lib.hid (H2.out.but hB (Nat.ne_of_gt n02.out)); have HB := Lib.hid (Im.go_but HB.out hg.out hB); clear hB)
                | (go_at_call_of 15 (Value.pointer (some (⟨g2, 0, none⟩ : Addr))); refine (Im.write2 false g2 _ _ _ H2.out (Nat.lt_of_lt_of_le HT.out.pos hg2.out) (HT.out.below HB.out HT.out.pos) (by decide)).mono ?_; rw [Im.emp_app]; rintro e v2 ⟨rfl, hB, H2⟩; have H0 := Lib.hid (H0.out.but hB (Nat.ne_of_lt n02.out)); have HB := Lib.hid (Im.go_but HB.out hg2.out hB); clear hB))
              have jw : wrap64 ((j : Int) + 1) = ((j + 1 : Nat) : Int) := by unfold wrap64; have := HJ.out; omega
              rw [jw]
              exact ⟨⟨q ++ r.extract 0 m, r.extract m r.size, j + 1, by show _ = _; rw [ByteArray.append_assoc, Sha.ext_split r m (Nat.le_of_lt HM.out)]; exact hq.out, rfl, rfl, HJ.out, HB, H0, H2⟩, by have := HJ.out; simp [intOf]; omega⟩
            · have hmr' : (m < r.size) = False := eq_false hmr
              clear hmr
              go_wp2_with (first
                | (go_at_call_of 15 (Value.pointer (some (⟨g, 0, none⟩ : Addr))); refine (Im.write2 false g q _ _ H0.out (Nat.lt_of_lt_of_le HT.out.pos hg.out) (HT.out.below HB.out HT.out.pos) (by first | (have := hqz.out; omega) | (rw [ByteArray.size_extract]; have := hqz.out; omega))).mono ?_; rintro e v1 ⟨rfl, hB, H0⟩; have H2 := Lib.hid (H2.out.but hB (Nat.ne_of_gt n02.out)); have HB := Lib.hid (Im.go_but HB.out hg.out hB); clear hB)
                | (go_at_call_of 15 (Value.pointer (some (⟨g2, 0, none⟩ : Addr))); refine (Im.write2 false g2 _ _ _ H2.out (Nat.lt_of_lt_of_le HT.out.pos hg2.out) (HT.out.below HB.out HT.out.pos) (by decide)).mono ?_; rw [Im.emp_app]; rintro e v2 ⟨rfl, hB, H2⟩; have H0 := Lib.hid (H0.out.but hB (Nat.ne_of_lt n02.out)); have HB := Lib.hid (Im.go_but HB.out hg2.out hB); clear hB))
              have jw : wrap64 ((j : Int) + 1) = ((j + 1 : Nat) : Int) := by unfold wrap64; have := HJ.out; omega
              rw [jw]
              exact ⟨⟨q ++ r, ByteArray.empty, j + 1, by show _ = _; rw [ByteArray.append_empty]; exact hq.out, rfl, rfl, HJ.out, HB, H0, H2⟩, by have := HJ.out; simp [intOf]; omega⟩
          · have hjl' : ((j : Int) < (len2 : Int)) = False := eq_false (by omega)
            clear hjl
            go_wp2_with (first
              | (go_at_call_of 15 (Value.pointer (some (⟨g, 0, none⟩ : Addr))); refine (Im.write2 false g q _ _ H0.out (Nat.lt_of_lt_of_le HT.out.pos hg.out) (HT.out.below HB.out HT.out.pos) (by first | (have := hqz.out; omega) | (rw [ByteArray.size_extract]; have := hqz.out; omega))).mono ?_; rintro e v1 ⟨rfl, hB, H0⟩; have H2 := Lib.hid (H2.out.but hB (Nat.ne_of_gt n02.out)); have HB := Lib.hid (Im.go_but HB.out hg.out hB); clear hB)
              | (go_at_call_of 15 (Value.pointer (some (⟨g2, 0, none⟩ : Addr))); refine (Im.write2 false g2 _ _ _ H2.out (Nat.lt_of_lt_of_le HT.out.pos hg2.out) (HT.out.below HB.out HT.out.pos) (by decide)).mono ?_; rw [Im.emp_app]; rintro e v2 ⟨rfl, hB, H2⟩; have H0 := Lib.hid (H0.out.but hB (Nat.ne_of_lt n02.out)); have HB := Lib.hid (Im.go_but HB.out hg2.out hB); clear hB))
            have jw : wrap64 ((j : Int) + 1) = ((j + 1 : Nat) : Int) := by unfold wrap64; have := HJ.out; omega
            rw [jw]
            exact ⟨⟨q ++ r, ByteArray.empty, j + 1, by show _ = _; rw [ByteArray.append_empty]; exact hq.out, rfl, rfl, HJ.out, HB, H0, H2⟩, by have := HJ.out; simp [intOf]; omega⟩
        · have jl : ((j : Int) < 3000) = False := eq_false (by omega)
          clear hlt rz
          go_wp2_with (first
            | (go_at_call 9; refine (Im.sum2_256 _ _ (HT.out.below HB.out HT.out.pos) (by first | exact HS.out | decide)).mono ?_; rintro e u10 ⟨rfl, hb⟩; have HB := Lib.hid (Im.go_on HB.out hb); clear hb))
          go_ret
          exact ⟨rfl, HB.out⟩
  · go_enter Tryd.func8, Tryd.ntmps8
    go_upto_region 10 with (first
      | (go_at_call 12; refine (Im.awake_any _ (HT.out.below HB.out HT.out.pos)).mono ?_; rintro e u ⟨rfl, hb⟩; have HB := Lib.hid (Im.go_on HB.out hb); clear hb)
      | (go_at_call 13; have _t := H0; refine (Im.new2_384 _).mono ?_; rintro e u2 ⟨g2, rfl, hg2, hb, H2⟩; have n02 : Hid (g < g2) := Nat.lt_of_lt_of_le H0.out.lt hg2.out; have hg2 := Lib.hid (Nat.le_trans HB.out.size hg2.out); have H0 := Lib.hid (H0.out.below hb H0.out.lt); have HB := Lib.hid (Im.go_on HB.out hb); clear hb)
      | (go_at_call 13; refine (Im.new2_384 _).mono ?_; rintro e u1 ⟨g, rfl, hg, hb, H0⟩; have hg := Lib.hid (Nat.le_trans HB.out.size hg.out); have HB := Lib.hid (Im.go_on HB.out hb); clear hb)
      | (go_at_call 11; refine (Im.num_same _ _).mono ?_; rintro e u3 ⟨rfl, rfl⟩))
    go_wp2_with (fail)
    go_loopw [12, 13] (fun v i wx => ∃ (q r : ByteArray) (j : Nat), Hid (q ++ r = a1) ∧ v = .string r ∧ i = .int .i64 j ∧ Hid (j ≤ 3000) ∧ Hid (Below w.heap.size w wx) ∧ Hid (Im.Wrote wx g true q) ∧ Hid (Im.Wrote wx g2 true ⟨#[]⟩)) (fun _ i _ => 3000 - (intOf i).toNat)
    case atStart => exact ⟨⟨#[]⟩, a1, 0, Im.emp_app a1, rfl, rfl, Nat.zero_le 3000, HB, H0, H2⟩
    case round =>
      clear HB H0 H2
      obtain ⟨q, r, j, hq, rfl, rfl, hj, HB, H0, H2⟩ := hrel
      have hqz : Hid (q.size + r.size ≤ 140737488355328) := by show _ ≤ _; rw [← ByteArray.size_append, hq.out]; exact HR.out
      by_cases hr : r = ⟨#[]⟩
      · subst hr
        have hq1 : q = a1 := by have := hq.out; rwa [show (⟨#[]⟩ : ByteArray) = ByteArray.empty from rfl, ByteArray.append_empty] at this
        have b1 : ((⟨#[]⟩ : ByteArray) == ⟨#[]⟩) = true := by decide
        subst hq1
        have z1 := Sha.digS_384 q
        go_wp2_with (first
          | (go_at_call 9; refine (Im.sum2_384 _ _ (HT.out.below HB.out HT.out.pos) (by first | exact HS.out | decide)).mono ?_; rintro e u10 ⟨rfl, hb⟩; have H0 := Lib.hid (H0.out.below hb H0.out.lt); have H2 := Lib.hid (H2.out.below hb H2.out.lt); have HB := Lib.hid (Im.go_on HB.out hb); clear hb)
          | (go_at_call_of 16 (Value.pointer (some (⟨g, 0, none⟩ : Addr))); refine (Im.hsum_384 g _ _ H0.out (HT.out.below HB.out HT.out.pos) HS.out).mono ?_; rintro e u11 ⟨rfl, hb⟩; have H0 := Lib.hid (H0.out.below hb H0.out.lt); have H2 := Lib.hid (H2.out.below hb H2.out.lt); have HB := Lib.hid (Im.go_on HB.out hb); clear hb)
          | (go_at_call_of 16 (Value.pointer (some (⟨g2, 0, none⟩ : Addr))); refine (Im.hsum_384 g2 _ _ H2.out (HT.out.below HB.out HT.out.pos) (by decide)).mono ?_; rintro e u11 ⟨rfl, hb⟩; have H0 := Lib.hid (H0.out.below hb H0.out.lt); have H2 := Lib.hid (H2.out.below hb H2.out.lt); have HB := Lib.hid (Im.go_on HB.out hb); clear hb))
        go_ret
        exact ⟨rfl, HB.out⟩
      · have rz : 0 < r.size := Nat.pos_of_ne_zero fun h => hr (ByteArray.size_eq_zero_iff.1 h)
        have b1 : r.toList.isEmpty = false := Im.isE rz
        clear hr
        by_cases hlt : j < 3000
        · have jl : ((j : Int) < 3000) = True := eq_true (by omega)
          have HJ := Lib.hid hlt
          have hrz := Lib.hid rz
          clear hlt rz
          by_cases hjl : j < len2
          · obtain ⟨b, off, z, rfl, hbw, hz⟩ := HC.out j hjl
            have hjl' : (j : Int) < (len2 : Int) := by omega
            have hjl2 : ((j : Int) < (len2 : Int)) = True := eq_true hjl'
            clear hjl
            have hc : wr.cell? ⟨b, off + j, none⟩ = some (.int .i64 z) := by rw [HB.out.cell (p := ⟨b, off + j, none⟩) hbw]; exact hz
            obtain ⟨m, hm⟩ : ∃ m : Nat, bits .and .i64 z 63 = (m : Int) := ⟨(z % 64).toNat, by rw [Im.mask63]; omega⟩
            by_cases hmr : m < r.size
            · have hmr' : (m < r.size) = True := eq_true hmr
              have m4 : (m : Int) ≤ (r.size : Int) := by omega
              have HM := Lib.hid hmr
              clear hmr
              go_wp2_with (first
                | (go_at_call_of 15 (Value.pointer (some (⟨g, 0, none⟩ : Addr))); refine (Im.write2 true g q _ _ H0.out (Nat.lt_of_lt_of_le HT.out.pos hg.out) (HT.out.below HB.out HT.out.pos) (by first | (have := hqz.out; omega) | (rw [ByteArray.size_extract]; have := hqz.out; omega))).mono ?_; rintro e v1 ⟨rfl, hB, H0⟩; have H2 := Lib.hid (H2.out.but hB (Nat.ne_of_gt n02.out)); have HB := Lib.hid (Im.go_but HB.out hg.out hB); clear hB)
                | (go_at_call_of 15 (Value.pointer (some (⟨g2, 0, none⟩ : Addr))); refine (Im.write2 true g2 _ _ _ H2.out (Nat.lt_of_lt_of_le HT.out.pos hg2.out) (HT.out.below HB.out HT.out.pos) (by decide)).mono ?_; rw [Im.emp_app]; rintro e v2 ⟨rfl, hB, H2⟩; have H0 := Lib.hid (H0.out.but hB (Nat.ne_of_lt n02.out)); have HB := Lib.hid (Im.go_but HB.out hg2.out hB); clear hB))
              have jw : wrap64 ((j : Int) + 1) = ((j + 1 : Nat) : Int) := by unfold wrap64; have := HJ.out; omega
              rw [jw]
              exact ⟨⟨q ++ r.extract 0 m, r.extract m r.size, j + 1, by show _ = _; rw [ByteArray.append_assoc, Sha.ext_split r m (Nat.le_of_lt HM.out)]; exact hq.out, rfl, rfl, HJ.out, HB, H0, H2⟩, by have := HJ.out; simp [intOf]; omega⟩
            · have hmr' : (m < r.size) = False := eq_false hmr
              clear hmr
              go_wp2_with (first
                | (go_at_call_of 15 (Value.pointer (some (⟨g, 0, none⟩ : Addr))); refine (Im.write2 true g q _ _ H0.out (Nat.lt_of_lt_of_le HT.out.pos hg.out) (HT.out.below HB.out HT.out.pos) (by first | (have := hqz.out; omega) | (rw [ByteArray.size_extract]; have := hqz.out; omega))).mono ?_; rintro e v1 ⟨rfl, hB, H0⟩; have H2 := Lib.hid (H2.out.but hB (Nat.ne_of_gt n02.out)); have HB := Lib.hid (Im.go_but HB.out hg.out hB); clear hB)
                | (go_at_call_of 15 (Value.pointer (some (⟨g2, 0, none⟩ : Addr))); refine (Im.write2 true g2 _ _ _ H2.out (Nat.lt_of_lt_of_le HT.out.pos hg2.out) (HT.out.below HB.out HT.out.pos) (by decide)).mono ?_; rw [Im.emp_app]; rintro e v2 ⟨rfl, hB, H2⟩; have H0 := Lib.hid (H0.out.but hB (Nat.ne_of_lt n02.out)); have HB := Lib.hid (Im.go_but HB.out hg2.out hB); clear hB))
              have jw : wrap64 ((j : Int) + 1) = ((j + 1 : Nat) : Int) := by unfold wrap64; have := HJ.out; omega
              rw [jw]
              exact ⟨⟨q ++ r, ByteArray.empty, j + 1, by show _ = _; rw [ByteArray.append_empty]; exact hq.out, rfl, rfl, HJ.out, HB, H0, H2⟩, by have := HJ.out; simp [intOf]; omega⟩
          · have hjl' : ((j : Int) < (len2 : Int)) = False := eq_false (by omega)
            clear hjl
            go_wp2_with (first
              | (go_at_call_of 15 (Value.pointer (some (⟨g, 0, none⟩ : Addr))); refine (Im.write2 true g q _ _ H0.out (Nat.lt_of_lt_of_le HT.out.pos hg.out) (HT.out.below HB.out HT.out.pos) (by first | (have := hqz.out; omega) | (rw [ByteArray.size_extract]; have := hqz.out; omega))).mono ?_; rintro e v1 ⟨rfl, hB, H0⟩; have H2 := Lib.hid (H2.out.but hB (Nat.ne_of_gt n02.out)); have HB := Lib.hid (Im.go_but HB.out hg.out hB); clear hB)
              | (go_at_call_of 15 (Value.pointer (some (⟨g2, 0, none⟩ : Addr))); refine (Im.write2 true g2 _ _ _ H2.out (Nat.lt_of_lt_of_le HT.out.pos hg2.out) (HT.out.below HB.out HT.out.pos) (by decide)).mono ?_; rw [Im.emp_app]; rintro e v2 ⟨rfl, hB, H2⟩; have H0 := Lib.hid (H0.out.but hB (Nat.ne_of_lt n02.out)); have HB := Lib.hid (Im.go_but HB.out hg2.out hB); clear hB))
            have jw : wrap64 ((j : Int) + 1) = ((j + 1 : Nat) : Int) := by unfold wrap64; have := HJ.out; omega
            rw [jw]
            exact ⟨⟨q ++ r, ByteArray.empty, j + 1, by show _ = _; rw [ByteArray.append_empty]; exact hq.out, rfl, rfl, HJ.out, HB, H0, H2⟩, by have := HJ.out; simp [intOf]; omega⟩
        · have jl : ((j : Int) < 3000) = False := eq_false (by omega)
          clear hlt rz
          go_wp2_with (first
            | (go_at_call 9; refine (Im.sum2_384 _ _ (HT.out.below HB.out HT.out.pos) (by first | exact HS.out | decide)).mono ?_; rintro e u10 ⟨rfl, hb⟩; have HB := Lib.hid (Im.go_on HB.out hb); clear hb))
          go_ret
          exact ⟨rfl, HB.out⟩

set_option maxRecDepth 100000 in
theorem lifted (os : Os) (started : os.Started) (H : Type) (enc : TypeId × Value → H) :
    ReturnsInHanded {} Tryd.checked os 8 .any (fun w args => (Rows.shaSplitsSpec.pre enc Tryd.prog Tryd.f8 [] false w args ∧ laidMetH Tryd.prog laid1 w) ∧ sizedMet enc Tryd.prog Tryd.f8 (OpenSpec.ofChange Rows.shaSplitsSpec) false w args)
      (Rows.shaSplitsSpec.post enc Tryd.prog Tryd.f8 false true false false) := by
  refine returnsInHanded_of_change_and (C := Tryd.checked) (X := fun w _ => laidMetH Tryd.prog laid1 w) (fun _ _ _ hh h => h.of_heap hh) own started (by kernel_rfl) Tryd.func8
    (ChangeSpec.witness_shaped (enc := enc) (C := Tryd.checked) (os := os) (X := fun w _ => laidMetH Tryd.prog laid1 w) false (World.doorLaid Tryd.prog 14 os) #[.bool false, .string ByteArray.empty, .slice none 0 0] 8 rfl (World.shaped_of_RefB (by kernel_rfl) (by kernel_rfl)) (by kernel_rfl) (by kernel_rfl) (by kernel_rfl) (door_met os _)) ?_
  intro W base args ds gs before hval0 hW _ hsz0 hL _
  have hT := tab_of_laid hL
  have hsz : (DataW.weightsEach Tryd.prog (Tryd.f8.params.toList ++ Rows.shaSplitsSpec.plain.varTypes Tryd.prog) (ds ++ gs)).all (· ≤ reachBytes) = true := hsz0
  have hval : ∀ (j : Nat) t v, Tryd.f8.params[j]? = some t → args[j]? = some v → Value.okWide Tryd.prog W .any base t v := hval0
  have hW' := hW
  obtain ⟨p, q, hA0, hV, rfl, hfz, hnd⟩ := hW
  have hA : DataW.TrodAll enc Tryd.prog W 0 (fun _ => true) true Tryd.f8.params.toList args.toList ds p := hA0
  rw [Tryd.params8] at hA hval hsz
  obtain ⟨v0, vs0, d0, ds0, p0, q0, hargs, rfl, rfl, h0, r0⟩ := trodAll_cons hA
  obtain ⟨v1, vs1, d1, ds1, p1, q1, rfl, rfl, rfl, h1, r1⟩ := trodAll_cons r0
  obtain ⟨v2, vs2, d2, ds2, p2, q2, rfl, rfl, rfl, h2, r2⟩ := trodAll_cons r1
  obtain ⟨rfl, rfl, rfl⟩ := trodAll_nil r2
  obtain rfl : args = #[v0, v1, v2] := by cases args; simp_all
  obtain ⟨rfl, rfl⟩ := trodVars_none hV
  obtain ⟨a0, rfl, rfl, rfl⟩ := open_bool Tryd.underlying4 (hval 0 4 v0 rfl rfl) h0
  obtain ⟨a1, rfl, rfl, rfl, w1⟩ := open_string Tryd.underlying9 (hval 1 9 v1 rfl rfl) h1
  obtain ⟨a2, len2, cap2, rfl⟩ := okWide_slice Tryd.underlying43 (hval 2 43 v2 rfl rfl)
  have k2 := h2
  have lt2 : ∀ x ∈ p2, x.block < W.heap.size := by obtain ⟨m, hm⟩ := k2; exact DataW.trod_lt m _ _ _ hm
  obtain ⟨z2, w2⟩ : ∃ zs, IsRow .i64 W a2 len2 cap2 zs := by
    obtain ⟨fuel, hf⟩ := h2
    rcases open_ints Tryd.underlying43 Tryd.underlying3 (by kernel_rfl) hf with ⟨hcs, _⟩ | ⟨x, l, c, zs, hcs, _, hl, hm, hz, _, hcell, hwz⟩
    · simp [Value.cells] at hcs
      obtain ⟨rfl, rfl, rfl⟩ := hcs
      exact ⟨[], .inl ⟨rfl, rfl, rfl, rfl⟩⟩
    · simp [Value.cells] at hcs
      obtain ⟨rfl, rfl, rfl⟩ := hcs
      exact ⟨zs, .inr ⟨_, rfl, hl, hm, by simpa using hz, hcell, hwz⟩⟩
  clear hA0 hval0
  have r1 : a1.size ≤ 140737488355328 := by
    have := sized_string hsz (j := 1) (t := 9) rfl rfl
    simp [reachBytes] at this; omega
  refine (walk a0 a1 a2 len2 cap2 z2 W r1 w2 hT).mono fun e W' ⟨he, bel⟩ => ?_
  subst he
  exact ⟨_, rfl, _, _, _, [], _, [], hW', trodAll_mk1 (shut_bool Tryd.underlying4 _), (trodAll_cons_mk (shut_bool Tryd.underlying4 _) (trodAll_cons_mk (shut_string Tryd.underlying9 w1) (trodAll_cons_mk (Below.trod laidOut (by kernel_rfl) (of_decide_eq_true (by kernel_rfl)) k2 bel lt2) trodAll_mk0))), rfl, bel.frame _, fun h => by cases h⟩

theorem over : Rows.shaSplitsRow.holds Tryd.pinned (OpenSpec.ofChange Rows.shaSplitsSpec) :=
  OpenClaim.holds_of_wide 8 Tryd.f8 rfl rfl rfl rfl rfl rfl rfl ⟨rfl, rfl, rfl, rfl, rfl⟩ rfl rfl rfl rfl rfl (by kernel_rfl) Tryd.func8 (by kernel_rfl)
    (of_decide_eq_true (by kernel_rfl)) (by unfold Func.isWrapper; first | (rw [if_pos (by decide +kernel)]; kernel_rfl) | (rw [if_neg (by decide +kernel)]; exact ⟨rfl, rfl⟩))
    (fun os started H enc _ => lifted os started H enc)

theorem card_holds : Rows.ShaSplitsCardSaid :=
  Claim7.holds_tied_plain_at .later [] [.data] true (true, "b63a3a16b0215449141b4c4a12ddcade81ad673c352d47340d90069b4ac434ba") false
    over (fun _ h => by cases h) (by kernel_rfl) (fun _ h => by cases h) shaSplits_row_tie rfl ⟨rfl, rfl⟩ (by kernel_rfl) rfl
    (fun f fn hf hfn => by
      obtain rfl : f = 8 := Option.some.inj ((show Tryd.prog.funcNamed "halberd/halberdlaw2.ShaSplits" = some 8 by kernel_rfl).symm.trans hf) |>.symm
      obtain rfl : fn = Tryd.f8 := (Option.some.inj (Tryd.func8.symm.trans hfn)).symm
      exact ⟨by kernel_rfl, fun j t ht => by
        rw [Tryd.params8] at ht
        have hm : t ∈ [4, 9, 43] := by simpa using Array.mem_of_getElem? ht
        have hall : ([4, 9, 43].all fun u => !Tryd.prog.wantsStandIn u) = true := by kernel_rfl
        exact (show Tryd.prog.wantsStandIn t = false by simpa using List.all_eq_true.1 hall t hm)⟩)
    (by kernel_rfl)
#print axioms card_holds
end Go.Proofs.YtghkifcoeimcdaaDoor.shaSplits
