/-
  Of texts written in up to twelve parts to a Hash of package sha each Sum between is the document's digest of what was written so far, a fork goes its own way, and New refuses other numbers of bits.
-/
import Derived.Test.YtghkifcoeimcdaaDoorImT
import Derived.Test.YtghkifcoeimcdaaDoorRows
import Derived.WalkKit
import Derived.ProofKit
import Derived.OpenShut
import Derived.ShutString
import Derived.Test.YtghkifcoeimcdaaDoorImW
import Derived.Test.YtghkifcoeimcdaaDoorTie
import Derived.Test.YtghkifcoeimcdaaDoorCards
import Derived.SevenTiedAt
import Derived.SizedLaws
import Derived.Stop.Joined
import Derived.LaidMore
import Derived.Deep.Strs
import Derived.ChangeOld
import Derived.Below
namespace Go.Proofs.YtghkifcoeimcdaaDoor.shaParts
open Go.ChangeShapes Go.WideShapes Go.ChangeAt Go.RowKit
open Go.Proofs.YtghkifcoeimcdaaDoor
open Go.ChangeMaps (open_string shut_string)
set_option linter.unusedVariables false

theorem own : ownKnob Tryd.prog.godebug = none := by kernel_rfl
theorem laidOut : laidOutB Tryd.prog = true := by kernel_rfl

/-- A slice of texts that came in: each element, where it lies. -/
def IsStrs (w : World) (a : Option Addr) (len : Nat) : Prop := ∀ i, i < len → ∃ b off s, a = some ⟨b, off, none⟩ ∧ b < w.heap.size ∧ w.cell? ⟨b, off + i, none⟩ = some (.string s) ∧ s.size ≤ 140737488355328
theorem mem_weightsAll {H : Type} {P : Program} {e : TypeId} : ∀ {l : List (DataW H)} {d : DataW H}, d ∈ l → ∀ n ∈ d.weights P e, n ∈ DataW.weightsAll P e l
  | [], _, h, _, _ => by cases h
  | x :: l, d, h, n, hn => by
    simp only [DataW.weightsAll, List.mem_append]
    rcases List.mem_cons.1 h with rfl | h
    · exact Or.inl hn
    · exact Or.inr (mem_weightsAll h n hn)
theorem sized_strs {H : Type} {P : Program} {ts : List TypeId} {ds : List (DataW H)} (h : (DataW.weightsEach P ts ds).all (· ≤ reachBytes) = true) {j : Nat} {t e : TypeId} {len : Nat} {Sx : Nat → ByteArray} {spare : List (DataW H)} (ht : ts[j]? = some t)
    (hd : ds[j]? = some (.slice ((List.range len).map fun i => .lit (.string (Sx i).data.toList)) spare)) (hu : P.underlying t = some (.slice e)) (i : Nat) (hi : i < len) : (Sx i).size ≤ 140737488355328 := by
  have hm : (Sx i).size ∈ DataW.weights P t (.slice ((List.range len).map fun i => (.lit (.string (Sx i).data.toList) : DataW H)) spare) := by
    simp only [DataW.weights, hu, List.mem_cons, List.mem_append]
    refine Or.inr (Or.inl (mem_weightsAll (d := .lit (.string (Sx i).data.toList)) (List.mem_map.2 ⟨i, List.mem_range.2 hi, rfl⟩) _ ?_))
    simp [DataW.weights]
  have h2 : (Sx i).size ≤ reachBytes := of_decide_eq_true (List.all_eq_true.1 h _ (DataW.weights_mem_each ht hd _ hm))
  unfold reachBytes at h2; omega
set_option maxHeartbeats 4000000 in
set_option maxRecDepth 10000 in
theorem walk (a0 : Bool) (a1 : Option Addr) (len1 cap1 : Nat) (a2 : Int) (w : World) (w1 : IsStrs w a1 len1) (hT : Im.Tab w) :
    Calls Tryd.prog 4 #[.bool a0, .slice a1 len1 cap1, .int .i64 a2] w fun e w' => e = .returned (.bool true) ∧ Below w.heap.size w w' := by
  have HT := Lib.hid hT
  have HB : Hid (Below w.heap.size w w) := Below.refl _ _
  have HC := Lib.hid w1
  obtain ⟨m, hm⟩ : ∃ m : Nat, bits .and .i64 a2 7 = (m : Int) := ⟨(a2 % 8).toNat, by rw [Im.mask7]; omega⟩
  clear hT w1
  cases a0
  · go_enter Tryd.func4, Tryd.ntmps4
    go_upto_region 7 with (first
      | (go_at_call 13; refine (Im.new2_256 _).mono ?_; rintro e u1 ⟨g, rfl, hg, hb, H0⟩; have HB := Lib.hid (Im.go_on HB.out hb); clear hb)
      | (go_at_call 11; refine (Im.num_same _ _).mono ?_; rintro e u3 ⟨rfl, rfl⟩))
    go_wp2_with (fail)
    go_loopw [10, 11] (fun v i wx => ∃ (p : ByteArray) (j : Nat), v = .string p ∧ i = .int .i64 j ∧ Hid (j ≤ 12) ∧ Hid (p.size ≤ j * 140737488355328) ∧ Hid (Below w.heap.size w wx) ∧ Hid (Im.Wrote wx g false p)) (fun _ i _ => 12 - (intOf i).toNat)
    case atStart => exact ⟨⟨#[]⟩, 0, rfl, rfl, Nat.zero_le 12, Nat.zero_le _, HB, H0⟩
    case round =>
      clear HB H0
      obtain ⟨p, j, rfl, rfl, hj, hpz, HB, H0⟩ := hrel
      have Hp : Hid (p.size ≤ 288230376151711744) := by show p.size ≤ _; have := hpz.out; have := hj.out; omega
      by_cases hlt : j < len1
      · have jl : ((j : Int) < (len1 : Int)) = True := eq_true (by omega)
        by_cases h12 : j < 12
        · have jl2 : ((j : Int) < 12) = True := eq_true (by omega)
          have jl3 : (j : Int) < (len1 : Int) := by omega
          have HJ := Lib.hid h12
          obtain ⟨b, off, s, rfl, hbw, hz, hsz⟩ := HC.out j hlt
          have Hsz := Lib.hid hsz
          have hc : wr.cell? ⟨b, off + j, none⟩ = some (.string s) := by rw [HB.out.cell (p := ⟨b, off + j, none⟩) hbw]; exact hz
          have Hps : Hid (p.size + s.size ≤ 288230376151711744) := by show _ ≤ _; have := hpz.out; have := hj.out; omega
          have Hpo : Hid (p.size + (⟨#[111, 116, 104, 101, 114]⟩ : ByteArray).size ≤ 288230376151711744) := by show p.size + 5 ≤ _; have := hpz.out; have := hj.out; omega
          have d1 : (9223372036854775807 < p.size + s.size) = False := eq_false (by have := Hps.out; omega)
          have d2 : (9223372036854775807 < p.size + 5) = False := eq_false (by have := Hpo.out; have : p.size + 5 ≤ 288230376151711744 := this; omega)
          clear hlt h12 hsz
          by_cases hjm : j = m
          · subst hjm
            go_wp2_with (first
              | (go_at_call_of 15 (Value.pointer (some (⟨g, 0, none⟩ : Addr))); refine (Im.write2 false g p s _ H0.out (Nat.lt_of_lt_of_le HT.out.pos hg.out) (HT.out.below HB.out HT.out.pos) Hps.out).mono ?_; rintro e v1 ⟨rfl, hB, H0⟩; have HB := Lib.hid (Im.go_but HB.out hg.out hB); clear hB; have hc2 : v1.cell? ⟨b, off + j, none⟩ = some (.string s) := by rw [HB.out.cell (p := ⟨b, off + j, none⟩) hbw]; exact hz)
              | (go_at_call_of 16 (Value.pointer (some (⟨g, 0, none⟩ : Addr))); refine (Im.hsum_256 g (p ++ s) _ H0.out (HT.out.below HB.out HT.out.pos) (by rw [ByteArray.size_append]; exact Hps.out)).mono ?_; rintro e u11 ⟨rfl, hb⟩; have H0 := Lib.hid (H0.out.below hb H0.out.lt); have HB := Lib.hid (Im.go_on HB.out hb); clear hb)
              | (go_at_call_of 16 (Value.pointer (some (⟨g3, 0, none⟩ : Addr))); refine (Im.hsum_256 g3 _ _ H3.out (HT.out.below HB.out HT.out.pos) (by rw [ByteArray.size_append]; exact Hpo.out)).mono ?_; rintro e u11 ⟨rfl, hb⟩; have H0 := Lib.hid (H0.out.below hb H0.out.lt); have HB := Lib.hid (Im.go_on HB.out hb); clear hb; have hc := (show u11.cell? ⟨b, off + j, none⟩ = some (.string s) by rw [HB.out.cell (p := ⟨b, off + j, none⟩) hbw]; exact hz))
              | (go_at_call 14; refine (Im.hfork2 false g _ _ H0.out).mono ?_; rintro e u7 ⟨g3, rfl, hg3, hb, H3⟩; have n03 : Hid (g < g3) := Nat.lt_of_lt_of_le H0.out.lt hg3.out; have hg3 := Lib.hid (Nat.le_trans HB.out.size hg3.out); have H0 := Lib.hid (H0.out.below hb H0.out.lt); have HB := Lib.hid (Im.go_on HB.out hb); clear hb)
              | (go_at_call_of 15 (Value.pointer (some (⟨g3, 0, none⟩ : Addr))); refine (Im.write2 false g3 p _ _ H3.out (Nat.lt_of_lt_of_le HT.out.pos hg3.out) (HT.out.below HB.out HT.out.pos) Hpo.out).mono ?_; rintro e v3 ⟨rfl, hB, H3⟩; have H0 := Lib.hid (H0.out.but hB (Nat.ne_of_lt n03.out)); have HB := Lib.hid (Im.go_but HB.out hg3.out hB); clear hB)
              | (go_at_call 17; refine (Sha.rhash_any 256 _ _ (by rw [ByteArray.size_append]; first | exact Hps.out | exact Hpo.out)).mono ?_; rintro e u12 ⟨rfl, hb⟩; have H0 := Lib.hid (H0.out.below hb H0.out.lt); have HB := Lib.hid (Im.go_on HB.out hb); clear hb; have hc := (show u12.cell? ⟨b, off + j, none⟩ = some (.string s) by rw [HB.out.cell (p := ⟨b, off + j, none⟩) hbw]; exact hz)))
            have jw : wrap64 ((j : Int) + 1) = ((j + 1 : Nat) : Int) := by unfold wrap64; have := HJ.out; omega
            rw [jw]
            exact ⟨⟨p ++ s, j + 1, rfl, rfl, HJ.out, by show (p ++ s).size ≤ _; rw [ByteArray.size_append]; have := Hsz.out; have := hpz.out; omega, HB, H0⟩, by have := HJ.out; simp [intOf]; omega⟩
          · have m1 : ((j : Int) == (m : Int)) = false := by simpa using fun h : (j : Int) = m => hjm (by omega)
            have m2 : (j == m) = false := by simpa using hjm
            have m3 : ((j : Int) = (m : Int)) = False := eq_false (by omega)
            have m4 : (j = m) = False := eq_false hjm
            clear hjm
            go_wp2_with (first
              | (go_at_call_of 15 (Value.pointer (some (⟨g, 0, none⟩ : Addr))); refine (Im.write2 false g p s _ H0.out (Nat.lt_of_lt_of_le HT.out.pos hg.out) (HT.out.below HB.out HT.out.pos) Hps.out).mono ?_; rintro e v1 ⟨rfl, hB, H0⟩; have HB := Lib.hid (Im.go_but HB.out hg.out hB); clear hB; have hc2 : v1.cell? ⟨b, off + j, none⟩ = some (.string s) := by rw [HB.out.cell (p := ⟨b, off + j, none⟩) hbw]; exact hz)
              | (go_at_call_of 16 (Value.pointer (some (⟨g, 0, none⟩ : Addr))); refine (Im.hsum_256 g (p ++ s) _ H0.out (HT.out.below HB.out HT.out.pos) (by rw [ByteArray.size_append]; exact Hps.out)).mono ?_; rintro e u11 ⟨rfl, hb⟩; have H0 := Lib.hid (H0.out.below hb H0.out.lt); have HB := Lib.hid (Im.go_on HB.out hb); clear hb)
              | (go_at_call_of 16 (Value.pointer (some (⟨g3, 0, none⟩ : Addr))); refine (Im.hsum_256 g3 _ _ H3.out (HT.out.below HB.out HT.out.pos) (by rw [ByteArray.size_append]; exact Hpo.out)).mono ?_; rintro e u11 ⟨rfl, hb⟩; have H0 := Lib.hid (H0.out.below hb H0.out.lt); have HB := Lib.hid (Im.go_on HB.out hb); clear hb; have hc := (show u11.cell? ⟨b, off + j, none⟩ = some (.string s) by rw [HB.out.cell (p := ⟨b, off + j, none⟩) hbw]; exact hz))
              | (go_at_call 14; refine (Im.hfork2 false g _ _ H0.out).mono ?_; rintro e u7 ⟨g3, rfl, hg3, hb, H3⟩; have n03 : Hid (g < g3) := Nat.lt_of_lt_of_le H0.out.lt hg3.out; have hg3 := Lib.hid (Nat.le_trans HB.out.size hg3.out); have H0 := Lib.hid (H0.out.below hb H0.out.lt); have HB := Lib.hid (Im.go_on HB.out hb); clear hb)
              | (go_at_call_of 15 (Value.pointer (some (⟨g3, 0, none⟩ : Addr))); refine (Im.write2 false g3 p _ _ H3.out (Nat.lt_of_lt_of_le HT.out.pos hg3.out) (HT.out.below HB.out HT.out.pos) Hpo.out).mono ?_; rintro e v3 ⟨rfl, hB, H3⟩; have H0 := Lib.hid (H0.out.but hB (Nat.ne_of_lt n03.out)); have HB := Lib.hid (Im.go_but HB.out hg3.out hB); clear hB)
              | (go_at_call 17; refine (Sha.rhash_any 256 _ _ (by rw [ByteArray.size_append]; first | exact Hps.out | exact Hpo.out)).mono ?_; rintro e u12 ⟨rfl, hb⟩; have H0 := Lib.hid (H0.out.below hb H0.out.lt); have HB := Lib.hid (Im.go_on HB.out hb); clear hb; have hc := (show u12.cell? ⟨b, off + j, none⟩ = some (.string s) by rw [HB.out.cell (p := ⟨b, off + j, none⟩) hbw]; exact hz)))
            have jw : wrap64 ((j : Int) + 1) = ((j + 1 : Nat) : Int) := by unfold wrap64; have := HJ.out; omega
            rw [jw]
            exact ⟨⟨p ++ s, j + 1, rfl, rfl, HJ.out, by show (p ++ s).size ≤ _; rw [ByteArray.size_append]; have := Hsz.out; have := hpz.out; omega, HB, H0⟩, by have := HJ.out; simp [intOf]; omega⟩
        · have jl2 : ((j : Int) < 12) = False := eq_false (by omega)
          clear hlt h12
          go_wp2_with (first
            | (go_at_call 13; refine (Im.new_none 257 _ (by decide) (by decide)).mono ?_; rintro e u9 ⟨rfl, rfl⟩)
            | (go_at_call 16; refine (Im.hsum_256 g p _ H0.out (HT.out.below HB.out HT.out.pos) Hp.out).mono ?_; rintro e u11 ⟨rfl, hb⟩; have HB := Lib.hid (Im.go_on HB.out hb); clear hb)
            | (go_at_call 17; refine (Sha.rhash_any 256 p _ Hp.out).mono ?_; rintro e u12 ⟨rfl, hb⟩; have HB := Lib.hid (Im.go_on HB.out hb); clear hb)
            | (go_at_call 11; refine (Im.num_same _ _).mono ?_; rintro e u3 ⟨rfl, rfl⟩)
            | (go_at_call 12; refine (Im.awake_any _ (HT.out.below HB.out HT.out.pos)).mono ?_; rintro e u ⟨rfl, hb⟩; have HB := Lib.hid (Im.go_on HB.out hb); clear hb))
          go_ret
          exact ⟨rfl, HB.out⟩
      · have jl : ((j : Int) < (len1 : Int)) = False := eq_false (by omega)
        clear hlt
        go_wp2_with (first
          | (go_at_call 13; refine (Im.new_none 257 _ (by decide) (by decide)).mono ?_; rintro e u9 ⟨rfl, rfl⟩)
          | (go_at_call 16; refine (Im.hsum_256 g p _ H0.out (HT.out.below HB.out HT.out.pos) Hp.out).mono ?_; rintro e u11 ⟨rfl, hb⟩; have HB := Lib.hid (Im.go_on HB.out hb); clear hb)
          | (go_at_call 17; refine (Sha.rhash_any 256 p _ Hp.out).mono ?_; rintro e u12 ⟨rfl, hb⟩; have HB := Lib.hid (Im.go_on HB.out hb); clear hb)
          | (go_at_call 11; refine (Im.num_same _ _).mono ?_; rintro e u3 ⟨rfl, rfl⟩)
          | (go_at_call 12; refine (Im.awake_any _ (HT.out.below HB.out HT.out.pos)).mono ?_; rintro e u ⟨rfl, hb⟩; have HB := Lib.hid (Im.go_on HB.out hb); clear hb))
        go_ret
        exact ⟨rfl, HB.out⟩
  · go_enter Tryd.func4, Tryd.ntmps4
    go_upto_region 7 with (first
      | (go_at_call 13; refine (Im.new2_384 _).mono ?_; rintro e u1 ⟨g, rfl, hg, hb, H0⟩; have HB := Lib.hid (Im.go_on HB.out hb); clear hb)
      | (go_at_call 11; refine (Im.num_same _ _).mono ?_; rintro e u3 ⟨rfl, rfl⟩))
    go_wp2_with (fail)
    go_loopw [10, 11] (fun v i wx => ∃ (p : ByteArray) (j : Nat), v = .string p ∧ i = .int .i64 j ∧ Hid (j ≤ 12) ∧ Hid (p.size ≤ j * 140737488355328) ∧ Hid (Below w.heap.size w wx) ∧ Hid (Im.Wrote wx g true p)) (fun _ i _ => 12 - (intOf i).toNat)
    case atStart => exact ⟨⟨#[]⟩, 0, rfl, rfl, Nat.zero_le 12, Nat.zero_le _, HB, H0⟩
    case round =>
      clear HB H0
      obtain ⟨p, j, rfl, rfl, hj, hpz, HB, H0⟩ := hrel
      have Hp : Hid (p.size ≤ 288230376151711744) := by show p.size ≤ _; have := hpz.out; have := hj.out; omega
      by_cases hlt : j < len1
      · have jl : ((j : Int) < (len1 : Int)) = True := eq_true (by omega)
        by_cases h12 : j < 12
        · have jl2 : ((j : Int) < 12) = True := eq_true (by omega)
          have jl3 : (j : Int) < (len1 : Int) := by omega
          have HJ := Lib.hid h12
          obtain ⟨b, off, s, rfl, hbw, hz, hsz⟩ := HC.out j hlt
          have Hsz := Lib.hid hsz
          have hc : wr.cell? ⟨b, off + j, none⟩ = some (.string s) := by rw [HB.out.cell (p := ⟨b, off + j, none⟩) hbw]; exact hz
          have Hps : Hid (p.size + s.size ≤ 288230376151711744) := by show _ ≤ _; have := hpz.out; have := hj.out; omega
          have Hpo : Hid (p.size + (⟨#[111, 116, 104, 101, 114]⟩ : ByteArray).size ≤ 288230376151711744) := by show p.size + 5 ≤ _; have := hpz.out; have := hj.out; omega
          have d1 : (9223372036854775807 < p.size + s.size) = False := eq_false (by have := Hps.out; omega)
          have d2 : (9223372036854775807 < p.size + 5) = False := eq_false (by have := Hpo.out; have : p.size + 5 ≤ 288230376151711744 := this; omega)
          clear hlt h12 hsz
          by_cases hjm : j = m
          · subst hjm
            go_wp2_with (first
              | (go_at_call_of 15 (Value.pointer (some (⟨g, 0, none⟩ : Addr))); refine (Im.write2 true g p s _ H0.out (Nat.lt_of_lt_of_le HT.out.pos hg.out) (HT.out.below HB.out HT.out.pos) Hps.out).mono ?_; rintro e v1 ⟨rfl, hB, H0⟩; have HB := Lib.hid (Im.go_but HB.out hg.out hB); clear hB; have hc2 : v1.cell? ⟨b, off + j, none⟩ = some (.string s) := by rw [HB.out.cell (p := ⟨b, off + j, none⟩) hbw]; exact hz)
              | (go_at_call_of 16 (Value.pointer (some (⟨g, 0, none⟩ : Addr))); refine (Im.hsum_384 g (p ++ s) _ H0.out (HT.out.below HB.out HT.out.pos) (by rw [ByteArray.size_append]; exact Hps.out)).mono ?_; rintro e u11 ⟨rfl, hb⟩; have H0 := Lib.hid (H0.out.below hb H0.out.lt); have HB := Lib.hid (Im.go_on HB.out hb); clear hb)
              | (go_at_call_of 16 (Value.pointer (some (⟨g3, 0, none⟩ : Addr))); refine (Im.hsum_384 g3 _ _ H3.out (HT.out.below HB.out HT.out.pos) (by rw [ByteArray.size_append]; exact Hpo.out)).mono ?_; rintro e u11 ⟨rfl, hb⟩; have H0 := Lib.hid (H0.out.below hb H0.out.lt); have HB := Lib.hid (Im.go_on HB.out hb); clear hb; have hc := (show u11.cell? ⟨b, off + j, none⟩ = some (.string s) by rw [HB.out.cell (p := ⟨b, off + j, none⟩) hbw]; exact hz))
              | (go_at_call 14; refine (Im.hfork2 true g _ _ H0.out).mono ?_; rintro e u7 ⟨g3, rfl, hg3, hb, H3⟩; have n03 : Hid (g < g3) := Nat.lt_of_lt_of_le H0.out.lt hg3.out; have hg3 := Lib.hid (Nat.le_trans HB.out.size hg3.out); have H0 := Lib.hid (H0.out.below hb H0.out.lt); have HB := Lib.hid (Im.go_on HB.out hb); clear hb)
              | (go_at_call_of 15 (Value.pointer (some (⟨g3, 0, none⟩ : Addr))); refine (Im.write2 true g3 p _ _ H3.out (Nat.lt_of_lt_of_le HT.out.pos hg3.out) (HT.out.below HB.out HT.out.pos) Hpo.out).mono ?_; rintro e v3 ⟨rfl, hB, H3⟩; have H0 := Lib.hid (H0.out.but hB (Nat.ne_of_lt n03.out)); have HB := Lib.hid (Im.go_but HB.out hg3.out hB); clear hB)
              | (go_at_call 17; refine (Sha.rhash_any 384 _ _ (by rw [ByteArray.size_append]; first | exact Hps.out | exact Hpo.out)).mono ?_; rintro e u12 ⟨rfl, hb⟩; have H0 := Lib.hid (H0.out.below hb H0.out.lt); have HB := Lib.hid (Im.go_on HB.out hb); clear hb; have hc := (show u12.cell? ⟨b, off + j, none⟩ = some (.string s) by rw [HB.out.cell (p := ⟨b, off + j, none⟩) hbw]; exact hz)))
            have jw : wrap64 ((j : Int) + 1) = ((j + 1 : Nat) : Int) := by unfold wrap64; have := HJ.out; omega
            rw [jw]
            exact ⟨⟨p ++ s, j + 1, rfl, rfl, HJ.out, by show (p ++ s).size ≤ _; rw [ByteArray.size_append]; have := Hsz.out; have := hpz.out; omega, HB, H0⟩, by have := HJ.out; simp [intOf]; omega⟩
          · have m1 : ((j : Int) == (m : Int)) = false := by simpa using fun h : (j : Int) = m => hjm (by omega)
            have m2 : (j == m) = false := by simpa using hjm
            have m3 : ((j : Int) = (m : Int)) = False := eq_false (by omega)
            have m4 : (j = m) = False := eq_false hjm
            clear hjm
            go_wp2_with (first
              | (go_at_call_of 15 (Value.pointer (some (⟨g, 0, none⟩ : Addr))); refine (Im.write2 true g p s _ H0.out (Nat.lt_of_lt_of_le HT.out.pos hg.out) (HT.out.below HB.out HT.out.pos) Hps.out).mono ?_; rintro e v1 ⟨rfl, hB, H0⟩; have HB := Lib.hid (Im.go_but HB.out hg.out hB); clear hB; have hc2 : v1.cell? ⟨b, off + j, none⟩ = some (.string s) := by rw [HB.out.cell (p := ⟨b, off + j, none⟩) hbw]; exact hz)
              | (go_at_call_of 16 (Value.pointer (some (⟨g, 0, none⟩ : Addr))); refine (Im.hsum_384 g (p ++ s) _ H0.out (HT.out.below HB.out HT.out.pos) (by rw [ByteArray.size_append]; exact Hps.out)).mono ?_; rintro e u11 ⟨rfl, hb⟩; have H0 := Lib.hid (H0.out.below hb H0.out.lt); have HB := Lib.hid (Im.go_on HB.out hb); clear hb)
              | (go_at_call_of 16 (Value.pointer (some (⟨g3, 0, none⟩ : Addr))); refine (Im.hsum_384 g3 _ _ H3.out (HT.out.below HB.out HT.out.pos) (by rw [ByteArray.size_append]; exact Hpo.out)).mono ?_; rintro e u11 ⟨rfl, hb⟩; have H0 := Lib.hid (H0.out.below hb H0.out.lt); have HB := Lib.hid (Im.go_on HB.out hb); clear hb; have hc := (show u11.cell? ⟨b, off + j, none⟩ = some (.string s) by rw [HB.out.cell (p := ⟨b, off + j, none⟩) hbw]; exact hz))
              | (go_at_call 14; refine (Im.hfork2 true g _ _ H0.out).mono ?_; rintro e u7 ⟨g3, rfl, hg3, hb, H3⟩; have n03 : Hid (g < g3) := Nat.lt_of_lt_of_le H0.out.lt hg3.out; have hg3 := Lib.hid (Nat.le_trans HB.out.size hg3.out); have H0 := Lib.hid (H0.out.below hb H0.out.lt); have HB := Lib.hid (Im.go_on HB.out hb); clear hb)
              | (go_at_call_of 15 (Value.pointer (some (⟨g3, 0, none⟩ : Addr))); refine (Im.write2 true g3 p _ _ H3.out (Nat.lt_of_lt_of_le HT.out.pos hg3.out) (HT.out.below HB.out HT.out.pos) Hpo.out).mono ?_; rintro e v3 ⟨rfl, hB, H3⟩; have H0 := Lib.hid (H0.out.but hB (Nat.ne_of_lt n03.out)); have HB := Lib.hid (Im.go_but HB.out hg3.out hB); clear hB)
              | (go_at_call 17; refine (Sha.rhash_any 384 _ _ (by rw [ByteArray.size_append]; first | exact Hps.out | exact Hpo.out)).mono ?_; rintro e u12 ⟨rfl, hb⟩; have H0 := Lib.hid (H0.out.below hb H0.out.lt); have HB := Lib.hid (Im.go_on HB.out hb); clear hb; have hc := (show u12.cell? ⟨b, off + j, none⟩ = some (.string s) by rw [HB.out.cell (p := ⟨b, off + j, none⟩) hbw]; exact hz)))
            have jw : wrap64 ((j : Int) + 1) = ((j + 1 : Nat) : Int) := by unfold wrap64; have := HJ.out; omega
            rw [jw]
            exact ⟨⟨p ++ s, j + 1, rfl, rfl, HJ.out, by show (p ++ s).size ≤ _; rw [ByteArray.size_append]; have := Hsz.out; have := hpz.out; omega, HB, H0⟩, by have := HJ.out; simp [intOf]; omega⟩
        · have jl2 : ((j : Int) < 12) = False := eq_false (by omega)
          clear hlt h12
          go_wp2_with (first
            | (go_at_call 13; refine (Im.new_none 385 _ (by decide) (by decide)).mono ?_; rintro e u9 ⟨rfl, rfl⟩)
            | (go_at_call 16; refine (Im.hsum_384 g p _ H0.out (HT.out.below HB.out HT.out.pos) Hp.out).mono ?_; rintro e u11 ⟨rfl, hb⟩; have HB := Lib.hid (Im.go_on HB.out hb); clear hb)
            | (go_at_call 17; refine (Sha.rhash_any 384 p _ Hp.out).mono ?_; rintro e u12 ⟨rfl, hb⟩; have HB := Lib.hid (Im.go_on HB.out hb); clear hb)
            | (go_at_call 11; refine (Im.num_same _ _).mono ?_; rintro e u3 ⟨rfl, rfl⟩)
            | (go_at_call 12; refine (Im.awake_any _ (HT.out.below HB.out HT.out.pos)).mono ?_; rintro e u ⟨rfl, hb⟩; have HB := Lib.hid (Im.go_on HB.out hb); clear hb))
          go_ret
          exact ⟨rfl, HB.out⟩
      · have jl : ((j : Int) < (len1 : Int)) = False := eq_false (by omega)
        clear hlt
        go_wp2_with (first
          | (go_at_call 13; refine (Im.new_none 385 _ (by decide) (by decide)).mono ?_; rintro e u9 ⟨rfl, rfl⟩)
          | (go_at_call 16; refine (Im.hsum_384 g p _ H0.out (HT.out.below HB.out HT.out.pos) Hp.out).mono ?_; rintro e u11 ⟨rfl, hb⟩; have HB := Lib.hid (Im.go_on HB.out hb); clear hb)
          | (go_at_call 17; refine (Sha.rhash_any 384 p _ Hp.out).mono ?_; rintro e u12 ⟨rfl, hb⟩; have HB := Lib.hid (Im.go_on HB.out hb); clear hb)
          | (go_at_call 11; refine (Im.num_same _ _).mono ?_; rintro e u3 ⟨rfl, rfl⟩)
          | (go_at_call 12; refine (Im.awake_any _ (HT.out.below HB.out HT.out.pos)).mono ?_; rintro e u ⟨rfl, hb⟩; have HB := Lib.hid (Im.go_on HB.out hb); clear hb))
        go_ret
        exact ⟨rfl, HB.out⟩

set_option maxRecDepth 100000 in
theorem lifted (os : Os) (started : os.Started) (H : Type) (enc : TypeId × Value → H) :
    ReturnsInHanded {} Tryd.checked os 4 .any (fun w args => (Rows.shaPartsSpec.pre enc Tryd.prog Tryd.f4 [] false w args ∧ laidMetH Tryd.prog laid1 w) ∧ sizedMet enc Tryd.prog Tryd.f4 (OpenSpec.ofChange Rows.shaPartsSpec) false w args)
      (Rows.shaPartsSpec.post enc Tryd.prog Tryd.f4 false true false false) := by
  refine returnsInHanded_of_change_and (C := Tryd.checked) (X := fun w _ => laidMetH Tryd.prog laid1 w) (fun _ _ _ hh h => h.of_heap hh) own started (by kernel_rfl) Tryd.func4
    (ChangeSpec.witness_shaped (enc := enc) (C := Tryd.checked) (os := os) (X := fun w _ => laidMetH Tryd.prog laid1 w) false (World.doorLaid Tryd.prog 14 os) #[.bool false, .slice none 0 0, .int .i64 0] 8 rfl (World.shaped_of_RefB (by kernel_rfl) (by kernel_rfl)) (by kernel_rfl) (by kernel_rfl) (by kernel_rfl) (door_met os _)) ?_
  intro W base args ds gs before hval0 hW _ hsz0 hL _
  have hT := tab_of_laid hL
  have hsz : (DataW.weightsEach Tryd.prog (Tryd.f4.params.toList ++ Rows.shaPartsSpec.plain.varTypes Tryd.prog) (ds ++ gs)).all (· ≤ reachBytes) = true := hsz0
  have hval : ∀ (j : Nat) t v, Tryd.f4.params[j]? = some t → args[j]? = some v → Value.okWide Tryd.prog W .any base t v := hval0
  have hW' := hW
  obtain ⟨p, q, hA0, hV, rfl, hfz, hnd⟩ := hW
  have hA : DataW.TrodAll enc Tryd.prog W 0 (fun _ => true) true Tryd.f4.params.toList args.toList ds p := hA0
  rw [Tryd.params4] at hA hval hsz
  obtain ⟨v0, vs0, d0, ds0, p0, q0, hargs, rfl, rfl, h0, r0⟩ := trodAll_cons hA
  obtain ⟨v1, vs1, d1, ds1, p1, q1, rfl, rfl, rfl, h1, r1⟩ := trodAll_cons r0
  obtain ⟨v2, vs2, d2, ds2, p2, q2, rfl, rfl, rfl, h2, r2⟩ := trodAll_cons r1
  obtain ⟨rfl, rfl, rfl⟩ := trodAll_nil r2
  obtain rfl : args = #[v0, v1, v2] := by cases args; simp_all
  obtain ⟨rfl, rfl⟩ := trodVars_none hV
  obtain ⟨a0, rfl, rfl, rfl⟩ := open_bool Tryd.underlying4 (hval 0 4 v0 rfl rfl) h0
  obtain ⟨a1, len1, cap1, rfl⟩ := okWide_slice Tryd.underlying30 (hval 1 30 v1 rfl rfl)
  have k1 := h1
  have lt1 : ∀ x ∈ p1, x.block < W.heap.size := by obtain ⟨m, hm⟩ := k1; exact DataW.trod_lt m _ _ _ hm
  have w1 : IsStrs W a1 len1 := by
    obtain ⟨fuel, hf⟩ := h1
    rcases Go.Deep.open_strs Tryd.underlying30 Tryd.underlying9 (by kernel_rfl) hf with ⟨hcs, _⟩ | ⟨x, l, c, m, Sx, hcs, _, hl, hm, hmm, hx, hcell⟩
    · simp [Value.cells] at hcs
      obtain ⟨rfl, rfl, rfl⟩ := hcs
      exact fun i hi => absurd hi (Nat.not_lt_zero i)
    · simp [Value.cells] at hcs
      obtain ⟨rfl, rfl, rfl⟩ := hcs
      obtain ⟨hd, -⟩ := Prod.mk.inj hx
      subst hd
      intro i hi
      have hml : len1 ≤ m := by rw [hmm]; split <;> omega
      obtain ⟨b, off, spot⟩ := x
      have hc0 := (hcell 0 (by omega)).1
      obtain rfl : spot = none := by simpa [Addr.add] using World.cell?_spot hc0
      have hc := (hcell i (by omega)).1
      rw [show (⟨b, off, none⟩ : Addr).add i = ⟨b, off + i, none⟩ by unfold Addr.add; split <;> simp_all] at hc
      exact ⟨b, off, Sx i, rfl, World.block_lt_of_cell? W ⟨b, off + i, none⟩ hc, hc, sized_strs hsz (j := 1) (t := 30) rfl rfl Tryd.underlying30 i hi⟩
  obtain ⟨a2, rfl, rfl, rfl, w2⟩ := open_int Tryd.underlying3 (hval 2 3 v2 rfl rfl) h2
  clear hA0 hval0
  refine (walk a0 a1 len1 cap1 a2 W w1 hT).mono fun e W' ⟨he, bel⟩ => ?_
  subst he
  exact ⟨_, rfl, _, _, _, [], _, [], hW', trodAll_mk1 (shut_bool Tryd.underlying4 _), (trodAll_cons_mk (shut_bool Tryd.underlying4 _) (trodAll_cons_mk (Below.trod laidOut (by kernel_rfl) (of_decide_eq_true (by kernel_rfl)) k1 bel lt1) (trodAll_cons_mk (shut_int Tryd.underlying3 w2) trodAll_mk0))), rfl, bel.frame _, fun h => by cases h⟩

theorem over : Rows.shaPartsRow.holds Tryd.pinned (OpenSpec.ofChange Rows.shaPartsSpec) :=
  OpenClaim.holds_of_wide 4 Tryd.f4 rfl rfl rfl rfl rfl rfl rfl ⟨rfl, rfl, rfl, rfl, rfl⟩ rfl rfl rfl rfl rfl (by kernel_rfl) Tryd.func4 (by kernel_rfl)
    (of_decide_eq_true (by kernel_rfl)) (by unfold Func.isWrapper; first | (rw [if_pos (by decide +kernel)]; kernel_rfl) | (rw [if_neg (by decide +kernel)]; exact ⟨rfl, rfl⟩))
    (fun os started H enc _ => lifted os started H enc)

theorem card_holds : Rows.ShaPartsCardSaid :=
  Claim7.holds_tied_plain_at .later [] [.data] true (true, "b63a3a16b0215449141b4c4a12ddcade81ad673c352d47340d90069b4ac434ba") false
    over (fun _ h => by cases h) (by kernel_rfl) (fun _ h => by cases h) shaParts_row_tie rfl ⟨rfl, rfl⟩ (by kernel_rfl) rfl
    (fun f fn hf hfn => by
      obtain rfl : f = 4 := Option.some.inj ((show Tryd.prog.funcNamed "halberd/halberdlaw2.ShaParts" = some 4 by kernel_rfl).symm.trans hf) |>.symm
      obtain rfl : fn = Tryd.f4 := (Option.some.inj (Tryd.func4.symm.trans hfn)).symm
      exact ⟨by kernel_rfl, fun j t ht => by
        rw [Tryd.params4] at ht
        have hm : t ∈ [4, 30, 3] := by simpa using Array.mem_of_getElem? ht
        have hall : ([4, 30, 3].all fun u => !Tryd.prog.wantsStandIn u) = true := by kernel_rfl
        exact (show Tryd.prog.wantsStandIn t = false by simpa using List.all_eq_true.1 hall t hm)⟩)
    (by kernel_rfl)
#print axioms card_holds
end Go.Proofs.YtghkifcoeimcdaaDoor.shaParts
