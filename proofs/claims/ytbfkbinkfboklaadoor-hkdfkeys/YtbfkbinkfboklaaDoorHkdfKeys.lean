/-
  Hmac of package hkdf takes a key longer than a block as its digest, noughts behind a short key turn nothing, and Extract is Hmac.
-/
import Derived.Test.YtbfkbinkfboklaaDoorKdI
import Derived.Test.YtbfkbinkfboklaaDoorRows
import Derived.WalkKit
import Derived.ProofKit
import Derived.OpenShut
import Derived.ShutString
import Derived.Test.YtbfkbinkfboklaaDoorImW
import Derived.Test.YtbfkbinkfboklaaDoorTie
import Derived.Test.YtbfkbinkfboklaaDoorCards
import Derived.SevenTiedAt
import Derived.SizedLaws
import Derived.Stop.Joined
import Derived.LaidMore
import Derived.Below
import Derived.ChangeOld
namespace Go.Proofs.YtbfkbinkfboklaaDoor.hkdfKeys
open Go.ChangeShapes Go.WideShapes Go.ChangeAt Go.RowKit
open Go.Proofs.YtbfkbinkfboklaaDoor
open Go.ChangeMaps (open_string shut_string)
set_option linter.unusedVariables false

theorem own : ownKnob Tryd.prog.godebug = none := by kernel_rfl

set_option maxHeartbeats 4000000 in
set_option maxRecDepth 100000 in
theorem walk (a0 : Bool) (a1 : ByteArray) (a2 : ByteArray) (a3 : Int) (r1 : a1.size ≤ 140737488355328) (r2 : a2.size ≤ 140737488355328) (w3 : (Lit.int .i64 a3).wf = true) (w : World) (hT : Im.Tab w) :
    Calls Tryd.prog 5 #[.bool a0, .string a1, .string a2, .int .i64 a3] w fun e w' => e = .returned (.bool true) ∧ Below w.heap.size w w' := by
  have HT := Lib.hid hT
  have HK : Hid (a1.size ≤ 288230376151711744) := Nat.le_trans r1 (by decide)
  have HS : Hid (a2.size ≤ 144115188075855872) := Nat.le_trans r2 (by decide)
  have HR := Lib.hid r1
  have HB : Hid (Below w.heap.size w w) := Below.refl _ _
  obtain ⟨q, hq, hmq⟩ := Im.maskN3 a3
  clear hT r2 w3
  cases a0
  · by_cases hl : 64 < a1.size
    · have hl' : (64 : Int) < a1.size := by omega
      obtain ⟨M, _, hMc, hmk0⟩ := Be.zeros 64 (by decide)
      have hmk1 : ∀ W : World, (Instr.makeSlice 35 (.int .i64 64) (.int .i64 64)).run Tryd.prog W = .ok (.slice (some ⟨W.heap.size, 0, none⟩) 64 64) (W.alloc (.cells M 5)) := hmk0
      have hcv1 := fun W => Be.conv_new W M 64 hMc
      have z1 := Be.zS_size 64
      have q1 : ¬ 9223372036854775807 < a1.size + 64 := by omega
      have q2 : ¬ 9223372036854775807 < a1.size + 64 + 1 := by omega
      have HLz : Hid (64 < (a1 ++ Be.zS 64 ++ ⟨#[120]⟩).size ∧ (a1 ++ Be.zS 64 ++ ⟨#[120]⟩).size ≤ 288230376151711744) := by
        show 64 < (a1 ++ Be.zS 64 ++ ⟨#[120]⟩).size ∧ (a1 ++ Be.zS 64 ++ ⟨#[120]⟩).size ≤ 288230376151711744
        rw [ByteArray.size_append, ByteArray.size_append, Be.zS_size, show (⟨#[120]⟩ : ByteArray).size = 1 from rfl]; omega
      have n1 : (Hk.macS 256 a1 a2).size = 32 := Hk.macS_size 256 a1 a2 rfl
      clear hMc hmk0
      have sz : (a1.extract 0 64).size = 64 := by rw [ByteArray.size_extract]; omega
      clear r1
      obtain ⟨M', _, hMc', hmk0'⟩ := Be.zeros 0 (by omega)
      have hmk2 : ∀ W : World, (Instr.makeSlice 35 (.int .i64 0) (.int .i64 0)).run Tryd.prog W = .ok (.slice (some ⟨W.heap.size, 0, none⟩) 0 0) (W.alloc (.cells M' 5)) := hmk0'
      have hcv2 := fun W => Be.conv_new W M' 0 hMc'
      have z2 := Be.zS_size 0
      clear hMc' hmk0'
      have HSh : Hid ((a1.extract 0 64).size ≤ 288230376151711744) := by show (a1.extract 0 64).size ≤ _; omega
      have HSm : Hid (((a1.extract 0 64) ++ Be.zS 0).size ≤ 288230376151711744) := by show ((a1.extract 0 64) ++ Be.zS 0).size ≤ _; rw [ByteArray.size_append, z2]; omega
      have HSb : Hid ((a1.extract 0 64).size + (Be.zS 0).size ≤ Hk.bS 256) := by show (a1.extract 0 64).size + (Be.zS 0).size ≤ 64; rw [z2]; omega
      go_enter Tryd.func5, Tryd.ntmps5
      go_wp2_with (fail)
      refine (Kd.awake3_any _ (Im.tab_of HT.out HB.out)).mono ?_
      rintro e u ⟨rfl, hb⟩
      have HB := Lib.hid (Im.go_on (HB.out) hb)
      clear hb
      go_wp2_with (fail)
      generalize hLd : a1 ++ Be.zS 64 ++ ⟨#[120]⟩ = L at HLz ⊢
      clear hLd
      refine (Kd.hmac256 L a2 _ (Im.tab_of HT.out (HB.out.alloc HB.out.size _)) HLz.out.2 HS.out).mono ?_
      rintro e u ⟨rfl, hb⟩
      have HB := Lib.hid (Im.go_on (HB.out.alloc HB.out.size _) hb)
      clear hb
      go_wp2_with (fail)
      refine (Sha.rhash_any 256 L _ HLz.out.2).mono ?_
      rintro e u ⟨rfl, hb⟩
      have HB := Lib.hid (Im.go_on (HB.out) hb)
      clear hb
      go_wp2_with (fail)
      refine (Kd.hmac256 (Sha.digS 256 L) a2 _ (Im.tab_of HT.out HB.out) (Nat.le_trans (Sha.digS_le 256 L) (by decide)) HS.out).mono ?_
      rintro e u ⟨rfl, hb⟩
      have HB := Lib.hid (Im.go_on (HB.out) hb)
      clear hb
      have el : Hk.macS 256 (Sha.digS 256 L) a2 = Hk.macS 256 L a2 := Hk.macS_long 256 L a2 HLz.out.1
      rw [el]
      clear el
      go_wp2_with (fail)
      refine (Kd.hmac256 (a1.extract 0 64) a2 _ (Im.tab_of HT.out HB.out) HSh.out HS.out).mono ?_
      rintro e u ⟨rfl, hb⟩
      have HB := Lib.hid (Im.go_on (HB.out) hb)
      clear hb
      go_wp2_with (fail)
      refine (Kd.hmac256 ((a1.extract 0 64) ++ Be.zS 0) a2 _ (Im.tab_of HT.out (HB.out.alloc HB.out.size _)) HSm.out HS.out).mono ?_
      rintro e u ⟨rfl, hb⟩
      have HB := Lib.hid (Im.go_on (HB.out.alloc HB.out.size _) hb)
      clear hb
      have ez : Hk.macS 256 ((a1.extract 0 64) ++ Be.zS 0) a2 = Hk.macS 256 (a1.extract 0 64) a2 := Hk.macS_zeros 256 (a1.extract 0 64) (Be.zS 0) a2 (Kd.byt_zS 0) HSb.out
      rw [ez]
      clear ez
      go_wp2_with (fail)
      refine (Kd.ext256 a1 a2 _ (Im.tab_of HT.out HB.out) HK.out HS.out).mono ?_
      rintro e u ⟨rfl, hb⟩
      have HB := Lib.hid (Im.go_on (HB.out) hb)
      clear hb
      go_wp2_with (fail)
      refine (Kd.hmac256 a1 a2 _ (Im.tab_of HT.out HB.out) HK.out HS.out).mono ?_
      rintro e u ⟨rfl, hb⟩
      have HB := Lib.hid (Im.go_on (HB.out) hb)
      clear hb
      go_wp2_with (go_at_call 15; refine (Im.num_same _ _).mono ?_; rintro e u ⟨rfl, rfl⟩)
      go_ret
      exact ⟨rfl, HB.out⟩
    · have hl' : ¬ (64 : Int) < a1.size := by omega
      obtain ⟨M, _, hMc, hmk0⟩ := Be.zeros 64 (by decide)
      have hmk1 : ∀ W : World, (Instr.makeSlice 35 (.int .i64 64) (.int .i64 64)).run Tryd.prog W = .ok (.slice (some ⟨W.heap.size, 0, none⟩) 64 64) (W.alloc (.cells M 5)) := hmk0
      have hcv1 := fun W => Be.conv_new W M 64 hMc
      have z1 := Be.zS_size 64
      have q1 : ¬ 9223372036854775807 < a1.size + 64 := by omega
      have q2 : ¬ 9223372036854775807 < a1.size + 64 + 1 := by omega
      have HLz : Hid (64 < (a1 ++ Be.zS 64 ++ ⟨#[120]⟩).size ∧ (a1 ++ Be.zS 64 ++ ⟨#[120]⟩).size ≤ 288230376151711744) := by
        show 64 < (a1 ++ Be.zS 64 ++ ⟨#[120]⟩).size ∧ (a1 ++ Be.zS 64 ++ ⟨#[120]⟩).size ≤ 288230376151711744
        rw [ByteArray.size_append, ByteArray.size_append, Be.zS_size, show (⟨#[120]⟩ : ByteArray).size = 1 from rfl]; omega
      have n1 : (Hk.macS 256 a1 a2).size = 32 := Hk.macS_size 256 a1 a2 rfl
      clear hMc hmk0
      have l1 : a1.size ≤ 64 := by omega
      clear r1 hl
      have h4 : q = 0 ∨ q = 1 ∨ q = 2 ∨ q = 3 := by omega
      rcases h4 with rfl | rfl | rfl | rfl
      · have hmq' : bits .and .i64 a3 3 = 0 := hmq
        clear hmq hq
        obtain ⟨M', _, hMc', hmk0'⟩ := Be.zeros 0 (by omega)
        have hmk2 : ∀ W : World, (Instr.makeSlice 35 (.int .i64 0) (.int .i64 0)).run Tryd.prog W = .ok (.slice (some ⟨W.heap.size, 0, none⟩) 0 0) (W.alloc (.cells M' 5)) := hmk0'
        have hcv2 := fun W => Be.conv_new W M' 0 hMc'
        have z2 := Be.zS_size 0
        clear hMc' hmk0'
        have HSh : Hid (a1.size ≤ 288230376151711744) := by show a1.size ≤ _; omega
        have HSm : Hid ((a1 ++ Be.zS 0).size ≤ 288230376151711744) := by show (a1 ++ Be.zS 0).size ≤ _; rw [ByteArray.size_append, z2]; omega
        have HSb : Hid (a1.size + (Be.zS 0).size ≤ Hk.bS 256) := by show a1.size + (Be.zS 0).size ≤ 64; rw [z2]; omega
        go_enter Tryd.func5, Tryd.ntmps5
        go_wp2_with (fail)
        refine (Kd.awake3_any _ (Im.tab_of HT.out HB.out)).mono ?_
        rintro e u ⟨rfl, hb⟩
        have HB := Lib.hid (Im.go_on (HB.out) hb)
        clear hb
        go_wp2_with (fail)
        generalize hLd : a1 ++ Be.zS 64 ++ ⟨#[120]⟩ = L at HLz ⊢
        clear hLd
        refine (Kd.hmac256 L a2 _ (Im.tab_of HT.out (HB.out.alloc HB.out.size _)) HLz.out.2 HS.out).mono ?_
        rintro e u ⟨rfl, hb⟩
        have HB := Lib.hid (Im.go_on (HB.out.alloc HB.out.size _) hb)
        clear hb
        go_wp2_with (fail)
        refine (Sha.rhash_any 256 L _ HLz.out.2).mono ?_
        rintro e u ⟨rfl, hb⟩
        have HB := Lib.hid (Im.go_on (HB.out) hb)
        clear hb
        go_wp2_with (fail)
        refine (Kd.hmac256 (Sha.digS 256 L) a2 _ (Im.tab_of HT.out HB.out) (Nat.le_trans (Sha.digS_le 256 L) (by decide)) HS.out).mono ?_
        rintro e u ⟨rfl, hb⟩
        have HB := Lib.hid (Im.go_on (HB.out) hb)
        clear hb
        have el : Hk.macS 256 (Sha.digS 256 L) a2 = Hk.macS 256 L a2 := Hk.macS_long 256 L a2 HLz.out.1
        rw [el]
        clear el
        go_wp2_with (fail)
        refine (Kd.hmac256 a1 a2 _ (Im.tab_of HT.out HB.out) HSh.out HS.out).mono ?_
        rintro e u ⟨rfl, hb⟩
        have HB := Lib.hid (Im.go_on (HB.out) hb)
        clear hb
        go_wp2_with (fail)
        refine (Kd.hmac256 (a1 ++ Be.zS 0) a2 _ (Im.tab_of HT.out (HB.out.alloc HB.out.size _)) HSm.out HS.out).mono ?_
        rintro e u ⟨rfl, hb⟩
        have HB := Lib.hid (Im.go_on (HB.out.alloc HB.out.size _) hb)
        clear hb
        have ez : Hk.macS 256 (a1 ++ Be.zS 0) a2 = Hk.macS 256 a1 a2 := Hk.macS_zeros 256 a1 (Be.zS 0) a2 (Kd.byt_zS 0) HSb.out
        rw [ez]
        clear ez
        go_wp2_with (fail)
        refine (Kd.ext256 a1 a2 _ (Im.tab_of HT.out HB.out) HK.out HS.out).mono ?_
        rintro e u ⟨rfl, hb⟩
        have HB := Lib.hid (Im.go_on (HB.out) hb)
        clear hb
        go_wp2_with (fail)
        refine (Kd.hmac256 a1 a2 _ (Im.tab_of HT.out HB.out) HK.out HS.out).mono ?_
        rintro e u ⟨rfl, hb⟩
        have HB := Lib.hid (Im.go_on (HB.out) hb)
        clear hb
        go_wp2_with (go_at_call 15; refine (Im.num_same _ _).mono ?_; rintro e u ⟨rfl, rfl⟩)
        go_ret
        exact ⟨rfl, HB.out⟩
      · have hmq' : bits .and .i64 a3 3 = 1 := hmq
        clear hmq hq
        obtain ⟨m, hm⟩ : ∃ m : Nat, (64 - (a1.size : Int)) / 3 = (m : Int) := ⟨((64 - (a1.size : Int)) / 3).toNat, by omega⟩
        have m1 : m ≤ 64 - a1.size := by omega
        obtain ⟨M', _, hMc', hmk0'⟩ := Be.zeros m (by omega)
        have hmk2 : ∀ W : World, (Instr.makeSlice 35 (.int .i64 m) (.int .i64 m)).run Tryd.prog W = .ok (.slice (some ⟨W.heap.size, 0, none⟩) m m) (W.alloc (.cells M' 5)) := hmk0'
        have hcv2 := fun W => Be.conv_new W M' m hMc'
        have z2 := Be.zS_size m
        clear hMc' hmk0'
        have HSh : Hid (a1.size ≤ 288230376151711744) := by show a1.size ≤ _; omega
        have HSm : Hid ((a1 ++ Be.zS m).size ≤ 288230376151711744) := by show (a1 ++ Be.zS m).size ≤ _; rw [ByteArray.size_append, z2]; omega
        have HSb : Hid (a1.size + (Be.zS m).size ≤ Hk.bS 256) := by show a1.size + (Be.zS m).size ≤ 64; rw [z2]; omega
        have m2 : ¬ 9223372036854775807 < a1.size + m := by omega
        clear m1
        go_enter Tryd.func5, Tryd.ntmps5
        go_wp2_with (fail)
        refine (Kd.awake3_any _ (Im.tab_of HT.out HB.out)).mono ?_
        rintro e u ⟨rfl, hb⟩
        have HB := Lib.hid (Im.go_on (HB.out) hb)
        clear hb
        go_wp2_with (fail)
        generalize hLd : a1 ++ Be.zS 64 ++ ⟨#[120]⟩ = L at HLz ⊢
        clear hLd
        refine (Kd.hmac256 L a2 _ (Im.tab_of HT.out (HB.out.alloc HB.out.size _)) HLz.out.2 HS.out).mono ?_
        rintro e u ⟨rfl, hb⟩
        have HB := Lib.hid (Im.go_on (HB.out.alloc HB.out.size _) hb)
        clear hb
        go_wp2_with (fail)
        refine (Sha.rhash_any 256 L _ HLz.out.2).mono ?_
        rintro e u ⟨rfl, hb⟩
        have HB := Lib.hid (Im.go_on (HB.out) hb)
        clear hb
        go_wp2_with (fail)
        refine (Kd.hmac256 (Sha.digS 256 L) a2 _ (Im.tab_of HT.out HB.out) (Nat.le_trans (Sha.digS_le 256 L) (by decide)) HS.out).mono ?_
        rintro e u ⟨rfl, hb⟩
        have HB := Lib.hid (Im.go_on (HB.out) hb)
        clear hb
        have el : Hk.macS 256 (Sha.digS 256 L) a2 = Hk.macS 256 L a2 := Hk.macS_long 256 L a2 HLz.out.1
        rw [el]
        clear el
        go_wp2_with (fail)
        refine (Kd.hmac256 a1 a2 _ (Im.tab_of HT.out HB.out) HSh.out HS.out).mono ?_
        rintro e u ⟨rfl, hb⟩
        have HB := Lib.hid (Im.go_on (HB.out) hb)
        clear hb
        go_wp2_with (fail)
        refine (Kd.hmac256 (a1 ++ Be.zS m) a2 _ (Im.tab_of HT.out (HB.out.alloc HB.out.size _)) HSm.out HS.out).mono ?_
        rintro e u ⟨rfl, hb⟩
        have HB := Lib.hid (Im.go_on (HB.out.alloc HB.out.size _) hb)
        clear hb
        have ez : Hk.macS 256 (a1 ++ Be.zS m) a2 = Hk.macS 256 a1 a2 := Hk.macS_zeros 256 a1 (Be.zS m) a2 (Kd.byt_zS m) HSb.out
        rw [ez]
        clear ez
        go_wp2_with (fail)
        refine (Kd.ext256 a1 a2 _ (Im.tab_of HT.out HB.out) HK.out HS.out).mono ?_
        rintro e u ⟨rfl, hb⟩
        have HB := Lib.hid (Im.go_on (HB.out) hb)
        clear hb
        go_wp2_with (fail)
        refine (Kd.hmac256 a1 a2 _ (Im.tab_of HT.out HB.out) HK.out HS.out).mono ?_
        rintro e u ⟨rfl, hb⟩
        have HB := Lib.hid (Im.go_on (HB.out) hb)
        clear hb
        go_wp2_with (go_at_call 15; refine (Im.num_same _ _).mono ?_; rintro e u ⟨rfl, rfl⟩)
        go_ret
        exact ⟨rfl, HB.out⟩
      · have hmq' : bits .and .i64 a3 3 = 2 := hmq
        clear hmq hq
        obtain ⟨m, hm⟩ : ∃ m : Nat, (64 - (a1.size : Int)) * 2 / 3 = (m : Int) := ⟨((64 - (a1.size : Int)) * 2 / 3).toNat, by omega⟩
        have m1 : m ≤ 64 - a1.size := by omega
        obtain ⟨M', _, hMc', hmk0'⟩ := Be.zeros m (by omega)
        have hmk2 : ∀ W : World, (Instr.makeSlice 35 (.int .i64 m) (.int .i64 m)).run Tryd.prog W = .ok (.slice (some ⟨W.heap.size, 0, none⟩) m m) (W.alloc (.cells M' 5)) := hmk0'
        have hcv2 := fun W => Be.conv_new W M' m hMc'
        have z2 := Be.zS_size m
        clear hMc' hmk0'
        have HSh : Hid (a1.size ≤ 288230376151711744) := by show a1.size ≤ _; omega
        have HSm : Hid ((a1 ++ Be.zS m).size ≤ 288230376151711744) := by show (a1 ++ Be.zS m).size ≤ _; rw [ByteArray.size_append, z2]; omega
        have HSb : Hid (a1.size + (Be.zS m).size ≤ Hk.bS 256) := by show a1.size + (Be.zS m).size ≤ 64; rw [z2]; omega
        have m2 : ¬ 9223372036854775807 < a1.size + m := by omega
        clear m1
        go_enter Tryd.func5, Tryd.ntmps5
        go_wp2_with (fail)
        refine (Kd.awake3_any _ (Im.tab_of HT.out HB.out)).mono ?_
        rintro e u ⟨rfl, hb⟩
        have HB := Lib.hid (Im.go_on (HB.out) hb)
        clear hb
        go_wp2_with (fail)
        generalize hLd : a1 ++ Be.zS 64 ++ ⟨#[120]⟩ = L at HLz ⊢
        clear hLd
        refine (Kd.hmac256 L a2 _ (Im.tab_of HT.out (HB.out.alloc HB.out.size _)) HLz.out.2 HS.out).mono ?_
        rintro e u ⟨rfl, hb⟩
        have HB := Lib.hid (Im.go_on (HB.out.alloc HB.out.size _) hb)
        clear hb
        go_wp2_with (fail)
        refine (Sha.rhash_any 256 L _ HLz.out.2).mono ?_
        rintro e u ⟨rfl, hb⟩
        have HB := Lib.hid (Im.go_on (HB.out) hb)
        clear hb
        go_wp2_with (fail)
        refine (Kd.hmac256 (Sha.digS 256 L) a2 _ (Im.tab_of HT.out HB.out) (Nat.le_trans (Sha.digS_le 256 L) (by decide)) HS.out).mono ?_
        rintro e u ⟨rfl, hb⟩
        have HB := Lib.hid (Im.go_on (HB.out) hb)
        clear hb
        have el : Hk.macS 256 (Sha.digS 256 L) a2 = Hk.macS 256 L a2 := Hk.macS_long 256 L a2 HLz.out.1
        rw [el]
        clear el
        go_wp2_with (fail)
        refine (Kd.hmac256 a1 a2 _ (Im.tab_of HT.out HB.out) HSh.out HS.out).mono ?_
        rintro e u ⟨rfl, hb⟩
        have HB := Lib.hid (Im.go_on (HB.out) hb)
        clear hb
        go_wp2_with (fail)
        refine (Kd.hmac256 (a1 ++ Be.zS m) a2 _ (Im.tab_of HT.out (HB.out.alloc HB.out.size _)) HSm.out HS.out).mono ?_
        rintro e u ⟨rfl, hb⟩
        have HB := Lib.hid (Im.go_on (HB.out.alloc HB.out.size _) hb)
        clear hb
        have ez : Hk.macS 256 (a1 ++ Be.zS m) a2 = Hk.macS 256 a1 a2 := Hk.macS_zeros 256 a1 (Be.zS m) a2 (Kd.byt_zS m) HSb.out
        rw [ez]
        clear ez
        go_wp2_with (fail)
        refine (Kd.ext256 a1 a2 _ (Im.tab_of HT.out HB.out) HK.out HS.out).mono ?_
        rintro e u ⟨rfl, hb⟩
        have HB := Lib.hid (Im.go_on (HB.out) hb)
        clear hb
        go_wp2_with (fail)
        refine (Kd.hmac256 a1 a2 _ (Im.tab_of HT.out HB.out) HK.out HS.out).mono ?_
        rintro e u ⟨rfl, hb⟩
        have HB := Lib.hid (Im.go_on (HB.out) hb)
        clear hb
        go_wp2_with (go_at_call 15; refine (Im.num_same _ _).mono ?_; rintro e u ⟨rfl, rfl⟩)
        go_ret
        exact ⟨rfl, HB.out⟩
      · have hmq' : bits .and .i64 a3 3 = 3 := hmq
        clear hmq hq
        obtain ⟨m, hm⟩ : ∃ m : Nat, (64 - (a1.size : Int)) = (m : Int) := ⟨((64 - (a1.size : Int))).toNat, by omega⟩
        have m1 : m ≤ 64 - a1.size := by omega
        obtain ⟨M', _, hMc', hmk0'⟩ := Be.zeros m (by omega)
        have hmk2 : ∀ W : World, (Instr.makeSlice 35 (.int .i64 m) (.int .i64 m)).run Tryd.prog W = .ok (.slice (some ⟨W.heap.size, 0, none⟩) m m) (W.alloc (.cells M' 5)) := hmk0'
        have hcv2 := fun W => Be.conv_new W M' m hMc'
        have z2 := Be.zS_size m
        clear hMc' hmk0'
        have HSh : Hid (a1.size ≤ 288230376151711744) := by show a1.size ≤ _; omega
        have HSm : Hid ((a1 ++ Be.zS m).size ≤ 288230376151711744) := by show (a1 ++ Be.zS m).size ≤ _; rw [ByteArray.size_append, z2]; omega
        have HSb : Hid (a1.size + (Be.zS m).size ≤ Hk.bS 256) := by show a1.size + (Be.zS m).size ≤ 64; rw [z2]; omega
        have hm3 : (m : Int) * 3 / 3 = m := by omega
        have m2 : ¬ 9223372036854775807 < a1.size + m := by omega
        clear m1
        go_enter Tryd.func5, Tryd.ntmps5
        go_wp2_with (fail)
        refine (Kd.awake3_any _ (Im.tab_of HT.out HB.out)).mono ?_
        rintro e u ⟨rfl, hb⟩
        have HB := Lib.hid (Im.go_on (HB.out) hb)
        clear hb
        go_wp2_with (fail)
        generalize hLd : a1 ++ Be.zS 64 ++ ⟨#[120]⟩ = L at HLz ⊢
        clear hLd
        refine (Kd.hmac256 L a2 _ (Im.tab_of HT.out (HB.out.alloc HB.out.size _)) HLz.out.2 HS.out).mono ?_
        rintro e u ⟨rfl, hb⟩
        have HB := Lib.hid (Im.go_on (HB.out.alloc HB.out.size _) hb)
        clear hb
        go_wp2_with (fail)
        refine (Sha.rhash_any 256 L _ HLz.out.2).mono ?_
        rintro e u ⟨rfl, hb⟩
        have HB := Lib.hid (Im.go_on (HB.out) hb)
        clear hb
        go_wp2_with (fail)
        refine (Kd.hmac256 (Sha.digS 256 L) a2 _ (Im.tab_of HT.out HB.out) (Nat.le_trans (Sha.digS_le 256 L) (by decide)) HS.out).mono ?_
        rintro e u ⟨rfl, hb⟩
        have HB := Lib.hid (Im.go_on (HB.out) hb)
        clear hb
        have el : Hk.macS 256 (Sha.digS 256 L) a2 = Hk.macS 256 L a2 := Hk.macS_long 256 L a2 HLz.out.1
        rw [el]
        clear el
        go_wp2_with (fail)
        refine (Kd.hmac256 a1 a2 _ (Im.tab_of HT.out HB.out) HSh.out HS.out).mono ?_
        rintro e u ⟨rfl, hb⟩
        have HB := Lib.hid (Im.go_on (HB.out) hb)
        clear hb
        go_wp2_with (fail)
        refine (Kd.hmac256 (a1 ++ Be.zS m) a2 _ (Im.tab_of HT.out (HB.out.alloc HB.out.size _)) HSm.out HS.out).mono ?_
        rintro e u ⟨rfl, hb⟩
        have HB := Lib.hid (Im.go_on (HB.out.alloc HB.out.size _) hb)
        clear hb
        have ez : Hk.macS 256 (a1 ++ Be.zS m) a2 = Hk.macS 256 a1 a2 := Hk.macS_zeros 256 a1 (Be.zS m) a2 (Kd.byt_zS m) HSb.out
        rw [ez]
        clear ez
        go_wp2_with (fail)
        refine (Kd.ext256 a1 a2 _ (Im.tab_of HT.out HB.out) HK.out HS.out).mono ?_
        rintro e u ⟨rfl, hb⟩
        have HB := Lib.hid (Im.go_on (HB.out) hb)
        clear hb
        go_wp2_with (fail)
        refine (Kd.hmac256 a1 a2 _ (Im.tab_of HT.out HB.out) HK.out HS.out).mono ?_
        rintro e u ⟨rfl, hb⟩
        have HB := Lib.hid (Im.go_on (HB.out) hb)
        clear hb
        go_wp2_with (go_at_call 15; refine (Im.num_same _ _).mono ?_; rintro e u ⟨rfl, rfl⟩)
        go_ret
        exact ⟨rfl, HB.out⟩
  · by_cases hl : 128 < a1.size
    · have hl' : (128 : Int) < a1.size := by omega
      obtain ⟨M, _, hMc, hmk0⟩ := Be.zeros 128 (by decide)
      have hmk1 : ∀ W : World, (Instr.makeSlice 35 (.int .i64 128) (.int .i64 128)).run Tryd.prog W = .ok (.slice (some ⟨W.heap.size, 0, none⟩) 128 128) (W.alloc (.cells M 5)) := hmk0
      have hcv1 := fun W => Be.conv_new W M 128 hMc
      have z1 := Be.zS_size 128
      have q1 : ¬ 9223372036854775807 < a1.size + 128 := by omega
      have q2 : ¬ 9223372036854775807 < a1.size + 128 + 1 := by omega
      have HLz : Hid (128 < (a1 ++ Be.zS 128 ++ ⟨#[120]⟩).size ∧ (a1 ++ Be.zS 128 ++ ⟨#[120]⟩).size ≤ 288230376151711744) := by
        show 128 < (a1 ++ Be.zS 128 ++ ⟨#[120]⟩).size ∧ (a1 ++ Be.zS 128 ++ ⟨#[120]⟩).size ≤ 288230376151711744
        rw [ByteArray.size_append, ByteArray.size_append, Be.zS_size, show (⟨#[120]⟩ : ByteArray).size = 1 from rfl]; omega
      have n1 : (Hk.macS 384 a1 a2).size = 48 := Hk.macS_size 384 a1 a2 rfl
      clear hMc hmk0
      have sz : (a1.extract 0 128).size = 128 := by rw [ByteArray.size_extract]; omega
      clear r1
      obtain ⟨M', _, hMc', hmk0'⟩ := Be.zeros 0 (by omega)
      have hmk2 : ∀ W : World, (Instr.makeSlice 35 (.int .i64 0) (.int .i64 0)).run Tryd.prog W = .ok (.slice (some ⟨W.heap.size, 0, none⟩) 0 0) (W.alloc (.cells M' 5)) := hmk0'
      have hcv2 := fun W => Be.conv_new W M' 0 hMc'
      have z2 := Be.zS_size 0
      clear hMc' hmk0'
      have HSh : Hid ((a1.extract 0 128).size ≤ 288230376151711744) := by show (a1.extract 0 128).size ≤ _; omega
      have HSm : Hid (((a1.extract 0 128) ++ Be.zS 0).size ≤ 288230376151711744) := by show ((a1.extract 0 128) ++ Be.zS 0).size ≤ _; rw [ByteArray.size_append, z2]; omega
      have HSb : Hid ((a1.extract 0 128).size + (Be.zS 0).size ≤ Hk.bS 384) := by show (a1.extract 0 128).size + (Be.zS 0).size ≤ 128; rw [z2]; omega
      go_enter Tryd.func5, Tryd.ntmps5
      go_wp2_with (fail)
      refine (Kd.awake3_any _ (Im.tab_of HT.out HB.out)).mono ?_
      rintro e u ⟨rfl, hb⟩
      have HB := Lib.hid (Im.go_on (HB.out) hb)
      clear hb
      go_wp2_with (fail)
      generalize hLd : a1 ++ Be.zS 128 ++ ⟨#[120]⟩ = L at HLz ⊢
      clear hLd
      refine (Kd.hmac384 L a2 _ (Im.tab_of HT.out (HB.out.alloc HB.out.size _)) HLz.out.2 HS.out).mono ?_
      rintro e u ⟨rfl, hb⟩
      have HB := Lib.hid (Im.go_on (HB.out.alloc HB.out.size _) hb)
      clear hb
      go_wp2_with (fail)
      refine (Sha.rhash_any 384 L _ HLz.out.2).mono ?_
      rintro e u ⟨rfl, hb⟩
      have HB := Lib.hid (Im.go_on (HB.out) hb)
      clear hb
      go_wp2_with (fail)
      refine (Kd.hmac384 (Sha.digS 384 L) a2 _ (Im.tab_of HT.out HB.out) (Nat.le_trans (Sha.digS_le 384 L) (by decide)) HS.out).mono ?_
      rintro e u ⟨rfl, hb⟩
      have HB := Lib.hid (Im.go_on (HB.out) hb)
      clear hb
      have el : Hk.macS 384 (Sha.digS 384 L) a2 = Hk.macS 384 L a2 := Hk.macS_long 384 L a2 HLz.out.1
      rw [el]
      clear el
      go_wp2_with (fail)
      refine (Kd.hmac384 (a1.extract 0 128) a2 _ (Im.tab_of HT.out HB.out) HSh.out HS.out).mono ?_
      rintro e u ⟨rfl, hb⟩
      have HB := Lib.hid (Im.go_on (HB.out) hb)
      clear hb
      go_wp2_with (fail)
      refine (Kd.hmac384 ((a1.extract 0 128) ++ Be.zS 0) a2 _ (Im.tab_of HT.out (HB.out.alloc HB.out.size _)) HSm.out HS.out).mono ?_
      rintro e u ⟨rfl, hb⟩
      have HB := Lib.hid (Im.go_on (HB.out.alloc HB.out.size _) hb)
      clear hb
      have ez : Hk.macS 384 ((a1.extract 0 128) ++ Be.zS 0) a2 = Hk.macS 384 (a1.extract 0 128) a2 := Hk.macS_zeros 384 (a1.extract 0 128) (Be.zS 0) a2 (Kd.byt_zS 0) HSb.out
      rw [ez]
      clear ez
      go_wp2_with (fail)
      refine (Kd.ext384 a1 a2 _ (Im.tab_of HT.out HB.out) HK.out HS.out).mono ?_
      rintro e u ⟨rfl, hb⟩
      have HB := Lib.hid (Im.go_on (HB.out) hb)
      clear hb
      go_wp2_with (fail)
      refine (Kd.hmac384 a1 a2 _ (Im.tab_of HT.out HB.out) HK.out HS.out).mono ?_
      rintro e u ⟨rfl, hb⟩
      have HB := Lib.hid (Im.go_on (HB.out) hb)
      clear hb
      go_wp2_with (go_at_call 15; refine (Im.num_same _ _).mono ?_; rintro e u ⟨rfl, rfl⟩)
      go_ret
      exact ⟨rfl, HB.out⟩
    · have hl' : ¬ (128 : Int) < a1.size := by omega
      obtain ⟨M, _, hMc, hmk0⟩ := Be.zeros 128 (by decide)
      have hmk1 : ∀ W : World, (Instr.makeSlice 35 (.int .i64 128) (.int .i64 128)).run Tryd.prog W = .ok (.slice (some ⟨W.heap.size, 0, none⟩) 128 128) (W.alloc (.cells M 5)) := hmk0
      have hcv1 := fun W => Be.conv_new W M 128 hMc
      have z1 := Be.zS_size 128
      have q1 : ¬ 9223372036854775807 < a1.size + 128 := by omega
      have q2 : ¬ 9223372036854775807 < a1.size + 128 + 1 := by omega
      have HLz : Hid (128 < (a1 ++ Be.zS 128 ++ ⟨#[120]⟩).size ∧ (a1 ++ Be.zS 128 ++ ⟨#[120]⟩).size ≤ 288230376151711744) := by
        show 128 < (a1 ++ Be.zS 128 ++ ⟨#[120]⟩).size ∧ (a1 ++ Be.zS 128 ++ ⟨#[120]⟩).size ≤ 288230376151711744
        rw [ByteArray.size_append, ByteArray.size_append, Be.zS_size, show (⟨#[120]⟩ : ByteArray).size = 1 from rfl]; omega
      have n1 : (Hk.macS 384 a1 a2).size = 48 := Hk.macS_size 384 a1 a2 rfl
      clear hMc hmk0
      have l1 : a1.size ≤ 128 := by omega
      clear r1 hl
      have h4 : q = 0 ∨ q = 1 ∨ q = 2 ∨ q = 3 := by omega
      rcases h4 with rfl | rfl | rfl | rfl
      · have hmq' : bits .and .i64 a3 3 = 0 := hmq
        clear hmq hq
        obtain ⟨M', _, hMc', hmk0'⟩ := Be.zeros 0 (by omega)
        have hmk2 : ∀ W : World, (Instr.makeSlice 35 (.int .i64 0) (.int .i64 0)).run Tryd.prog W = .ok (.slice (some ⟨W.heap.size, 0, none⟩) 0 0) (W.alloc (.cells M' 5)) := hmk0'
        have hcv2 := fun W => Be.conv_new W M' 0 hMc'
        have z2 := Be.zS_size 0
        clear hMc' hmk0'
        have HSh : Hid (a1.size ≤ 288230376151711744) := by show a1.size ≤ _; omega
        have HSm : Hid ((a1 ++ Be.zS 0).size ≤ 288230376151711744) := by show (a1 ++ Be.zS 0).size ≤ _; rw [ByteArray.size_append, z2]; omega
        have HSb : Hid (a1.size + (Be.zS 0).size ≤ Hk.bS 384) := by show a1.size + (Be.zS 0).size ≤ 128; rw [z2]; omega
        go_enter Tryd.func5, Tryd.ntmps5
        go_wp2_with (fail)
        refine (Kd.awake3_any _ (Im.tab_of HT.out HB.out)).mono ?_
        rintro e u ⟨rfl, hb⟩
        have HB := Lib.hid (Im.go_on (HB.out) hb)
        clear hb
        go_wp2_with (fail)
        generalize hLd : a1 ++ Be.zS 128 ++ ⟨#[120]⟩ = L at HLz ⊢
        clear hLd
        refine (Kd.hmac384 L a2 _ (Im.tab_of HT.out (HB.out.alloc HB.out.size _)) HLz.out.2 HS.out).mono ?_
        rintro e u ⟨rfl, hb⟩
        have HB := Lib.hid (Im.go_on (HB.out.alloc HB.out.size _) hb)
        clear hb
        go_wp2_with (fail)
        refine (Sha.rhash_any 384 L _ HLz.out.2).mono ?_
        rintro e u ⟨rfl, hb⟩
        have HB := Lib.hid (Im.go_on (HB.out) hb)
        clear hb
        go_wp2_with (fail)
        refine (Kd.hmac384 (Sha.digS 384 L) a2 _ (Im.tab_of HT.out HB.out) (Nat.le_trans (Sha.digS_le 384 L) (by decide)) HS.out).mono ?_
        rintro e u ⟨rfl, hb⟩
        have HB := Lib.hid (Im.go_on (HB.out) hb)
        clear hb
        have el : Hk.macS 384 (Sha.digS 384 L) a2 = Hk.macS 384 L a2 := Hk.macS_long 384 L a2 HLz.out.1
        rw [el]
        clear el
        go_wp2_with (fail)
        refine (Kd.hmac384 a1 a2 _ (Im.tab_of HT.out HB.out) HSh.out HS.out).mono ?_
        rintro e u ⟨rfl, hb⟩
        have HB := Lib.hid (Im.go_on (HB.out) hb)
        clear hb
        go_wp2_with (fail)
        refine (Kd.hmac384 (a1 ++ Be.zS 0) a2 _ (Im.tab_of HT.out (HB.out.alloc HB.out.size _)) HSm.out HS.out).mono ?_
        rintro e u ⟨rfl, hb⟩
        have HB := Lib.hid (Im.go_on (HB.out.alloc HB.out.size _) hb)
        clear hb
        have ez : Hk.macS 384 (a1 ++ Be.zS 0) a2 = Hk.macS 384 a1 a2 := Hk.macS_zeros 384 a1 (Be.zS 0) a2 (Kd.byt_zS 0) HSb.out
        rw [ez]
        clear ez
        go_wp2_with (fail)
        refine (Kd.ext384 a1 a2 _ (Im.tab_of HT.out HB.out) HK.out HS.out).mono ?_
        rintro e u ⟨rfl, hb⟩
        have HB := Lib.hid (Im.go_on (HB.out) hb)
        clear hb
        go_wp2_with (fail)
        refine (Kd.hmac384 a1 a2 _ (Im.tab_of HT.out HB.out) HK.out HS.out).mono ?_
        rintro e u ⟨rfl, hb⟩
        have HB := Lib.hid (Im.go_on (HB.out) hb)
        clear hb
        go_wp2_with (go_at_call 15; refine (Im.num_same _ _).mono ?_; rintro e u ⟨rfl, rfl⟩)
        go_ret
        exact ⟨rfl, HB.out⟩
      · have hmq' : bits .and .i64 a3 3 = 1 := hmq
        clear hmq hq
        obtain ⟨m, hm⟩ : ∃ m : Nat, (128 - (a1.size : Int)) / 3 = (m : Int) := ⟨((128 - (a1.size : Int)) / 3).toNat, by omega⟩
        have m1 : m ≤ 128 - a1.size := by omega
        obtain ⟨M', _, hMc', hmk0'⟩ := Be.zeros m (by omega)
        have hmk2 : ∀ W : World, (Instr.makeSlice 35 (.int .i64 m) (.int .i64 m)).run Tryd.prog W = .ok (.slice (some ⟨W.heap.size, 0, none⟩) m m) (W.alloc (.cells M' 5)) := hmk0'
        have hcv2 := fun W => Be.conv_new W M' m hMc'
        have z2 := Be.zS_size m
        clear hMc' hmk0'
        have HSh : Hid (a1.size ≤ 288230376151711744) := by show a1.size ≤ _; omega
        have HSm : Hid ((a1 ++ Be.zS m).size ≤ 288230376151711744) := by show (a1 ++ Be.zS m).size ≤ _; rw [ByteArray.size_append, z2]; omega
        have HSb : Hid (a1.size + (Be.zS m).size ≤ Hk.bS 384) := by show a1.size + (Be.zS m).size ≤ 128; rw [z2]; omega
        have m2 : ¬ 9223372036854775807 < a1.size + m := by omega
        clear m1
        go_enter Tryd.func5, Tryd.ntmps5
        go_wp2_with (fail)
        refine (Kd.awake3_any _ (Im.tab_of HT.out HB.out)).mono ?_
        rintro e u ⟨rfl, hb⟩
        have HB := Lib.hid (Im.go_on (HB.out) hb)
        clear hb
        go_wp2_with (fail)
        generalize hLd : a1 ++ Be.zS 128 ++ ⟨#[120]⟩ = L at HLz ⊢
        clear hLd
        refine (Kd.hmac384 L a2 _ (Im.tab_of HT.out (HB.out.alloc HB.out.size _)) HLz.out.2 HS.out).mono ?_
        rintro e u ⟨rfl, hb⟩
        have HB := Lib.hid (Im.go_on (HB.out.alloc HB.out.size _) hb)
        clear hb
        go_wp2_with (fail)
        refine (Sha.rhash_any 384 L _ HLz.out.2).mono ?_
        rintro e u ⟨rfl, hb⟩
        have HB := Lib.hid (Im.go_on (HB.out) hb)
        clear hb
        go_wp2_with (fail)
        refine (Kd.hmac384 (Sha.digS 384 L) a2 _ (Im.tab_of HT.out HB.out) (Nat.le_trans (Sha.digS_le 384 L) (by decide)) HS.out).mono ?_
        rintro e u ⟨rfl, hb⟩
        have HB := Lib.hid (Im.go_on (HB.out) hb)
        clear hb
        have el : Hk.macS 384 (Sha.digS 384 L) a2 = Hk.macS 384 L a2 := Hk.macS_long 384 L a2 HLz.out.1
        rw [el]
        clear el
        go_wp2_with (fail)
        refine (Kd.hmac384 a1 a2 _ (Im.tab_of HT.out HB.out) HSh.out HS.out).mono ?_
        rintro e u ⟨rfl, hb⟩
        have HB := Lib.hid (Im.go_on (HB.out) hb)
        clear hb
        go_wp2_with (fail)
        refine (Kd.hmac384 (a1 ++ Be.zS m) a2 _ (Im.tab_of HT.out (HB.out.alloc HB.out.size _)) HSm.out HS.out).mono ?_
        rintro e u ⟨rfl, hb⟩
        have HB := Lib.hid (Im.go_on (HB.out.alloc HB.out.size _) hb)
        clear hb
        have ez : Hk.macS 384 (a1 ++ Be.zS m) a2 = Hk.macS 384 a1 a2 := Hk.macS_zeros 384 a1 (Be.zS m) a2 (Kd.byt_zS m) HSb.out
        rw [ez]
        clear ez
        go_wp2_with (fail)
        refine (Kd.ext384 a1 a2 _ (Im.tab_of HT.out HB.out) HK.out HS.out).mono ?_
        rintro e u ⟨rfl, hb⟩
        have HB := Lib.hid (Im.go_on (HB.out) hb)
        clear hb
        go_wp2_with (fail)
        refine (Kd.hmac384 a1 a2 _ (Im.tab_of HT.out HB.out) HK.out HS.out).mono ?_
        rintro e u ⟨rfl, hb⟩
        have HB := Lib.hid (Im.go_on (HB.out) hb)
        clear hb
        go_wp2_with (go_at_call 15; refine (Im.num_same _ _).mono ?_; rintro e u ⟨rfl, rfl⟩)
        go_ret
        exact ⟨rfl, HB.out⟩
      · have hmq' : bits .and .i64 a3 3 = 2 := hmq
        clear hmq hq
        obtain ⟨m, hm⟩ : ∃ m : Nat, (128 - (a1.size : Int)) * 2 / 3 = (m : Int) := ⟨((128 - (a1.size : Int)) * 2 / 3).toNat, by omega⟩
        have m1 : m ≤ 128 - a1.size := by omega
        obtain ⟨M', _, hMc', hmk0'⟩ := Be.zeros m (by omega)
        have hmk2 : ∀ W : World, (Instr.makeSlice 35 (.int .i64 m) (.int .i64 m)).run Tryd.prog W = .ok (.slice (some ⟨W.heap.size, 0, none⟩) m m) (W.alloc (.cells M' 5)) := hmk0'
        have hcv2 := fun W => Be.conv_new W M' m hMc'
        have z2 := Be.zS_size m
        clear hMc' hmk0'
        have HSh : Hid (a1.size ≤ 288230376151711744) := by show a1.size ≤ _; omega
        have HSm : Hid ((a1 ++ Be.zS m).size ≤ 288230376151711744) := by show (a1 ++ Be.zS m).size ≤ _; rw [ByteArray.size_append, z2]; omega
        have HSb : Hid (a1.size + (Be.zS m).size ≤ Hk.bS 384) := by show a1.size + (Be.zS m).size ≤ 128; rw [z2]; omega
        have m2 : ¬ 9223372036854775807 < a1.size + m := by omega
        clear m1
        go_enter Tryd.func5, Tryd.ntmps5
        go_wp2_with (fail)
        refine (Kd.awake3_any _ (Im.tab_of HT.out HB.out)).mono ?_
        rintro e u ⟨rfl, hb⟩
        have HB := Lib.hid (Im.go_on (HB.out) hb)
        clear hb
        go_wp2_with (fail)
        generalize hLd : a1 ++ Be.zS 128 ++ ⟨#[120]⟩ = L at HLz ⊢
        clear hLd
        refine (Kd.hmac384 L a2 _ (Im.tab_of HT.out (HB.out.alloc HB.out.size _)) HLz.out.2 HS.out).mono ?_
        rintro e u ⟨rfl, hb⟩
        have HB := Lib.hid (Im.go_on (HB.out.alloc HB.out.size _) hb)
        clear hb
        go_wp2_with (fail)
        refine (Sha.rhash_any 384 L _ HLz.out.2).mono ?_
        rintro e u ⟨rfl, hb⟩
        have HB := Lib.hid (Im.go_on (HB.out) hb)
        clear hb
        go_wp2_with (fail)
        refine (Kd.hmac384 (Sha.digS 384 L) a2 _ (Im.tab_of HT.out HB.out) (Nat.le_trans (Sha.digS_le 384 L) (by decide)) HS.out).mono ?_
        rintro e u ⟨rfl, hb⟩
        have HB := Lib.hid (Im.go_on (HB.out) hb)
        clear hb
        have el : Hk.macS 384 (Sha.digS 384 L) a2 = Hk.macS 384 L a2 := Hk.macS_long 384 L a2 HLz.out.1
        rw [el]
        clear el
        go_wp2_with (fail)
        refine (Kd.hmac384 a1 a2 _ (Im.tab_of HT.out HB.out) HSh.out HS.out).mono ?_
        rintro e u ⟨rfl, hb⟩
        have HB := Lib.hid (Im.go_on (HB.out) hb)
        clear hb
        go_wp2_with (fail)
        refine (Kd.hmac384 (a1 ++ Be.zS m) a2 _ (Im.tab_of HT.out (HB.out.alloc HB.out.size _)) HSm.out HS.out).mono ?_
        rintro e u ⟨rfl, hb⟩
        have HB := Lib.hid (Im.go_on (HB.out.alloc HB.out.size _) hb)
        clear hb
        have ez : Hk.macS 384 (a1 ++ Be.zS m) a2 = Hk.macS 384 a1 a2 := Hk.macS_zeros 384 a1 (Be.zS m) a2 (Kd.byt_zS m) HSb.out
        rw [ez]
        clear ez
        go_wp2_with (fail)
        refine (Kd.ext384 a1 a2 _ (Im.tab_of HT.out HB.out) HK.out HS.out).mono ?_
        rintro e u ⟨rfl, hb⟩
        have HB := Lib.hid (Im.go_on (HB.out) hb)
        clear hb
        go_wp2_with (fail)
        refine (Kd.hmac384 a1 a2 _ (Im.tab_of HT.out HB.out) HK.out HS.out).mono ?_
        rintro e u ⟨rfl, hb⟩
        have HB := Lib.hid (Im.go_on (HB.out) hb)
        clear hb
        go_wp2_with (go_at_call 15; refine (Im.num_same _ _).mono ?_; rintro e u ⟨rfl, rfl⟩)
        go_ret
        exact ⟨rfl, HB.out⟩
      · have hmq' : bits .and .i64 a3 3 = 3 := hmq
        clear hmq hq
        obtain ⟨m, hm⟩ : ∃ m : Nat, (128 - (a1.size : Int)) = (m : Int) := ⟨((128 - (a1.size : Int))).toNat, by omega⟩
        have m1 : m ≤ 128 - a1.size := by omega
        obtain ⟨M', _, hMc', hmk0'⟩ := Be.zeros m (by omega)
        have hmk2 : ∀ W : World, (Instr.makeSlice 35 (.int .i64 m) (.int .i64 m)).run Tryd.prog W = .ok (.slice (some ⟨W.heap.size, 0, none⟩) m m) (W.alloc (.cells M' 5)) := hmk0'
        have hcv2 := fun W => Be.conv_new W M' m hMc'
        have z2 := Be.zS_size m
        clear hMc' hmk0'
        have HSh : Hid (a1.size ≤ 288230376151711744) := by show a1.size ≤ _; omega
        have HSm : Hid ((a1 ++ Be.zS m).size ≤ 288230376151711744) := by show (a1 ++ Be.zS m).size ≤ _; rw [ByteArray.size_append, z2]; omega
        have HSb : Hid (a1.size + (Be.zS m).size ≤ Hk.bS 384) := by show a1.size + (Be.zS m).size ≤ 128; rw [z2]; omega
        have hm3 : (m : Int) * 3 / 3 = m := by omega
        have m2 : ¬ 9223372036854775807 < a1.size + m := by omega
        clear m1
        go_enter Tryd.func5, Tryd.ntmps5
        go_wp2_with (fail)
        refine (Kd.awake3_any _ (Im.tab_of HT.out HB.out)).mono ?_
        rintro e u ⟨rfl, hb⟩
        have HB := Lib.hid (Im.go_on (HB.out) hb)
        clear hb
        go_wp2_with (fail)
        generalize hLd : a1 ++ Be.zS 128 ++ ⟨#[120]⟩ = L at HLz ⊢
        clear hLd
        refine (Kd.hmac384 L a2 _ (Im.tab_of HT.out (HB.out.alloc HB.out.size _)) HLz.out.2 HS.out).mono ?_
        rintro e u ⟨rfl, hb⟩
        have HB := Lib.hid (Im.go_on (HB.out.alloc HB.out.size _) hb)
        clear hb
        go_wp2_with (fail)
        refine (Sha.rhash_any 384 L _ HLz.out.2).mono ?_
        rintro e u ⟨rfl, hb⟩
        have HB := Lib.hid (Im.go_on (HB.out) hb)
        clear hb
        go_wp2_with (fail)
        refine (Kd.hmac384 (Sha.digS 384 L) a2 _ (Im.tab_of HT.out HB.out) (Nat.le_trans (Sha.digS_le 384 L) (by decide)) HS.out).mono ?_
        rintro e u ⟨rfl, hb⟩
        have HB := Lib.hid (Im.go_on (HB.out) hb)
        clear hb
        have el : Hk.macS 384 (Sha.digS 384 L) a2 = Hk.macS 384 L a2 := Hk.macS_long 384 L a2 HLz.out.1
        rw [el]
        clear el
        go_wp2_with (fail)
        refine (Kd.hmac384 a1 a2 _ (Im.tab_of HT.out HB.out) HSh.out HS.out).mono ?_
        rintro e u ⟨rfl, hb⟩
        have HB := Lib.hid (Im.go_on (HB.out) hb)
        clear hb
        go_wp2_with (fail)
        refine (Kd.hmac384 (a1 ++ Be.zS m) a2 _ (Im.tab_of HT.out (HB.out.alloc HB.out.size _)) HSm.out HS.out).mono ?_
        rintro e u ⟨rfl, hb⟩
        have HB := Lib.hid (Im.go_on (HB.out.alloc HB.out.size _) hb)
        clear hb
        have ez : Hk.macS 384 (a1 ++ Be.zS m) a2 = Hk.macS 384 a1 a2 := Hk.macS_zeros 384 a1 (Be.zS m) a2 (Kd.byt_zS m) HSb.out
        rw [ez]
        clear ez
        go_wp2_with (fail)
        refine (Kd.ext384 a1 a2 _ (Im.tab_of HT.out HB.out) HK.out HS.out).mono ?_
        rintro e u ⟨rfl, hb⟩
        have HB := Lib.hid (Im.go_on (HB.out) hb)
        clear hb
        go_wp2_with (fail)
        refine (Kd.hmac384 a1 a2 _ (Im.tab_of HT.out HB.out) HK.out HS.out).mono ?_
        rintro e u ⟨rfl, hb⟩
        have HB := Lib.hid (Im.go_on (HB.out) hb)
        clear hb
        go_wp2_with (go_at_call 15; refine (Im.num_same _ _).mono ?_; rintro e u ⟨rfl, rfl⟩)
        go_ret
        exact ⟨rfl, HB.out⟩

set_option maxRecDepth 100000 in
theorem lifted (os : Os) (started : os.Started) (H : Type) (enc : TypeId × Value → H) :
    ReturnsInHanded {} Tryd.checked os 5 .any (fun w args => (Rows.hkdfKeysSpec.pre enc Tryd.prog Tryd.f5 [] false w args ∧ laidMetH Tryd.prog laid1 w) ∧ sizedMet enc Tryd.prog Tryd.f5 (OpenSpec.ofChange Rows.hkdfKeysSpec) false w args)
      (Rows.hkdfKeysSpec.post enc Tryd.prog Tryd.f5 false true false false) := by
  refine returnsInHanded_of_change_and (C := Tryd.checked) (X := fun w _ => laidMetH Tryd.prog laid1 w) (fun _ _ _ hh h => h.of_heap hh) own started (by kernel_rfl) Tryd.func5
    (ChangeSpec.witness_shaped (enc := enc) (C := Tryd.checked) (os := os) (X := fun w _ => laidMetH Tryd.prog laid1 w) false (World.doorLaid Tryd.prog 14 os) #[.bool false, .string ByteArray.empty, .string ByteArray.empty, .int .i64 0] 8 rfl (World.shaped_of_RefB (by kernel_rfl) (by kernel_rfl)) (by kernel_rfl) (by kernel_rfl) (by kernel_rfl) (door_met os _)) ?_
  intro W base args ds gs before hval0 hW _ hsz0 hL _
  have hT := tab_of_laid hL
  have hsz : (DataW.weightsEach Tryd.prog (Tryd.f5.params.toList ++ Rows.hkdfKeysSpec.plain.varTypes Tryd.prog) (ds ++ gs)).all (· ≤ reachBytes) = true := hsz0
  have hval : ∀ (j : Nat) t v, Tryd.f5.params[j]? = some t → args[j]? = some v → Value.okWide Tryd.prog W .any base t v := hval0
  have hW' := hW
  obtain ⟨p, q, hA0, hV, rfl, hfz, hnd⟩ := hW
  have hA : DataW.TrodAll enc Tryd.prog W 0 (fun _ => true) true Tryd.f5.params.toList args.toList ds p := hA0
  rw [Tryd.params5] at hA hval hsz
  obtain ⟨v0, vs0, d0, ds0, p0, q0, hargs, rfl, rfl, h0, r0⟩ := trodAll_cons hA
  obtain ⟨v1, vs1, d1, ds1, p1, q1, rfl, rfl, rfl, h1, r1⟩ := trodAll_cons r0
  obtain ⟨v2, vs2, d2, ds2, p2, q2, rfl, rfl, rfl, h2, r2⟩ := trodAll_cons r1
  obtain ⟨v3, vs3, d3, ds3, p3, q3, rfl, rfl, rfl, h3, r3⟩ := trodAll_cons r2
  obtain ⟨rfl, rfl, rfl⟩ := trodAll_nil r3
  obtain rfl : args = #[v0, v1, v2, v3] := by cases args; simp_all
  obtain ⟨rfl, rfl⟩ := trodVars_none hV
  obtain ⟨a0, rfl, rfl, rfl⟩ := open_bool Tryd.underlying4 (hval 0 4 v0 rfl rfl) h0
  obtain ⟨a1, rfl, rfl, rfl, w1⟩ := open_string Tryd.underlying9 (hval 1 9 v1 rfl rfl) h1
  obtain ⟨a2, rfl, rfl, rfl, w2⟩ := open_string Tryd.underlying9 (hval 2 9 v2 rfl rfl) h2
  obtain ⟨a3, rfl, rfl, rfl, w3⟩ := open_int Tryd.underlying3 (hval 3 3 v3 rfl rfl) h3
  clear hA0 hval0
  simp only [List.append_nil] at hW'
  have r1 : a1.size ≤ 140737488355328 := by
    have := sized_string hsz (j := 1) (t := 9) rfl rfl
    simp [reachBytes] at this; omega
  have r2 : a2.size ≤ 140737488355328 := by
    have := sized_string hsz (j := 2) (t := 9) rfl rfl
    simp [reachBytes] at this; omega
  refine (walk a0 a1 a2 a3 r1 r2 w3 W hT).mono fun e W' ⟨he, bel⟩ => ?_
  subst he
  exact ⟨_, rfl, _, _, _, [], [], [], hW', trodAll_mk1 (shut_bool Tryd.underlying4 _), (trodAll_cons_mk (shut_bool Tryd.underlying4 _) (trodAll_cons_mk (shut_string Tryd.underlying9 w1) (trodAll_cons_mk (shut_string Tryd.underlying9 w2) (trodAll_cons_mk (shut_int Tryd.underlying3 w3) trodAll_mk0)))), rfl, bel.frame _, fun h => by cases h⟩

theorem over : Rows.hkdfKeysRow.holds Tryd.pinned (OpenSpec.ofChange Rows.hkdfKeysSpec) :=
  OpenClaim.holds_of_wide 5 Tryd.f5 rfl rfl rfl rfl rfl rfl rfl ⟨rfl, rfl, rfl, rfl, rfl⟩ rfl rfl rfl rfl rfl (by kernel_rfl) Tryd.func5 (by kernel_rfl)
    (of_decide_eq_true (by kernel_rfl)) (by unfold Func.isWrapper; first | (rw [if_pos (by decide +kernel)]; kernel_rfl) | (rw [if_neg (by decide +kernel)]; exact ⟨rfl, rfl⟩))
    (fun os started H enc _ => lifted os started H enc)

theorem card_holds : Rows.HkdfKeysCardSaid :=
  Claim7.holds_tied_plain_at .later [] [.data] true (true, "ba4f4f3d7e4eba6f6c00cbe2811b726bf11c08da414799edb1ee5f736860c90d") false
    over (fun _ h => by cases h) (by kernel_rfl) (fun _ h => by cases h) hkdfKeys_row_tie rfl ⟨rfl, rfl⟩ (by kernel_rfl) rfl
    (fun f fn hf hfn => by
      obtain rfl : f = 5 := Option.some.inj ((show Tryd.prog.funcNamed "halberd/halberdlaw3.HkdfKeys" = some 5 by kernel_rfl).symm.trans hf) |>.symm
      obtain rfl : fn = Tryd.f5 := (Option.some.inj (Tryd.func5.symm.trans hfn)).symm
      exact ⟨by kernel_rfl, fun j t ht => by
        rw [Tryd.params5] at ht
        have hm : t ∈ [4, 9, 9, 3] := by simpa using Array.mem_of_getElem? ht
        have hall : ([4, 9, 9, 3].all fun u => !Tryd.prog.wantsStandIn u) = true := by kernel_rfl
        exact (show Tryd.prog.wantsStandIn t = false by simpa using List.all_eq_true.1 hall t hm)⟩)
    (by kernel_rfl)
#print axioms card_holds
end Go.Proofs.YtbfkbinkfboklaaDoor.hkdfKeys
