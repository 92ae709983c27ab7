/-
  The document's own answer: a text under ChaCha20's stream; Block and Xor at every input.
-/
import Derived.Test.YtijpfaknbgbphaaChaD
namespace Go.Proofs.Cha
open Go.RowKit
open Go.Proofs.Aes (byt byt_lt get_byt)
open Go.Proofs.Sha (rowIs_of)
open Go.Proofs.Lw (meas)
/-- Byte t of the text under the stream. -/
def strB (key : ByteArray) (cnt : Nat) (nonce s : ByteArray) (t : Nat) : Nat := byt s t ^^^ byt (chaS key ((cnt + t / 64) % 4294967296) nonce) (t % 64)
def strS (key : ByteArray) (cnt : Nat) (nonce s : ByteArray) : ByteArray := strOfNums ((List.range s.size).map fun t => (strB key cnt nonce s t : Int))
theorem strS_size (key : ByteArray) (cnt : Nat) (nonce s : ByteArray) : (strS key cnt nonce s).size = s.size := by simp [strS, strOfNums_size]
theorem meas64 (z m : Nat) (h : m < z) : z + 64 - (intOf (.int .i64 ((m : Int) + 64))).toNat < z + 64 - (intOf (.int .i64 (m : Int))).toNat := by
  show z + 64 - ((m : Int) + 64).toNat < z + 64 - (m : Int).toNat
  omega
set_option maxHeartbeats 2000000 in
set_option maxRecDepth 10000 in
theorem stream_any (key : ByteArray) (cnt : Nat) (nonce s : ByteArray) (w : World) (hk : key.size = 32) (hno : nonce.size = 12) (hc : cnt < 4294967296) (hs : s.size ≤ 100000) :
    Calls Try.prog 25 #[.string key, .int .u32 cnt, .string nonce, .string s] w fun e w' => e = .returned (.string (strS key cnt nonce s)) ∧ Below w.heap.size w w' := by
  have HKs := Lib.hid hk
  have HNo := Lib.hid hno
  have HCn := Lib.hid hc
  obtain ⟨M, hM, hMc, hmk⟩ := Lw.zeros s.size (by omega)
  have R0 : Hid (Lw.RowB (w.alloc (.cells M 5)) w.heap.size s.size (fun _ => 0)) := rowIs_of w M 5 s.size _ hM hMc
  have B0 : Hid (Below w.heap.size w (w.alloc (.cells M 5))) := (Below.refl _ w).alloc (Nat.le_refl _) _
  clear hk hno hM hMc
  go_enter Try.func25, Try.ntmps25
  go_wp2_with (fail)
  clear hmk
  generalize w.alloc (.cells M 5) = w1 at R0 B0 ⊢
  go_loopw [10] (fun vi wx => ∃ (m : Nat) (X : Nat → Nat), Hid (m % 64 = 0 ∧ m < s.size + 64) ∧ vi = .int .i64 m ∧ Hid (∀ t, t < m → t < s.size → X t = strB key cnt nonce s t) ∧ Hid (Lw.RowB wx w.heap.size s.size X) ∧ Hid (Below w.heap.size w wx)) (fun i _ => s.size + 64 - (intOf i).toNat)
  case atStart => exact ⟨0, fun _ => 0, ⟨rfl, by omega⟩, rfl, fun t ht => absurd ht (Nat.not_lt_zero t), R0, B0⟩
  case round =>
    clear R0 B0
    obtain ⟨m, X, hm, rfl, hx, HR, HB⟩ := hrel
    by_cases hlt : m < s.size
    · have ml : ((m : Int) < (s.size : Int)) = True := eq_true (by omega)
      have ml2 : (m < s.size) = True := eq_true hlt
      have HM := Lib.hid hlt
      obtain ⟨x, hxe⟩ : ∃ x, (cnt + m / 64) % 4294967296 = x := ⟨_, rfl⟩
      have HXe := Lib.hid hxe
      have q0 : (m : Int) / 64 = ((m / 64 : Nat) : Int) := by omega
      have q1 : IntKind.u32.wrap ((m / 64 : Nat) : Int) = ((m / 64 : Nat) : Int) := by show _ % 4294967296 = _; omega
      have q2 : ((m / 64 : Nat) : Int) % 4294967296 = ((m / 64 : Nat) : Int) := by omega
      have q3 : ((cnt : Int) + ((m / 64 : Nat) : Int)) % 4294967296 = (x : Int) := by omega
      have q4 : IntKind.i64.wrap ((m / 64 : Nat) : Int) = ((m / 64 : Nat) : Int) := IntWalk.i64_in _ (by omega)
      have HXl : Hid (x < 4294967296) := by show x < 4294967296; omega
      clear hxe
      generalize m / 64 = y at q0 q1 q2 q3 q4
      go_wp2_with (fail)
      refine (chacha_any key x nonce _ HKs.out HNo.out HXl.out).mono ?_
      rintro e v ⟨rfl, hbv⟩
      have HB2 : Hid (Below w.heap.size w v) := HB.out.trans (hbv.mono HB.out.size)
      have HR2 : Hid (Lw.RowB v w.heap.size s.size X) := World.rowIs.of_block HR.out (hbv.block _ HR.out.lt)
      have cz := chaS_size key x nonce
      have HCt : Hid (∀ j, j < 64 → strB key cnt nonce s (m + j) = byt s (m + j) ^^^ byt (chaS key x nonce) j) := fun j hj => by
        unfold strB
        rw [show (m + j) / 64 = m / 64 by have := hm.out.1; omega, show (cnt + m / 64) % 4294967296 = x from HXe.out, show (m + j) % 64 = j by have := hm.out.1; omega]
      generalize chaS key x nonce = C at cz HCt ⊢
      clear hbv HB HR q0 q1 q2 q3 q4
      go_wp2_with (fail)
      clear ml ml2
      go_loopw [12] (fun vj wx => ∃ (j : Nat) (Y : Nat → Nat), Hid (j ≤ 64 ∧ m + j ≤ s.size) ∧ vj = .int .i64 j ∧ Hid (∀ t, t < m + j → Y t = strB key cnt nonce s t) ∧ Hid (Lw.RowB wx w.heap.size s.size Y) ∧ Hid (Below w.heap.size w wx)) (fun j _ => 64 - (intOf j).toNat)
      case atStart => exact ⟨0, X, ⟨by decide, Nat.le_of_lt HM.out⟩, rfl, fun t ht => hx.out t ht (Nat.lt_of_lt_of_le ht (Nat.le_of_lt HM.out)), HR2, HB2⟩
      case round =>
        clear HR2 HB2 hx
        obtain ⟨j, Y, hj, rfl, hy, HR, HB⟩ := hrel
        have hj1 := hj.out.1
        have hj2 := hj.out.2
        by_cases h64 : j < 64
        · have jl : ((j : Int) < 64) = True := eq_true (by omega)
          by_cases hms : m + j < s.size
          · have j1 : ((m : Int) + (j : Int) < (s.size : Int)) = True := eq_true (by omega)
            have HJ := Lib.hid h64
            have HMs := Lib.hid hms
            have jc : (j : Int) < (C.size : Int) := by omega
            have p1 : (0 : Int) ≤ (m : Int) + j := by omega
            have t1 : ((m : Int) + (j : Int)).toNat = m + j := by omega
            have cc := World.rowIs.cell HR.out (i := m + j) hms
            have cf := World.rowIs.frozen HR.out (m + j)
            have w1 : IntKind.i64.wrap ((m : Int) + (j : Int)) = (m : Int) + j := IntWalk.i64_in _ (by omega)
            have vs : ∀ h : m + j < s.size, (s[m + j]'h).toNat = byt s (m + j) := fun h => get_byt s _ h
            have vc : ∀ h : j < C.size, (C[j]'h).toNat = byt C j := fun h => get_byt C _ h
            clear h64 hms
            go_wp2_with (fail)
            refine wp_region_still_tail 14 (by kernel_rfl) (by kernel_rfl) ?_
            simp only [List.take_succ_cons, List.take_zero, List.drop_succ_cons, List.drop_zero]
            repeat still_step
            try refine wpStill_nil ?_
            change wpList _ _ _ _ _ wr.drew
            clear w1 t1 p1 vs vc
            go_wp2_with (fail)
            rw [Aes.u8_xor _ _ (byt_lt s (m + j)) (byt_lt C j)]
            refine ⟨⟨j + 1, fun i => if i = m + j then byt s (m + j) ^^^ byt C j else Y i, ⟨HJ.out, HMs.out⟩, by go_num, fun t ht => ?_, World.rowIs.drew (HR.out.set (m + j) _), (HB.out.setCell (Nat.le_refl _) _).drew⟩, meas 64 j HJ.out⟩
            show (if t = m + j then _ else Y t) = _
            by_cases e : t = m + j
            · rw [if_pos e, e]; exact (HCt.out j HJ.out).symm
            · rw [if_neg e]; exact hy.out t (by omega)
          · have j1 : ((m : Int) + (j : Int) < (s.size : Int)) = False := eq_false (by omega)
            have j2 : decide ((m : Int) + (j : Int) < (s.size : Int)) = false := decide_eq_false (by omega)
            have j3 : (m + j < s.size) = False := eq_false hms
            have HE : Hid (∀ t, t < m + 64 → t < s.size → Y t = strB key cnt nonce s t) := fun t _ ht => hy.out t (by omega)
            clear h64 hms hj hy
            go_wp2_with (fail)
            exact ⟨⟨m + 64, Y, ⟨by have := hm.out.1; omega, by have := HM.out; omega⟩, by go_num, HE, HR, HB⟩, meas64 s.size m HM.out⟩
        · have jl : ((j : Int) < 64) = False := eq_false (by omega)
          have HE : Hid (∀ t, t < m + 64 → t < s.size → Y t = strB key cnt nonce s t) := fun t ht _ => hy.out t (by omega)
          clear h64 hj hj1 hj2 hy
          go_wp2_with (fail)
          exact ⟨⟨m + 64, Y, ⟨by have := hm.out.1; omega, by have := HM.out; omega⟩, by go_num, HE, HR, HB⟩, meas64 s.size m HM.out⟩
    · have ml : ((m : Int) < (s.size : Int)) = False := eq_false (by omega)
      have ml2 : (m < s.size) = False := eq_false hlt
      have X1 : Hid (Lw.RowB wr w.heap.size s.size (strB key cnt nonce s)) := HR.out.congr fun t ht => hx.out t (by omega) ht
      have hcv : (convert 32 9 (.slice (some ⟨w.heap.size, 0, none⟩) s.size s.size)).run Try.prog wr = .ok (.string (strS key cnt nonce s)) wr :=
        run_convert_bytes_arg (P := Try.prog) _ 32 5 Try.underlying32 Try.underlying5 w.heap.size 0 s.size s.size _ (by simp) (fun i hi => by
          have := World.rowIs.cell X1.out (i := i) hi
          rw [Nat.zero_add, this]
          simp [List.getD_eq_getElem?_getD, List.getElem?_range hi]) 9 Try.underlying9
      clear hlt hx
      go_wp2_with (fail)
      go_ret
      exact ⟨rfl, HB.out⟩
end Go.Proofs.Cha
