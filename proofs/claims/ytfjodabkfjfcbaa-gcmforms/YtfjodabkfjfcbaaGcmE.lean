/-
  The document's own answer: a nonce's blocks over a text.
-/
import Derived.Test.YtfjodabkfjfcbaaGcmD
namespace Go.Proofs.Gcm
open Go.RowKit
open Go.Proofs.Aes (byt byt_lt get_byt ciphS ciphS_size Keys cipher_any)
open Go.Proofs.Be (beS beS_size be_4)
open Go.Proofs.Sha (rowIs_of)
/-- The text's byte t under the nonce's blocks, counted from f on. -/
def ctrB (wk : Nat → Nat) (n : Nat) (nonce : ByteArray) (f : Nat) (s : ByteArray) (t : Nat) : Nat := byt s t ^^^ byt (ciphS wk n (nonce ++ beS (f + t / 16) 4)) (t % 16)
def ctrS (wk : Nat → Nat) (n : Nat) (nonce : ByteArray) (f : Nat) (s : ByteArray) : ByteArray := strOfNums ((List.range s.size).map fun t => (ctrB wk n nonce f s t : Int))
theorem ctrS_size (wk : Nat → Nat) (n : Nat) (nonce : ByteArray) (f : Nat) (s : ByteArray) : (ctrS wk n nonce f s).size = s.size := by simp [ctrS, strOfNums_size]
theorem Keys.below {w u : World} {b len : Nat} {wk : Nat → Nat} (h : Keys w b len wk) (hb : b < w.heap.size) (hbl : Below w.heap.size w u) : Keys u b len wk := fun i hi => (hbl.cell (p := ⟨b, i, none⟩) hb).trans (h i hi)
theorem meas16 (z m : Nat) (h : m < z) : z + 16 - (intOf (.int .i64 ((m : Int) + 16))).toNat < z + 16 - (intOf (.int .i64 (m : Int))).toNat := by
  show z + 16 - ((m : Int) + 16).toNat < z + 16 - (m : Int).toNat
  omega
set_option maxHeartbeats 2000000 in
set_option maxRecDepth 10000 in
theorem counter_any (wk : Nat → Nat) (b len cap n f : Nat) (nonce s : ByteArray) (w : World) (hl : len = 4 * (n + 1)) (hn : 1 ≤ n) (hn2 : n ≤ 14) (hb : b < w.heap.size) (hc : Keys w b len wk) (hw : ∀ i, wk i < 256) (hno : nonce.size = 12) (hf : f ≤ 2) (hs : s.size ≤ 100000) :
    Calls Try.prog 23 #[.slice (some ⟨b, 0, none⟩) len cap, .string nonce, .int .i64 f, .string s] w fun e w' => e = .returned (.string (ctrS wk n nonce f s)) ∧ Below w.heap.size w w' := by
  have HLn := Lib.hid hl
  have HN := Lib.hid hn
  have HN2 := Lib.hid hn2
  have HBl := Lib.hid hb
  have HK := Lib.hid hc
  have HW := Lib.hid hw
  have HNo := Lib.hid hno
  obtain ⟨M, hM, hMc, hmk⟩ := zeros s.size (by omega)
  have R0 : Hid (RowB (w.alloc (.cells M 5)) w.heap.size s.size (fun _ => 0)) := rowIs_of w M 5 s.size _ hM hMc
  have B0 : Hid (Below w.heap.size w (w.alloc (.cells M 5))) := (Below.refl _ w).alloc (Nat.le_refl _) _
  clear hl hn hn2 hb hc hw hM hMc
  go_enter Try.func23, Try.ntmps23
  go_wp2_with (fail)
  clear hmk
  generalize w.alloc (.cells M 5) = w1 at R0 B0 ⊢
  go_loopw [10] (fun vi wx => ∃ (m : Nat) (X : Nat → Nat), Hid (m % 16 = 0 ∧ m < s.size + 16) ∧ vi = .int .i64 m ∧ Hid (∀ t, t < m → t < s.size → X t = ctrB wk n nonce f s t) ∧ Hid (RowB wx w.heap.size s.size X) ∧ Hid (Below w.heap.size w wx)) (fun i _ => s.size + 16 - (intOf i).toNat)
  case atStart => exact ⟨0, fun _ => 0, ⟨rfl, by omega⟩, rfl, fun t ht => absurd ht (Nat.not_lt_zero t), R0, B0⟩
  case round =>
    clear R0 B0
    obtain ⟨m, X, hm, rfl, hx, HR, HB⟩ := hrel
    by_cases hlt : m < s.size
    · have ml : ((m : Int) < (s.size : Int)) = True := eq_true (by omega)
      have ml2 : (m < s.size) = True := eq_true hlt
      have HM := Lib.hid hlt
      obtain ⟨x, hxe⟩ : ∃ x, f + m / 16 = x := ⟨_, rfl⟩
      have q1 : (f : Int) + (m : Int) / 16 = (x : Int) := by omega
      have HXe := Lib.hid hxe
      have HXl : Hid (x < 4294967296) := by show x < 4294967296; omega
      have z4 := beS_size x 4
      clear hxe
      go_wp2_with (fail)
      refine (be_4 x _ HXl.out).mono ?_
      rintro e u ⟨rfl, hbu⟩
      have HB1 : Hid (Below w.heap.size w u) := HB.out.trans (hbu.mono HB.out.size)
      have HR1 : Hid (RowB u w.heap.size s.size X) := World.rowIs.of_block HR.out (hbu.block _ HR.out.lt)
      have HZ : Hid ((nonce ++ beS x 4).size = 16) := by show (nonce ++ beS x 4).size = 16; rw [ByteArray.size_append, z4, HNo.out]
      clear hbu HB HR
      go_wp2_with (fail)
      refine (cipher_any wk b len cap n (nonce ++ beS x 4) _ HLn.out HN.out HN2.out HZ.out (Nat.lt_of_lt_of_le HBl.out HB1.out.size) (Keys.below HK.out HBl.out HB1.out) HW.out).mono ?_
      rintro e v ⟨rfl, hbv⟩
      have HB2 : Hid (Below w.heap.size w v) := HB1.out.trans (hbv.mono HB1.out.size)
      have HR2 : Hid (RowB v w.heap.size s.size X) := World.rowIs.of_block HR1.out (hbv.block _ HR1.out.lt)
      have cz := ciphS_size wk n (nonce ++ beS x 4)
      have HCt : Hid (∀ j, j < 16 → ctrB wk n nonce f s (m + j) = byt s (m + j) ^^^ byt (ciphS wk n (nonce ++ beS x 4)) j) := fun j hj => by
        unfold ctrB
        rw [show f + (m + j) / 16 = x by have := HXe.out; have := hm.out.1; omega, show (m + j) % 16 = j by have := hm.out.1; omega]
      generalize ciphS wk n (nonce ++ beS x 4) = C at cz HCt ⊢
      clear hbv HB1 HR1 z4
      go_wp2_with (fail)
      clear ml ml2
      go_loopw [12] (fun vj wx => ∃ (j : Nat) (Y : Nat → Nat), Hid (j ≤ 16 ∧ m + j ≤ s.size) ∧ vj = .int .i64 j ∧ Hid (∀ t, t < m + j → Y t = ctrB wk n nonce f s t) ∧ Hid (RowB wx w.heap.size s.size Y) ∧ Hid (Below w.heap.size w wx)) (fun j _ => 16 - (intOf j).toNat)
      case atStart => exact ⟨0, X, ⟨by decide, Nat.le_of_lt HM.out⟩, rfl, fun t ht => hx.out t ht (Nat.lt_of_lt_of_le ht (Nat.le_of_lt HM.out)), HR2, HB2⟩
      case round =>
        clear HR2 HB2 hx
        obtain ⟨j, Y, hj, rfl, hy, HR, HB⟩ := hrel
        have hj1 := hj.out.1
        have hj2 := hj.out.2
        by_cases h16 : j < 16
        · have jl : ((j : Int) < 16) = True := eq_true (by omega)
          by_cases hms : m + j < s.size
          · have j1 : ((m : Int) + (j : Int) < (s.size : Int)) = True := eq_true (by omega)
            have HJ := Lib.hid h16
            have HMs := Lib.hid hms
            have jc : (j : Int) < (C.size : Int) := by omega
            have p1 : (0 : Int) ≤ (m : Int) + j := by omega
            have t1 : ((m : Int) + (j : Int)).toNat = m + j := by omega
            have cc := World.rowIs.cell HR.out (i := m + j) hms
            have cf := World.rowIs.frozen HR.out (m + j)
            have w1 : IntKind.i64.wrap ((m : Int) + (j : Int)) = (m : Int) + j := IntWalk.i64_in _ (by omega)
            have vs : ∀ h : m + j < s.size, (s[m + j]'h).toNat = byt s (m + j) := fun h => get_byt s _ h
            have vc : ∀ h : j < C.size, (C[j]'h).toNat = byt C j := fun h => get_byt C _ h
            clear h16 hms
            go_wp2_with (fail)
            refine wp_region_still_tail 14 (by kernel_rfl) (by kernel_rfl) ?_
            simp only [List.take_succ_cons, List.take_zero, List.drop_succ_cons, List.drop_zero]
            repeat still_step
            try refine wpStill_nil ?_
            change wpList _ _ _ _ _ wr.drew
            clear w1 t1 p1 vs vc
            go_wp2_with (fail)
            rw [Aes.u8_xor _ _ (byt_lt s (m + j)) (byt_lt C j)]
            refine ⟨⟨j + 1, fun i => if i = m + j then byt s (m + j) ^^^ byt C j else Y i, ⟨HJ.out, HMs.out⟩, by go_num, fun t ht => ?_, World.rowIs.drew (HR.out.set (m + j) _), (HB.out.setCell (Nat.le_refl _) _).drew⟩, meas 16 j HJ.out⟩
            show (if t = m + j then _ else Y t) = _
            by_cases e : t = m + j
            · rw [if_pos e, e]; exact (HCt.out j HJ.out).symm
            · rw [if_neg e]; exact hy.out t (by omega)
          · have j1 : ((m : Int) + (j : Int) < (s.size : Int)) = False := eq_false (by omega)
            have j2 : decide ((m : Int) + (j : Int) < (s.size : Int)) = false := decide_eq_false (by omega)
            have j3 : (m + j < s.size) = False := eq_false hms
            have HE : Hid (∀ t, t < m + 16 → t < s.size → Y t = ctrB wk n nonce f s t) := fun t _ ht => hy.out t (by omega)
            clear h16 hms hj hy
            go_wp2_with (fail)
            exact ⟨⟨m + 16, Y, ⟨by have := hm.out.1; omega, by have := HM.out; omega⟩, by go_num, HE, HR, HB⟩, meas16 s.size m HM.out⟩
        · have jl : ((j : Int) < 16) = False := eq_false (by omega)
          have HE : Hid (∀ t, t < m + 16 → t < s.size → Y t = ctrB wk n nonce f s t) := fun t ht _ => hy.out t (by omega)
          clear h16 hj hj1 hj2 hy
          go_wp2_with (fail)
          exact ⟨⟨m + 16, Y, ⟨by have := hm.out.1; omega, by have := HM.out; omega⟩, by go_num, HE, HR, HB⟩, meas16 s.size m HM.out⟩
    · have ml : ((m : Int) < (s.size : Int)) = False := eq_false (by omega)
      have ml2 : (m < s.size) = False := eq_false hlt
      have X1 : Hid (RowB wr w.heap.size s.size (ctrB wk n nonce f s)) := HR.out.congr fun t ht => hx.out t (by omega) ht
      have hcv : (convert 32 9 (.slice (some ⟨w.heap.size, 0, none⟩) s.size s.size)).run Try.prog wr = .ok (.string (ctrS wk n nonce f s)) wr :=
        run_convert_bytes_arg (P := Try.prog) _ 32 5 Try.underlying32 Try.underlying5 w.heap.size 0 s.size s.size _ (by simp) (fun i hi => by
          have := World.rowIs.cell X1.out (i := i) hi
          rw [Nat.zero_add, this]
          simp [List.getD_eq_getElem?_getD, List.getElem?_range hi]) 9 Try.underlying9
      clear hlt hx
      go_wp2_with (fail)
      go_ret
      exact ⟨rfl, HB.out⟩
end Go.Proofs.Gcm
