/-
  The developers' chacha: Block and Xor at every input.
-/
import Derived.Test.YtljhenjbjondkaaJobt
import Derived.Test.YtljhenjbjondkaaJoah
import Derived.Deep.DeepCutAuto
import Derived.Test.YtljhenjbjondkaaJobo
import Derived.Test.YtljhenjbjondkaaJoai
namespace Go.Proofs.Cd
open Go.RowKit
open Go.Proofs.Cha
open Go.Proofs.Aes (byt byt_lt get_byt)
open Go.Proofs.Im (wpList_box_to words_heap words_one run_index_row)
open Go.Proofs.Sha (wordCells wordCells_get wordCells_size rowIs_of wpList_alloc_to)
theorem fits_no (key : ByteArray) (cnt : Int) (nonce : ByteArray) (w : World) (h : chaOk key cnt nonce = false) :
    Calls Try.prog 52 #[.string key, .int .i64 cnt, .string nonce] w fun e w' => e = .returned (.bool false) ∧ w' = w := by
  rw [← h]; exact fits_any key cnt nonce w
theorem fits_ok (key : ByteArray) (cnt : Int) (nonce : ByteArray) (w : World) (h : chaOk key cnt nonce = true) :
    Calls Try.prog 52 #[.string key, .int .i64 cnt, .string nonce] w fun e w' => e = .returned (.bool true) ∧ w' = w := by
  rw [← h]; exact fits_any key cnt nonce w
theorem blk_no (key : ByteArray) (cnt : Int) (nonce : ByteArray) (w : World) (h : chaOk key cnt nonce = false) :
    Calls Try.prog 39 #[.string key, .int .i64 cnt, .string nonce] w fun e w' => e = .returned (.tuple #[.string ⟨#[]⟩, .int .i64 600]) ∧ Below w.heap.size w w' := by
  have H := Lib.hid h
  clear h
  go_enter Try.func39, Try.ntmps39
  go_wp2_with (go_at_call 52; refine (fits_no key cnt nonce _ H.out).mono ?_; rintro e u ⟨rfl, rfl⟩)
  go_ret2
  exact ⟨rfl, Below.refl _ _⟩
/-- A block's cells as a text. -/
theorem RM.text {u : World} {g : Nat} {f : Nat → Nat} (r : RM u g f) :
    (Go.convert 27 9 (.slice (some ⟨g, 0, none⟩) 64 64)).run Try.prog u = .ok (.string (strOfNums ((List.range 64).map fun t => (f t : Int)))) u :=
  run_convert_bytes_arg (P := Try.prog) u 27 5 Try.underlying27 Try.underlying5 g 0 64 64 _ (by simp) (fun i hi => by
    rw [Nat.zero_add, World.rowIs.cell r (i := i) hi]
    simp [List.getD_eq_getElem?_getD, List.getElem?_range hi]) 9 Try.underlying9
set_option maxHeartbeats 1000000 in
theorem blk_ok (key : ByteArray) (cnt : Int) (nonce : ByteArray) (w : World) (h : chaOk key cnt nonce = true) :
    Calls Try.prog 39 #[.string key, .int .i64 cnt, .string nonce] w fun e w' => e = .returned (.tuple #[.string (chaS key cnt.toNat nonce), .int .i64 0]) ∧ Below w.heap.size w w' := by
  have H := Lib.hid h
  obtain ⟨h1, h2, h3, h4⟩ := (chaOk_iff key cnt nonce).1 h
  obtain ⟨n, hn⟩ : ∃ n : Nat, cnt = (n : Int) := ⟨cnt.toNat, by omega⟩
  subst hn
  rw [Int.toNat_natCast]
  have HN : Hid (n < 4294967296) := by show n < 4294967296; omega
  have q1 : (n : Int) % 4294967296 = (n : Int) := by omega
  have HK := Lib.hid h1
  have HO := Lib.hid h4
  have HBa := Lib.hid (fun W => block_any (ini key n nonce) W (ini_lt key n nonce HN.out))
  have HKa := Lib.hid (fun W => keyed_any key n nonce W HK.out HO.out)
  have HT : Hid (chaS key n nonce = strOfNums ((List.range 64).map fun t => (chaB (ini key n nonce) t : Int))) := rfl
  generalize chaS key n nonce = T at HT ⊢
  generalize chaB (ini key n nonce) = Bk at HBa HT
  generalize ini key n nonce = St at HBa HKa
  clear h h1 h2 h3 h4
  go_enter Try.func39, Try.ntmps39
  go_upto_region 3 with (go_at_call 52; refine (fits_ok key n nonce _ H.out).mono ?_; rintro e w ⟨rfl, rfl⟩)
  apply wp_region_lit
  refine Lw.wpList_val rfl (.string key) w (by go_simp) ?_
  simp only [Act.put, List.setIfInBounds_toArray, List.set_cons_zero, List.set_cons_succ]
  refine Lw.wpList_val rfl (.int .i64 n) w (by go_simp) ?_
  simp only [Act.put, List.setIfInBounds_toArray, List.set_cons_zero, List.set_cons_succ]
  refine Lw.wpList_val rfl (.int .u32 n) w (by go_simp; exact q1) ?_
  simp only [Act.put, List.setIfInBounds_toArray, List.set_cons_zero, List.set_cons_succ]
  refine Lw.wpList_val rfl (.string nonce) w (by go_simp) ?_
  simp only [Act.put, List.setIfInBounds_toArray, List.set_cons_zero, List.set_cons_succ]
  refine Lw.wpList_callTo (some 18) rfl rfl 53 _ _ rfl (fun _ _ => by kernel_rfl) #[.string key, .int .u32 n, .string nonce] (by kernel_rfl) ?_
  refine (HKa.out _).mono ?_
  rintro e u ⟨rfl, hb⟩
  have HB := Lib.hid hb
  clear hb
  refine ⟨_, rfl, ?_⟩
  simp only [Act.put, List.setIfInBounds_toArray, List.set_cons_zero, List.set_cons_succ]
  refine Lw.wpList_callTo (some 19) rfl rfl 54 _ _ rfl (fun _ _ => by kernel_rfl) #[.agg (cA St)] (by kernel_rfl) ?_
  refine (HBa.out _).mono ?_
  rintro e v ⟨rfl, hb⟩
  have HB := Lib.hid (Lw.go_on HB.out hb)
  clear hb
  refine ⟨_, rfl, ?_⟩
  simp only [Act.put, List.setIfInBounds_toArray, List.set_cons_zero, List.set_cons_succ]
  refine wpList_alloc_to rfl 80 rfl (mA fun _ => 0) v.heap.size rfl alloc64 ?_
  have HG : Hid (w.heap.size ≤ v.heap.size) := HB.out.size
  have HR := Lib.hid (RM.new v fun _ => 0)
  have HB := Lib.hid (HB.out.alloc HB.out.size (.cells (mA fun _ => 0) 80))
  generalize v.alloc (.cells (mA fun _ => 0) 80) = v1 at HR HB ⊢
  simp only [Act.put, List.setIfInBounds_toArray, List.set_cons_zero, List.set_cons_succ]
  refine wpList_store_row rfl 80 _ _ rfl v.heap.size (mA Bk) (by kernel_rfl) (by kernel_rfl) 80 (mA fun _ => 0) HR.out.heap (by rw [mA_size]; kernel_rfl) (by rw [mA_size, mA_size]) (mA_one _) ?_
  have HR := Lib.hid (HR.out.setRow Bk)
  have HB : Hid (Below w.heap.size w (v1.setRow v.heap.size (mA Bk))) := below_setRow HB.out HG.out _
  generalize v1.setRow v.heap.size (mA Bk) = v2 at HR HB ⊢
  generalize v.heap.size = g at HR ⊢
  simp only [Act.put]
  have hcv := HR.out.text
  rw [← HT.out] at hcv
  go_wp2_with (fail)
  go_ret2
  exact ⟨rfl, HB.out⟩
theorem blk_any (key : ByteArray) (cnt : Int) (nonce : ByteArray) (w : World) :
    Calls Try.prog 39 #[.string key, .int .i64 cnt, .string nonce] w fun e w' => e = .returned (.tuple #[.string (blkS key cnt nonce), .int .i64 (blkE key cnt nonce)]) ∧ Below w.heap.size w w' := by
  by_cases ok : chaOk key cnt nonce = true
  · rw [show (blkS key cnt nonce) = (chaS key cnt.toNat nonce) by unfold blkS; rw [ok]; rfl, show (blkE key cnt nonce) = 0 by unfold blkE; rw [ok]; rfl]
    exact blk_ok key cnt nonce w ok
  · have ok' : chaOk key cnt nonce = false := by simpa using ok
    rw [show (blkS key cnt nonce) = ⟨#[]⟩ by unfold blkS; rw [ok']; rfl, show (blkE key cnt nonce) = 600 by unfold blkE; rw [ok']; rfl]
    exact blk_no key cnt nonce w ok'
theorem xor_no1 (key : ByteArray) (cnt : Int) (nonce s : ByteArray) (w : World) (h : chaOk key cnt nonce = false) :
    Calls Try.prog 40 #[.string key, .int .i64 cnt, .string nonce, .string s] w fun e w' => e = .returned (.tuple #[.string ⟨#[]⟩, .int .i64 600]) ∧ Below w.heap.size w w' := by
  have H := Lib.hid h
  clear h
  go_enter Try.func40, Try.ntmps40
  go_wp2_with (go_at_call 52; refine (fits_no key cnt nonce _ H.out).mono ?_; rintro e u ⟨rfl, rfl⟩)
  go_ret2
  exact ⟨rfl, Below.refl _ _⟩
theorem xor_no2 (key : ByteArray) (cnt : Int) (nonce s : ByteArray) (w : World) (h : chaOk key cnt nonce = true) (h5 : 65536 < s.size) :
    Calls Try.prog 40 #[.string key, .int .i64 cnt, .string nonce, .string s] w fun e w' => e = .returned (.tuple #[.string ⟨#[]⟩, .int .i64 600]) ∧ Below w.heap.size w w' := by
  have H := Lib.hid h
  have e5 : ((65536 : Int) < (s.size : Int)) = True := eq_true (by omega)
  clear h h5
  go_enter Try.func40, Try.ntmps40
  go_wp2_with (go_at_call 52; refine (fits_ok key cnt nonce _ H.out).mono ?_; rintro e u ⟨rfl, rfl⟩)
  go_ret2
  exact ⟨rfl, Below.refl _ _⟩
set_option maxHeartbeats 1000000 in
theorem xor_ok (key : ByteArray) (cnt : Int) (nonce s : ByteArray) (w : World) (h : chaOk key cnt nonce = true) (h5 : s.size ≤ 65536) :
    Calls Try.prog 40 #[.string key, .int .i64 cnt, .string nonce, .string s] w fun e w' => e = .returned (.tuple #[.string (strS key cnt.toNat nonce s), .int .i64 0]) ∧ Below w.heap.size w w' := by
  have H := Lib.hid h
  obtain ⟨h1, h2, h3, h4⟩ := (chaOk_iff key cnt nonce).1 h
  obtain ⟨n, hn⟩ : ∃ n : Nat, cnt = (n : Int) := ⟨cnt.toNat, by omega⟩
  subst hn
  rw [Int.toNat_natCast]
  have HN : Hid (n < 4294967296) := by show n < 4294967296; omega
  have q1 : (n : Int) % 4294967296 = (n : Int) := by omega
  have e5 : ((65536 : Int) < (s.size : Int)) = False := eq_false (by omega)
  have HK := Lib.hid h1
  have HO := Lib.hid h4
  have HKa := Lib.hid (fun W => keyed_any key n nonce W HK.out HO.out)
  have HMa := Lib.hid (fun W => masked_any key n nonce s W HN.out (by omega))
  generalize strS key n nonce s = T at HMa ⊢
  generalize ini key n nonce = St at HMa HKa
  clear h h1 h2 h3 h4 h5
  go_enter Try.func40, Try.ntmps40
  go_wp2_with (first
    | (go_at_call 52; refine (fits_ok key n nonce _ H.out).mono ?_; rintro e u ⟨rfl, rfl⟩)
    | (go_at_call 53; refine (HKa.out _).mono ?_; rintro e u ⟨rfl, hb⟩; have HB := Lib.hid hb; clear hb)
    | (go_at_call 55; refine (HMa.out _).mono ?_; rintro e v ⟨rfl, hb⟩; have HB := Lib.hid (Lw.go_on HB.out hb); clear hb))
  go_ret2
  exact ⟨rfl, HB.out⟩
theorem xor_any (key : ByteArray) (cnt : Int) (nonce s : ByteArray) (w : World) :
    Calls Try.prog 40 #[.string key, .int .i64 cnt, .string nonce, .string s] w fun e w' => e = .returned (.tuple #[.string (xorS key cnt nonce s), .int .i64 (xorE key cnt nonce s)]) ∧ Below w.heap.size w w' := by
  by_cases ok : xorOk key cnt nonce s = true
  · have h := (xorOk_iff key cnt nonce s).1 ok
    rw [show (xorS key cnt nonce s) = (strS key cnt.toNat nonce s) by unfold xorS; rw [ok]; rfl, show (xorE key cnt nonce s) = 0 by unfold xorE; rw [ok]; rfl]
    exact xor_ok key cnt nonce s w ((chaOk_iff key cnt nonce).2 h.1) h.2
  · have ok' : xorOk key cnt nonce s = false := by simpa using ok
    rw [show (xorS key cnt nonce s) = ⟨#[]⟩ by unfold xorS; rw [ok']; rfl, show (xorE key cnt nonce s) = 600 by unfold xorE; rw [ok']; rfl]
    by_cases h1 : chaOk key cnt nonce = true
    · refine xor_no2 key cnt nonce s w h1 (Nat.lt_of_not_le fun h2 => ok ((xorOk_iff key cnt nonce s).2 ⟨(chaOk_iff key cnt nonce).1 h1, h2⟩))
    · exact xor_no1 key cnt nonce s w (by simpa using h1)
end Go.Proofs.Cd
/-
  The developers' chacha: small forms for the laws.
-/
namespace Go.Proofs.Cd
open Go.RowKit
open Go.Proofs.Cha
open Go.Proofs.Aes (byt byt_lt get_byt)
open Go.Proofs.Lw (num_same wpList_val)
/-- A Block and a Xor whose form is fine. -/
theorem ok_of (K : ByteArray) (n : Nat) (N : ByteArray) (hk : K.size = 32) (hN : N.size = 12) (hn : n < 4294967296) : chaOk K (n : Int) N = true := (chaOk_iff K n N).2 ⟨hk, by omega, by omega, hN⟩
theorem blk_fine (K : ByteArray) (n : Nat) (N : ByteArray) (w : World) (hk : K.size = 32) (hN : N.size = 12) (hn : n < 4294967296) :
    Calls Try.prog 39 #[.string K, .int .i64 n, .string N] w fun e w' => e = .returned (.tuple #[.string (chaS K n N), .int .i64 0]) ∧ Below w.heap.size w w' := by
  have h := blk_ok K n N w (ok_of K n N hk hN hn)
  rw [Int.toNat_natCast] at h
  exact h
theorem xor_fine (K : ByteArray) (n : Nat) (N s : ByteArray) (w : World) (hk : K.size = 32) (hN : N.size = 12) (hn : n < 4294967296) (hs : s.size ≤ 65536) :
    Calls Try.prog 40 #[.string K, .int .i64 n, .string N, .string s] w fun e w' => e = .returned (.tuple #[.string (strS K n N s), .int .i64 0]) ∧ Below w.heap.size w w' := by
  have h := xor_ok K n N s w (ok_of K n N hk hN hn) hs
  rw [Int.toNat_natCast] at h
  exact h
theorem nought32 (W : World) (g : Nat) (r : Lw.RowB W g 32 (fun _ => 0)) : (Go.convert 27 9 (.slice (some ⟨g, 0, none⟩) 32 32)).run Try.prog W = .ok (.string z32) W := r.text 0 32 32 (by decide)
theorem maskN32 (z : Int) : ∃ n : Nat, n ≤ 4294967295 ∧ bits .and .i64 z 4294967295 = (n : Int) := ⟨_, Nat.and_le_right, Lw.and_of z 4294967295 (by omega)⟩
theorem maskN7 (z : Int) : ∃ n : Nat, n ≤ 7 ∧ bits .and .i64 z 7 = (n : Int) := ⟨_, Nat.and_le_right, Lw.and_of z 7 (by omega)⟩
/-- A natural number's lowest 32 bits. -/
theorem mask32 (n : Nat) (h : n < 9223372036854775808) : bits .and .i64 (n : Int) 4294967295 = ((n % 4294967296 : Nat) : Int) := by
  have e := Lw.and_of (n : Int) 4294967295 (by omega)
  rw [show ((n : Int) % 18446744073709551616).toNat = n by omega, nat_mask32] at e
  exact e
/-- How many blocks a text's first part has. -/
theorem part_of (z : Int) (n : Nat) (hn : n ≤ 3000) : ∃ b : Nat, b ≤ 46 ∧ 64 * b ≤ n ∧ (IntKind.u64.wrap z).tmod ((n : Int) / 64 + 1) = (b : Int) := by
  have e : IntKind.u64.wrap z = z % 18446744073709551616 := rfl
  refine ⟨((z % 18446744073709551616) % ((n : Int) / 64 + 1)).toNat, ?_, ?_, ?_⟩
  · have := Int.emod_lt_of_pos (z % 18446744073709551616) (show (0 : Int) < (n : Int) / 64 + 1 by omega)
    omega
  · have := Int.emod_lt_of_pos (z % 18446744073709551616) (show (0 : Int) < (n : Int) / 64 + 1 by omega)
    omega
  · rw [e, Int.tmod_eq_emod_of_nonneg (by omega)]
    have := Int.emod_nonneg (z % 18446744073709551616) (show (n : Int) / 64 + 1 ≠ 0 by omega)
    omega
end Go.Proofs.Cd
/-
  The developers' poly: Mac, the tag of a sealed text.
-/
namespace Go.Proofs.Ps
open Go.RowKit Go.Proofs.Pd
open Go.Proofs.Aes (byt byt_lt get_byt)
open Go.Proofs.Cha (chaS chaS_size strS strS_size byt_left byt_right byt_cut text_ext byt_nums)
open Go.Proofs.Pol (lmA leB leB_lt leB_congr val p130 rN padN blkN blkL blkB runK fillS fillS_size run_append tagS macS macS_size allS litS litS_size litB pTagS pTagS_size)
theorem litS_byt (x i : Nat) (h : i < 8) : byt (litS x) i = x / 256 ^ i % 256 := by
  unfold litS
  rw [byt_nums (litB x) 8 i h (Nat.mod_lt _ (by decide))]
  unfold litB
  rw [Nat.pow_mul]
theorem leB_digits (x n : Nat) : leB (fun i => x / 256 ^ i % 256) n = x % 256 ^ n := by
  induction n with
  | zero => show 0 = x % 1; omega
  | succ n ih => show leB _ n + x / 256 ^ n % 256 * 256 ^ n = _; rw [ih, Nat.mod_pow_succ, Nat.mul_comm]
theorem lit_leB (x : Nat) (hx : x < 18446744073709551616) : leB (byt (litS x)) 8 = x := by
  rw [leB_congr (c := fun i => x / 256 ^ i % 256) 8 fun i hi => litS_byt x i hi, leB_digits, two64, Nat.mod_eq_of_lt hx]
theorem lits_blk (x y : Nat) (hx : x < 18446744073709551616) (hy : y < 18446744073709551616) : blkN (litS x ++ litS y) 0 = x + 18446744073709551616 * y + 340282366920938463463374607431768211456 * 1 := by
  have e : blkL (litS x ++ litS y) 0 = 16 := by unfold blkL; rw [ByteArray.size_append, litS_size, litS_size]; rfl
  have h0 : leB (blkB (litS x ++ litS y) 0) 8 = x := (leB_congr (b := blkB (litS x ++ litS y) 0) (c := byt (litS x)) 8 fun i hi => by
    show byt (litS x ++ litS y) (16 * 0 + i) = _
    rw [show 16 * 0 + i = i by omega, byt_left _ _ _ (by rw [litS_size]; exact hi)]).trans (lit_leB x hx)
  have h1 : leB (fun i => blkB (litS x ++ litS y) 0 (8 + i)) 8 = y := (leB_congr (b := fun i => blkB (litS x ++ litS y) 0 (8 + i)) (c := byt (litS y)) 8 fun i hi => by
    show byt (litS x ++ litS y) (16 * 0 + (8 + i)) = _
    rw [byt_right _ _ _ (by rw [litS_size]; omega) (by rw [litS_size, litS_size]; omega), litS_size, show 16 * 0 + (8 + i) - 8 = i by omega]).trans (lit_leB y hy)
  unfold blkN
  rw [e, leB_16, h0, h1, two128, Nat.mul_one]
/-- The sum of what a seal's tag is made of. -/
theorem all_run (r : Nat) (aad c : ByteArray) (ha : aad.size < 18446744073709551616) (hc : c.size < 18446744073709551616) :
    Pol.runN r 0 (allS aad c) = (Pol.runN r (Pol.runN r 0 (fillS aad)) (fillS c) + (aad.size + 18446744073709551616 * c.size + 340282366920938463463374607431768211456 * 1)) * r % p130 := by
  have z1 := fillS_size aad
  have z2 := fillS_size c
  unfold allS
  rw [ByteArray.append_assoc, run_append r 0 (fillS aad ++ fillS c) _ (by rw [ByteArray.size_append, z1, z2]; omega), run_append r 0 (fillS aad) (fillS c) (by rw [z1]; omega), ← lits_blk _ _ ha hc]
  generalize Pol.runN r (Pol.runN r 0 (fillS aad)) (fillS c) = A
  have e : ((litS aad.size ++ litS c.size).size + 15) / 16 = 1 := by rw [ByteArray.size_append, litS_size, litS_size]
  unfold Pol.runN
  rw [e]
  rfl
set_option maxHeartbeats 1000000 in
theorem tagOf_any (own aad c : ByteArray) (w : World) (hk : own.size = 32) (ha : aad.size ≤ 100000) (hc : c.size ≤ 100000) :
    Calls Try.prog 26 #[.string own, .string aad, .string c] w fun e w' => e = .returned (.string (macS own (allS aad c))) ∧ Below w.heap.size w w' := by
  have HK := Lib.hid (fun u => keyed_any own u hk)
  have HW1 := Lib.hid (fun g u h => writeFilled_any own aad 0 g u h (by omega))
  have HW2 := Lib.hid (fun g u h => writeFilled_any own c (Pol.runN (rN own) 0 (fillS aad)) g u h (by omega))
  have HLm := Lib.hid (fun u => limbs_of aad.size c.size 1 u (by omega) (by omega) (by decide) 1 rfl)
  have HAd := Lib.hid (fun g u h => add_any (limF aad.size c.size 1) (aad.size + 18446744073709551616 * c.size + 340282366920938463463374607431768211456 * 1) g (Pol.runN (rN own) (Pol.runN (rN own) 0 (fillS aad)) (fillS c)) own u h (limF_lt _ _ 1 (by omega) (by decide)) (val_limF _ _ 1 (by omega) (by omega)))
  rw [← all_run (rN own) aad c (by omega) (by omega)] at HAd
  have HTg := Lib.hid (fun g u h => tag_any own (Pol.runN (rN own) 0 (allS aad c)) g u h)
  have HE : Hid (tagS (Pol.runN (rN own) 0 (allS aad c)) (padN own) = macS own (allS aad c)) := rfl
  rw [HE.out] at HTg
  generalize macS own (allS aad c) = T at HTg ⊢
  generalize Pol.runN (rN own) 0 (allS aad c) = A3 at HTg HAd
  generalize Pol.runN (rN own) (Pol.runN (rN own) 0 (fillS aad)) (fillS c) = A2 at HW2 HAd
  generalize Pol.runN (rN own) 0 (fillS aad) = A1 at HW1 HW2
  obtain ⟨na, hna⟩ : ∃ n, aad.size = n := ⟨_, rfl⟩
  obtain ⟨nc, hnc⟩ : ∃ n, c.size = n := ⟨_, rfl⟩
  rw [hna, hnc] at HLm HAd
  generalize lmA (limF na nc 1) = L at HLm HAd
  have w1 : IntKind.u64.wrap (na : Int) = (na : Int) := by show (na : Int) % 18446744073709551616 = _; omega
  have w2 : IntKind.u64.wrap (nc : Int) = (nc : Int) := by show (nc : Int) % 18446744073709551616 = _; omega
  have w3 : (na : Int) % 18446744073709551616 = (na : Int) := by omega
  have w4 : (nc : Int) % 18446744073709551616 = (nc : Int) := by omega
  clear hk ha hc HE
  go_enter Try.func26, Try.ntmps26
  go_wp2_with (go_at_call 41; fail)
  refine (HK.out _).mono ?_
  rintro e u ⟨g, rfl, hg, hb, ht⟩
  have HB := Lib.hid hb
  have HT := Lib.hid ht
  have HG := Lib.hid hg
  clear hb ht hg
  go_wp2_with (go_at_call 42; fail)
  refine (HW1.out g _ HT.out).mono ?_
  rintro e u2 ⟨rfl, hb, ht⟩
  have HB := Lib.hid (hb.below HB.out HG.out HB.out.size)
  have HT := Lib.hid ht
  clear hb ht
  go_wp2_with (go_at_call 42; fail)
  refine (HW2.out g _ HT.out).mono ?_
  rintro e u3 ⟨rfl, hb, ht⟩
  have HB := Lib.hid (hb.below HB.out HG.out HB.out.size)
  have HT := Lib.hid ht
  clear hb ht
  go_wp2_with (go_at_call 44; fail)
  refine (HLm.out _).mono ?_
  rintro e u4 ⟨rfl, hb⟩
  have HB := Lib.hid (Lw.go_on HB.out hb)
  have HT := Lib.hid (HT.out.on hb)
  clear hb
  go_wp2_with (go_at_call 43; fail)
  refine (HAd.out g _ HT.out).mono ?_
  rintro e u5 ⟨rfl, hb, ht⟩
  have HB := Lib.hid (hb.below HB.out HG.out HB.out.size)
  have HT := Lib.hid ht
  clear hb ht
  go_wp2_with (go_at_call 45; fail)
  refine (HTg.out g _ HT.out).mono ?_
  rintro e u6 ⟨rfl, hb⟩
  go_wp2_with (fail)
  go_ret
  exact ⟨rfl, Lw.go_on HB.out hb⟩
end Go.Proofs.Ps
