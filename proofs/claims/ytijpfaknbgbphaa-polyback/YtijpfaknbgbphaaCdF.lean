/-
  The developers' chacha: Block and Xor at every input.
-/
import Derived.Test.YtijpfaknbgbphaaCdE
namespace Go.Proofs.Cd
open Go.RowKit
open Go.Proofs.Cha
open Go.Proofs.Aes (byt byt_lt get_byt)
open Go.Proofs.Im (wpList_box_to words_heap words_one run_index_row)
open Go.Proofs.Sha (wordCells wordCells_get wordCells_size rowIs_of wpList_alloc_to)
theorem fits_no (key : ByteArray) (cnt : Int) (nonce : ByteArray) (w : World) (h : chaOk key cnt nonce = false) :
    Calls Try.prog 27 #[.string key, .int .i64 cnt, .string nonce] w fun e w' => e = .returned (.bool false) ∧ w' = w := by
  rw [← h]; exact fits_any key cnt nonce w
theorem fits_ok (key : ByteArray) (cnt : Int) (nonce : ByteArray) (w : World) (h : chaOk key cnt nonce = true) :
    Calls Try.prog 27 #[.string key, .int .i64 cnt, .string nonce] w fun e w' => e = .returned (.bool true) ∧ w' = w := by
  rw [← h]; exact fits_any key cnt nonce w
theorem blk_no (key : ByteArray) (cnt : Int) (nonce : ByteArray) (w : World) (h : chaOk key cnt nonce = false) :
    Calls Try.prog 17 #[.string key, .int .i64 cnt, .string nonce] w fun e w' => e = .returned (.tuple #[.string ⟨#[]⟩, .int .i64 600]) ∧ Below w.heap.size w w' := by
  have H := Lib.hid h
  clear h
  go_enter Try.func17, Try.ntmps17
  go_wp2_with (go_at_call 27; refine (fits_no key cnt nonce _ H.out).mono ?_; rintro e u ⟨rfl, rfl⟩)
  go_ret2
  exact ⟨rfl, Below.refl _ _⟩
/-- A block's cells as a text. -/
theorem RM.text {u : World} {g : Nat} {f : Nat → Nat} (r : RM u g f) :
    (Go.convert 32 9 (.slice (some ⟨g, 0, none⟩) 64 64)).run Try.prog u = .ok (.string (strOfNums ((List.range 64).map fun t => (f t : Int)))) u :=
  run_convert_bytes_arg (P := Try.prog) u 32 5 Try.underlying32 Try.underlying5 g 0 64 64 _ (by simp) (fun i hi => by
    rw [Nat.zero_add, World.rowIs.cell r (i := i) hi]
    simp [List.getD_eq_getElem?_getD, List.getElem?_range hi]) 9 Try.underlying9
set_option maxHeartbeats 1000000 in
theorem blk_ok (key : ByteArray) (cnt : Int) (nonce : ByteArray) (w : World) (h : chaOk key cnt nonce = true) :
    Calls Try.prog 17 #[.string key, .int .i64 cnt, .string nonce] w fun e w' => e = .returned (.tuple #[.string (chaS key cnt.toNat nonce), .int .i64 0]) ∧ Below w.heap.size w w' := by
  have H := Lib.hid h
  obtain ⟨h1, h2, h3, h4⟩ := (chaOk_iff key cnt nonce).1 h
  obtain ⟨n, hn⟩ : ∃ n : Nat, cnt = (n : Int) := ⟨cnt.toNat, by omega⟩
  subst hn
  rw [Int.toNat_natCast]
  have HN : Hid (n < 4294967296) := by show n < 4294967296; omega
  have q1 : (n : Int) % 4294967296 = (n : Int) := by omega
  have HK := Lib.hid h1
  have HO := Lib.hid h4
  have HBa := Lib.hid (fun W => block_any (ini key n nonce) W (ini_lt key n nonce HN.out))
  have HKa := Lib.hid (fun W => keyed_any key n nonce W HK.out HO.out)
  have HT : Hid (chaS key n nonce = strOfNums ((List.range 64).map fun t => (chaB (ini key n nonce) t : Int))) := rfl
  generalize chaS key n nonce = T at HT ⊢
  generalize chaB (ini key n nonce) = Bk at HBa HT
  generalize ini key n nonce = St at HBa HKa
  clear h h1 h2 h3 h4
  go_enter Try.func17, Try.ntmps17
  go_upto_region 3 with (go_at_call 27; refine (fits_ok key n nonce _ H.out).mono ?_; rintro e w ⟨rfl, rfl⟩)
  apply wp_region_lit
  refine Lw.wpList_val rfl (.string key) w (by go_simp) ?_
  simp only [Act.put, List.setIfInBounds_toArray, List.set_cons_zero, List.set_cons_succ]
  refine Lw.wpList_val rfl (.int .i64 n) w (by go_simp) ?_
  simp only [Act.put, List.setIfInBounds_toArray, List.set_cons_zero, List.set_cons_succ]
  refine Lw.wpList_val rfl (.int .u32 n) w (by go_simp; exact q1) ?_
  simp only [Act.put, List.setIfInBounds_toArray, List.set_cons_zero, List.set_cons_succ]
  refine Lw.wpList_val rfl (.string nonce) w (by go_simp) ?_
  simp only [Act.put, List.setIfInBounds_toArray, List.set_cons_zero, List.set_cons_succ]
  refine Lw.wpList_callTo (some 18) rfl rfl 28 _ _ rfl (fun _ _ => by kernel_rfl) #[.string key, .int .u32 n, .string nonce] (by kernel_rfl) ?_
  refine (HKa.out _).mono ?_
  rintro e u ⟨rfl, hb⟩
  have HB := Lib.hid hb
  clear hb
  refine ⟨_, rfl, ?_⟩
  simp only [Act.put, List.setIfInBounds_toArray, List.set_cons_zero, List.set_cons_succ]
  refine Lw.wpList_callTo (some 19) rfl rfl 30 _ _ rfl (fun _ _ => by kernel_rfl) #[.agg (cA St)] (by kernel_rfl) ?_
  refine (HBa.out _).mono ?_
  rintro e v ⟨rfl, hb⟩
  have HB := Lib.hid (Lw.go_on HB.out hb)
  clear hb
  refine ⟨_, rfl, ?_⟩
  simp only [Act.put, List.setIfInBounds_toArray, List.set_cons_zero, List.set_cons_succ]
  refine wpList_alloc_to rfl 53 rfl (mA fun _ => 0) v.heap.size rfl alloc64 ?_
  have HG : Hid (w.heap.size ≤ v.heap.size) := HB.out.size
  have HR := Lib.hid (RM.new v fun _ => 0)
  have HB := Lib.hid (HB.out.alloc HB.out.size (.cells (mA fun _ => 0) 53))
  generalize v.alloc (.cells (mA fun _ => 0) 53) = v1 at HR HB ⊢
  simp only [Act.put, List.setIfInBounds_toArray, List.set_cons_zero, List.set_cons_succ]
  refine wpList_store_row rfl 53 _ _ rfl v.heap.size (mA Bk) (by kernel_rfl) (by kernel_rfl) 53 (mA fun _ => 0) HR.out.heap (by rw [mA_size]; kernel_rfl) (by rw [mA_size, mA_size]) (mA_one _) ?_
  have HR := Lib.hid (HR.out.setRow Bk)
  have HB : Hid (Below w.heap.size w (v1.setRow v.heap.size (mA Bk))) := below_setRow HB.out HG.out _
  generalize v1.setRow v.heap.size (mA Bk) = v2 at HR HB ⊢
  generalize v.heap.size = g at HR ⊢
  simp only [Act.put]
  have hcv := HR.out.text
  rw [← HT.out] at hcv
  go_wp2_with (fail)
  go_ret2
  exact ⟨rfl, HB.out⟩
theorem blk_any (key : ByteArray) (cnt : Int) (nonce : ByteArray) (w : World) :
    Calls Try.prog 17 #[.string key, .int .i64 cnt, .string nonce] w fun e w' => e = .returned (.tuple #[.string (blkS key cnt nonce), .int .i64 (blkE key cnt nonce)]) ∧ Below w.heap.size w w' := by
  by_cases ok : chaOk key cnt nonce = true
  · rw [show (blkS key cnt nonce) = (chaS key cnt.toNat nonce) by unfold blkS; rw [ok]; rfl, show (blkE key cnt nonce) = 0 by unfold blkE; rw [ok]; rfl]
    exact blk_ok key cnt nonce w ok
  · have ok' : chaOk key cnt nonce = false := by simpa using ok
    rw [show (blkS key cnt nonce) = ⟨#[]⟩ by unfold blkS; rw [ok']; rfl, show (blkE key cnt nonce) = 600 by unfold blkE; rw [ok']; rfl]
    exact blk_no key cnt nonce w ok'
theorem xor_no1 (key : ByteArray) (cnt : Int) (nonce s : ByteArray) (w : World) (h : chaOk key cnt nonce = false) :
    Calls Try.prog 16 #[.string key, .int .i64 cnt, .string nonce, .string s] w fun e w' => e = .returned (.tuple #[.string ⟨#[]⟩, .int .i64 600]) ∧ Below w.heap.size w w' := by
  have H := Lib.hid h
  clear h
  go_enter Try.func16, Try.ntmps16
  go_wp2_with (go_at_call 27; refine (fits_no key cnt nonce _ H.out).mono ?_; rintro e u ⟨rfl, rfl⟩)
  go_ret2
  exact ⟨rfl, Below.refl _ _⟩
theorem xor_no2 (key : ByteArray) (cnt : Int) (nonce s : ByteArray) (w : World) (h : chaOk key cnt nonce = true) (h5 : 65536 < s.size) :
    Calls Try.prog 16 #[.string key, .int .i64 cnt, .string nonce, .string s] w fun e w' => e = .returned (.tuple #[.string ⟨#[]⟩, .int .i64 600]) ∧ Below w.heap.size w w' := by
  have H := Lib.hid h
  have e5 : ((65536 : Int) < (s.size : Int)) = True := eq_true (by omega)
  clear h h5
  go_enter Try.func16, Try.ntmps16
  go_wp2_with (go_at_call 27; refine (fits_ok key cnt nonce _ H.out).mono ?_; rintro e u ⟨rfl, rfl⟩)
  go_ret2
  exact ⟨rfl, Below.refl _ _⟩
set_option maxHeartbeats 1000000 in
theorem xor_ok (key : ByteArray) (cnt : Int) (nonce s : ByteArray) (w : World) (h : chaOk key cnt nonce = true) (h5 : s.size ≤ 65536) :
    Calls Try.prog 16 #[.string key, .int .i64 cnt, .string nonce, .string s] w fun e w' => e = .returned (.tuple #[.string (strS key cnt.toNat nonce s), .int .i64 0]) ∧ Below w.heap.size w w' := by
  have H := Lib.hid h
  obtain ⟨h1, h2, h3, h4⟩ := (chaOk_iff key cnt nonce).1 h
  obtain ⟨n, hn⟩ : ∃ n : Nat, cnt = (n : Int) := ⟨cnt.toNat, by omega⟩
  subst hn
  rw [Int.toNat_natCast]
  have HN : Hid (n < 4294967296) := by show n < 4294967296; omega
  have q1 : (n : Int) % 4294967296 = (n : Int) := by omega
  have e5 : ((65536 : Int) < (s.size : Int)) = False := eq_false (by omega)
  have HK := Lib.hid h1
  have HO := Lib.hid h4
  have HKa := Lib.hid (fun W => keyed_any key n nonce W HK.out HO.out)
  have HMa := Lib.hid (fun W => masked_any key n nonce s W HN.out (by omega))
  generalize strS key n nonce s = T at HMa ⊢
  generalize ini key n nonce = St at HMa HKa
  clear h h1 h2 h3 h4 h5
  go_enter Try.func16, Try.ntmps16
  go_wp2_with (first
    | (go_at_call 27; refine (fits_ok key n nonce _ H.out).mono ?_; rintro e u ⟨rfl, rfl⟩)
    | (go_at_call 28; refine (HKa.out _).mono ?_; rintro e u ⟨rfl, hb⟩; have HB := Lib.hid hb; clear hb)
    | (go_at_call 29; refine (HMa.out _).mono ?_; rintro e v ⟨rfl, hb⟩; have HB := Lib.hid (Lw.go_on HB.out hb); clear hb))
  go_ret2
  exact ⟨rfl, HB.out⟩
theorem xor_any (key : ByteArray) (cnt : Int) (nonce s : ByteArray) (w : World) :
    Calls Try.prog 16 #[.string key, .int .i64 cnt, .string nonce, .string s] w fun e w' => e = .returned (.tuple #[.string (xorS key cnt nonce s), .int .i64 (xorE key cnt nonce s)]) ∧ Below w.heap.size w w' := by
  by_cases ok : xorOk key cnt nonce s = true
  · have h := (xorOk_iff key cnt nonce s).1 ok
    rw [show (xorS key cnt nonce s) = (strS key cnt.toNat nonce s) by unfold xorS; rw [ok]; rfl, show (xorE key cnt nonce s) = 0 by unfold xorE; rw [ok]; rfl]
    exact xor_ok key cnt nonce s w ((chaOk_iff key cnt nonce).2 h.1) h.2
  · have ok' : xorOk key cnt nonce s = false := by simpa using ok
    rw [show (xorS key cnt nonce s) = ⟨#[]⟩ by unfold xorS; rw [ok']; rfl, show (xorE key cnt nonce s) = 600 by unfold xorE; rw [ok']; rfl]
    by_cases h1 : chaOk key cnt nonce = true
    · refine xor_no2 key cnt nonce s w h1 (Nat.lt_of_not_le fun h2 => ok ((xorOk_iff key cnt nonce s).2 ⟨(chaOk_iff key cnt nonce).1 h1, h2⟩))
    · exact xor_no1 key cnt nonce s w (by simpa using h1)
end Go.Proofs.Cd
