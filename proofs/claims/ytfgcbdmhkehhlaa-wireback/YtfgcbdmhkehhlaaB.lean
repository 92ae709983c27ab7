/-
  Contracts of package wire's calls: U8 to U32, Vec, Put, PutVec; strings.Clone.
-/
import Derived.Test.YtfgcbdmhkehhlaaA
import Derived.Lib.UnsafeStr
import Derived.Lib.Hide
import Derived.Lib.BufferWrite
import Derived.Laws.MakeOwn
namespace Go.Proofs.Ytfgcbdmhkehhlaa
open Go.RowKit

set_option maxHeartbeats 1000000 in
set_option maxRecDepth 100000 in
/-- Clone: the same bytes; nothing that was there has turned. -/
theorem clone_inner (s : ByteArray) (w : World) (hlim : s.size ≤ 281474976710656) :
    Calls Try.prog 29 #[.string s] w fun e w' => e = .returned (.string s) ∧ Below w.heap.size w w' := by
  by_cases h0 : s.size = 0
  · obtain rfl : s = ⟨#[]⟩ := ByteArray.ext (Array.eq_empty_of_size_eq_zero h0)
    go_enter Try.func29, Try.ntmps29
    go_wp2
    go_ret
    exact ⟨rfl, Below.refl _ _⟩
  · obtain ⟨i0, hi, hz0, hz1, hz2⟩ := info_parts (P := Try.prog) (e := 5) (z := .int .u8 0) (size := 1) (bytes := 1) (by kernel_rfl)
    have hinfo : (Try.prog.info? 5).map (·.size) = some 1 := by rw [hi, Option.map_some, hz1]
    obtain ⟨M, hMs, hmk⟩ : ∃ M : Array Value, M.size = s.size ∧ ∀ W : World, (Instr.makeSlice 44 (.int .i64 (s.size : Int)) (.int .i64 (s.size : Int))).run Try.prog W = .ok (.slice (some ⟨W.heap.size, 0, none⟩) s.size s.size) (W.alloc (.cells M 5)) := by
      refine ⟨madeCells (Value.int .u8 0).cells (s.size * i0.size), by rw [size_madeCells, hz1]; simp, fun W => ?_⟩
      have h := run_make (P := Try.prog) W 44 5 i0 (.int .u8 0) Try.underlying44 hi hz0 .i64 .i64 (s.size : Int) (s.size : Int) (by omega) (by omega) (by rw [hz2]; omega) (by omega)
      rw [Int.toNat_natCast] at h
      exact h
    have hrow := heap_alloc_new w (.cells M 5)
    have hcp := Lib.run_copy_row_string (P := Try.prog) (w.alloc (.cells M 5)) 44 9 3 5 w.heap.size 0 s.size s.size s M 5 Try.underlying44 hinfo hrow (Nat.le_refl _) (by omega)
    obtain ⟨Y, hYl, hcp2⟩ : ∃ Y : Array Value, Y.toList = Lib.byteCells s.data.toList ∧ (Builtin.copy_ #[44, 9] 3 #[.slice (some ⟨w.heap.size, 0, none⟩) s.size s.size, .string s]).run Try.prog (w.alloc (.cells M 5)) = .ok (goInt s.size) ((w.alloc (.cells M 5)).setRow w.heap.size Y) := by
      refine ⟨_, ?_, hcp⟩
      rw [List.toList_toArray, List.take_zero, List.nil_append, List.drop_of_length_le (by rw [Array.length_toList]; omega), List.append_nil]
    clear hcp
    have hYs : Y.size = s.size := by rw [← Array.length_toList, hYl, Lib.byteCells_length, ← Lib.size_eq]
    have hrow2 : ((w.alloc (.cells M 5)).setRow w.heap.size Y).heap[w.heap.size]? = some (.cells Y 5 (0, 0)) := setRow_heap _ _ M _ 5 (0, 0) hrow
    have hne : s.data.toList ≠ [] := fun e => h0 (by rw [Lib.size_eq, e]; rfl)
    have hUS := Lib.run_unsafeString_row (P := Try.prog) ((w.alloc (.cells M 5)).setRow w.heap.size Y) 51 3 9 5 Try.underlying51 (by kernel_rfl) w.heap.size Y.size (by unfold World.shape?; rw [hrow2]) s.data.toList hne (by rw [← Lib.size_eq]; omega) (by rw [← Lib.size_eq]; omega)
      (fun j x hx => Lib.cells_of_row hrow2 Y.size j _ (by rw [List.take_of_length_le (by rw [Array.length_toList]; exact Nat.le_refl _), hYl]; simp [Lib.byteCells, hx]))
    rw [← Lib.size_eq] at hUS
    clear hinfo hi hz0 hz1 hz2 hrow hrow2 hYl
    go_enter Try.func29, Try.ntmps29
    go_wp2
    go_ret
    refine ⟨rfl, Lib.below_freeze (Below.trans ((Below.refl _ w).alloc (Nat.le_refl _) (.cells M 5)) ?_) (p := ⟨w.heap.size, 0, none⟩) (Nat.le_refl _) _⟩
    exact ⟨rfl, rfl, rfl, by simp, fun k hk => setRow_other _ _ _ _ (by omega)⟩

set_option maxHeartbeats 400000 in
theorem clone_any (s : ByteArray) (w : World) (hlim : s.size ≤ 281474976710656) :
    Calls Try.prog 25 #[.string s] w fun e w' => e = .returned (.string s) ∧ Below w.heap.size w w' := by
  go_enter Try.func25, Try.ntmps25
  go_wp2_with (go_at_call 29; refine (clone_inner _ _ hlim).mono ?_; rintro e w' ⟨rfl, hb⟩)
  go_ret
  exact ⟨rfl, hb⟩

set_option maxHeartbeats 400000 in
theorem u8_yes (s : ByteArray) (a : Int) (w : World) (hs : s.size ≤ maxLen) (h : holdsB s.size a 1 = true) :
    Calls Try.prog 9 #[.string s, .int .i64 a] w fun e w' => e = .returned (.tuple #[.int .i64 (numV s a.toNat 1 : Nat), .int .i64 (a + 1), .int .i64 0]) ∧ w = w' := by
  go_enter Try.func9, Try.ntmps9
  go_wp2_with (go_at_call 22; refine (number_yes s a 1 _ hs (by omega) (by omega) h).mono ?_; rintro e w' ⟨rfl, rfl⟩)
  go_ret3
  exact ⟨rfl, rfl⟩
set_option maxHeartbeats 400000 in
theorem u8_no (s : ByteArray) (a : Int) (w : World) (hs : s.size ≤ maxLen) (h : holdsB s.size a 1 = false) :
    Calls Try.prog 9 #[.string s, .int .i64 a] w fun e w' => e = .returned (.tuple #[.int .i64 0, .int .i64 0, .int .i64 100]) ∧ w = w' := by
  go_enter Try.func9, Try.ntmps9
  go_wp2_with (go_at_call 22; refine (number_no s a 1 _ hs h).mono ?_; rintro e w' ⟨rfl, rfl⟩)
  go_ret3
  exact ⟨rfl, rfl⟩

set_option maxHeartbeats 400000 in
theorem u16_yes (s : ByteArray) (a : Int) (w : World) (hs : s.size ≤ maxLen) (h : holdsB s.size a 2 = true) :
    Calls Try.prog 10 #[.string s, .int .i64 a] w fun e w' => e = .returned (.tuple #[.int .i64 (numV s a.toNat 2 : Nat), .int .i64 (a + 2), .int .i64 0]) ∧ w = w' := by
  go_enter Try.func10, Try.ntmps10
  go_wp2_with (go_at_call 22; refine (number_yes s a 2 _ hs (by omega) (by omega) h).mono ?_; rintro e w' ⟨rfl, rfl⟩)
  go_ret3
  exact ⟨rfl, rfl⟩
set_option maxHeartbeats 400000 in
theorem u16_no (s : ByteArray) (a : Int) (w : World) (hs : s.size ≤ maxLen) (h : holdsB s.size a 2 = false) :
    Calls Try.prog 10 #[.string s, .int .i64 a] w fun e w' => e = .returned (.tuple #[.int .i64 0, .int .i64 0, .int .i64 100]) ∧ w = w' := by
  go_enter Try.func10, Try.ntmps10
  go_wp2_with (go_at_call 22; refine (number_no s a 2 _ hs h).mono ?_; rintro e w' ⟨rfl, rfl⟩)
  go_ret3
  exact ⟨rfl, rfl⟩

set_option maxHeartbeats 400000 in
theorem u24_yes (s : ByteArray) (a : Int) (w : World) (hs : s.size ≤ maxLen) (h : holdsB s.size a 3 = true) :
    Calls Try.prog 11 #[.string s, .int .i64 a] w fun e w' => e = .returned (.tuple #[.int .i64 (numV s a.toNat 3 : Nat), .int .i64 (a + 3), .int .i64 0]) ∧ w = w' := by
  go_enter Try.func11, Try.ntmps11
  go_wp2_with (go_at_call 22; refine (number_yes s a 3 _ hs (by omega) (by omega) h).mono ?_; rintro e w' ⟨rfl, rfl⟩)
  go_ret3
  exact ⟨rfl, rfl⟩
set_option maxHeartbeats 400000 in
theorem u24_no (s : ByteArray) (a : Int) (w : World) (hs : s.size ≤ maxLen) (h : holdsB s.size a 3 = false) :
    Calls Try.prog 11 #[.string s, .int .i64 a] w fun e w' => e = .returned (.tuple #[.int .i64 0, .int .i64 0, .int .i64 100]) ∧ w = w' := by
  go_enter Try.func11, Try.ntmps11
  go_wp2_with (go_at_call 22; refine (number_no s a 3 _ hs h).mono ?_; rintro e w' ⟨rfl, rfl⟩)
  go_ret3
  exact ⟨rfl, rfl⟩

set_option maxHeartbeats 400000 in
theorem u32_yes (s : ByteArray) (a : Int) (w : World) (hs : s.size ≤ maxLen) (h : holdsB s.size a 4 = true) :
    Calls Try.prog 12 #[.string s, .int .i64 a] w fun e w' => e = .returned (.tuple #[.int .i64 (numV s a.toNat 4 : Nat), .int .i64 (a + 4), .int .i64 0]) ∧ w = w' := by
  go_enter Try.func12, Try.ntmps12
  go_wp2_with (go_at_call 22; refine (number_yes s a 4 _ hs (by omega) (by omega) h).mono ?_; rintro e w' ⟨rfl, rfl⟩)
  go_ret3
  exact ⟨rfl, rfl⟩
set_option maxHeartbeats 400000 in
theorem u32_no (s : ByteArray) (a : Int) (w : World) (hs : s.size ≤ maxLen) (h : holdsB s.size a 4 = false) :
    Calls Try.prog 12 #[.string s, .int .i64 a] w fun e w' => e = .returned (.tuple #[.int .i64 0, .int .i64 0, .int .i64 100]) ∧ w = w' := by
  go_enter Try.func12, Try.ntmps12
  go_wp2_with (go_at_call 22; refine (number_no s a 4 _ hs h).mono ?_; rintro e w' ⟨rfl, rfl⟩)
  go_ret3
  exact ⟨rfl, rfl⟩

set_option maxHeartbeats 400000 in
theorem vec_long (s : ByteArray) (a k : Int) (w : World) (hk : k < 1 ∨ 3 < k) :
    Calls Try.prog 13 #[.string s, .int .i64 a, .int .i64 k] w fun e w' => e = .returned (.tuple #[.string ⟨#[]⟩, .int .i64 0, .int .i64 101]) ∧ w = w' := by
  rcases hk with hk | hk
  · have h1 : ¬ 1 ≤ k := by omega
    go_enter Try.func13, Try.ntmps13
    go_wp2
    go_ret3
    exact ⟨rfl, rfl⟩
  · have h1 : 1 ≤ k := by omega
    have h2 : ¬ k ≤ 3 := by omega
    go_enter Try.func13, Try.ntmps13
    go_wp2
    go_ret3
    exact ⟨rfl, rfl⟩
set_option maxHeartbeats 400000 in
theorem vec_cut (s : ByteArray) (a k : Int) (w : World) (hs : s.size ≤ maxLen) (h1 : 1 ≤ k) (h3 : k ≤ 3) (h : holdsB s.size a k = false) :
    Calls Try.prog 13 #[.string s, .int .i64 a, .int .i64 k] w fun e w' => e = .returned (.tuple #[.string ⟨#[]⟩, .int .i64 0, .int .i64 100]) ∧ w = w' := by
  go_enter Try.func13, Try.ntmps13
  go_wp2_with (first | (go_at_call 22; refine (number_no s a k _ hs h).mono ?_; rintro e w' ⟨rfl, rfl⟩) | go_in)
  go_ret3
  exact ⟨rfl, rfl⟩
set_option maxHeartbeats 400000 in
theorem vec_short (s : ByteArray) (a k : Int) (w : World) (hs : s.size ≤ maxLen) (h1 : 1 ≤ k) (h3 : k ≤ 3) (h : holdsB s.size a k = true) (hb : holdsB s.size (a + k) (numV s a.toNat k.toNat : Nat) = false) :
    Calls Try.prog 13 #[.string s, .int .i64 a, .int .i64 k] w fun e w' => e = .returned (.tuple #[.string ⟨#[]⟩, .int .i64 0, .int .i64 100]) ∧ w = w' := by
  go_enter Try.func13, Try.ntmps13
  go_wp2_with (first | (go_at_call 22; refine (number_yes s a k _ hs (by omega) (by omega) h).mono ?_; rintro e w' ⟨rfl, rfl⟩) | (go_at_call 24; refine (holds_any s _ _ _ hs).mono ?_; rintro e w' ⟨rfl, rfl⟩) | go_in)
  go_ret3
  exact ⟨rfl, rfl⟩
set_option maxHeartbeats 400000 in
theorem vec_yes (s : ByteArray) (a k : Int) (w : World) (hs : s.size ≤ maxLen) (h1 : 1 ≤ k) (h3 : k ≤ 3) (h : holdsB s.size a k = true) (hb : holdsB s.size (a + k) (numV s a.toNat k.toNat : Nat) = true) :
    Calls Try.prog 13 #[.string s, .int .i64 a, .int .i64 k] w fun e w' => e = .returned (.tuple #[.string (s.extract (a + k).toNat ((a + k).toNat + numV s a.toNat k.toNat)), .int .i64 (a + k + (numV s a.toNat k.toNat : Nat)), .int .i64 0]) ∧ Below w.heap.size w w' := by
  have HN : Hid (∀ w, Calls Try.prog 22 #[.string s, .int .i64 a, .int .i64 k] w fun e w' => e = .returned (.tuple #[.int .i64 (numV s a.toNat k.toNat : Nat), .int .i64 (a + k), .int .i64 0]) ∧ w = w') :=
    fun w => number_yes s a k w hs h1 (by omega) h
  have hlim : numV s a.toNat k.toNat < 256 ^ 3 := Nat.lt_of_lt_of_le (numV_lt _ _ _) (Nat.pow_le_pow_right (by omega) (by omega))
  simp at hlim
  generalize numV s a.toNat k.toNat = m at HN hb hlim ⊢
  have hb1 : 0 ≤ a + k ∧ a + k ≤ s.size ∧ (m : Int) ≤ s.size - (a + k) := by simpa [holdsB] using hb
  obtain ⟨b1, b2, b3⟩ := hb1
  clear h
  have hs2 : s.size ≤ 9223372036854775807 := by unfold maxLen at hs; omega
  obtain ⟨n, hn⟩ : ∃ n : Nat, a + k = n := ⟨(a + k).toNat, by omega⟩
  obtain rfl : a = n - k := by omega
  clear hn
  have b4 : (n : Int) - k + k = n := by omega
  rw [b4] at hb b2 b3 b1 HN ⊢
  clear b4
  go_enter Try.func13, Try.ntmps13
  go_wp2_with (first | (go_at_call 22; refine (HN.out _).mono ?_; rintro e w' ⟨rfl, rfl⟩) | (go_at_call 24; refine (holds_any s _ _ _ hs).mono ?_; rintro e w' ⟨rfl, rfl⟩) | (go_at_call 23; go_in))
  refine (clone_any _ _ (by rw [ByteArray.size_extract]; omega)).mono ?_
  rintro e w' ⟨rfl, hbel⟩
  go_wp2
  go_ret3
  exact ⟨rfl, hbel⟩

theorem ret2 {a b : Value} {a' b' : Value} (h : a = a') (h2 : b = b') : Ending.returned (.tuple #[a, b]) = .returned (.tuple #[a', b']) := by rw [h, h2]

theorem digits_any (x k : Int) (w : World) (h1 : 1 ≤ k) (h4 : k ≤ 4) (h0 : 0 ≤ x) (hx : x.toNat < 256 ^ k.toNat) :
    Calls Try.prog 27 #[.int .i64 x, .int .i64 k] w fun e w' => e = .returned (.string (beS x.toNat k.toNat)) ∧ Below w.heap.size w w' := by
  obtain ⟨n, rfl⟩ := Int.eq_ofNat_of_zero_le h0
  rw [Int.toNat_natCast] at *
  have hk : k = 1 ∨ k = 2 ∨ k = 3 ∨ k = 4 := by omega
  rcases hk with rfl | rfl | rfl | rfl
  · exact digits_1 n w (by simpa using hx)
  · exact digits_2 n w (by simpa using hx)
  · exact digits_3 n w (by simpa using hx)
  · exact digits_4 n w (by simpa using hx)

/-- x fits into k bytes. -/
def fitsB (x k : Int) : Bool := decide (1 ≤ k ∧ k ≤ 4 ∧ 0 ≤ x ∧ x < 256 ^ k.toNat)

set_option maxHeartbeats 400000 in
theorem put_1 (n : Nat) (w : World) (hx : n < 256) :
    Calls Try.prog 18 #[.int .i64 n, .int .i64 1] w fun e w' => e = .returned (.tuple #[.string (beS n 1), .int .i64 0]) ∧ Below w.heap.size w w' := by
  have hd := Lib.hid (digits_1 n w hx)
  have hc : (n : Int) ≤ 255 := by omega
  clear hx
  go_enter Try.func18, Try.ntmps18
  go_wp2_with (first | (go_at_call 27; refine hd.out.mono ?_; rintro e w' ⟨rfl, hbel⟩) | (go_at_call 26; go_in))
  go_ret2
  exact ⟨rfl, hbel⟩
set_option maxHeartbeats 400000 in
theorem put_2 (n : Nat) (w : World) (hx : n < 65536) :
    Calls Try.prog 18 #[.int .i64 n, .int .i64 2] w fun e w' => e = .returned (.tuple #[.string (beS n 2), .int .i64 0]) ∧ Below w.heap.size w w' := by
  have hd := Lib.hid (digits_2 n w hx)
  have hc : (n : Int) ≤ 65535 := by omega
  clear hx
  go_enter Try.func18, Try.ntmps18
  go_wp2_with (first | (go_at_call 27; refine hd.out.mono ?_; rintro e w' ⟨rfl, hbel⟩) | (go_at_call 26; go_in))
  go_ret2
  exact ⟨rfl, hbel⟩
set_option maxHeartbeats 400000 in
theorem put_3 (n : Nat) (w : World) (hx : n < 16777216) :
    Calls Try.prog 18 #[.int .i64 n, .int .i64 3] w fun e w' => e = .returned (.tuple #[.string (beS n 3), .int .i64 0]) ∧ Below w.heap.size w w' := by
  have hd := Lib.hid (digits_3 n w hx)
  have hc : (n : Int) ≤ 16777215 := by omega
  clear hx
  go_enter Try.func18, Try.ntmps18
  go_wp2_with (first | (go_at_call 27; refine hd.out.mono ?_; rintro e w' ⟨rfl, hbel⟩) | (go_at_call 26; go_in))
  go_ret2
  exact ⟨rfl, hbel⟩
set_option maxHeartbeats 400000 in
theorem put_4 (n : Nat) (w : World) (hx : n < 4294967296) :
    Calls Try.prog 18 #[.int .i64 n, .int .i64 4] w fun e w' => e = .returned (.tuple #[.string (beS n 4), .int .i64 0]) ∧ Below w.heap.size w w' := by
  have hd := Lib.hid (digits_4 n w hx)
  have hc : (n : Int) ≤ 4294967295 := by omega
  clear hx
  go_enter Try.func18, Try.ntmps18
  go_wp2_with (first | (go_at_call 27; refine hd.out.mono ?_; rintro e w' ⟨rfl, hbel⟩) | (go_at_call 26; go_in))
  go_ret2
  exact ⟨rfl, hbel⟩
theorem put_yes (x k : Int) (w : World) (h : fitsB x k = true) :
    Calls Try.prog 18 #[.int .i64 x, .int .i64 k] w fun e w' => e = .returned (.tuple #[.string (beS x.toNat k.toNat), .int .i64 0]) ∧ Below w.heap.size w w' := by
  have hh : 1 ≤ k ∧ k ≤ 4 ∧ 0 ≤ x ∧ x < 256 ^ k.toNat := by simpa [fitsB] using h
  obtain ⟨h1, h4, h0, hx⟩ := hh
  obtain ⟨n, rfl⟩ := Int.eq_ofNat_of_zero_le h0
  rw [Int.toNat_natCast]
  have hk : k = 1 ∨ k = 2 ∨ k = 3 ∨ k = 4 := by omega
  rcases hk with rfl | rfl | rfl | rfl
  · exact put_1 n w (by have := hx; simp at this; omega)
  · exact put_2 n w (by have := hx; simp at this; omega)
  · exact put_3 n w (by have := hx; simp at this; omega)
  · exact put_4 n w (by have := hx; simp at this; omega)
set_option maxHeartbeats 400000 in
theorem put_no (x k : Int) (w : World) (h : fitsB x k = false) :
    Calls Try.prog 18 #[.int .i64 x, .int .i64 k] w fun e w' => e = .returned (.tuple #[.string ⟨#[]⟩, .int .i64 101]) ∧ w = w' := by
  by_cases h1 : k < 1
  · clear h
    go_enter Try.func18, Try.ntmps18
    go_wp2
    go_ret2
    exact ⟨rfl, rfl⟩
  · by_cases h4 : 4 < k
    · clear h
      go_enter Try.func18, Try.ntmps18
      go_wp2
      go_ret2
      exact ⟨rfl, rfl⟩
    · by_cases h0 : x < 0
      · clear h
        go_enter Try.func18, Try.ntmps18
        go_wp2
        go_ret2
        exact ⟨rfl, rfl⟩
      · have hh : ¬ (x < 256 ^ k.toNat) := by
          intro hx
          have : fitsB x k = true := by simp [fitsB]; exact ⟨by omega, by omega, by omega, hx⟩
          rw [h] at this; cases this
        clear h
        have hk : k = 1 ∨ k = 2 ∨ k = 3 ∨ k = 4 := by omega
        rcases hk with rfl | rfl | rfl | rfl
        all_goals
          simp at hh
          go_enter Try.func18, Try.ntmps18
          go_wp2
          go_ret2
          exact ⟨rfl, rfl⟩
/-- A text of n bytes has a length of k bytes. -/
def lenB (n : Nat) (k : Int) : Bool := decide (1 ≤ k ∧ k ≤ 3 ∧ n < 256 ^ k.toNat)
set_option maxHeartbeats 400000 in
theorem putVec_yes (s : ByteArray) (k : Int) (w : World) (h : lenB s.size k = true) :
    Calls Try.prog 20 #[.string s, .int .i64 k] w fun e w' => e = .returned (.tuple #[.string (beS s.size k.toNat ++ s), .int .i64 0]) ∧ Below w.heap.size w w' := by
  have hh : 1 ≤ k ∧ k ≤ 3 ∧ s.size < 256 ^ k.toNat := by simpa [lenB] using h
  obtain ⟨h1, h3, hx⟩ := hh
  clear h
  have hk : k = 1 ∨ k = 2 ∨ k = 3 := by omega
  rcases hk with rfl | rfl | rfl
  all_goals
    simp at hx
    go_enter Try.func20, Try.ntmps20
    go_wp2_with (first | (go_at_call 26; go_in) | (go_at_call 23; go_in))
    refine (digits_any _ _ _ (by omega) (by omega) (by omega) (by simp; omega)).mono ?_
    rintro e w' ⟨rfl, hbel⟩
    have hz : ∀ x k, (beS x k).size = k := beS_size
    go_wp2
    go_ret2
    exact ⟨rfl, hbel⟩
set_option maxHeartbeats 400000 in
theorem putVec_no (s : ByteArray) (k : Int) (w : World) (h : lenB s.size k = false) :
    Calls Try.prog 20 #[.string s, .int .i64 k] w fun e w' => e = .returned (.tuple #[.string ⟨#[]⟩, .int .i64 101]) ∧ w = w' := by
  by_cases h1 : 1 ≤ k
  · by_cases h3 : k ≤ 3
    · have hh : ¬ (s.size < 256 ^ k.toNat) := by
        intro hx
        have : lenB s.size k = true := by simp [lenB]; exact ⟨by omega, by omega, hx⟩
        rw [h] at this; cases this
      clear h
      have hk : k = 1 ∨ k = 2 ∨ k = 3 := by omega
      rcases hk with rfl | rfl | rfl
      all_goals
        simp at hh
        go_enter Try.func20, Try.ntmps20
        go_wp2
        go_ret2
        exact ⟨rfl, rfl⟩
    · clear h
      go_enter Try.func20, Try.ntmps20
      go_wp2
      go_ret2
      exact ⟨rfl, rfl⟩
  · clear h
    go_enter Try.func20, Try.ntmps20
    go_wp2
    go_ret2
    exact ⟨rfl, rfl⟩
end Go.Proofs.Ytfgcbdmhkehhlaa
