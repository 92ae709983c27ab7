/-
  The document's own answer: ChaCha20's Block and Xor at every input.
-/
import Derived.Test.YtdmkfbdfjhaglaaChaE
namespace Go.Proofs.Cha
open Go.RowKit
/-- P6.1's form; P6.2's. -/
def chaOk (key : ByteArray) (cnt : Int) (nonce : ByteArray) : Bool := decide (key.size = 32) && (decide (0 ≤ cnt) && (decide (cnt ≤ 4294967295) && decide (nonce.size = 12)))
def xorOk (key : ByteArray) (cnt : Int) (nonce s : ByteArray) : Bool := chaOk key cnt nonce && decide (s.size ≤ 65536)
def blkS (key : ByteArray) (cnt : Int) (nonce : ByteArray) : ByteArray := bif chaOk key cnt nonce then chaS key cnt.toNat nonce else ⟨#[]⟩
def blkE (key : ByteArray) (cnt : Int) (nonce : ByteArray) : Int := bif chaOk key cnt nonce then 0 else 600
def xorS (key : ByteArray) (cnt : Int) (nonce s : ByteArray) : ByteArray := bif xorOk key cnt nonce s then strS key cnt.toNat nonce s else ⟨#[]⟩
def xorE (key : ByteArray) (cnt : Int) (nonce s : ByteArray) : Int := bif xorOk key cnt nonce s then 0 else 600
theorem chaOk_iff (key : ByteArray) (cnt : Int) (nonce : ByteArray) : chaOk key cnt nonce = true ↔ key.size = 32 ∧ 0 ≤ cnt ∧ cnt ≤ 4294967295 ∧ nonce.size = 12 := by unfold chaOk; simp
theorem xorOk_iff (key : ByteArray) (cnt : Int) (nonce s : ByteArray) : xorOk key cnt nonce s = true ↔ (key.size = 32 ∧ 0 ≤ cnt ∧ cnt ≤ 4294967295 ∧ nonce.size = 12) ∧ s.size ≤ 65536 := by unfold xorOk; rw [Bool.and_eq_true, chaOk_iff]; simp
set_option maxHeartbeats 1000000 in
theorem rblk_no0 (key : ByteArray) (cnt : Int) (nonce : ByteArray) (w : World) (h1 : ¬ key.size = 32) :
    Calls Try.prog 8 #[.string key, .int .i64 cnt, .string nonce] w fun e w' => e = .returned (.tuple #[.string ⟨#[]⟩, .int .i64 600]) ∧ Below w.heap.size w w' := by
  have e1 : ((key.size : Int) == 32) = false := by simp; omega
  have n1 : ((key.size : Int) != 32) = true := by simp; omega
  clear h1
  go_enter Try.func8, Try.ntmps8
  go_wp2_with (fail)
  go_ret2
  exact ⟨rfl, Below.refl _ _⟩
set_option maxHeartbeats 1000000 in
theorem rblk_no1 (key : ByteArray) (cnt : Int) (nonce : ByteArray) (w : World) (h1 : key.size = 32) (h2 : cnt < 0) :
    Calls Try.prog 8 #[.string key, .int .i64 cnt, .string nonce] w fun e w' => e = .returned (.tuple #[.string ⟨#[]⟩, .int .i64 600]) ∧ Below w.heap.size w w' := by
  have e1 : ((key.size : Int) == 32) = true := by simp; omega
  have n1 : ((key.size : Int) != 32) = false := by simp; omega
  have e2 : (cnt < 0) = True := eq_true h2
  clear h1
  clear h2
  go_enter Try.func8, Try.ntmps8
  go_wp2_with (fail)
  go_ret2
  exact ⟨rfl, Below.refl _ _⟩
set_option maxHeartbeats 1000000 in
theorem rblk_no2 (key : ByteArray) (cnt : Int) (nonce : ByteArray) (w : World) (h1 : key.size = 32) (h2 : 0 ≤ cnt) (h3 : 4294967295 < cnt) :
    Calls Try.prog 8 #[.string key, .int .i64 cnt, .string nonce] w fun e w' => e = .returned (.tuple #[.string ⟨#[]⟩, .int .i64 600]) ∧ Below w.heap.size w w' := by
  have e1 : ((key.size : Int) == 32) = true := by simp; omega
  have n1 : ((key.size : Int) != 32) = false := by simp; omega
  have e2 : (cnt < 0) = False := eq_false (Int.not_lt.2 h2)
  have e3 : ((4294967295 : Int) < cnt) = True := eq_true h3
  clear h1
  clear h2
  clear h3
  go_enter Try.func8, Try.ntmps8
  go_wp2_with (fail)
  go_ret2
  exact ⟨rfl, Below.refl _ _⟩
set_option maxHeartbeats 1000000 in
theorem rblk_no3 (key : ByteArray) (cnt : Int) (nonce : ByteArray) (w : World) (h1 : key.size = 32) (h2 : 0 ≤ cnt) (h3 : cnt ≤ 4294967295) (h4 : ¬ nonce.size = 12) :
    Calls Try.prog 8 #[.string key, .int .i64 cnt, .string nonce] w fun e w' => e = .returned (.tuple #[.string ⟨#[]⟩, .int .i64 600]) ∧ Below w.heap.size w w' := by
  have e1 : ((key.size : Int) == 32) = true := by simp; omega
  have n1 : ((key.size : Int) != 32) = false := by simp; omega
  have e2 : (cnt < 0) = False := eq_false (Int.not_lt.2 h2)
  have e3 : ((4294967295 : Int) < cnt) = False := eq_false (Int.not_lt.2 h3)
  have e4 : ((nonce.size : Int) == 12) = false := by simp; omega
  have n4 : ((nonce.size : Int) != 12) = true := by simp; omega
  clear h1
  clear h2
  clear h3
  clear h4
  go_enter Try.func8, Try.ntmps8
  go_wp2_with (fail)
  go_ret2
  exact ⟨rfl, Below.refl _ _⟩
set_option maxHeartbeats 1000000 in
theorem rblk_ok (key : ByteArray) (cnt : Int) (nonce : ByteArray) (w : World) (h1 : key.size = 32) (h2 : 0 ≤ cnt) (h3 : cnt ≤ 4294967295) (h4 : nonce.size = 12) :
    Calls Try.prog 8 #[.string key, .int .i64 cnt, .string nonce] w fun e w' => e = .returned (.tuple #[.string (chaS key cnt.toNat nonce), .int .i64 0]) ∧ Below w.heap.size w w' := by
  have e1 : ((key.size : Int) == 32) = true := by simp; omega
  have n1 : ((key.size : Int) != 32) = false := by simp; omega
  have e2 : (cnt < 0) = False := eq_false (Int.not_lt.2 h2)
  have e3 : ((4294967295 : Int) < cnt) = False := eq_false (Int.not_lt.2 h3)
  have e4 : ((nonce.size : Int) == 12) = true := by simp; omega
  have n4 : ((nonce.size : Int) != 12) = false := by simp; omega
  obtain ⟨n, hn⟩ : ∃ n : Nat, cnt = (n : Int) := ⟨cnt.toNat, by omega⟩
  subst hn
  rw [Int.toNat_natCast]
  have HN : Hid (n < 4294967296) := by show n < 4294967296; omega
  have q1 : (n : Int) % 4294967296 = (n : Int) := by omega
  have HK := Lib.hid h1
  have HO := Lib.hid h4
  clear h1 h2 h3 h4
  go_enter Try.func8, Try.ntmps8
  go_wp2_with (go_at_call 16; refine (chacha_any key n nonce _ HK.out HO.out HN.out).mono ?_; rintro e u ⟨rfl, hb⟩)
  go_ret2
  exact ⟨rfl, hb⟩
theorem rblk_any (key : ByteArray) (cnt : Int) (nonce : ByteArray) (w : World) :
    Calls Try.prog 8 #[.string key, .int .i64 cnt, .string nonce] w fun e w' => e = .returned (.tuple #[.string (blkS key cnt nonce), .int .i64 (blkE key cnt nonce)]) ∧ Below w.heap.size w w' := by
  by_cases ok : chaOk key cnt nonce = true
  · have h := (chaOk_iff key cnt nonce).1 ok
    rw [show (blkS key cnt nonce) = (chaS key cnt.toNat nonce) by unfold blkS; rw [ok]; rfl, show (blkE key cnt nonce) = 0 by unfold blkE; rw [ok]; rfl]
    exact rblk_ok key cnt nonce w h.1 h.2.1 h.2.2.1 h.2.2.2
  · have n : ¬ (key.size = 32 ∧ 0 ≤ cnt ∧ cnt ≤ 4294967295 ∧ nonce.size = 12) := fun h => ok ((chaOk_iff key cnt nonce).2 h)
    have ok' : chaOk key cnt nonce = false := by simpa using ok
    rw [show (blkS key cnt nonce) = ⟨#[]⟩ by unfold blkS; rw [ok']; rfl, show (blkE key cnt nonce) = 600 by unfold blkE; rw [ok']; rfl]
    by_cases h1 : key.size = 32
    · by_cases h2 : cnt < 0
      · exact rblk_no1 key cnt nonce w h1 h2
      · by_cases h3 : 4294967295 < cnt
        · exact rblk_no2 key cnt nonce w h1 (by omega) h3
        · by_cases h4 : nonce.size = 12
          · omega
          · exact rblk_no3 key cnt nonce w h1 (by omega) (by omega) h4
    · exact rblk_no0 key cnt nonce w h1
set_option maxHeartbeats 1000000 in
theorem rxor_no0 (key : ByteArray) (cnt : Int) (nonce s : ByteArray) (w : World) (h1 : ¬ key.size = 32) :
    Calls Try.prog 10 #[.string key, .int .i64 cnt, .string nonce, .string s] w fun e w' => e = .returned (.tuple #[.string ⟨#[]⟩, .int .i64 600]) ∧ Below w.heap.size w w' := by
  have e1 : ((key.size : Int) == 32) = false := by simp; omega
  have n1 : ((key.size : Int) != 32) = true := by simp; omega
  clear h1
  go_enter Try.func10, Try.ntmps10
  go_wp2_with (fail)
  go_ret2
  exact ⟨rfl, Below.refl _ _⟩
set_option maxHeartbeats 1000000 in
theorem rxor_no1 (key : ByteArray) (cnt : Int) (nonce s : ByteArray) (w : World) (h1 : key.size = 32) (h2 : cnt < 0) :
    Calls Try.prog 10 #[.string key, .int .i64 cnt, .string nonce, .string s] w fun e w' => e = .returned (.tuple #[.string ⟨#[]⟩, .int .i64 600]) ∧ Below w.heap.size w w' := by
  have e1 : ((key.size : Int) == 32) = true := by simp; omega
  have n1 : ((key.size : Int) != 32) = false := by simp; omega
  have e2 : (cnt < 0) = True := eq_true h2
  clear h1
  clear h2
  go_enter Try.func10, Try.ntmps10
  go_wp2_with (fail)
  go_ret2
  exact ⟨rfl, Below.refl _ _⟩
set_option maxHeartbeats 1000000 in
theorem rxor_no2 (key : ByteArray) (cnt : Int) (nonce s : ByteArray) (w : World) (h1 : key.size = 32) (h2 : 0 ≤ cnt) (h3 : 4294967295 < cnt) :
    Calls Try.prog 10 #[.string key, .int .i64 cnt, .string nonce, .string s] w fun e w' => e = .returned (.tuple #[.string ⟨#[]⟩, .int .i64 600]) ∧ Below w.heap.size w w' := by
  have e1 : ((key.size : Int) == 32) = true := by simp; omega
  have n1 : ((key.size : Int) != 32) = false := by simp; omega
  have e2 : (cnt < 0) = False := eq_false (Int.not_lt.2 h2)
  have e3 : ((4294967295 : Int) < cnt) = True := eq_true h3
  clear h1
  clear h2
  clear h3
  go_enter Try.func10, Try.ntmps10
  go_wp2_with (fail)
  go_ret2
  exact ⟨rfl, Below.refl _ _⟩
set_option maxHeartbeats 1000000 in
theorem rxor_no3 (key : ByteArray) (cnt : Int) (nonce s : ByteArray) (w : World) (h1 : key.size = 32) (h2 : 0 ≤ cnt) (h3 : cnt ≤ 4294967295) (h4 : ¬ nonce.size = 12) :
    Calls Try.prog 10 #[.string key, .int .i64 cnt, .string nonce, .string s] w fun e w' => e = .returned (.tuple #[.string ⟨#[]⟩, .int .i64 600]) ∧ Below w.heap.size w w' := by
  have e1 : ((key.size : Int) == 32) = true := by simp; omega
  have n1 : ((key.size : Int) != 32) = false := by simp; omega
  have e2 : (cnt < 0) = False := eq_false (Int.not_lt.2 h2)
  have e3 : ((4294967295 : Int) < cnt) = False := eq_false (Int.not_lt.2 h3)
  have e4 : ((nonce.size : Int) == 12) = false := by simp; omega
  have n4 : ((nonce.size : Int) != 12) = true := by simp; omega
  clear h1
  clear h2
  clear h3
  clear h4
  go_enter Try.func10, Try.ntmps10
  go_wp2_with (fail)
  go_ret2
  exact ⟨rfl, Below.refl _ _⟩
set_option maxHeartbeats 1000000 in
theorem rxor_no4 (key : ByteArray) (cnt : Int) (nonce s : ByteArray) (w : World) (h1 : key.size = 32) (h2 : 0 ≤ cnt) (h3 : cnt ≤ 4294967295) (h4 : nonce.size = 12) (h5 : 65536 < s.size) :
    Calls Try.prog 10 #[.string key, .int .i64 cnt, .string nonce, .string s] w fun e w' => e = .returned (.tuple #[.string ⟨#[]⟩, .int .i64 600]) ∧ Below w.heap.size w w' := by
  have e1 : ((key.size : Int) == 32) = true := by simp; omega
  have n1 : ((key.size : Int) != 32) = false := by simp; omega
  have e2 : (cnt < 0) = False := eq_false (Int.not_lt.2 h2)
  have e3 : ((4294967295 : Int) < cnt) = False := eq_false (Int.not_lt.2 h3)
  have e4 : ((nonce.size : Int) == 12) = true := by simp; omega
  have n4 : ((nonce.size : Int) != 12) = false := by simp; omega
  have e5 : ((65536 : Int) < (s.size : Int)) = True := eq_true (by omega)
  clear h1
  clear h2
  clear h3
  clear h4
  clear h5
  go_enter Try.func10, Try.ntmps10
  go_wp2_with (fail)
  go_ret2
  exact ⟨rfl, Below.refl _ _⟩
set_option maxHeartbeats 1000000 in
theorem rxor_ok (key : ByteArray) (cnt : Int) (nonce s : ByteArray) (w : World) (h1 : key.size = 32) (h2 : 0 ≤ cnt) (h3 : cnt ≤ 4294967295) (h4 : nonce.size = 12) (h5 : s.size ≤ 65536) :
    Calls Try.prog 10 #[.string key, .int .i64 cnt, .string nonce, .string s] w fun e w' => e = .returned (.tuple #[.string (strS key cnt.toNat nonce s), .int .i64 0]) ∧ Below w.heap.size w w' := by
  have e1 : ((key.size : Int) == 32) = true := by simp; omega
  have n1 : ((key.size : Int) != 32) = false := by simp; omega
  have e2 : (cnt < 0) = False := eq_false (Int.not_lt.2 h2)
  have e3 : ((4294967295 : Int) < cnt) = False := eq_false (Int.not_lt.2 h3)
  have e4 : ((nonce.size : Int) == 12) = true := by simp; omega
  have n4 : ((nonce.size : Int) != 12) = false := by simp; omega
  have e5 : ((65536 : Int) < (s.size : Int)) = False := eq_false (by omega)
  obtain ⟨n, hn⟩ : ∃ n : Nat, cnt = (n : Int) := ⟨cnt.toNat, by omega⟩
  subst hn
  rw [Int.toNat_natCast]
  have HN : Hid (n < 4294967296) := by show n < 4294967296; omega
  have q1 : (n : Int) % 4294967296 = (n : Int) := by omega
  have HK := Lib.hid h1
  have HO := Lib.hid h4
  have HS : Hid (s.size ≤ 100000) := by show s.size ≤ 100000; omega
  clear h1 h2 h3 h4 h5
  go_enter Try.func10, Try.ntmps10
  go_wp2_with (go_at_call 18; refine (stream_any key n nonce s _ HK.out HO.out HN.out HS.out).mono ?_; rintro e u ⟨rfl, hb⟩)
  go_ret2
  exact ⟨rfl, hb⟩
theorem rxor_any (key : ByteArray) (cnt : Int) (nonce s : ByteArray) (w : World) :
    Calls Try.prog 10 #[.string key, .int .i64 cnt, .string nonce, .string s] w fun e w' => e = .returned (.tuple #[.string (xorS key cnt nonce s), .int .i64 (xorE key cnt nonce s)]) ∧ Below w.heap.size w w' := by
  by_cases ok : xorOk key cnt nonce s = true
  · have h := (xorOk_iff key cnt nonce s).1 ok
    rw [show (xorS key cnt nonce s) = (strS key cnt.toNat nonce s) by unfold xorS; rw [ok]; rfl, show (xorE key cnt nonce s) = 0 by unfold xorE; rw [ok]; rfl]
    exact rxor_ok key cnt nonce s w h.1.1 h.1.2.1 h.1.2.2.1 h.1.2.2.2 h.2
  · have n : ¬ ((key.size = 32 ∧ 0 ≤ cnt ∧ cnt ≤ 4294967295 ∧ nonce.size = 12) ∧ s.size ≤ 65536) := fun h => ok ((xorOk_iff key cnt nonce s).2 h)
    have ok' : xorOk key cnt nonce s = false := by simpa using ok
    rw [show (xorS key cnt nonce s) = ⟨#[]⟩ by unfold xorS; rw [ok']; rfl, show (xorE key cnt nonce s) = 600 by unfold xorE; rw [ok']; rfl]
    by_cases h1 : key.size = 32
    · by_cases h2 : cnt < 0
      · exact rxor_no1 key cnt nonce s w h1 h2
      · by_cases h3 : 4294967295 < cnt
        · exact rxor_no2 key cnt nonce s w h1 (by omega) h3
        · by_cases h4 : nonce.size = 12
          · exact rxor_no4 key cnt nonce s w h1 (by omega) (by omega) h4 (by omega)
          · exact rxor_no3 key cnt nonce s w h1 (by omega) (by omega) h4
    · exact rxor_no0 key cnt nonce s w h1
end Go.Proofs.Cha
