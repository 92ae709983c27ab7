/-
  The document's own answer: Poly, texts filled up, the tag of a sealed text.
-/
import Derived.Test.YtljhenjbjondkaaGreatJoal
import Derived.Test.YtljhenjbjondkaaGreatJoaj
import Derived.Deep.RegionHeld3
import Derived.BigQuiet
import Derived.Deep.QuietTactic
import Derived.WalkKit
import Derived.WalkSpells
import Derived.PlainAid
import Derived.Lib.Hide
import Derived.Laws.BitsAllLaws
namespace Go.Proofs.Pol
open Go.RowKit
open Go.Proofs.Aes (byt byt_lt get_byt)
open Go.Proofs.Cha (chaS chaS_size strS strS_size chacha_any stream_any)
set_option maxHeartbeats 1000000 in
theorem rfilled_any (s : ByteArray) (w : World) (hs : s.size ≤ 140737488355328) :
    Calls Tryz.prog 59 #[.string s] w fun e w' => e = .returned (.string (fillS s)) ∧ Below w.heap.size w w' := by
  unfold fillS
  obtain ⟨k, hk⟩ : ∃ k, s.size % 16 = k := ⟨_, rfl⟩
  obtain ⟨m, hm⟩ : ∃ m, (16 - k) % 16 = m := ⟨_, rfl⟩
  rw [hk, hm]
  have m16 : m < 16 := by omega
  obtain ⟨M, hM, hMc, hmk⟩ := Lw.zeros m (by omega)
  have hcv := fun W => (Lw.rowB_new W M m hM hMc).text 0 m m (by omega)
  have HZ : Hid (Lw.pieceS (fun _ => 0) 0 m = zS m) := rfl
  rw [HZ.out] at hcv
  have z1 := zS_size m
  have q0 : (s.size : Int) % 16 = (k : Int) := by omega
  have q1 : (16 - (k : Int)) % 16 = (m : Int) := by omega
  have k16 : (k : Int) < 16 := by omega
  have q2 : ¬ 9223372036854775807 < s.size + m := by omega
  clear hMc hk hm hM HZ
  go_enter Tryz.func59, Tryz.ntmps59
  go_wp2_with (fail)
  go_ret
  exact ⟨rfl, (Below.refl _ _).alloc (Nat.le_refl _) _⟩
/-- The tag of a sealed text. -/
def pTagS (key nonce aad c : ByteArray) : ByteArray := macS ((chaS key 0 nonce).extract 0 32) (allS aad c)
theorem pTagS_size (key nonce aad c : ByteArray) : (pTagS key nonce aad c).size = 16 := macS_size _ _
set_option maxHeartbeats 4000000 in
theorem polyTag_any (key nonce aad c : ByteArray) (w : World) (hk : key.size = 32) (hno : nonce.size = 12) (ha : aad.size ≤ 100000) (hc : c.size ≤ 100000) :
    Calls Tryz.prog 34 #[.string key, .string nonce, .string aad, .string c] w fun e w' => e = .returned (.string (pTagS key nonce aad c)) ∧ Below w.heap.size w w' := by
  have H0 : Hid (∀ u : World, Below w.heap.size w u → Calls Tryz.prog 57 #[.string key, .int .u32 0, .string nonce] u fun e u' => e = .returned (.string (chaS key 0 nonce)) ∧ Below w.heap.size w u') := fun u hS => (chacha_any key 0 nonce u hk hno (by decide)).mono fun _ _ ⟨h1, h2⟩ => ⟨h1, Lw.go_on hS h2⟩
  have H1 : Hid (∀ u : World, Below w.heap.size w u → Calls Tryz.prog 59 #[.string aad] u fun e u' => e = .returned (.string (fillS aad)) ∧ Below w.heap.size w u') := fun u hS => (rfilled_any aad u (by omega)).mono fun _ _ ⟨h1, h2⟩ => ⟨h1, Lw.go_on hS h2⟩
  have H2 : Hid (∀ u : World, Below w.heap.size w u → Calls Tryz.prog 59 #[.string c] u fun e u' => e = .returned (.string (fillS c)) ∧ Below w.heap.size w u') := fun u hS => (rfilled_any c u (by omega)).mono fun _ _ ⟨h1, h2⟩ => ⟨h1, Lw.go_on hS h2⟩
  have H3 : Hid (∀ u : World, Below w.heap.size w u → Calls Tryz.prog 60 #[.int .i64 aad.size] u fun e u' => e = .returned (.string (litS aad.size)) ∧ Below w.heap.size w u') := fun u hS => (little_any aad.size u (by omega)).mono fun _ _ ⟨h1, h2⟩ => ⟨h1, Lw.go_on hS h2⟩
  have H4 : Hid (∀ u : World, Below w.heap.size w u → Calls Tryz.prog 60 #[.int .i64 c.size] u fun e u' => e = .returned (.string (litS c.size)) ∧ Below w.heap.size w u') := fun u hS => (little_any c.size u (by omega)).mono fun _ _ ⟨h1, h2⟩ => ⟨h1, Lw.go_on hS h2⟩
  have H5 : Hid (∀ u : World, Below w.heap.size w u → Calls Tryz.prog 58 #[.string ((chaS key 0 nonce).extract 0 32), .string (fillS aad ++ fillS c ++ litS aad.size ++ litS c.size)] u fun e u' => e = .returned (.string (pTagS key nonce aad c)) ∧ Below w.heap.size w u') := fun u hS =>
    (poly_any _ (allS aad c) u (by rw [ByteArray.size_extract, chaS_size]; rfl) (by unfold allS; rw [ByteArray.size_append, ByteArray.size_append, ByteArray.size_append, fillS_size, fillS_size, litS_size, litS_size]; omega)).mono fun _ _ ⟨h1, h2⟩ => ⟨h1, Lw.go_on hS h2⟩
  have zb := chaS_size key 0 nonce
  have z1 : (fillS aad).size ≤ 200000 := by rw [fillS_size]; omega
  have z2 : (fillS c).size ≤ 200000 := by rw [fillS_size]; omega
  have z3 := litS_size aad.size
  have z4 := litS_size c.size
  generalize pTagS key nonce aad c = TG at H5 ⊢
  generalize chaS key 0 nonce = B at H0 H5 zb
  generalize fillS aad = FA at H1 H5 z1
  generalize fillS c = FC at H2 H5 z2
  generalize litS aad.size = LA at H3 H5 z3
  generalize litS c.size = LC at H4 H5 z4
  obtain ⟨O, eO⟩ : ∃ O, B.extract 0 32 = O := ⟨_, rfl⟩
  obtain ⟨T1, e1⟩ : ∃ T, FA ++ FC = T := ⟨_, rfl⟩
  obtain ⟨T2, e2⟩ : ∃ T, T1 ++ LA = T := ⟨_, rfl⟩
  obtain ⟨T3, e3⟩ : ∃ T, T2 ++ LC = T := ⟨_, rfl⟩
  rw [eO, e1, e2, e3] at H5
  obtain ⟨na, hna⟩ : ∃ n, aad.size = n := ⟨_, rfl⟩
  obtain ⟨nc, hnc⟩ : ∃ n, c.size = n := ⟨_, rfl⟩
  rw [hna] at H3
  rw [hnc] at H4
  have y1 : T1.size = FA.size + FC.size := by rw [← e1, ByteArray.size_append]
  have y2 : T2.size = FA.size + FC.size + 8 := by rw [← e2, ByteArray.size_append, y1, z3]
  have q1 : ¬ 9223372036854775807 < FA.size + FC.size := by omega
  have q2 : ¬ 9223372036854775807 < FA.size + FC.size + 8 := by omega
  have q3 : ¬ 9223372036854775807 < FA.size + FC.size + 8 + 8 := by omega
  have hS0 : Below w.heap.size w w := Below.refl _ _
  have hSd : Below w.heap.size w w.drew := hS0.drew
  clear hk hno ha hc z1 z2
  go_enter Tryz.func34, Tryz.ntmps34
  go_upto_region 1 with (fail)
  go_region_held3 (fun w' => Below w.heap.size w w') (assumption)
    (first
      | (go_at_call 57; refine (H0.out _ (by assumption)).mono ?_; rintro e u0 ⟨rfl, hS1⟩)
      | (go_at_call_of 59 (Value.string aad); refine (H1.out _ (by assumption)).mono ?_; rintro e u1 ⟨rfl, hS2⟩)
      | (go_at_call_of 59 (Value.string c); refine (H2.out _ (by assumption)).mono ?_; rintro e u2 ⟨rfl, hS3⟩)
      | (go_at_call_of 60 (Value.int .i64 (na : Int)); refine (H3.out _ (by assumption)).mono ?_; rintro e u3 ⟨rfl, hS4⟩)
      | (go_at_call_of 60 (Value.int .i64 (nc : Int)); refine (H4.out _ (by assumption)).mono ?_; rintro e u4 ⟨rfl, hS5⟩)
      | (go_at_call 58; refine (H5.out _ (by assumption)).mono ?_; rintro e u5 ⟨rfl, hS6⟩))
  go_wp2_with (fail)
  go_ret
  exact ⟨rfl, hS6⟩
end Go.Proofs.Pol
/-
  The document's own answer: ChaCha20-Poly1305, Seal and Open at every input.
-/
namespace Go.Proofs.Pol
open Go.RowKit
open Go.Proofs.Aes (byt byt_lt get_byt)
open Go.Proofs.Cha (chaS chaS_size strS strS_size chacha_any stream_any)
/-- P7.2's form. -/
def aeOk (key nonce aad : ByteArray) : Bool := decide (key.size = 32) && (decide (nonce.size = 12) && decide (aad.size ≤ 65536))
def sealOk (key nonce aad s : ByteArray) : Bool := aeOk key nonce aad && decide (s.size ≤ 65536)
def sealT (key nonce aad s : ByteArray) : ByteArray := strS key 1 nonce s ++ pTagS key nonce aad (strS key 1 nonce s)
def psS (key nonce aad s : ByteArray) : ByteArray := bif sealOk key nonce aad s then sealT key nonce aad s else ⟨#[]⟩
def psE (key nonce aad s : ByteArray) : Int := bif sealOk key nonce aad s then 0 else 700
/-- Are the last sixteen bytes the tag of those ahead? -/
def pTagOk (key nonce aad s : ByteArray) (k : Nat) : Bool := (pTagS key nonce aad (s.extract 0 k)).toList == (s.extract k (k + 16)).toList
def openOk (key nonce aad s : ByteArray) : Bool := aeOk key nonce aad && ((decide (16 ≤ s.size) && decide (s.size ≤ 65552)) && pTagOk key nonce aad s (s.size - 16))
def poS (key nonce aad s : ByteArray) : ByteArray := bif openOk key nonce aad s then strS key 1 nonce (s.extract 0 (s.size - 16)) else ⟨#[]⟩
def poE (key nonce aad s : ByteArray) : Int := bif openOk key nonce aad s then 0 else 700
theorem aeOk_iff (key nonce aad : ByteArray) : aeOk key nonce aad = true ↔ key.size = 32 ∧ nonce.size = 12 ∧ aad.size ≤ 65536 := by unfold aeOk; simp
theorem sealOk_iff (key nonce aad s : ByteArray) : sealOk key nonce aad s = true ↔ (key.size = 32 ∧ nonce.size = 12 ∧ aad.size ≤ 65536) ∧ s.size ≤ 65536 := by unfold sealOk; rw [Bool.and_eq_true, aeOk_iff, decide_eq_true_iff]
theorem same_iff (a b : ByteArray) : (a.toList == b.toList) = true ↔ a = b := by
  rw [beq_iff_eq, ByteArray.toList_eq, ByteArray.toList_eq]
  exact ⟨fun h => ByteArray.ext (Array.toList_inj.1 h), fun h => by rw [h]⟩
set_option maxHeartbeats 1000000 in
theorem rseal_ok (key nonce aad s : ByteArray) (w : World) (hk : key.size = 32) (hno : nonce.size = 12) (ha : aad.size ≤ 65536) (hs : s.size ≤ 65536) :
    Calls Tryz.prog 18 #[.string key, .string nonce, .string aad, .string s] w fun e w' => e = .returned (.tuple #[.string (sealT key nonce aad s), .int .i64 0]) ∧ Below w.heap.size w w' := by
  have HC := Lib.hid (fun u => stream_any key 1 nonce s u hk hno (by decide) (by omega))
  have HT := Lib.hid (fun u => polyTag_any key nonce aad (strS key 1 nonce s) u hk hno (by omega) (by rw [strS_size]; omega))
  have z1 := strS_size key 1 nonce s
  have z2 := pTagS_size key nonce aad (strS key 1 nonce s)
  have HE : Hid (strS key 1 nonce s ++ pTagS key nonce aad (strS key 1 nonce s) = sealT key nonce aad s) := rfl
  generalize sealT key nonce aad s = R at HE ⊢
  generalize pTagS key nonce aad (strS key 1 nonce s) = T at HT z2 HE
  generalize strS key 1 nonce s = C at HC HT z1 HE
  obtain ⟨n, hn⟩ : ∃ n, s.size = n := ⟨_, rfl⟩
  have ks : (key.size : Int) = 32 := by omega
  have ns : (nonce.size : Int) = 12 := by omega
  have l1 : ((65536 : Int) < (aad.size : Int)) = False := eq_false (by omega)
  have l2 : ((65536 : Int) < (n : Int)) = False := eq_false (by omega)
  have q1 : ¬ 9223372036854775807 < n + 16 := by omega
  have z1 : C.size = n := by omega
  clear hk hno ha hs
  go_enter Tryz.func18, Tryz.ntmps18
  go_wp2_with (first
    | (go_at_call 33; refine (HC.out _).mono ?_; rintro e u1 ⟨rfl, hb1⟩)
    | (go_at_call 34; refine (HT.out _).mono ?_; rintro e u2 ⟨rfl, hb2⟩))
  go_ret2
  exact ⟨by rw [← HE.out]; rfl, Lw.go_on hb1 hb2⟩
set_option maxHeartbeats 1000000 in
theorem rseal_no (key nonce aad s : ByteArray) (w : World) (h : ¬ ((key.size = 32 ∧ nonce.size = 12 ∧ aad.size ≤ 65536) ∧ s.size ≤ 65536)) :
    Calls Tryz.prog 18 #[.string key, .string nonce, .string aad, .string s] w fun e w' => e = .returned (.tuple #[.string ⟨#[]⟩, .int .i64 700]) ∧ Below w.heap.size w w' := by
  have HH := Lib.hid h
  clear h
  by_cases h1 : key.size = 32
  · have ks : (key.size : Int) = 32 := by omega
    by_cases h2 : nonce.size = 12
    · have ns : (nonce.size : Int) = 12 := by omega
      by_cases h3 : aad.size ≤ 65536
      · have l1 : ((65536 : Int) < (aad.size : Int)) = False := eq_false (by omega)
        have l2 : ((65536 : Int) < (s.size : Int)) = True := eq_true (by have := HH.out; omega)
        clear h1 h2 h3
        go_enter Tryz.func18, Tryz.ntmps18
        go_wp2_with (fail)
        go_ret2
        exact ⟨rfl, Below.refl _ _⟩
      · have l1 : ((65536 : Int) < (aad.size : Int)) = True := eq_true (by omega)
        clear h1 h2 h3
        go_enter Tryz.func18, Tryz.ntmps18
        go_wp2_with (fail)
        go_ret2
        exact ⟨rfl, Below.refl _ _⟩
    · have ns : ¬ (nonce.size : Int) = 12 := by omega
      clear h1 h2
      go_enter Tryz.func18, Tryz.ntmps18
      go_wp2_with (fail)
      go_ret2
      exact ⟨rfl, Below.refl _ _⟩
  · have ks : ¬ (key.size : Int) = 32 := by omega
    clear h1
    go_enter Tryz.func18, Tryz.ntmps18
    go_wp2_with (fail)
    go_ret2
    exact ⟨rfl, Below.refl _ _⟩
theorem rseal_any (key nonce aad s : ByteArray) (w : World) :
    Calls Tryz.prog 18 #[.string key, .string nonce, .string aad, .string s] w fun e w' => e = .returned (.tuple #[.string (psS key nonce aad s), .int .i64 (psE key nonce aad s)]) ∧ Below w.heap.size w w' := by
  by_cases h : sealOk key nonce aad s = true
  · obtain ⟨⟨h1, h2, h3⟩, h4⟩ := (sealOk_iff key nonce aad s).1 h
    rw [show psS key nonce aad s = sealT key nonce aad s by unfold psS; rw [h]; rfl, show psE key nonce aad s = 0 by unfold psE; rw [h]; rfl]
    exact rseal_ok key nonce aad s w h1 h2 h3 h4
  · have h' : sealOk key nonce aad s = false := by simpa using h
    rw [show psS key nonce aad s = ⟨#[]⟩ by unfold psS; rw [h']; rfl, show psE key nonce aad s = 700 by unfold psE; rw [h']; rfl]
    exact rseal_no key nonce aad s w fun c => h ((sealOk_iff key nonce aad s).2 c)
end Go.Proofs.Pol
/-
  The document's own answer: ChaCha20-Poly1305, Open at every input.
-/
namespace Go.Proofs.Pol
open Go.RowKit
open Go.Proofs.Aes (byt byt_lt get_byt)
open Go.Proofs.Cha (chaS chaS_size strS strS_size chacha_any stream_any)
set_option maxHeartbeats 1000000 in
theorem ropen_no1 (key nonce aad s : ByteArray) (w : World) (h1 : ¬ key.size = 32) :
    Calls Tryz.prog 22 #[.string key, .string nonce, .string aad, .string s] w fun e w' => e = .returned (.tuple #[.string ⟨#[]⟩, .int .i64 700]) ∧ Below w.heap.size w w' := by
  obtain ⟨n, hn⟩ : ∃ n, s.size = n := ⟨_, rfl⟩
  have ks : ((key.size : Int) = 32) = False := eq_false (by omega)
  have ks2 : ((key.size : Int) == 32) = false := by simpa using ks
  have ks3 : ((key.size : Int) != 32) = true := by simp only [bne, ks2]; rfl
  clear h1
  go_enter Tryz.func22, Tryz.ntmps22
  go_upto_region 2 with (fail)
  go_quiet (fail)
  go_wp2_with (fail)
  go_ret2
  exact ⟨rfl, Lw.below_drewN (Below.refl _ _) nq⟩
set_option maxHeartbeats 1000000 in
theorem ropen_no2 (key nonce aad s : ByteArray) (w : World) (h1 : key.size = 32) (h2 : ¬ nonce.size = 12) :
    Calls Tryz.prog 22 #[.string key, .string nonce, .string aad, .string s] w fun e w' => e = .returned (.tuple #[.string ⟨#[]⟩, .int .i64 700]) ∧ Below w.heap.size w w' := by
  obtain ⟨n, hn⟩ : ∃ n, s.size = n := ⟨_, rfl⟩
  have ks : (key.size : Int) = 32 := by omega
  have ns : ((nonce.size : Int) = 12) = False := eq_false (by omega)
  have ns2 : ((nonce.size : Int) == 12) = false := by simpa using ns
  have ns3 : ((nonce.size : Int) != 12) = true := by simp only [bne, ns2]; rfl
  clear h1 h2
  go_enter Tryz.func22, Tryz.ntmps22
  go_upto_region 2 with (fail)
  go_quiet (fail)
  go_wp2_with (fail)
  go_ret2
  exact ⟨rfl, Lw.below_drewN (Below.refl _ _) nq⟩
set_option maxHeartbeats 1000000 in
theorem ropen_no3 (key nonce aad s : ByteArray) (w : World) (h1 : key.size = 32) (h2 : nonce.size = 12) (h3 : ¬ aad.size ≤ 65536) :
    Calls Tryz.prog 22 #[.string key, .string nonce, .string aad, .string s] w fun e w' => e = .returned (.tuple #[.string ⟨#[]⟩, .int .i64 700]) ∧ Below w.heap.size w w' := by
  obtain ⟨n, hn⟩ : ∃ n, s.size = n := ⟨_, rfl⟩
  have ks : (key.size : Int) = 32 := by omega
  have ns : (nonce.size : Int) = 12 := by omega
  have l1 : ((65536 : Int) < (aad.size : Int)) = True := eq_true (by omega)
  clear h1 h2 h3
  go_enter Tryz.func22, Tryz.ntmps22
  go_upto_region 2 with (fail)
  go_quiet (fail)
  go_wp2_with (fail)
  go_ret2
  exact ⟨rfl, Lw.below_drewN (Below.refl _ _) nq⟩
set_option maxHeartbeats 1000000 in
theorem ropen_no4 (key nonce aad s : ByteArray) (w : World) (h1 : key.size = 32) (h2 : nonce.size = 12) (h3 : aad.size ≤ 65536) (h4 : s.size < 16) :
    Calls Tryz.prog 22 #[.string key, .string nonce, .string aad, .string s] w fun e w' => e = .returned (.tuple #[.string ⟨#[]⟩, .int .i64 700]) ∧ Below w.heap.size w w' := by
  obtain ⟨n, hn⟩ : ∃ n, s.size = n := ⟨_, rfl⟩
  have ks : (key.size : Int) = 32 := by omega
  have ns : (nonce.size : Int) = 12 := by omega
  have l1 : ((65536 : Int) < (aad.size : Int)) = False := eq_false (by omega)
  have l2 : ((n : Int) - 16 < 0) = True := eq_true (by omega)
  have l3 : (n : Int) < 16 := by omega
  clear h1 h2 h3 h4
  go_enter Tryz.func22, Tryz.ntmps22
  go_upto_region 2 with (fail)
  go_quiet (fail)
  go_wp2_with (fail)
  go_ret2
  exact ⟨rfl, Lw.below_drewN (Below.refl _ _) nq⟩
set_option maxHeartbeats 1000000 in
theorem ropen_no5 (key nonce aad s : ByteArray) (w : World) (h1 : key.size = 32) (h2 : nonce.size = 12) (h3 : aad.size ≤ 65536) (h4 : 65552 < s.size) (h5 : s.size ≤ 140737488355328) :
    Calls Tryz.prog 22 #[.string key, .string nonce, .string aad, .string s] w fun e w' => e = .returned (.tuple #[.string ⟨#[]⟩, .int .i64 700]) ∧ Below w.heap.size w w' := by
  obtain ⟨n, hn⟩ : ∃ n, s.size = n := ⟨_, rfl⟩
  have ks : (key.size : Int) = 32 := by omega
  have ns : (nonce.size : Int) = 12 := by omega
  have l1 : ((65536 : Int) < (aad.size : Int)) = False := eq_false (by omega)
  have l2 : ((n : Int) - 16 < 0) = False := eq_false (by omega)
  have l3 : ((65536 : Int) < (n : Int) - 16) = True := eq_true (by omega)
  have l4 : (16 : Int) ≤ (n : Int) := by omega
  have w4 : wrap64 ((n : Int) - 16) = (n : Int) - 16 := IntWalk.wrap64_in _ (by omega)
  clear h1 h2 h3 h4
  go_enter Tryz.func22, Tryz.ntmps22
  go_upto_region 2 with (fail)
  go_quiet (fail)
  go_wp2_with (fail)
  go_ret2
  exact ⟨rfl, Lw.below_drewN (Below.refl _ _) nq⟩
set_option maxHeartbeats 1000000 in
theorem ropen_bad (key nonce aad s : ByteArray) (k : Nat) (w : World) (h1 : key.size = 32) (h2 : nonce.size = 12) (h3 : aad.size ≤ 65536) (hk : s.size = k + 16) (h4 : k ≤ 65536) (ht : pTagOk key nonce aad s k = false) :
    Calls Tryz.prog 22 #[.string key, .string nonce, .string aad, .string s] w fun e w' => e = .returned (.tuple #[.string ⟨#[]⟩, .int .i64 700]) ∧ Below w.heap.size w w' := by
  have HT := Lib.hid ht
  have HTg := Lib.hid (fun u => polyTag_any key nonce aad (s.extract 0 k) u h1 h2 (by omega) (by rw [ByteArray.size_extract]; omega))
  have HTe : Hid (pTagOk key nonce aad s k = ((pTagS key nonce aad (s.extract 0 k)).toList == (s.extract k (k + 16)).toList)) := rfl
  have z0 : (s.extract 0 k).size = k := by rw [ByteArray.size_extract]; omega
  rw [HTe.out] at HT
  clear HTe ht
  generalize pTagS key nonce aad (s.extract 0 k) = T at HTg HT
  have ks : (key.size : Int) = 32 := by omega
  have ns : (nonce.size : Int) = 12 := by omega
  have l1 : ((65536 : Int) < (aad.size : Int)) = False := eq_false (by omega)
  have q1 : (s.size : Int) - 16 = (k : Int) := by omega
  have l2 : ((k : Int) < 0) = False := eq_false (by omega)
  have l3 : ((65536 : Int) < (k : Int)) = False := eq_false (by omega)
  have k6 : (k : Int) ≤ 65536 := by omega
  have kk : (0 : Int) ≤ (k : Int) := by omega
  have kk2 : (k : Int) ≤ (k : Int) + 16 := by omega
  clear h1 h2 h3 h4
  go_enter Tryz.func22, Tryz.ntmps22
  go_upto_region 2 with (fail)
  have hBd : Below w.heap.size w w.drew := (Below.refl _ _).drew
  go_region_held3 (fun _ => True) (trivial) (first | (go_at_call 34; refine (HTg.out _).mono ?_; rintro e u2 ⟨rfl, hb2⟩))
  have e1 := HT.out
  have HB := Lib.hid (Lw.go_on hBd hb2)
  rw [e1]
  clear hb2 e1
  go_wp2_with (fail)
  go_ret2
  exact ⟨rfl, HB.out⟩
set_option maxHeartbeats 1000000 in
theorem ropen_ok (key nonce aad s : ByteArray) (k : Nat) (w : World) (h1 : key.size = 32) (h2 : nonce.size = 12) (h3 : aad.size ≤ 65536) (hk : s.size = k + 16) (h4 : k ≤ 65536) (ht : pTagOk key nonce aad s k = true) :
    Calls Tryz.prog 22 #[.string key, .string nonce, .string aad, .string s] w fun e w' => e = .returned (.tuple #[.string (strS key 1 nonce (s.extract 0 k)), .int .i64 0]) ∧ Below w.heap.size w w' := by
  have HT := Lib.hid ht
  have HTg := Lib.hid (fun u => polyTag_any key nonce aad (s.extract 0 k) u h1 h2 (by omega) (by rw [ByteArray.size_extract]; omega))
  have HSt := Lib.hid (fun u => stream_any key 1 nonce (s.extract 0 k) u h1 h2 (by decide) (by rw [ByteArray.size_extract]; omega))
  generalize strS key 1 nonce (s.extract 0 k) = R at HSt ⊢
  have HTe : Hid (pTagOk key nonce aad s k = ((pTagS key nonce aad (s.extract 0 k)).toList == (s.extract k (k + 16)).toList)) := rfl
  have z0 : (s.extract 0 k).size = k := by rw [ByteArray.size_extract]; omega
  rw [HTe.out] at HT
  clear HTe ht
  generalize pTagS key nonce aad (s.extract 0 k) = T at HTg HT
  have ks : (key.size : Int) = 32 := by omega
  have ns : (nonce.size : Int) = 12 := by omega
  have l1 : ((65536 : Int) < (aad.size : Int)) = False := eq_false (by omega)
  have q1 : (s.size : Int) - 16 = (k : Int) := by omega
  have l2 : ((k : Int) < 0) = False := eq_false (by omega)
  have l3 : ((65536 : Int) < (k : Int)) = False := eq_false (by omega)
  have k6 : (k : Int) ≤ 65536 := by omega
  have kk : (0 : Int) ≤ (k : Int) := by omega
  have kk2 : (k : Int) ≤ (k : Int) + 16 := by omega
  clear h1 h2 h3 h4
  go_enter Tryz.func22, Tryz.ntmps22
  go_upto_region 2 with (fail)
  have hBd : Below w.heap.size w w.drew := (Below.refl _ _).drew
  go_region_held3 (fun _ => True) (trivial) (first | (go_at_call 34; refine (HTg.out _).mono ?_; rintro e u2 ⟨rfl, hb2⟩))
  have e1 := HT.out
  have HB := Lib.hid (Lw.go_on hBd hb2)
  rw [e1]
  clear hb2 e1
  go_wp2_with (go_at_call 33; refine (HSt.out _).mono ?_; rintro e u3 ⟨rfl, hb3⟩)
  go_ret2
  exact ⟨rfl, Lw.go_on HB.out hb3⟩
theorem ropen_any (key nonce aad s : ByteArray) (w : World) (hs : s.size ≤ 140737488355328) :
    Calls Tryz.prog 22 #[.string key, .string nonce, .string aad, .string s] w fun e w' => e = .returned (.tuple #[.string (poS key nonce aad s), .int .i64 (poE key nonce aad s)]) ∧ Below w.heap.size w w' := by
  have no : openOk key nonce aad s = false → (poS key nonce aad s = ⟨#[]⟩ ∧ poE key nonce aad s = 700) := fun h => ⟨by unfold poS; rw [h]; rfl, by unfold poE; rw [h]; rfl⟩
  have form : ∀ b : Bool, aeOk key nonce aad = b → openOk key nonce aad s = (b && ((decide (16 ≤ s.size) && decide (s.size ≤ 65552)) && pTagOk key nonce aad s (s.size - 16))) := fun b h => by unfold openOk; rw [h]
  by_cases ha : aeOk key nonce aad = true
  · obtain ⟨h1, h2, h3⟩ := (aeOk_iff key nonce aad).1 ha
    by_cases h4 : s.size < 16
    · obtain ⟨e1, e2⟩ := no (by rw [form _ ha, decide_eq_false (show ¬ 16 ≤ s.size by omega)]; rfl)
      rw [e1, e2]; exact ropen_no4 key nonce aad s w h1 h2 h3 h4
    · by_cases h5 : 65552 < s.size
      · obtain ⟨e1, e2⟩ := no (by rw [form _ ha, decide_eq_true (show 16 ≤ s.size by omega), decide_eq_false (show ¬ s.size ≤ 65552 by omega)]; rfl)
        rw [e1, e2]; exact ropen_no5 key nonce aad s w h1 h2 h3 h5 hs
      · have hf : openOk key nonce aad s = pTagOk key nonce aad s (s.size - 16) := by
          rw [form _ ha, decide_eq_true (show 16 ≤ s.size by omega), decide_eq_true (show s.size ≤ 65552 by omega)]; rfl
        cases ht : pTagOk key nonce aad s (s.size - 16)
        · obtain ⟨e1, e2⟩ := no (by rw [hf, ht])
          rw [e1, e2]; exact ropen_bad key nonce aad s (s.size - 16) w h1 h2 h3 (by omega) (by omega) ht
        · rw [show poS key nonce aad s = strS key 1 nonce (s.extract 0 (s.size - 16)) by unfold poS; rw [hf, ht]; rfl, show poE key nonce aad s = 0 by unfold poE; rw [hf, ht]; rfl]
          exact ropen_ok key nonce aad s (s.size - 16) w h1 h2 h3 (by omega) (by omega) ht
  · have ha' : aeOk key nonce aad = false := by simpa using ha
    obtain ⟨e1, e2⟩ := no (by rw [form _ ha']; rfl)
    rw [e1, e2]
    by_cases h1 : key.size = 32
    · by_cases h2 : nonce.size = 12
      · exact ropen_no3 key nonce aad s w h1 h2 fun h3 => ha ((aeOk_iff key nonce aad).2 ⟨h1, h2, h3⟩)
      · exact ropen_no2 key nonce aad s w h1 h2
    · exact ropen_no1 key nonce aad s w h1
end Go.Proofs.Pol
/-
  GHASH's product as plain functions on natural numbers, of no program.
-/
namespace Go.Proofs.Gcm
open Go.RowKit
/-- What a product's loop holds: a factor in two words, the other one, the sum. -/
structure TS where
  a : Nat
  b : Nat
  c : Nat
  d : Nat
  x : Nat
  y : Nat
/-- The bit that round i looks at. -/
def tBit (i : Nat) (s : TS) : Nat := if 63 < i then s.b / 9223372036854775808 else s.a / 9223372036854775808
def tStep (i : Nat) (s : TS) : TS where
  a := if 63 < i then s.a else s.a * 2 % 18446744073709551616
  b := if 63 < i then s.b * 2 % 18446744073709551616 else s.b
  c := if s.d % 2 = 1 then (s.c / 2) ^^^ 16212958658533785600 else s.c / 2
  d := s.d / 2 + s.c % 2 * 9223372036854775808
  x := if tBit i s = 1 then s.x ^^^ s.c else s.x
  y := if tBit i s = 1 then s.y ^^^ s.d else s.y
def tRun (s : TS) : Nat → TS
  | 0 => s
  | i + 1 => tStep i (tRun s i)
def Lt6 (s : TS) : Prop := s.a < 18446744073709551616 ∧ s.b < 18446744073709551616 ∧ s.c < 18446744073709551616 ∧ s.d < 18446744073709551616 ∧ s.x < 18446744073709551616 ∧ s.y < 18446744073709551616
theorem xor64_lt {a b : Nat} (ha : a < 18446744073709551616) (hb : b < 18446744073709551616) : a ^^^ b < 18446744073709551616 := Nat.xor_lt_two_pow (n := 64) ha hb
theorem tStep_lt (i : Nat) (s : TS) (h : Lt6 s) : Lt6 (tStep i s) := by
  obtain ⟨h1, h2, h3, h4, h5, h6⟩ := h
  refine ⟨?_, ?_, ?_, ?_, ?_, ?_⟩
  · show (if 63 < i then s.a else s.a * 2 % 18446744073709551616) < _
    split <;> omega
  · show (if 63 < i then s.b * 2 % 18446744073709551616 else s.b) < _
    split <;> omega
  · show (if s.d % 2 = 1 then (s.c / 2) ^^^ 16212958658533785600 else s.c / 2) < _
    split
    · exact xor64_lt (by omega) (by decide)
    · omega
  · show s.d / 2 + s.c % 2 * 9223372036854775808 < _
    omega
  · show (if tBit i s = 1 then s.x ^^^ s.c else s.x) < _
    split
    · exact xor64_lt h5 h3
    · exact h5
  · show (if tBit i s = 1 then s.y ^^^ s.d else s.y) < _
    split
    · exact xor64_lt h6 h4
    · exact h6
theorem tRun_lt (s : TS) (h : Lt6 s) (i : Nat) : Lt6 (tRun s i) := by
  induction i with
  | zero => exact h
  | succ i ih => exact tStep_lt i _ ih
theorem or_shift (c d : Nat) (hd : d < 18446744073709551616) :
    bits .or .u64 ((d : Int) / 2) ((c : Int) * 9223372036854775808 % 18446744073709551616) = ((d / 2 + c % 2 * 9223372036854775808 : Nat) : Int) := by
  have e1 : (d : Int) / 2 = ((d / 2 : Nat) : Int) := by omega
  have e2 : (c : Int) * 9223372036854775808 % 18446744073709551616 = ((c % 2 * 9223372036854775808 : Nat) : Int) := by omega
  rw [e1, e2, u64_or_nat _ _ (by omega) (by omega), Nat.or_comm, nat_join 63 (c % 2 * 9223372036854775808) (d / 2) (by omega) (by omega), Nat.add_comm]
theorem and_one (d : Nat) (hd : d < 18446744073709551616) : bits .and .u64 (d : Int) 1 = ((d % 2 : Nat) : Int) := by
  have h := u64_and_nat d 1 hd (by decide)
  rw [Nat.and_one_is_mod] at h
  exact h
/-- A product in GHASH's field. -/
def mulX (a b c d : Nat) : Nat := (tRun ⟨a, b, c, d, 0, 0⟩ 128).x
def mulY (a b c d : Nat) : Nat := (tRun ⟨a, b, c, d, 0, 0⟩ 128).y
end Go.Proofs.Gcm
