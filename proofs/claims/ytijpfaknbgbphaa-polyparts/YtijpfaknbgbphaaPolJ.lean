/-
  The document's own answer: ChaCha20-Poly1305, Open at every input.
-/
import Derived.Test.YtijpfaknbgbphaaPolI
import Derived.BigQuiet
import Derived.Deep.QuietTactic
import Derived.Deep.RegionHeld3
namespace Go.Proofs.Pol
open Go.RowKit
open Go.Proofs.Aes (byt byt_lt get_byt)
open Go.Proofs.Cha (chaS chaS_size strS strS_size chacha_any stream_any)
set_option maxHeartbeats 1000000 in
theorem ropen_no1 (key nonce aad s : ByteArray) (w : World) (h1 : ¬ key.size = 32) :
    Calls Try.prog 13 #[.string key, .string nonce, .string aad, .string s] w fun e w' => e = .returned (.tuple #[.string ⟨#[]⟩, .int .i64 700]) ∧ Below w.heap.size w w' := by
  obtain ⟨n, hn⟩ : ∃ n, s.size = n := ⟨_, rfl⟩
  have ks : ((key.size : Int) = 32) = False := eq_false (by omega)
  have ks2 : ((key.size : Int) == 32) = false := by simpa using ks
  have ks3 : ((key.size : Int) != 32) = true := by simp only [bne, ks2]; rfl
  clear h1
  go_enter Try.func13, Try.ntmps13
  go_upto_region 2 with (fail)
  go_quiet (fail)
  go_wp2_with (fail)
  go_ret2
  exact ⟨rfl, Lw.below_drewN (Below.refl _ _) nq⟩
set_option maxHeartbeats 1000000 in
theorem ropen_no2 (key nonce aad s : ByteArray) (w : World) (h1 : key.size = 32) (h2 : ¬ nonce.size = 12) :
    Calls Try.prog 13 #[.string key, .string nonce, .string aad, .string s] w fun e w' => e = .returned (.tuple #[.string ⟨#[]⟩, .int .i64 700]) ∧ Below w.heap.size w w' := by
  obtain ⟨n, hn⟩ : ∃ n, s.size = n := ⟨_, rfl⟩
  have ks : (key.size : Int) = 32 := by omega
  have ns : ((nonce.size : Int) = 12) = False := eq_false (by omega)
  have ns2 : ((nonce.size : Int) == 12) = false := by simpa using ns
  have ns3 : ((nonce.size : Int) != 12) = true := by simp only [bne, ns2]; rfl
  clear h1 h2
  go_enter Try.func13, Try.ntmps13
  go_upto_region 2 with (fail)
  go_quiet (fail)
  go_wp2_with (fail)
  go_ret2
  exact ⟨rfl, Lw.below_drewN (Below.refl _ _) nq⟩
set_option maxHeartbeats 1000000 in
theorem ropen_no3 (key nonce aad s : ByteArray) (w : World) (h1 : key.size = 32) (h2 : nonce.size = 12) (h3 : ¬ aad.size ≤ 65536) :
    Calls Try.prog 13 #[.string key, .string nonce, .string aad, .string s] w fun e w' => e = .returned (.tuple #[.string ⟨#[]⟩, .int .i64 700]) ∧ Below w.heap.size w w' := by
  obtain ⟨n, hn⟩ : ∃ n, s.size = n := ⟨_, rfl⟩
  have ks : (key.size : Int) = 32 := by omega
  have ns : (nonce.size : Int) = 12 := by omega
  have l1 : ((65536 : Int) < (aad.size : Int)) = True := eq_true (by omega)
  clear h1 h2 h3
  go_enter Try.func13, Try.ntmps13
  go_upto_region 2 with (fail)
  go_quiet (fail)
  go_wp2_with (fail)
  go_ret2
  exact ⟨rfl, Lw.below_drewN (Below.refl _ _) nq⟩
set_option maxHeartbeats 1000000 in
theorem ropen_no4 (key nonce aad s : ByteArray) (w : World) (h1 : key.size = 32) (h2 : nonce.size = 12) (h3 : aad.size ≤ 65536) (h4 : s.size < 16) :
    Calls Try.prog 13 #[.string key, .string nonce, .string aad, .string s] w fun e w' => e = .returned (.tuple #[.string ⟨#[]⟩, .int .i64 700]) ∧ Below w.heap.size w w' := by
  obtain ⟨n, hn⟩ : ∃ n, s.size = n := ⟨_, rfl⟩
  have ks : (key.size : Int) = 32 := by omega
  have ns : (nonce.size : Int) = 12 := by omega
  have l1 : ((65536 : Int) < (aad.size : Int)) = False := eq_false (by omega)
  have l2 : ((n : Int) - 16 < 0) = True := eq_true (by omega)
  have l3 : (n : Int) < 16 := by omega
  clear h1 h2 h3 h4
  go_enter Try.func13, Try.ntmps13
  go_upto_region 2 with (fail)
  go_quiet (fail)
  go_wp2_with (fail)
  go_ret2
  exact ⟨rfl, Lw.below_drewN (Below.refl _ _) nq⟩
set_option maxHeartbeats 1000000 in
theorem ropen_no5 (key nonce aad s : ByteArray) (w : World) (h1 : key.size = 32) (h2 : nonce.size = 12) (h3 : aad.size ≤ 65536) (h4 : 65552 < s.size) (h5 : s.size ≤ 140737488355328) :
    Calls Try.prog 13 #[.string key, .string nonce, .string aad, .string s] w fun e w' => e = .returned (.tuple #[.string ⟨#[]⟩, .int .i64 700]) ∧ Below w.heap.size w w' := by
  obtain ⟨n, hn⟩ : ∃ n, s.size = n := ⟨_, rfl⟩
  have ks : (key.size : Int) = 32 := by omega
  have ns : (nonce.size : Int) = 12 := by omega
  have l1 : ((65536 : Int) < (aad.size : Int)) = False := eq_false (by omega)
  have l2 : ((n : Int) - 16 < 0) = False := eq_false (by omega)
  have l3 : ((65536 : Int) < (n : Int) - 16) = True := eq_true (by omega)
  have l4 : (16 : Int) ≤ (n : Int) := by omega
  have w4 : wrap64 ((n : Int) - 16) = (n : Int) - 16 := IntWalk.wrap64_in _ (by omega)
  clear h1 h2 h3 h4
  go_enter Try.func13, Try.ntmps13
  go_upto_region 2 with (fail)
  go_quiet (fail)
  go_wp2_with (fail)
  go_ret2
  exact ⟨rfl, Lw.below_drewN (Below.refl _ _) nq⟩
set_option maxHeartbeats 1000000 in
theorem ropen_bad (key nonce aad s : ByteArray) (k : Nat) (w : World) (h1 : key.size = 32) (h2 : nonce.size = 12) (h3 : aad.size ≤ 65536) (hk : s.size = k + 16) (h4 : k ≤ 65536) (ht : pTagOk key nonce aad s k = false) :
    Calls Try.prog 13 #[.string key, .string nonce, .string aad, .string s] w fun e w' => e = .returned (.tuple #[.string ⟨#[]⟩, .int .i64 700]) ∧ Below w.heap.size w w' := by
  have HT := Lib.hid ht
  have HTg := Lib.hid (fun u => polyTag_any key nonce aad (s.extract 0 k) u h1 h2 (by omega) (by rw [ByteArray.size_extract]; omega))
  have HTe : Hid (pTagOk key nonce aad s k = ((pTagS key nonce aad (s.extract 0 k)).toList == (s.extract k (k + 16)).toList)) := rfl
  have z0 : (s.extract 0 k).size = k := by rw [ByteArray.size_extract]; omega
  rw [HTe.out] at HT
  clear HTe ht
  generalize pTagS key nonce aad (s.extract 0 k) = T at HTg HT
  have ks : (key.size : Int) = 32 := by omega
  have ns : (nonce.size : Int) = 12 := by omega
  have l1 : ((65536 : Int) < (aad.size : Int)) = False := eq_false (by omega)
  have q1 : (s.size : Int) - 16 = (k : Int) := by omega
  have l2 : ((k : Int) < 0) = False := eq_false (by omega)
  have l3 : ((65536 : Int) < (k : Int)) = False := eq_false (by omega)
  have k6 : (k : Int) ≤ 65536 := by omega
  have kk : (0 : Int) ≤ (k : Int) := by omega
  have kk2 : (k : Int) ≤ (k : Int) + 16 := by omega
  clear h1 h2 h3 h4
  go_enter Try.func13, Try.ntmps13
  go_upto_region 2 with (fail)
  have hBd : Below w.heap.size w w.drew := (Below.refl _ _).drew
  go_region_held3 (fun _ => True) (trivial) (first | (go_at_call 26; refine (HTg.out _).mono ?_; rintro e u2 ⟨rfl, hb2⟩))
  have e1 := HT.out
  have HB := Lib.hid (Lw.go_on hBd hb2)
  rw [e1]
  clear hb2 e1
  go_wp2_with (fail)
  go_ret2
  exact ⟨rfl, HB.out⟩
set_option maxHeartbeats 1000000 in
theorem ropen_ok (key nonce aad s : ByteArray) (k : Nat) (w : World) (h1 : key.size = 32) (h2 : nonce.size = 12) (h3 : aad.size ≤ 65536) (hk : s.size = k + 16) (h4 : k ≤ 65536) (ht : pTagOk key nonce aad s k = true) :
    Calls Try.prog 13 #[.string key, .string nonce, .string aad, .string s] w fun e w' => e = .returned (.tuple #[.string (strS key 1 nonce (s.extract 0 k)), .int .i64 0]) ∧ Below w.heap.size w w' := by
  have HT := Lib.hid ht
  have HTg := Lib.hid (fun u => polyTag_any key nonce aad (s.extract 0 k) u h1 h2 (by omega) (by rw [ByteArray.size_extract]; omega))
  have HSt := Lib.hid (fun u => stream_any key 1 nonce (s.extract 0 k) u h1 h2 (by decide) (by rw [ByteArray.size_extract]; omega))
  generalize strS key 1 nonce (s.extract 0 k) = R at HSt ⊢
  have HTe : Hid (pTagOk key nonce aad s k = ((pTagS key nonce aad (s.extract 0 k)).toList == (s.extract k (k + 16)).toList)) := rfl
  have z0 : (s.extract 0 k).size = k := by rw [ByteArray.size_extract]; omega
  rw [HTe.out] at HT
  clear HTe ht
  generalize pTagS key nonce aad (s.extract 0 k) = T at HTg HT
  have ks : (key.size : Int) = 32 := by omega
  have ns : (nonce.size : Int) = 12 := by omega
  have l1 : ((65536 : Int) < (aad.size : Int)) = False := eq_false (by omega)
  have q1 : (s.size : Int) - 16 = (k : Int) := by omega
  have l2 : ((k : Int) < 0) = False := eq_false (by omega)
  have l3 : ((65536 : Int) < (k : Int)) = False := eq_false (by omega)
  have k6 : (k : Int) ≤ 65536 := by omega
  have kk : (0 : Int) ≤ (k : Int) := by omega
  have kk2 : (k : Int) ≤ (k : Int) + 16 := by omega
  clear h1 h2 h3 h4
  go_enter Try.func13, Try.ntmps13
  go_upto_region 2 with (fail)
  have hBd : Below w.heap.size w w.drew := (Below.refl _ _).drew
  go_region_held3 (fun _ => True) (trivial) (first | (go_at_call 26; refine (HTg.out _).mono ?_; rintro e u2 ⟨rfl, hb2⟩))
  have e1 := HT.out
  have HB := Lib.hid (Lw.go_on hBd hb2)
  rw [e1]
  clear hb2 e1
  go_wp2_with (go_at_call 25; refine (HSt.out _).mono ?_; rintro e u3 ⟨rfl, hb3⟩)
  go_ret2
  exact ⟨rfl, Lw.go_on HB.out hb3⟩
theorem ropen_any (key nonce aad s : ByteArray) (w : World) (hs : s.size ≤ 140737488355328) :
    Calls Try.prog 13 #[.string key, .string nonce, .string aad, .string s] w fun e w' => e = .returned (.tuple #[.string (poS key nonce aad s), .int .i64 (poE key nonce aad s)]) ∧ Below w.heap.size w w' := by
  have no : openOk key nonce aad s = false → (poS key nonce aad s = ⟨#[]⟩ ∧ poE key nonce aad s = 700) := fun h => ⟨by unfold poS; rw [h]; rfl, by unfold poE; rw [h]; rfl⟩
  have form : ∀ b : Bool, aeOk key nonce aad = b → openOk key nonce aad s = (b && ((decide (16 ≤ s.size) && decide (s.size ≤ 65552)) && pTagOk key nonce aad s (s.size - 16))) := fun b h => by unfold openOk; rw [h]
  by_cases ha : aeOk key nonce aad = true
  · obtain ⟨h1, h2, h3⟩ := (aeOk_iff key nonce aad).1 ha
    by_cases h4 : s.size < 16
    · obtain ⟨e1, e2⟩ := no (by rw [form _ ha, decide_eq_false (show ¬ 16 ≤ s.size by omega)]; rfl)
      rw [e1, e2]; exact ropen_no4 key nonce aad s w h1 h2 h3 h4
    · by_cases h5 : 65552 < s.size
      · obtain ⟨e1, e2⟩ := no (by rw [form _ ha, decide_eq_true (show 16 ≤ s.size by omega), decide_eq_false (show ¬ s.size ≤ 65552 by omega)]; rfl)
        rw [e1, e2]; exact ropen_no5 key nonce aad s w h1 h2 h3 h5 hs
      · have hf : openOk key nonce aad s = pTagOk key nonce aad s (s.size - 16) := by
          rw [form _ ha, decide_eq_true (show 16 ≤ s.size by omega), decide_eq_true (show s.size ≤ 65552 by omega)]; rfl
        cases ht : pTagOk key nonce aad s (s.size - 16)
        · obtain ⟨e1, e2⟩ := no (by rw [hf, ht])
          rw [e1, e2]; exact ropen_bad key nonce aad s (s.size - 16) w h1 h2 h3 (by omega) (by omega) ht
        · rw [show poS key nonce aad s = strS key 1 nonce (s.extract 0 (s.size - 16)) by unfold poS; rw [hf, ht]; rfl, show poE key nonce aad s = 0 by unfold poE; rw [hf, ht]; rfl]
          exact ropen_ok key nonce aad s (s.size - 16) w h1 h2 h3 (by omega) (by omega) ht
  · have ha' : aeOk key nonce aad = false := by simpa using ha
    obtain ⟨e1, e2⟩ := no (by rw [form _ ha']; rfl)
    rw [e1, e2]
    by_cases h1 : key.size = 32
    · by_cases h2 : nonce.size = 12
      · exact ropen_no3 key nonce aad s w h1 h2 fun h3 => ha ((aeOk_iff key nonce aad).2 ⟨h1, h2, h3⟩)
      · exact ropen_no2 key nonce aad s w h1 h2
    · exact ropen_no1 key nonce aad s w h1
end Go.Proofs.Pol
