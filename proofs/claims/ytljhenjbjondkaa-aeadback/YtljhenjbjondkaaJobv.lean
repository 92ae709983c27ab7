/-
  The developers' poly: Seal and Open at every input.
-/
import Derived.Test.YtljhenjbjondkaaJobu
import Derived.BigQuiet
import Derived.Deep.QuietTactic
namespace Go.Proofs.Ps
open Go.RowKit Go.Proofs.Pd
open Go.Proofs.Cha (chaS chaS_size strS strS_size blkS blkE chaOk chaOk_iff)
open Go.Proofs.Pol (macS macS_size allS pTagS pTagS_size aeOk sealOk sealT psS psE pTagOk openOk poS poE aeOk_iff sealOk_iff same_iff)
open Go.Proofs.Cd (blk_fine xor_fine blk_any)
set_option maxHeartbeats 1000000 in
theorem own_ok (key nonce : ByteArray) (w : World) (hk : key.size = 32) (hno : nonce.size = 12) :
    Calls Try.prog 24 #[.string key, .string nonce] w fun e w' => e = .returned (.tuple #[.string ((chaS key 0 nonce).extract 0 32), .int .i64 0]) ∧ Below w.heap.size w w' := by
  have HC : Hid (∀ u, Calls Try.prog 39 #[.string key, .int .i64 0, .string nonce] u fun e w' => e = .returned (.tuple #[.string (chaS key 0 nonce), .int .i64 0]) ∧ Below u.heap.size u w') := fun u => blk_fine key 0 nonce u hk hno (by decide)
  have zb := chaS_size key 0 nonce
  generalize chaS key 0 nonce = B at HC zb ⊢
  clear hk hno
  go_enter Try.func24, Try.ntmps24
  go_wp2_with (go_at_call 39; refine (HC.out _).mono ?_; rintro e u ⟨rfl, hb⟩)
  go_ret2
  exact ⟨rfl, hb⟩
set_option maxHeartbeats 1000000 in
theorem own_no (key nonce : ByteArray) (w : World) (h : ¬ (key.size = 32 ∧ nonce.size = 12)) :
    Calls Try.prog 24 #[.string key, .string nonce] w fun e w' => e = .returned (.tuple #[.string ⟨#[]⟩, .int .i64 700]) ∧ Below w.heap.size w w' := by
  have ok : chaOk key 0 nonce = false := by
    cases hc : chaOk key 0 nonce
    · rfl
    · obtain ⟨h1, _, _, h4⟩ := (chaOk_iff key 0 nonce).1 hc
      exact absurd ⟨h1, h4⟩ h
  have HC : Hid (∀ u, Calls Try.prog 39 #[.string key, .int .i64 0, .string nonce] u fun e w' => e = .returned (.tuple #[.string ⟨#[]⟩, .int .i64 600]) ∧ Below u.heap.size u w') := fun u => by
    have := blk_any key 0 nonce u
    rw [show blkS key 0 nonce = ⟨#[]⟩ by unfold blkS; rw [ok]; rfl, show blkE key 0 nonce = 600 by unfold blkE; rw [ok]; rfl] at this
    exact this
  clear h ok
  go_enter Try.func24, Try.ntmps24
  go_wp2_with (go_at_call 39; refine (HC.out _).mono ?_; rintro e u ⟨rfl, hb⟩)
  go_ret2
  exact ⟨rfl, hb⟩
set_option maxHeartbeats 1000000 in
theorem masked_any (key nonce s : ByteArray) (w : World) (hk : key.size = 32) (hno : nonce.size = 12) (hs : s.size ≤ 65536) :
    Calls Try.prog 25 #[.string key, .string nonce, .string s] w fun e w' => e = .returned (.string (strS key 1 nonce s)) ∧ Below w.heap.size w w' := by
  have HC : Hid (∀ u, Calls Try.prog 40 #[.string key, .int .i64 1, .string nonce, .string s] u fun e w' => e = .returned (.tuple #[.string (strS key 1 nonce s), .int .i64 0]) ∧ Below u.heap.size u w') := fun u => xor_fine key 1 nonce s u hk hno (by decide) hs
  generalize strS key 1 nonce s = R at HC ⊢
  clear hk hno hs
  go_enter Try.func25, Try.ntmps25
  go_wp2_with (go_at_call 40; refine (HC.out _).mono ?_; rintro e u ⟨rfl, hb⟩)
  go_ret
  exact ⟨rfl, hb⟩
theorem own_size (key nonce : ByteArray) : ((chaS key 0 nonce).extract 0 32).size = 32 := by rw [ByteArray.size_extract, chaS_size]; rfl
theorem ptag_any (key nonce aad c : ByteArray) (w : World) (ha : aad.size ≤ 100000) (hc : c.size ≤ 100000) :
    Calls Try.prog 26 #[.string ((chaS key 0 nonce).extract 0 32), .string aad, .string c] w fun e w' => e = .returned (.string (pTagS key nonce aad c)) ∧ Below w.heap.size w w' := tagOf_any _ aad c w (own_size key nonce) ha hc
set_option maxHeartbeats 1000000 in
theorem seal_ok (key nonce aad s : ByteArray) (w : World) (hk : key.size = 32) (hno : nonce.size = 12) (ha : aad.size ≤ 65536) (hs : s.size ≤ 65536) :
    Calls Try.prog 14 #[.string key, .string nonce, .string aad, .string s] w fun e w' => e = .returned (.tuple #[.string (sealT key nonce aad s), .int .i64 0]) ∧ Below w.heap.size w w' := by
  have HO := Lib.hid (fun u => own_ok key nonce u hk hno)
  have HC := Lib.hid (fun u => masked_any key nonce s u hk hno hs)
  have HT := Lib.hid (fun u => ptag_any key nonce aad (strS key 1 nonce s) u (by omega) (by rw [strS_size]; omega))
  have z1 := strS_size key 1 nonce s
  have z2 := pTagS_size key nonce aad (strS key 1 nonce s)
  have HE : Hid (strS key 1 nonce s ++ pTagS key nonce aad (strS key 1 nonce s) = sealT key nonce aad s) := rfl
  generalize sealT key nonce aad s = R at HE ⊢
  generalize pTagS key nonce aad (strS key 1 nonce s) = T at HT z2 HE
  generalize strS key 1 nonce s = C at HC HT z1 HE
  generalize (chaS key 0 nonce).extract 0 32 = O at HO HT
  obtain ⟨n, hn⟩ : ∃ n, s.size = n := ⟨_, rfl⟩
  have l1 : ((65536 : Int) < (aad.size : Int)) = False := eq_false (by omega)
  have l2 : ((65536 : Int) < (n : Int)) = False := eq_false (by omega)
  have q1 : ¬ 9223372036854775807 < n + 16 := by omega
  have z1 : C.size = n := by omega
  clear hk hno ha hs
  go_enter Try.func14, Try.ntmps14
  go_wp2_with (first
    | (go_at_call 24; refine (HO.out _).mono ?_; rintro e u0 ⟨rfl, hb0⟩)
    | (go_at_call 25; refine (HC.out _).mono ?_; rintro e u1 ⟨rfl, hb1⟩)
    | (go_at_call 26; refine (HT.out _).mono ?_; rintro e u2 ⟨rfl, hb2⟩))
  go_ret2
  exact ⟨by rw [← HE.out]; rfl, Lw.go_on (Lw.go_on hb0 hb1) hb2⟩
set_option maxHeartbeats 1000000 in
theorem seal_no (key nonce aad s : ByteArray) (w : World) (h : ¬ ((key.size = 32 ∧ nonce.size = 12 ∧ aad.size ≤ 65536) ∧ s.size ≤ 65536)) :
    Calls Try.prog 14 #[.string key, .string nonce, .string aad, .string s] w fun e w' => e = .returned (.tuple #[.string ⟨#[]⟩, .int .i64 700]) ∧ Below w.heap.size w w' := by
  have HH := Lib.hid h
  clear h
  by_cases h1 : key.size = 32 ∧ nonce.size = 12
  · have HO := Lib.hid (fun u => own_ok key nonce u h1.1 h1.2)
    generalize (chaS key 0 nonce).extract 0 32 = O at HO
    by_cases h3 : aad.size ≤ 65536
    · have l1 : ((65536 : Int) < (aad.size : Int)) = False := eq_false (by omega)
      have l2 : ((65536 : Int) < (s.size : Int)) = True := eq_true (by have := HH.out; omega)
      clear h1 h3
      go_enter Try.func14, Try.ntmps14
      go_wp2_with (go_at_call 24; refine (HO.out _).mono ?_; rintro e u0 ⟨rfl, hb0⟩)
      go_ret2
      exact ⟨rfl, hb0⟩
    · have l1 : ((65536 : Int) < (aad.size : Int)) = True := eq_true (by omega)
      clear h1 h3
      go_enter Try.func14, Try.ntmps14
      go_wp2_with (go_at_call 24; refine (HO.out _).mono ?_; rintro e u0 ⟨rfl, hb0⟩)
      go_ret2
      exact ⟨rfl, hb0⟩
  · have HO := Lib.hid (fun u => own_no key nonce u h1)
    clear h1
    go_enter Try.func14, Try.ntmps14
    go_wp2_with (go_at_call 24; refine (HO.out _).mono ?_; rintro e u0 ⟨rfl, hb0⟩)
    go_ret2
    exact ⟨rfl, hb0⟩
theorem seal_any (key nonce aad s : ByteArray) (w : World) :
    Calls Try.prog 14 #[.string key, .string nonce, .string aad, .string s] w fun e w' => e = .returned (.tuple #[.string (psS key nonce aad s), .int .i64 (psE key nonce aad s)]) ∧ Below w.heap.size w w' := by
  by_cases h : sealOk key nonce aad s = true
  · obtain ⟨⟨h1, h2, h3⟩, h4⟩ := (sealOk_iff key nonce aad s).1 h
    rw [show psS key nonce aad s = sealT key nonce aad s by unfold psS; rw [h]; rfl, show psE key nonce aad s = 0 by unfold psE; rw [h]; rfl]
    exact seal_ok key nonce aad s w h1 h2 h3 h4
  · have h' : sealOk key nonce aad s = false := by simpa using h
    rw [show psS key nonce aad s = ⟨#[]⟩ by unfold psS; rw [h']; rfl, show psE key nonce aad s = 700 by unfold psE; rw [h']; rfl]
    exact seal_no key nonce aad s w fun c => h ((sealOk_iff key nonce aad s).2 c)
/-- Open: refused ahead of the tag. -/
theorem open_no (key nonce aad s : ByteArray) (w : World) (h : ¬ ((key.size = 32 ∧ nonce.size = 12 ∧ aad.size ≤ 65536) ∧ 16 ≤ s.size ∧ s.size ≤ 65552)) :
    Calls Try.prog 16 #[.string key, .string nonce, .string aad, .string s] w fun e w' => e = .returned (.tuple #[.string ⟨#[]⟩, .int .i64 700]) ∧ Below w.heap.size w w' := by
  have HH := Lib.hid h
  clear h
  by_cases h1 : key.size = 32 ∧ nonce.size = 12
  · have HO := Lib.hid (fun u => own_ok key nonce u h1.1 h1.2)
    generalize (chaS key 0 nonce).extract 0 32 = O at HO
    by_cases h3 : aad.size ≤ 65536
    · have l1 : ((65536 : Int) < (aad.size : Int)) = False := eq_false (by omega)
      by_cases h4 : 16 ≤ s.size
      · have l2 : ((s.size : Int) < 16) = False := eq_false (by omega)
        have l3 : ((65552 : Int) < (s.size : Int)) = True := eq_true (by have := HH.out; omega)
        clear h1 h3 h4
        go_enter Try.func16, Try.ntmps16
        go_wp2_with (go_at_call 24; refine (HO.out _).mono ?_; rintro e u0 ⟨rfl, hb0⟩)
        go_ret2
        exact ⟨rfl, hb0⟩
      · have l2 : ((s.size : Int) < 16) = True := eq_true (by omega)
        clear h1 h3 h4
        go_enter Try.func16, Try.ntmps16
        go_wp2_with (go_at_call 24; refine (HO.out _).mono ?_; rintro e u0 ⟨rfl, hb0⟩)
        go_ret2
        exact ⟨rfl, hb0⟩
    · have l1 : ((65536 : Int) < (aad.size : Int)) = True := eq_true (by omega)
      clear h1 h3
      go_enter Try.func16, Try.ntmps16
      go_wp2_with (go_at_call 24; refine (HO.out _).mono ?_; rintro e u0 ⟨rfl, hb0⟩)
      go_ret2
      exact ⟨rfl, hb0⟩
  · have HO := Lib.hid (fun u => own_no key nonce u h1)
    clear h1
    go_enter Try.func16, Try.ntmps16
    go_wp2_with (go_at_call 24; refine (HO.out _).mono ?_; rintro e u0 ⟨rfl, hb0⟩)
    go_ret2
    exact ⟨rfl, hb0⟩
theorem flip (a b : ByteArray) : (a.toList == b.toList) = (b.toList == a.toList) := by
  rw [Bool.eq_iff_iff, same_iff, same_iff]
  exact ⟨fun h => h.symm, fun h => h.symm⟩
set_option maxHeartbeats 1000000 in
theorem open_bad (key nonce aad s : ByteArray) (k : Nat) (w : World) (h1 : key.size = 32) (h2 : nonce.size = 12) (h3 : aad.size ≤ 65536) (hk : s.size = k + 16) (h4 : k ≤ 65536) (ht : pTagOk key nonce aad s k = false) :
    Calls Try.prog 16 #[.string key, .string nonce, .string aad, .string s] w fun e w' => e = .returned (.tuple #[.string ⟨#[]⟩, .int .i64 700]) ∧ Below w.heap.size w w' := by
  have HO := Lib.hid (fun u => own_ok key nonce u h1 h2)
  have HT := Lib.hid (fun u => ptag_any key nonce aad (s.extract 0 k) u (by omega) (by rw [ByteArray.size_extract]; omega))
  have HTe : Hid (pTagOk key nonce aad s k = ((pTagS key nonce aad (s.extract 0 k)).toList == (s.extract k (k + 16)).toList)) := rfl
  have HE := Lib.hid ht
  rw [HTe.out, flip] at HE
  clear HTe ht
  generalize pTagS key nonce aad (s.extract 0 k) = T at HT HE
  generalize (chaS key 0 nonce).extract 0 32 = O at HO HT
  have l1 : ((65536 : Int) < (aad.size : Int)) = False := eq_false (by omega)
  have q1 : (s.size : Int) - 16 = (k : Int) := by omega
  have l2 : ((k : Int) + 16 < 16) = False := eq_false (by omega)
  have l3 : ((65552 : Int) < (k : Int) + 16) = False := eq_false (by omega)
  have k6 : (k : Int) ≤ 65536 := by omega
  have kk : (0 : Int) ≤ (k : Int) := by omega
  have kk2 : (k : Int) ≤ (k : Int) + 16 := by omega
  clear h1 h2 h3 h4
  go_enter Try.func16, Try.ntmps16
  go_upto_region 4 with (go_at_call 24; refine (HO.out _).mono ?_; rintro e u0 ⟨rfl, hb0⟩)
  go_quiet (fail)
  go_upto_region 5 with (fail)
  have e1 := HE.out
  go_wp2_with (go_at_call 26; refine (HT.out _).mono ?_; rintro e u2 ⟨rfl, hb2⟩)
  go_ret2
  exact ⟨rfl, Lw.go_on (Lw.below_drewN hb0 nq) hb2⟩
set_option maxHeartbeats 1000000 in
theorem open_ok (key nonce aad s : ByteArray) (k : Nat) (w : World) (h1 : key.size = 32) (h2 : nonce.size = 12) (h3 : aad.size ≤ 65536) (hk : s.size = k + 16) (h4 : k ≤ 65536) (ht : pTagOk key nonce aad s k = true) :
    Calls Try.prog 16 #[.string key, .string nonce, .string aad, .string s] w fun e w' => e = .returned (.tuple #[.string (strS key 1 nonce (s.extract 0 k)), .int .i64 0]) ∧ Below w.heap.size w w' := by
  have HO := Lib.hid (fun u => own_ok key nonce u h1 h2)
  have HT := Lib.hid (fun u => ptag_any key nonce aad (s.extract 0 k) u (by omega) (by rw [ByteArray.size_extract]; omega))
  have HSt := Lib.hid (fun u => masked_any key nonce (s.extract 0 k) u h1 h2 (by rw [ByteArray.size_extract]; omega))
  generalize strS key 1 nonce (s.extract 0 k) = R at HSt ⊢
  have HTe : Hid (pTagOk key nonce aad s k = ((pTagS key nonce aad (s.extract 0 k)).toList == (s.extract k (k + 16)).toList)) := rfl
  have HE := Lib.hid ht
  rw [HTe.out, flip] at HE
  clear HTe ht
  generalize pTagS key nonce aad (s.extract 0 k) = T at HT HE
  generalize (chaS key 0 nonce).extract 0 32 = O at HO HT
  have l1 : ((65536 : Int) < (aad.size : Int)) = False := eq_false (by omega)
  have q1 : (s.size : Int) - 16 = (k : Int) := by omega
  have l2 : ((k : Int) + 16 < 16) = False := eq_false (by omega)
  have l3 : ((65552 : Int) < (k : Int) + 16) = False := eq_false (by omega)
  have k6 : (k : Int) ≤ 65536 := by omega
  have kk : (0 : Int) ≤ (k : Int) := by omega
  have kk2 : (k : Int) ≤ (k : Int) + 16 := by omega
  clear h1 h2 h3 h4
  go_enter Try.func16, Try.ntmps16
  go_upto_region 4 with (go_at_call 24; refine (HO.out _).mono ?_; rintro e u0 ⟨rfl, hb0⟩)
  go_quiet (fail)
  go_upto_region 5 with (fail)
  have e1 := HE.out
  go_wp2_with (first
    | (go_at_call 26; refine (HT.out _).mono ?_; rintro e u2 ⟨rfl, hb2⟩)
    | (go_at_call 25; refine (HSt.out _).mono ?_; rintro e u3 ⟨rfl, hb3⟩))
  go_ret2
  exact ⟨rfl, Lw.go_on (Lw.go_on (Lw.below_drewN hb0 nq) hb2) hb3⟩
theorem open_any (key nonce aad s : ByteArray) (w : World) :
    Calls Try.prog 16 #[.string key, .string nonce, .string aad, .string s] w fun e w' => e = .returned (.tuple #[.string (poS key nonce aad s), .int .i64 (poE key nonce aad s)]) ∧ Below w.heap.size w w' := by
  by_cases h : openOk key nonce aad s = true
  · have hf := h
    unfold openOk at hf
    simp only [Bool.and_eq_true, aeOk_iff, decide_eq_true_iff] at hf
    obtain ⟨⟨h1, h2, h3⟩, ⟨h4, h5⟩, ht⟩ := hf
    rw [show poS key nonce aad s = strS key 1 nonce (s.extract 0 (s.size - 16)) by unfold poS; rw [h]; rfl, show poE key nonce aad s = 0 by unfold poE; rw [h]; rfl]
    exact open_ok key nonce aad s (s.size - 16) w h1 h2 h3 (by omega) (by omega) ht
  · have h' : openOk key nonce aad s = false := by simpa using h
    rw [show poS key nonce aad s = ⟨#[]⟩ by unfold poS; rw [h']; rfl, show poE key nonce aad s = 700 by unfold poE; rw [h']; rfl]
    by_cases hf : (key.size = 32 ∧ nonce.size = 12 ∧ aad.size ≤ 65536) ∧ 16 ≤ s.size ∧ s.size ≤ 65552
    · refine open_bad key nonce aad s (s.size - 16) w hf.1.1 hf.1.2.1 hf.1.2.2 (by omega) (by omega) ?_
      cases ht : pTagOk key nonce aad s (s.size - 16)
      · rfl
      · exact absurd (by unfold openOk; simp only [Bool.and_eq_true, aeOk_iff, decide_eq_true_iff]; exact ⟨hf.1, hf.2, ht⟩) h
    · exact open_no key nonce aad s w hf
end Go.Proofs.Ps
