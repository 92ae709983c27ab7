/-
  The document's own answer: the three suites: sizes, Seal and Open at every input.
-/
import Derived.Test.YtljhenjbjondkaaGreatJoam
import Derived.Test.YtljhenjbjondkaaGreatJoau
import Derived.Test.YtljhenjbjondkaaGreatJoav
namespace Go.Proofs.Ad
open Go.RowKit
open Go.Proofs.Pol (sealT psS psE sealOk sealOk_iff openOk poS poE)
/-- A suite's sizes, and whether it is one. -/
def sizK (z : Int) : Int := if z = 4865 then 16 else if z = 4866 then 32 else if z = 4867 then 32 else 0
def sizB (z : Int) : Int := if z = 4865 then 256 else if z = 4866 then 384 else if z = 4867 then 256 else 0
def sizE (z : Int) : Int := if z = 4865 then 0 else if z = 4866 then 0 else if z = 4867 then 0 else 800
theorem siz_one : sizK 4865 = 16 ∧ sizB 4865 = 256 ∧ sizE 4865 = 0 := ⟨rfl, rfl, rfl⟩
theorem siz_two : sizK 4866 = 32 ∧ sizB 4866 = 384 ∧ sizE 4866 = 0 := ⟨rfl, rfl, rfl⟩
theorem siz_three : sizK 4867 = 32 ∧ sizB 4867 = 256 ∧ sizE 4867 = 0 := ⟨rfl, rfl, rfl⟩
theorem siz_none {z : Int} (h1 : ¬ z = 4865) (h2 : ¬ z = 4866) (h3 : ¬ z = 4867) : sizK z = 0 ∧ sizB z = 0 ∧ sizE z = 800 := by
  unfold sizK sizB sizE
  rw [if_neg h1, if_neg h2, if_neg h3, if_neg h1, if_neg h2, if_neg h3, if_neg h1, if_neg h2, if_neg h3]
  exact ⟨rfl, rfl, rfl⟩
theorem siz_ok {z : Int} (h : sizE z = 0) : z = 4865 ∨ z = 4866 ∨ z = 4867 := by
  by_cases h1 : z = 4865
  · exact .inl h1
  · by_cases h2 : z = 4866
    · exact .inr (.inl h2)
    · by_cases h3 : z = 4867
      · exact .inr (.inr h3)
      · rw [(siz_none h1 h2 h3).2.2] at h; exact absurd h (by decide)
set_option maxHeartbeats 1000000 in
theorem rsizes_any (z : Int) (w : World) : Calls Tryz.prog 6 #[.int .i64 z] w fun e w' => e = .returned (.tuple #[.int .i64 (sizK z), .int .i64 (sizB z), .int .i64 (sizE z)]) ∧ w' = w := by
  by_cases h1 : z = 4865
  · subst h1
    go_enter Tryz.func6, Tryz.ntmps6
    go_wp2_with (fail)
    exact bodyPost_ret (v := .tuple #[.int .i64 16, .int .i64 256, .int .i64 0]) (by simp [results, Tryz.results6, go_sem]) rfl ⟨rfl, rfl⟩
  · have n1 : (z == 4865) = false := by simpa using h1
    by_cases h2 : z = 4866
    · subst h2
      go_enter Tryz.func6, Tryz.ntmps6
      go_wp2_with (fail)
      exact bodyPost_ret (v := .tuple #[.int .i64 32, .int .i64 384, .int .i64 0]) (by simp [results, Tryz.results6, go_sem]) rfl ⟨rfl, rfl⟩
    · have n2 : (z == 4866) = false := by simpa using h2
      by_cases h3 : z = 4867
      · subst h3
        go_enter Tryz.func6, Tryz.ntmps6
        go_wp2_with (fail)
        exact bodyPost_ret (v := .tuple #[.int .i64 32, .int .i64 256, .int .i64 0]) (by simp [results, Tryz.results6, go_sem]) rfl ⟨rfl, rfl⟩
      · have n3 : (z == 4867) = false := by simpa using h3
        obtain ⟨e1, e2, e3⟩ := siz_none h1 h2 h3
        rw [e1, e2, e3]
        go_enter Tryz.func6, Tryz.ntmps6
        go_wp2_with (fail)
        exact bodyPost_ret (v := .tuple #[.int .i64 0, .int .i64 0, .int .i64 800]) (by simp [results, Tryz.results6, go_sem]) rfl ⟨rfl, rfl⟩
theorem rsizes_below (z : Int) (w : World) : Calls Tryz.prog 6 #[.int .i64 z] w fun e w' => e = .returned (.tuple #[.int .i64 (sizK z), .int .i64 (sizB z), .int .i64 (sizE z)]) ∧ Below w.heap.size w w' :=
  (rsizes_any z w).mono fun _ _ ⟨h1, h2⟩ => ⟨h1, by rw [h2]; exact Below.refl _ _⟩
/-- P8.1's form; what Seal and Open answer. -/
def f8 (z : Int) (key nonce aad : ByteArray) : Bool := (decide (sizE z = 0) && decide ((key.size : Int) = sizK z)) && (decide (nonce.size = 12) && decide (aad.size ≤ 65536))
def s8Ok (z : Int) (key nonce aad s : ByteArray) : Bool := f8 z key nonce aad && decide (s.size ≤ 65536)
def s8T (z : Int) (key nonce aad s : ByteArray) : ByteArray := if z = 4867 then sealT key nonce aad s else Gcm.sealS key nonce aad s
def s8S (z : Int) (key nonce aad s : ByteArray) : ByteArray := bif s8Ok z key nonce aad s then s8T z key nonce aad s else ⟨#[]⟩
def s8E (z : Int) (key nonce aad s : ByteArray) : Int := bif s8Ok z key nonce aad s then 0 else 800
def o8F (z : Int) (key nonce aad s : ByteArray) : Bool := f8 z key nonce aad && decide (s.size ≤ 65552)
def o8B (z : Int) (key nonce aad s : ByteArray) : Bool := if z = 4867 then openOk key nonce aad s else Gcm.openB key nonce aad s
def o8T (z : Int) (key nonce aad s : ByteArray) : ByteArray := if z = 4867 then poS key nonce aad s else Gcm.openS key nonce aad s
def o8S (z : Int) (key nonce aad s : ByteArray) : ByteArray := bif o8F z key nonce aad s then (bif o8B z key nonce aad s then o8T z key nonce aad s else ⟨#[]⟩) else ⟨#[]⟩
def o8E (z : Int) (key nonce aad s : ByteArray) : Int := bif o8F z key nonce aad s then (bif o8B z key nonce aad s then 0 else 801) else 800
theorem f8_iff (z : Int) (key nonce aad : ByteArray) : f8 z key nonce aad = true ↔ (sizE z = 0 ∧ (key.size : Int) = sizK z) ∧ nonce.size = 12 ∧ aad.size ≤ 65536 := by unfold f8; simp
theorem s8_iff (z : Int) (key nonce aad s : ByteArray) : s8Ok z key nonce aad s = true ↔ ((sizE z = 0 ∧ (key.size : Int) = sizK z) ∧ nonce.size = 12 ∧ aad.size ≤ 65536) ∧ s.size ≤ 65536 := by unfold s8Ok; rw [Bool.and_eq_true, f8_iff, decide_eq_true_iff]
theorem o8_iff (z : Int) (key nonce aad s : ByteArray) : o8F z key nonce aad s = true ↔ ((sizE z = 0 ∧ (key.size : Int) = sizK z) ∧ nonce.size = 12 ∧ aad.size ≤ 65536) ∧ s.size ≤ 65552 := by unfold o8F; rw [Bool.and_eq_true, f8_iff, decide_eq_true_iff]
theorem keyOk_of {z : Int} {key : ByteArray} (h : sizE z = 0) (hk : (key.size : Int) = sizK z) : Gcm.keyOk key = true := by
  rcases siz_ok h with rfl | rfl | rfl
  · rw [siz_one.1] at hk; unfold Gcm.keyOk; rw [decide_eq_true (show key.size = 16 by omega)]; rfl
  · rw [siz_two.1] at hk; unfold Gcm.keyOk; rw [decide_eq_true (show key.size = 32 by omega)]; exact Bool.or_true _
  · rw [siz_three.1] at hk; unfold Gcm.keyOk; rw [decide_eq_true (show key.size = 32 by omega)]; exact Bool.or_true _
theorem gcmOk_of {key nonce aad s : ByteArray} {more : Nat} (h1 : Gcm.keyOk key = true) (h2 : nonce.size = 12) (h3 : aad.size ≤ 65536) (h4 : s.size ≤ 65536 + more) : Gcm.gcmOk key nonce aad s more = true := by
  unfold Gcm.gcmOk; rw [h1, decide_eq_true h2, decide_eq_true h3, decide_eq_true h4]; rfl
end Go.Proofs.Ad
/-
  The document's own answer: the three suites' Seal at every input.
-/
namespace Go.Proofs.Ad
open Go.RowKit
open Go.Proofs.Pol (sealT psS psE sealOk sealOk_iff openOk poS poE)
set_option maxHeartbeats 1000000 in
theorem r8seal_no (z : Int) (key nonce aad s : ByteArray) (w : World) (h : ¬ (((sizE z = 0 ∧ (key.size : Int) = sizK z) ∧ nonce.size = 12 ∧ aad.size ≤ 65536) ∧ s.size ≤ 65536)) :
    Calls Tryz.prog 8 #[.int .i64 z, .string key, .string nonce, .string aad, .string s] w fun e w' => e = .returned (.tuple #[.string ⟨#[]⟩, .int .i64 800]) ∧ Below w.heap.size w w' := by
  have HH := Lib.hid h
  have HSz := Lib.hid (fun u => rsizes_any z u)
  clear h
  generalize sizB z = B at HSz
  by_cases h0 : sizE z = 0
  · rw [h0] at HSz
    generalize hK : sizK z = K at HSz HH
    by_cases h1 : (key.size : Int) = K
    · have k1 : ((key.size : Int) == K) = true := by simpa using h1
      have k2 : ((key.size : Int) != K) = false := by simp only [bne, k1]; rfl
      by_cases h2 : nonce.size = 12
      · have ns : (nonce.size : Int) = 12 := by omega
        by_cases h3 : aad.size ≤ 65536
        · have l1 : ((65536 : Int) < (aad.size : Int)) = False := eq_false (by omega)
          have l2 : ((65536 : Int) < (s.size : Int)) = True := eq_true (by have hh := HH.out; rw [h0] at hh; by_cases h4 : s.size ≤ 65536; exact absurd ⟨⟨⟨rfl, h1⟩, h2, h3⟩, h4⟩ hh; omega)
          clear h0 h1 h2 h3 hK
          go_enter Tryz.func8, Tryz.ntmps8
          go_wp2_with (go_at_call 6; refine (HSz.out _).mono ?_; rintro e u ⟨rfl, rfl⟩)
          go_ret2
          exact ⟨rfl, Below.refl _ _⟩
        · have l1 : ((65536 : Int) < (aad.size : Int)) = True := eq_true (by omega)
          clear h0 h1 h2 h3 hK
          go_enter Tryz.func8, Tryz.ntmps8
          go_wp2_with (go_at_call 6; refine (HSz.out _).mono ?_; rintro e u ⟨rfl, rfl⟩)
          go_ret2
          exact ⟨rfl, Below.refl _ _⟩
      · have ns : ((nonce.size : Int) = 12) = False := eq_false (by omega)
        have ns2 : ((nonce.size : Int) == 12) = false := by simpa using ns
        have ns3 : ((nonce.size : Int) != 12) = true := by simp only [bne, ns2]; rfl
        clear h0 h1 h2 hK
        go_enter Tryz.func8, Tryz.ntmps8
        go_wp2_with (go_at_call 6; refine (HSz.out _).mono ?_; rintro e u ⟨rfl, rfl⟩)
        go_ret2
        exact ⟨rfl, Below.refl _ _⟩
    · have k1 : ((key.size : Int) == K) = false := by simpa using h1
      have k2 : ((key.size : Int) != K) = true := by simp only [bne, k1]; rfl
      clear h0 h1 hK
      go_enter Tryz.func8, Tryz.ntmps8
      go_wp2_with (go_at_call 6; refine (HSz.out _).mono ?_; rintro e u ⟨rfl, rfl⟩)
      go_ret2
      exact ⟨rfl, Below.refl _ _⟩
  · have e0 : (sizE z == 0) = false := by simpa using h0
    have e1 : (sizE z != 0) = true := by simp only [bne, e0]; rfl
    generalize sizE z = E at HSz e0 e1
    generalize sizK z = K at HSz
    clear h0 HH
    go_enter Tryz.func8, Tryz.ntmps8
    go_wp2_with (go_at_call 6; refine (HSz.out _).mono ?_; rintro e u ⟨rfl, rfl⟩)
    go_ret2
    exact ⟨rfl, Below.refl _ _⟩
theorem gcm_fine (key nonce aad s : ByteArray) (w : World) (h1 : Gcm.keyOk key = true) (h2 : nonce.size = 12) (h3 : aad.size ≤ 65536) (h4 : s.size ≤ 65536) :
    Calls Tryz.prog 19 #[.string key, .string nonce, .string aad, .string s] w fun e w' => e = .returned (.tuple #[.string (Gcm.sealS key nonce aad s), .int .i64 0]) ∧ Below w.heap.size w w' := by
  have h := Gcm.rseal_any key nonce aad s w
  have ok := gcmOk_of (more := 0) h1 h2 h3 h4
  rw [show Gcm.gcmS key nonce aad s = Gcm.sealS key nonce aad s by unfold Gcm.gcmS; rw [ok]; rfl, show Gcm.gcmE key nonce aad s = 0 by unfold Gcm.gcmE; rw [ok]; rfl] at h
  exact h
set_option maxHeartbeats 1000000 in
theorem r8seal_ok (z : Int) (key nonce aad s : ByteArray) (w : World) (h0 : sizE z = 0) (h1 : (key.size : Int) = sizK z) (h2 : nonce.size = 12) (h3 : aad.size ≤ 65536) (h4 : s.size ≤ 65536) :
    Calls Tryz.prog 8 #[.int .i64 z, .string key, .string nonce, .string aad, .string s] w fun e w' => e = .returned (.tuple #[.string (s8T z key nonce aad s), .int .i64 0]) ∧ Below w.heap.size w w' := by
  have HSz := Lib.hid (fun u => rsizes_any z u)
  have hk := keyOk_of h0 h1
  rw [h0] at HSz
  have k1 : ((key.size : Int) == sizK z) = true := by simpa using h1
  have k2 : ((key.size : Int) != sizK z) = false := by simp only [bne, k1]; rfl
  have ns : (nonce.size : Int) = 12 := by omega
  have l1 : ((65536 : Int) < (aad.size : Int)) = False := eq_false (by omega)
  have l2 : ((65536 : Int) < (s.size : Int)) = False := eq_false (by omega)
  by_cases hz : z = 4867
  · have HT : Hid (s8T z key nonce aad s = sealT key nonce aad s) := by show _ = _; unfold s8T; rw [if_pos hz]
    have HP := Lib.hid (fun u => Pol.rseal_ok key nonce aad s u (by rw [hz, siz_three.1] at h1; omega) h2 h3 h4)
    rw [HT.out]
    generalize sealT key nonce aad s = R at HP ⊢
    generalize sizK z = K at HSz k1 k2
    generalize sizB z = B at HSz
    clear HT h0 h1 h2 h3 h4 hk
    subst hz
    go_enter Tryz.func8, Tryz.ntmps8
    go_wp2_with (first
      | (go_at_call 6; refine (HSz.out _).mono ?_; rintro e u ⟨rfl, rfl⟩)
      | (go_at_call 18; refine (HP.out _).mono ?_; rintro e u1 ⟨rfl, hb⟩))
    go_ret2
    exact ⟨rfl, hb⟩
  · have HT : Hid (s8T z key nonce aad s = Gcm.sealS key nonce aad s) := by show _ = _; unfold s8T; rw [if_neg hz]
    have HP := Lib.hid (fun u => gcm_fine key nonce aad s u hk h2 h3 h4)
    have z1 : (z == 4867) = false := by simpa using hz
    have z2 : (z = 4867) = False := eq_false hz
    rw [HT.out]
    generalize Gcm.sealS key nonce aad s = R at HP ⊢
    generalize sizK z = K at HSz k1 k2
    generalize sizB z = B at HSz
    clear HT h0 h1 h2 h3 h4 hk hz
    go_enter Tryz.func8, Tryz.ntmps8
    go_wp2_with (first
      | (go_at_call 6; refine (HSz.out _).mono ?_; rintro e u ⟨rfl, rfl⟩)
      | (go_at_call 19; refine (HP.out _).mono ?_; rintro e u1 ⟨rfl, hb⟩))
    go_ret2
    exact ⟨rfl, hb⟩
theorem r8seal_any (z : Int) (key nonce aad s : ByteArray) (w : World) :
    Calls Tryz.prog 8 #[.int .i64 z, .string key, .string nonce, .string aad, .string s] w fun e w' => e = .returned (.tuple #[.string (s8S z key nonce aad s), .int .i64 (s8E z key nonce aad s)]) ∧ Below w.heap.size w w' := by
  by_cases h : s8Ok z key nonce aad s = true
  · obtain ⟨⟨⟨h0, h1⟩, h2, h3⟩, h4⟩ := (s8_iff z key nonce aad s).1 h
    rw [show s8S z key nonce aad s = s8T z key nonce aad s by unfold s8S; rw [h]; rfl, show s8E z key nonce aad s = 0 by unfold s8E; rw [h]; rfl]
    exact r8seal_ok z key nonce aad s w h0 h1 h2 h3 h4
  · have h' : s8Ok z key nonce aad s = false := by simpa using h
    rw [show s8S z key nonce aad s = ⟨#[]⟩ by unfold s8S; rw [h']; rfl, show s8E z key nonce aad s = 800 by unfold s8E; rw [h']; rfl]
    exact r8seal_no z key nonce aad s w fun c => h ((s8_iff z key nonce aad s).2 c)
end Go.Proofs.Ad
/-
  The document's own answer: the three suites' Open at every input.
-/
namespace Go.Proofs.Ad
open Go.RowKit
open Go.Proofs.Pol (openOk poS poE)
set_option maxHeartbeats 1000000 in
theorem r8open_no (z : Int) (key nonce aad s : ByteArray) (w : World) (h : ¬ (((sizE z = 0 ∧ (key.size : Int) = sizK z) ∧ nonce.size = 12 ∧ aad.size ≤ 65536) ∧ s.size ≤ 65552)) :
    Calls Tryz.prog 10 #[.int .i64 z, .string key, .string nonce, .string aad, .string s] w fun e w' => e = .returned (.tuple #[.string ⟨#[]⟩, .int .i64 800]) ∧ Below w.heap.size w w' := by
  have HH := Lib.hid h
  have HSz := Lib.hid (fun u => rsizes_any z u)
  clear h
  generalize sizB z = B at HSz
  by_cases h0 : sizE z = 0
  · rw [h0] at HSz
    generalize hK : sizK z = K at HSz HH
    by_cases h1 : (key.size : Int) = K
    · have k1 : ((key.size : Int) == K) = true := by simpa using h1
      have k2 : ((key.size : Int) != K) = false := by simp only [bne, k1]; rfl
      by_cases h2 : nonce.size = 12
      · have ns : (nonce.size : Int) = 12 := by omega
        by_cases h3 : aad.size ≤ 65536
        · have l1 : ((65536 : Int) < (aad.size : Int)) = False := eq_false (by omega)
          have l2 : ((65552 : Int) < (s.size : Int)) = True := eq_true (by have hh := HH.out; rw [h0] at hh; by_cases h4 : s.size ≤ 65552; exact absurd ⟨⟨⟨rfl, h1⟩, h2, h3⟩, h4⟩ hh; omega)
          clear h0 h1 h2 h3 hK
          go_enter Tryz.func10, Tryz.ntmps10
          go_wp2_with (go_at_call 6; refine (HSz.out _).mono ?_; rintro e u ⟨rfl, rfl⟩)
          go_ret2
          exact ⟨rfl, Below.refl _ _⟩
        · have l1 : ((65536 : Int) < (aad.size : Int)) = True := eq_true (by omega)
          clear h0 h1 h2 h3 hK
          go_enter Tryz.func10, Tryz.ntmps10
          go_wp2_with (go_at_call 6; refine (HSz.out _).mono ?_; rintro e u ⟨rfl, rfl⟩)
          go_ret2
          exact ⟨rfl, Below.refl _ _⟩
      · have ns : ((nonce.size : Int) = 12) = False := eq_false (by omega)
        have ns2 : ((nonce.size : Int) == 12) = false := by simpa using ns
        have ns3 : ((nonce.size : Int) != 12) = true := by simp only [bne, ns2]; rfl
        clear h0 h1 h2 hK
        go_enter Tryz.func10, Tryz.ntmps10
        go_wp2_with (go_at_call 6; refine (HSz.out _).mono ?_; rintro e u ⟨rfl, rfl⟩)
        go_ret2
        exact ⟨rfl, Below.refl _ _⟩
    · have k1 : ((key.size : Int) == K) = false := by simpa using h1
      have k2 : ((key.size : Int) != K) = true := by simp only [bne, k1]; rfl
      clear h0 h1 hK
      go_enter Tryz.func10, Tryz.ntmps10
      go_wp2_with (go_at_call 6; refine (HSz.out _).mono ?_; rintro e u ⟨rfl, rfl⟩)
      go_ret2
      exact ⟨rfl, Below.refl _ _⟩
  · have e0 : (sizE z == 0) = false := by simpa using h0
    have e1 : (sizE z != 0) = true := by simp only [bne, e0]; rfl
    generalize sizE z = E at HSz e0 e1
    generalize sizK z = K at HSz
    clear h0 HH
    go_enter Tryz.func10, Tryz.ntmps10
    go_wp2_with (go_at_call 6; refine (HSz.out _).mono ?_; rintro e u ⟨rfl, rfl⟩)
    go_ret2
    exact ⟨rfl, Below.refl _ _⟩
theorem gcm_opens (key nonce aad s : ByteArray) (w : World) (h1 : Gcm.keyOk key = true) (h2 : nonce.size = 12) (h3 : aad.size ≤ 65536) (h4 : s.size ≤ 65552) :
    Calls Tryz.prog 23 #[.string key, .string nonce, .string aad, .string s] w fun e w' => e = .returned (.tuple #[.string (bif Gcm.openB key nonce aad s then Gcm.openS key nonce aad s else ⟨#[]⟩), .int .i64 (bif Gcm.openB key nonce aad s then 0 else 501)]) ∧ Below w.heap.size w w' := by
  have h := Gcm.ropen_any key nonce aad s w
  have ok := gcmOk_of (more := 16) h1 h2 h3 (show s.size ≤ 65536 + 16 by omega)
  cases hb : Gcm.openB key nonce aad s
  · rw [show Gcm.openS key nonce aad s = ⟨#[]⟩ by unfold Gcm.openS; rw [hb]; rfl, show Gcm.openE key nonce aad s = 501 by unfold Gcm.openE; rw [hb, ok]; rfl] at h
    exact h
  · rw [show Gcm.openE key nonce aad s = 0 by unfold Gcm.openE; rw [hb]; rfl] at h
    exact h
theorem pol_opens (key nonce aad s : ByteArray) (w : World) (hs : s.size ≤ 65552) :
    Calls Tryz.prog 22 #[.string key, .string nonce, .string aad, .string s] w fun e w' => e = .returned (.tuple #[.string (bif openOk key nonce aad s then poS key nonce aad s else ⟨#[]⟩), .int .i64 (bif openOk key nonce aad s then 0 else 700)]) ∧ Below w.heap.size w w' := by
  have h := Pol.ropen_any key nonce aad s w (by omega)
  cases hb : openOk key nonce aad s
  · rw [show poS key nonce aad s = ⟨#[]⟩ by unfold poS; rw [hb]; rfl, show poE key nonce aad s = 700 by unfold poE; rw [hb]; rfl] at h
    exact h
  · rw [show poE key nonce aad s = 0 by unfold poE; rw [hb]; rfl] at h
    exact h
set_option maxHeartbeats 1000000 in
theorem r8open_ok (z : Int) (key nonce aad s : ByteArray) (w : World) (h0 : sizE z = 0) (h1 : (key.size : Int) = sizK z) (h2 : nonce.size = 12) (h3 : aad.size ≤ 65536) (h4 : s.size ≤ 65552) :
    Calls Tryz.prog 10 #[.int .i64 z, .string key, .string nonce, .string aad, .string s] w fun e w' => e = .returned (.tuple #[.string (bif o8B z key nonce aad s then o8T z key nonce aad s else ⟨#[]⟩), .int .i64 (bif o8B z key nonce aad s then 0 else 801)]) ∧ Below w.heap.size w w' := by
  have HSz := Lib.hid (fun u => rsizes_any z u)
  have hk := keyOk_of h0 h1
  rw [h0] at HSz
  have k1 : ((key.size : Int) == sizK z) = true := by simpa using h1
  have k2 : ((key.size : Int) != sizK z) = false := by simp only [bne, k1]; rfl
  have ns : (nonce.size : Int) = 12 := by omega
  have l1 : ((65536 : Int) < (aad.size : Int)) = False := eq_false (by omega)
  have l2 : ((65552 : Int) < (s.size : Int)) = False := eq_false (by omega)
  by_cases hz : z = 4867
  · have HP := Lib.hid (fun u => pol_opens key nonce aad s u h4)
    rw [show o8B z key nonce aad s = openOk key nonce aad s by unfold o8B; rw [if_pos hz], show o8T z key nonce aad s = poS key nonce aad s by unfold o8T; rw [if_pos hz]]
    generalize poS key nonce aad s = R at HP ⊢
    generalize sizK z = K at HSz k1 k2
    generalize sizB z = B at HSz
    clear h0 h1 h2 h3 h4 hk
    subst hz
    cases hb : openOk key nonce aad s
    · rw [hb] at HP
      simp only [cond_false] at HP ⊢
      clear hb
      go_enter Tryz.func10, Tryz.ntmps10
      go_wp2_with (first
        | (go_at_call 6; refine (HSz.out _).mono ?_; rintro e u ⟨rfl, rfl⟩)
        | (go_at_call 22; refine (HP.out _).mono ?_; rintro e u1 ⟨rfl, hb⟩))
      go_ret2
      exact ⟨rfl, hb⟩
    · rw [hb] at HP
      simp only [cond_true] at HP ⊢
      clear hb
      go_enter Tryz.func10, Tryz.ntmps10
      go_wp2_with (first
        | (go_at_call 6; refine (HSz.out _).mono ?_; rintro e u ⟨rfl, rfl⟩)
        | (go_at_call 22; refine (HP.out _).mono ?_; rintro e u1 ⟨rfl, hb⟩))
      go_ret2
      exact ⟨rfl, hb⟩
  · have HP := Lib.hid (fun u => gcm_opens key nonce aad s u hk h2 h3 h4)
    have z1 : (z == 4867) = false := by simpa using hz
    have z2 : (z = 4867) = False := eq_false hz
    rw [show o8B z key nonce aad s = Gcm.openB key nonce aad s by unfold o8B; rw [if_neg hz], show o8T z key nonce aad s = Gcm.openS key nonce aad s by unfold o8T; rw [if_neg hz]]
    generalize Gcm.openS key nonce aad s = R at HP ⊢
    generalize sizK z = K at HSz k1 k2
    generalize sizB z = B at HSz
    clear h0 h1 h2 h3 h4 hk hz
    cases hb : Gcm.openB key nonce aad s
    · rw [hb] at HP
      simp only [cond_false] at HP ⊢
      clear hb
      go_enter Tryz.func10, Tryz.ntmps10
      go_wp2_with (first
        | (go_at_call 6; refine (HSz.out _).mono ?_; rintro e u ⟨rfl, rfl⟩)
        | (go_at_call 23; refine (HP.out _).mono ?_; rintro e u1 ⟨rfl, hb⟩))
      go_ret2
      exact ⟨rfl, hb⟩
    · rw [hb] at HP
      simp only [cond_true] at HP ⊢
      clear hb
      go_enter Tryz.func10, Tryz.ntmps10
      go_wp2_with (first
        | (go_at_call 6; refine (HSz.out _).mono ?_; rintro e u ⟨rfl, rfl⟩)
        | (go_at_call 23; refine (HP.out _).mono ?_; rintro e u1 ⟨rfl, hb⟩))
      go_ret2
      exact ⟨rfl, hb⟩
theorem r8open_any (z : Int) (key nonce aad s : ByteArray) (w : World) :
    Calls Tryz.prog 10 #[.int .i64 z, .string key, .string nonce, .string aad, .string s] w fun e w' => e = .returned (.tuple #[.string (o8S z key nonce aad s), .int .i64 (o8E z key nonce aad s)]) ∧ Below w.heap.size w w' := by
  by_cases h : o8F z key nonce aad s = true
  · obtain ⟨⟨⟨h0, h1⟩, h2, h3⟩, h4⟩ := (o8_iff z key nonce aad s).1 h
    rw [show o8S z key nonce aad s = (bif o8B z key nonce aad s then o8T z key nonce aad s else ⟨#[]⟩) by unfold o8S; rw [h]; rfl, show o8E z key nonce aad s = (bif o8B z key nonce aad s then 0 else 801) by unfold o8E; rw [h]; rfl]
    exact r8open_ok z key nonce aad s w h0 h1 h2 h3 h4
  · have h' : o8F z key nonce aad s = false := by simpa using h
    rw [show o8S z key nonce aad s = ⟨#[]⟩ by unfold o8S; rw [h']; rfl, show o8E z key nonce aad s = 800 by unfold o8E; rw [h']; rfl]
    exact r8open_no z key nonce aad s w fun c => h ((o8_iff z key nonce aad s).2 c)
end Go.Proofs.Ad
