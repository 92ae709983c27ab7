/-
  The document's own answer: the three suites: sizes, Seal and Open at every input.
-/
import Derived.Test.YtljhenjbjondkaaJoai
import Derived.BigQuiet
import Derived.Deep.QuietTactic
import Derived.Deep.RegionHeld3
import Derived.Test.YtljhenjbjondkaaJoak
import Derived.Test.YtljhenjbjondkaaJoam
import Derived.Test.YtljhenjbjondkaaJoah
namespace Go.Proofs.Ad
open Go.RowKit
open Go.Proofs.Pol (sealT psS psE sealOk sealOk_iff openOk poS poE)
/-- A suite's sizes, and whether it is one. -/
def sizK (z : Int) : Int := if z = 4865 then 16 else if z = 4866 then 32 else if z = 4867 then 32 else 0
def sizB (z : Int) : Int := if z = 4865 then 256 else if z = 4866 then 384 else if z = 4867 then 256 else 0
def sizE (z : Int) : Int := if z = 4865 then 0 else if z = 4866 then 0 else if z = 4867 then 0 else 800
theorem siz_one : sizK 4865 = 16 ∧ sizB 4865 = 256 ∧ sizE 4865 = 0 := ⟨rfl, rfl, rfl⟩
theorem siz_two : sizK 4866 = 32 ∧ sizB 4866 = 384 ∧ sizE 4866 = 0 := ⟨rfl, rfl, rfl⟩
theorem siz_three : sizK 4867 = 32 ∧ sizB 4867 = 256 ∧ sizE 4867 = 0 := ⟨rfl, rfl, rfl⟩
theorem siz_none {z : Int} (h1 : ¬ z = 4865) (h2 : ¬ z = 4866) (h3 : ¬ z = 4867) : sizK z = 0 ∧ sizB z = 0 ∧ sizE z = 800 := by
  unfold sizK sizB sizE
  rw [if_neg h1, if_neg h2, if_neg h3, if_neg h1, if_neg h2, if_neg h3, if_neg h1, if_neg h2, if_neg h3]
  exact ⟨rfl, rfl, rfl⟩
theorem siz_ok {z : Int} (h : sizE z = 0) : z = 4865 ∨ z = 4866 ∨ z = 4867 := by
  by_cases h1 : z = 4865
  · exact .inl h1
  · by_cases h2 : z = 4866
    · exact .inr (.inl h2)
    · by_cases h3 : z = 4867
      · exact .inr (.inr h3)
      · rw [(siz_none h1 h2 h3).2.2] at h; exact absurd h (by decide)
/-- P8.1's form; what Seal and Open answer. -/
def f8 (z : Int) (key nonce aad : ByteArray) : Bool := (decide (sizE z = 0) && decide ((key.size : Int) = sizK z)) && (decide (nonce.size = 12) && decide (aad.size ≤ 65536))
def s8Ok (z : Int) (key nonce aad s : ByteArray) : Bool := f8 z key nonce aad && decide (s.size ≤ 65536)
def s8T (z : Int) (key nonce aad s : ByteArray) : ByteArray := if z = 4867 then sealT key nonce aad s else Gcm.sealS key nonce aad s
def s8S (z : Int) (key nonce aad s : ByteArray) : ByteArray := bif s8Ok z key nonce aad s then s8T z key nonce aad s else ⟨#[]⟩
def s8E (z : Int) (key nonce aad s : ByteArray) : Int := bif s8Ok z key nonce aad s then 0 else 800
def o8F (z : Int) (key nonce aad s : ByteArray) : Bool := f8 z key nonce aad && decide (s.size ≤ 65552)
def o8B (z : Int) (key nonce aad s : ByteArray) : Bool := if z = 4867 then openOk key nonce aad s else Gcm.openB key nonce aad s
def o8T (z : Int) (key nonce aad s : ByteArray) : ByteArray := if z = 4867 then poS key nonce aad s else Gcm.openS key nonce aad s
def o8S (z : Int) (key nonce aad s : ByteArray) : ByteArray := bif o8F z key nonce aad s then (bif o8B z key nonce aad s then o8T z key nonce aad s else ⟨#[]⟩) else ⟨#[]⟩
def o8E (z : Int) (key nonce aad s : ByteArray) : Int := bif o8F z key nonce aad s then (bif o8B z key nonce aad s then 0 else 801) else 800
theorem f8_iff (z : Int) (key nonce aad : ByteArray) : f8 z key nonce aad = true ↔ (sizE z = 0 ∧ (key.size : Int) = sizK z) ∧ nonce.size = 12 ∧ aad.size ≤ 65536 := by unfold f8; simp
theorem s8_iff (z : Int) (key nonce aad s : ByteArray) : s8Ok z key nonce aad s = true ↔ ((sizE z = 0 ∧ (key.size : Int) = sizK z) ∧ nonce.size = 12 ∧ aad.size ≤ 65536) ∧ s.size ≤ 65536 := by unfold s8Ok; rw [Bool.and_eq_true, f8_iff, decide_eq_true_iff]
theorem o8_iff (z : Int) (key nonce aad s : ByteArray) : o8F z key nonce aad s = true ↔ ((sizE z = 0 ∧ (key.size : Int) = sizK z) ∧ nonce.size = 12 ∧ aad.size ≤ 65536) ∧ s.size ≤ 65552 := by unfold o8F; rw [Bool.and_eq_true, f8_iff, decide_eq_true_iff]
theorem keyOk_of {z : Int} {key : ByteArray} (h : sizE z = 0) (hk : (key.size : Int) = sizK z) : Gcm.keyOk key = true := by
  rcases siz_ok h with rfl | rfl | rfl
  · rw [siz_one.1] at hk; unfold Gcm.keyOk; rw [decide_eq_true (show key.size = 16 by omega)]; rfl
  · rw [siz_two.1] at hk; unfold Gcm.keyOk; rw [decide_eq_true (show key.size = 32 by omega)]; exact Bool.or_true _
  · rw [siz_three.1] at hk; unfold Gcm.keyOk; rw [decide_eq_true (show key.size = 32 by omega)]; exact Bool.or_true _
theorem gcmOk_of {key nonce aad s : ByteArray} {more : Nat} (h1 : Gcm.keyOk key = true) (h2 : nonce.size = 12) (h3 : aad.size ≤ 65536) (h4 : s.size ≤ 65536 + more) : Gcm.gcmOk key nonce aad s more = true := by
  unfold Gcm.gcmOk; rw [h1, decide_eq_true h2, decide_eq_true h3, decide_eq_true h4]; rfl
end Go.Proofs.Ad
/-
  Poly1305 and ChaCha20-Poly1305: known tags by the kernel; what was sealed is opened. Of no program.
-/
namespace Go.Proofs.Pol
open Go.RowKit
open Go.Proofs.Aes (byt byt_lt get_byt)
open Go.Proofs.Cha
def ownZ : ByteArray := ⟨#[118, 184, 224, 173, 160, 241, 61, 144, 64, 93, 106, 229, 83, 134, 189, 40, 189, 210, 25, 184, 160, 141, 237, 26, 168, 54, 239, 204, 139, 119, 13, 199]⟩
def abcS : ByteArray := ⟨#[97, 98, 99]⟩
def aT : ByteArray := ⟨#[97]⟩
def bT : ByteArray := ⟨#[98]⟩
def helloS : ByteArray := ⟨#[104, 101, 108, 108, 111]⟩
def cT : ByteArray := ⟨#[247, 98, 139, 210, 58]⟩
def keyR : ByteArray := ⟨#[133, 214, 190, 120, 87, 85, 109, 51, 127, 68, 82, 254, 66, 213, 6, 168, 1, 3, 128, 138, 251, 13, 178, 253, 74, 191, 246, 175, 65, 73, 245, 27]⟩
def textR : ByteArray := ⟨#[67, 114, 121, 112, 116, 111, 103, 114, 97, 112, 104, 105, 99, 32, 70, 111, 114, 117, 109, 32, 82, 101, 115, 101, 97, 114, 99, 104, 32, 71, 114, 111, 117, 112]⟩
def tagR : ByteArray := ⟨#[168, 6, 29, 193, 48, 81, 54, 198, 194, 43, 139, 175, 12, 1, 39, 169]⟩
set_option maxRecDepth 100000 in
theorem rnd0 : rndL (toL (ini z32 0 z12) 16) 10 = [1282424849, 1562217778, 1812475918, 3181191391, 3088700093, 451775904, 3438229160, 3339548555, 2086224346, 2370328401, 1071654007, 927652024, 4105716586, 480319509, 1773569987, 2254827186] := by kernel_rfl
set_option maxRecDepth 100000 in
theorem rnd1 : rndL (toL (ini z32 1 z12) 16) 10 = [1568051002, 1192750311, 53841254, 2716321791, 2687045579, 1768285000, 1045677586, 3984256562, 1981921065, 1129244316, 2956161493, 3577337972, 673180976, 1174080081, 520806828, 1867348299] := by kernel_rfl
theorem chaB_0 (t : Nat) (h : t < 64) : chaB (ini z32 0 z12) t = add32 (ini z32 0 z12 (t / 4)) (ofL [1282424849, 1562217778, 1812475918, 3181191391, 3088700093, 451775904, 3438229160, 3339548555, 2086224346, 2370328401, 1071654007, 927652024, 4105716586, 480319509, 1773569987, 2254827186] (t / 4)) / 256 ^ (t % 4) % 256 := by
  unfold chaB
  rw [← rndL_eq (X := ini z32 0 z12) (l := toL (ini z32 0 z12) 16) (fun t ht => ofL_toL _ _ _ ht) 10 (t / 4) (by omega), rnd0]
theorem chaB_1 (t : Nat) (h : t < 64) : chaB (ini z32 1 z12) t = add32 (ini z32 1 z12 (t / 4)) (ofL [1568051002, 1192750311, 53841254, 2716321791, 2687045579, 1768285000, 1045677586, 3984256562, 1981921065, 1129244316, 2956161493, 3577337972, 673180976, 1174080081, 520806828, 1867348299] (t / 4)) / 256 ^ (t % 4) % 256 := by
  unfold chaB
  rw [← rndL_eq (X := ini z32 1 z12) (l := toL (ini z32 1 z12) 16) (fun t ht => ofL_toL _ _ _ ht) 10 (t / 4) (by omega), rnd1]
set_option maxRecDepth 100000 in
theorem all_0 : ∀ t, t < 32 → add32 (ini z32 0 z12 (t / 4)) (ofL [1282424849, 1562217778, 1812475918, 3181191391, 3088700093, 451775904, 3438229160, 3339548555, 2086224346, 2370328401, 1071654007, 927652024, 4105716586, 480319509, 1773569987, 2254827186] (t / 4)) / 256 ^ (t % 4) % 256 = byt ownZ t := by decide +kernel
set_option maxRecDepth 100000 in
theorem all_1 : ∀ t, t < 5 → byt helloS t ^^^ (add32 (ini z32 1 z12 (t / 4)) (ofL [1568051002, 1192750311, 53841254, 2716321791, 2687045579, 1768285000, 1045677586, 3984256562, 1981921065, 1129244316, 2956161493, 3577337972, 673180976, 1174080081, 520806828, 1867348299] (t / 4)) / 256 ^ (t % 4) % 256) = byt cT t := by decide +kernel
theorem own_known : (chaS z32 0 z12).extract 0 32 = ownZ := by
  have zs : ((chaS z32 0 z12).extract 0 32).size = 32 := by rw [ByteArray.size_extract, chaS_size]; rfl
  refine text_ext (by rw [zs]; rfl) fun t ht => ?_
  rw [zs] at ht
  rw [byt_cut _ 0 32 t (by omega) (by rw [chaS_size]; decide), Nat.zero_add]
  unfold chaS
  have h1 := chaB_0 t (by omega)
  rw [byt_nums _ 64 t (by omega) (by rw [h1]; exact Nat.mod_lt _ (by decide)), h1]
  exact all_0 t ht
theorem str_known : strS z32 1 z12 helloS = cT := by
  have zs : (strS z32 1 z12 helloS).size = 5 := strS_size _ _ _ _
  refine text_ext (by rw [zs]; rfl) fun t ht => ?_
  rw [zs] at ht
  rw [strS_byt _ _ _ _ _ (show t < helloS.size from ht)]
  unfold strB
  rw [show (1 + t / 64) % 4294967296 = 1 by omega, show t % 64 = t by omega]
  unfold chaS
  have h1 := chaB_1 t (by omega)
  rw [byt_nums _ 64 t (by omega) (by rw [h1]; exact Nat.mod_lt _ (by decide)), h1]
  exact all_1 t ht
set_option maxRecDepth 100000 in
theorem mac_abc : macS z32 abcS = z32.extract 0 16 := by kernel_rfl
set_option maxRecDepth 100000 in
theorem mac_rfc : macS keyR textR = tagR := by kernel_rfl
set_option maxRecDepth 100000 in
theorem tag_a : macS ownZ (allS aT cT) = ⟨#[123, 66, 112, 67, 171, 115, 234, 217, 71, 159, 202, 242, 180, 80, 18, 227]⟩ := by kernel_rfl
set_option maxRecDepth 100000 in
theorem tag_b : macS ownZ (allS bT cT) = ⟨#[72, 103, 154, 231, 143, 185, 47, 75, 111, 188, 27, 212, 81, 140, 29, 230]⟩ := by kernel_rfl
/-- What was sealed is opened. -/
theorem sealT_size (key nonce aad s : ByteArray) : (sealT key nonce aad s).size = s.size + 16 := by unfold sealT; rw [ByteArray.size_append, strS_size, pTagS_size]
theorem sealT_left (key nonce aad s : ByteArray) : (sealT key nonce aad s).extract 0 s.size = strS key 1 nonce s := by
  unfold sealT
  rw [← strS_size key 1 nonce s]
  exact ByteArray.extract_append_eq_left rfl
theorem sealT_right (key nonce aad s : ByteArray) : (sealT key nonce aad s).extract s.size (s.size + 16) = pTagS key nonce aad (strS key 1 nonce s) := by
  unfold sealT
  have z := pTagS_size key nonce aad (strS key 1 nonce s)
  rw [← strS_size key 1 nonce s, ← z]
  exact ByteArray.extract_append_eq_right rfl rfl
theorem open_seal (key nonce aad s : ByteArray) (h : sealOk key nonce aad s = true) : poS key nonce aad (sealT key nonce aad s) = s ∧ poE key nonce aad (sealT key nonce aad s) = 0 := by
  have z := sealT_size key nonce aad s
  obtain ⟨h1, h2⟩ := (sealOk_iff key nonce aad s).1 h
  have ht : pTagOk key nonce aad (sealT key nonce aad s) s.size = true := by
    unfold pTagOk
    rw [sealT_left, sealT_right]
    exact (same_iff _ _).2 rfl
  have ok : openOk key nonce aad (sealT key nonce aad s) = true := by
    unfold openOk
    rw [z, show s.size + 16 - 16 = s.size by omega, ht, (aeOk_iff key nonce aad).2 h1, decide_eq_true (show 16 ≤ s.size + 16 by omega), decide_eq_true (show s.size + 16 ≤ 65552 by omega)]
    rfl
  refine ⟨?_, by unfold poE; rw [ok]; rfl⟩
  unfold poS
  rw [ok, z, show s.size + 16 - 16 = s.size by omega, sealT_left]
  exact strS_twice key 1 nonce s
theorem open_other : openOk z32 z12 bT (sealT z32 z12 aT helloS) = false := by
  have hx : pTagOk z32 z12 bT (sealT z32 z12 aT helloS) 5 = false := by
    unfold pTagOk
    have e1 : (sealT z32 z12 aT helloS).extract 0 5 = cT := (sealT_left z32 z12 aT helloS).trans str_known
    have e2 : (sealT z32 z12 aT helloS).extract 5 (5 + 16) = macS ownZ (allS aT cT) := by
      have := sealT_right z32 z12 aT helloS
      rw [str_known] at this
      refine Eq.trans this ?_
      unfold pTagS
      rw [own_known]
    rw [e1, e2]
    unfold pTagS
    rw [own_known, tag_a, tag_b]
    decide +kernel
  unfold openOk
  have z : (sealT z32 z12 aT helloS).size = 21 := sealT_size _ _ _ _
  rw [z, hx]
  simp
end Go.Proofs.Pol
/-
  The three suites: what halberdlaw8's awake knows, by the kernel. Of no program.
-/
namespace Go.Proofs.Ad
open Go.RowKit
open Go.Proofs.Aes (byt byt_lt get_byt)
open Go.Proofs.Cha
open Go.Proofs.Pol (sealT sealT_size pTagS macS allS ownZ own_known abcS chaB_1 openOk poS poE open_seal)
def c3 : ByteArray := ⟨#[254, 101, 132]⟩
def c19 : ByteArray := ⟨#[254, 101, 132, 31, 188, 4, 228, 140, 1, 163, 62, 177, 236, 217, 18, 98, 3, 102, 136]⟩
set_option maxRecDepth 100000 in
theorem all_c : ∀ t, t < 3 → byt abcS t ^^^ (add32 (ini z32 1 z12 (t / 4)) (ofL [1568051002, 1192750311, 53841254, 2716321791, 2687045579, 1768285000, 1045677586, 3984256562, 1981921065, 1129244316, 2956161493, 3577337972, 673180976, 1174080081, 520806828, 1867348299] (t / 4)) / 256 ^ (t % 4) % 256) = byt c3 t := by decide +kernel
theorem str_abc : strS z32 1 z12 abcS = c3 := by
  have zs : (strS z32 1 z12 abcS).size = 3 := strS_size _ _ _ _
  refine text_ext (by rw [zs]; rfl) fun t ht => ?_
  rw [zs] at ht
  rw [strS_byt _ _ _ _ _ (show t < abcS.size from ht)]
  unfold strB
  rw [show (1 + t / 64) % 4294967296 = 1 by omega, show t % 64 = t by omega]
  unfold chaS
  have h1 := chaB_1 t (by omega)
  rw [byt_nums _ 64 t (by omega) (by rw [h1]; exact Nat.mod_lt _ (by decide)), h1]
  exact all_c t ht
set_option maxRecDepth 100000 in
theorem tag_c : macS ownZ (allS ⟨#[]⟩ c3) = ⟨#[31, 188, 4, 228, 140, 1, 163, 62, 177, 236, 217, 18, 98, 3, 102, 136]⟩ := by kernel_rfl
theorem seal_abc : sealT z32 z12 ⟨#[]⟩ abcS = c19 := by
  unfold sealT pTagS
  rw [str_abc, own_known, tag_c]
  rfl
set_option maxRecDepth 100000 in
theorem gtag_c : byt (Gcm.xor16 (Gcm.ghS (Aes.encL 4 Gcm.z16 (Gcm.zS 16)) (Gcm.authS ⟨#[]⟩ c3)) (Aes.encL 4 Gcm.z16 (Gcm.z12 ++ Be.beS 1 4))) 0 ≠ 31 := by decide +kernel
theorem gcm_refuses : Gcm.openB Gcm.z16 Gcm.z12 ⟨#[]⟩ c19 = false := by
  have tg : Gcm.tagOk Gcm.z16 Gcm.z12 ⟨#[]⟩ c19 (c19.size - 16) = false := by
    unfold Gcm.tagOk
    rw [show c19.size - 16 = 3 from rfl, show c19.extract 0 3 = c3 from rfl, Gcm.tag_16 Gcm.z16 Gcm.z12 ⟨#[]⟩ c3 rfl]
    exact Bool.eq_false_iff.2 fun h => gtag_c (congrArg (fun b => byt b 0) ((Gcm.same_iff _ _).1 h))
  unfold Gcm.openB
  rw [tg]; simp
end Go.Proofs.Ad
/-
  The developers' aead: sizes, and which calls fit.
-/
namespace Go.Proofs.Ed
open Go.RowKit Go.Proofs.Ad
set_option maxHeartbeats 1000000 in
theorem sizes_same (z : Int) (w : World) : Calls Try.prog 8 #[.int .i64 z] w fun e w' => e = .returned (.tuple #[.int .i64 (sizK z), .int .i64 (sizB z), .int .i64 (sizE z)]) ∧ w' = w := by
  by_cases h1 : z = 4865
  · subst h1
    go_enter Try.func8, Try.ntmps8
    go_wp2_with (fail)
    exact bodyPost_ret (v := .tuple #[.int .i64 16, .int .i64 256, .int .i64 0]) (by simp [results, Try.results8, go_sem]) rfl ⟨rfl, rfl⟩
  · have n1 : (z == 4865) = false := by simpa using h1
    by_cases h2 : z = 4866
    · subst h2
      go_enter Try.func8, Try.ntmps8
      go_wp2_with (fail)
      exact bodyPost_ret (v := .tuple #[.int .i64 32, .int .i64 384, .int .i64 0]) (by simp [results, Try.results8, go_sem]) rfl ⟨rfl, rfl⟩
    · have n2 : (z == 4866) = false := by simpa using h2
      by_cases h3 : z = 4867
      · subst h3
        go_enter Try.func8, Try.ntmps8
        go_wp2_with (fail)
        exact bodyPost_ret (v := .tuple #[.int .i64 32, .int .i64 256, .int .i64 0]) (by simp [results, Try.results8, go_sem]) rfl ⟨rfl, rfl⟩
      · have n3 : (z == 4867) = false := by simpa using h3
        obtain ⟨e1, e2, e3⟩ := siz_none h1 h2 h3
        rw [e1, e2, e3]
        go_enter Try.func8, Try.ntmps8
        go_wp2_with (fail)
        exact bodyPost_ret (v := .tuple #[.int .i64 0, .int .i64 0, .int .i64 800]) (by simp [results, Try.results8, go_sem]) rfl ⟨rfl, rfl⟩
theorem sizes_any (z : Int) (w : World) : Calls Try.prog 8 #[.int .i64 z] w fun e w' => e = .returned (.tuple #[.int .i64 (sizK z), .int .i64 (sizB z), .int .i64 (sizE z)]) ∧ Below w.heap.size w w' :=
  (sizes_same z w).mono fun _ _ ⟨h1, h2⟩ => ⟨h1, by rw [h2]; exact Below.refl _ _⟩
set_option maxHeartbeats 1000000 in
theorem fits_any (z : Int) (key nonce aad : ByteArray) (n : Int) (w : World) :
    Calls Try.prog 18 #[.int .i64 z, .string key, .string nonce, .string aad, .int .i64 n] w fun e w' => e = .returned (.bool (f8 z key nonce aad && decide (n ≤ 65536))) ∧ w' = w := by
  have HSz := Lib.hid (fun u => sizes_same z u)
  have HF := Lib.hid (f8_iff z key nonce aad)
  generalize f8 z key nonce aad = F at HF ⊢
  generalize sizK z = K at HSz HF
  generalize sizB z = B at HSz
  generalize sizE z = E at HSz HF
  by_cases hE : E = 0
  · subst hE
    by_cases hk : (key.size : Int) = K
    · by_cases hn : nonce.size = 12
      · by_cases ha : aad.size ≤ 65536
        · have a2 : ((aad.size : Int) ≤ 65536) = True := eq_true (by omega)
          have hF : F = true := HF.out.2 ⟨⟨rfl, hk⟩, hn, ha⟩
          rw [hF, Bool.true_and]
          clear ha hF
          go_enter Try.func18, Try.ntmps18
          go_wp2_with (go_at_call 8; refine (HSz.out _).mono ?_; rintro e u ⟨rfl, rfl⟩)
          go_ret
          exact ⟨rfl, rfl⟩
        · have a2 : ((aad.size : Int) ≤ 65536) = False := eq_false (by omega)
          have hF : F = false := by cases F; rfl; exact absurd (HF.out.1 rfl).2.2 ha
          rw [hF, Bool.false_and]
          clear ha hF
          go_enter Try.func18, Try.ntmps18
          go_wp2_with (go_at_call 8; refine (HSz.out _).mono ?_; rintro e u ⟨rfl, rfl⟩)
          go_ret
          exact ⟨rfl, rfl⟩
      · have n2 : ((nonce.size : Int) == 12) = false := by rw [beq_eq_false_iff_ne]; omega
        have hF : F = false := by cases F; rfl; exact absurd (HF.out.1 rfl).2.1 hn
        rw [hF, Bool.false_and]
        clear hn hF
        go_enter Try.func18, Try.ntmps18
        go_wp2_with (go_at_call 8; refine (HSz.out _).mono ?_; rintro e u ⟨rfl, rfl⟩)
        go_ret
        exact ⟨rfl, rfl⟩
    · have k1 : ((key.size : Int) == K) = false := by simpa using hk
      have hF : F = false := by cases F; rfl; exact absurd (HF.out.1 rfl).1.2 hk
      rw [hF, Bool.false_and]
      clear hk hF
      go_enter Try.func18, Try.ntmps18
      go_wp2_with (go_at_call 8; refine (HSz.out _).mono ?_; rintro e u ⟨rfl, rfl⟩)
      go_ret
      exact ⟨rfl, rfl⟩
  · have k1 : (E == 0) = false := by simpa using hE
    have hF : F = false := by cases F; rfl; exact absurd (HF.out.1 rfl).1.1 hE
    rw [hF, Bool.false_and]
    clear hE hF
    go_enter Try.func18, Try.ntmps18
    go_wp2_with (go_at_call 8; refine (HSz.out _).mono ?_; rintro e u ⟨rfl, rfl⟩)
    go_ret
    exact ⟨rfl, rfl⟩
theorem f8_fit (z : Int) (key nonce aad s : ByteArray) : (f8 z key nonce aad && decide ((s.size : Int) ≤ 65536)) = s8Ok z key nonce aad s := by
  unfold s8Ok
  rw [show decide ((s.size : Int) ≤ 65536) = decide (s.size ≤ 65536) from decide_eq_decide.2 (by omega)]
theorem f8_open (z : Int) (key nonce aad s : ByteArray) : (f8 z key nonce aad && decide ((s.size : Int) - 16 ≤ 65536)) = o8F z key nonce aad s := by
  unfold o8F
  rw [show decide ((s.size : Int) - 16 ≤ 65536) = decide (s.size ≤ 65552) from decide_eq_decide.2 (by omega)]
end Go.Proofs.Ed
