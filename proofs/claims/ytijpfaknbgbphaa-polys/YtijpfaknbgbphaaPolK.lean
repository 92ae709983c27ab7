/-
  Poly1305 and ChaCha20-Poly1305: known tags by the kernel; what was sealed is opened. Of no program.
-/
import Derived.Test.YtijpfaknbgbphaaPolI
import Derived.Test.YtijpfaknbgbphaaChaG
namespace Go.Proofs.Pol
open Go.RowKit
open Go.Proofs.Aes (byt byt_lt get_byt)
open Go.Proofs.Cha
def ownZ : ByteArray := ⟨#[118, 184, 224, 173, 160, 241, 61, 144, 64, 93, 106, 229, 83, 134, 189, 40, 189, 210, 25, 184, 160, 141, 237, 26, 168, 54, 239, 204, 139, 119, 13, 199]⟩
def abcS : ByteArray := ⟨#[97, 98, 99]⟩
def aT : ByteArray := ⟨#[97]⟩
def bT : ByteArray := ⟨#[98]⟩
def helloS : ByteArray := ⟨#[104, 101, 108, 108, 111]⟩
def cT : ByteArray := ⟨#[247, 98, 139, 210, 58]⟩
def keyR : ByteArray := ⟨#[133, 214, 190, 120, 87, 85, 109, 51, 127, 68, 82, 254, 66, 213, 6, 168, 1, 3, 128, 138, 251, 13, 178, 253, 74, 191, 246, 175, 65, 73, 245, 27]⟩
def textR : ByteArray := ⟨#[67, 114, 121, 112, 116, 111, 103, 114, 97, 112, 104, 105, 99, 32, 70, 111, 114, 117, 109, 32, 82, 101, 115, 101, 97, 114, 99, 104, 32, 71, 114, 111, 117, 112]⟩
def tagR : ByteArray := ⟨#[168, 6, 29, 193, 48, 81, 54, 198, 194, 43, 139, 175, 12, 1, 39, 169]⟩
set_option maxRecDepth 100000 in
theorem rnd0 : rndL (toL (ini z32 0 z12) 16) 10 = [1282424849, 1562217778, 1812475918, 3181191391, 3088700093, 451775904, 3438229160, 3339548555, 2086224346, 2370328401, 1071654007, 927652024, 4105716586, 480319509, 1773569987, 2254827186] := by kernel_rfl
set_option maxRecDepth 100000 in
theorem rnd1 : rndL (toL (ini z32 1 z12) 16) 10 = [1568051002, 1192750311, 53841254, 2716321791, 2687045579, 1768285000, 1045677586, 3984256562, 1981921065, 1129244316, 2956161493, 3577337972, 673180976, 1174080081, 520806828, 1867348299] := by kernel_rfl
theorem chaB_0 (t : Nat) (h : t < 64) : chaB (ini z32 0 z12) t = add32 (ini z32 0 z12 (t / 4)) (ofL [1282424849, 1562217778, 1812475918, 3181191391, 3088700093, 451775904, 3438229160, 3339548555, 2086224346, 2370328401, 1071654007, 927652024, 4105716586, 480319509, 1773569987, 2254827186] (t / 4)) / 256 ^ (t % 4) % 256 := by
  unfold chaB
  rw [← rndL_eq (X := ini z32 0 z12) (l := toL (ini z32 0 z12) 16) (fun t ht => ofL_toL _ _ _ ht) 10 (t / 4) (by omega), rnd0]
theorem chaB_1 (t : Nat) (h : t < 64) : chaB (ini z32 1 z12) t = add32 (ini z32 1 z12 (t / 4)) (ofL [1568051002, 1192750311, 53841254, 2716321791, 2687045579, 1768285000, 1045677586, 3984256562, 1981921065, 1129244316, 2956161493, 3577337972, 673180976, 1174080081, 520806828, 1867348299] (t / 4)) / 256 ^ (t % 4) % 256 := by
  unfold chaB
  rw [← rndL_eq (X := ini z32 1 z12) (l := toL (ini z32 1 z12) 16) (fun t ht => ofL_toL _ _ _ ht) 10 (t / 4) (by omega), rnd1]
set_option maxRecDepth 100000 in
theorem all_0 : ∀ t, t < 32 → add32 (ini z32 0 z12 (t / 4)) (ofL [1282424849, 1562217778, 1812475918, 3181191391, 3088700093, 451775904, 3438229160, 3339548555, 2086224346, 2370328401, 1071654007, 927652024, 4105716586, 480319509, 1773569987, 2254827186] (t / 4)) / 256 ^ (t % 4) % 256 = byt ownZ t := by decide +kernel
set_option maxRecDepth 100000 in
theorem all_1 : ∀ t, t < 5 → byt helloS t ^^^ (add32 (ini z32 1 z12 (t / 4)) (ofL [1568051002, 1192750311, 53841254, 2716321791, 2687045579, 1768285000, 1045677586, 3984256562, 1981921065, 1129244316, 2956161493, 3577337972, 673180976, 1174080081, 520806828, 1867348299] (t / 4)) / 256 ^ (t % 4) % 256) = byt cT t := by decide +kernel
theorem own_known : (chaS z32 0 z12).extract 0 32 = ownZ := by
  have zs : ((chaS z32 0 z12).extract 0 32).size = 32 := by rw [ByteArray.size_extract, chaS_size]; rfl
  refine text_ext (by rw [zs]; rfl) fun t ht => ?_
  rw [zs] at ht
  rw [byt_cut _ 0 32 t (by omega) (by rw [chaS_size]; decide), Nat.zero_add]
  unfold chaS
  have h1 := chaB_0 t (by omega)
  rw [byt_nums _ 64 t (by omega) (by rw [h1]; exact Nat.mod_lt _ (by decide)), h1]
  exact all_0 t ht
theorem str_known : strS z32 1 z12 helloS = cT := by
  have zs : (strS z32 1 z12 helloS).size = 5 := strS_size _ _ _ _
  refine text_ext (by rw [zs]; rfl) fun t ht => ?_
  rw [zs] at ht
  rw [strS_byt _ _ _ _ _ (show t < helloS.size from ht)]
  unfold strB
  rw [show (1 + t / 64) % 4294967296 = 1 by omega, show t % 64 = t by omega]
  unfold chaS
  have h1 := chaB_1 t (by omega)
  rw [byt_nums _ 64 t (by omega) (by rw [h1]; exact Nat.mod_lt _ (by decide)), h1]
  exact all_1 t ht
set_option maxRecDepth 100000 in
theorem mac_abc : macS z32 abcS = z32.extract 0 16 := by kernel_rfl
set_option maxRecDepth 100000 in
theorem mac_rfc : macS keyR textR = tagR := by kernel_rfl
set_option maxRecDepth 100000 in
theorem tag_a : macS ownZ (allS aT cT) = ⟨#[123, 66, 112, 67, 171, 115, 234, 217, 71, 159, 202, 242, 180, 80, 18, 227]⟩ := by kernel_rfl
set_option maxRecDepth 100000 in
theorem tag_b : macS ownZ (allS bT cT) = ⟨#[72, 103, 154, 231, 143, 185, 47, 75, 111, 188, 27, 212, 81, 140, 29, 230]⟩ := by kernel_rfl
/-- What was sealed is opened. -/
theorem sealT_size (key nonce aad s : ByteArray) : (sealT key nonce aad s).size = s.size + 16 := by unfold sealT; rw [ByteArray.size_append, strS_size, pTagS_size]
theorem sealT_left (key nonce aad s : ByteArray) : (sealT key nonce aad s).extract 0 s.size = strS key 1 nonce s := by
  unfold sealT
  rw [← strS_size key 1 nonce s]
  exact ByteArray.extract_append_eq_left rfl
theorem sealT_right (key nonce aad s : ByteArray) : (sealT key nonce aad s).extract s.size (s.size + 16) = pTagS key nonce aad (strS key 1 nonce s) := by
  unfold sealT
  have z := pTagS_size key nonce aad (strS key 1 nonce s)
  rw [← strS_size key 1 nonce s, ← z]
  exact ByteArray.extract_append_eq_right rfl rfl
theorem open_seal (key nonce aad s : ByteArray) (h : sealOk key nonce aad s = true) : poS key nonce aad (sealT key nonce aad s) = s ∧ poE key nonce aad (sealT key nonce aad s) = 0 := by
  have z := sealT_size key nonce aad s
  obtain ⟨h1, h2⟩ := (sealOk_iff key nonce aad s).1 h
  have ht : pTagOk key nonce aad (sealT key nonce aad s) s.size = true := by
    unfold pTagOk
    rw [sealT_left, sealT_right]
    exact (same_iff _ _).2 rfl
  have ok : openOk key nonce aad (sealT key nonce aad s) = true := by
    unfold openOk
    rw [z, show s.size + 16 - 16 = s.size by omega, ht, (aeOk_iff key nonce aad).2 h1, decide_eq_true (show 16 ≤ s.size + 16 by omega), decide_eq_true (show s.size + 16 ≤ 65552 by omega)]
    rfl
  refine ⟨?_, by unfold poE; rw [ok]; rfl⟩
  unfold poS
  rw [ok, z, show s.size + 16 - 16 = s.size by omega, sealT_left]
  exact strS_twice key 1 nonce s
theorem open_other : openOk z32 z12 bT (sealT z32 z12 aT helloS) = false := by
  have hx : pTagOk z32 z12 bT (sealT z32 z12 aT helloS) 5 = false := by
    unfold pTagOk
    have e1 : (sealT z32 z12 aT helloS).extract 0 5 = cT := (sealT_left z32 z12 aT helloS).trans str_known
    have e2 : (sealT z32 z12 aT helloS).extract 5 (5 + 16) = macS ownZ (allS aT cT) := by
      have := sealT_right z32 z12 aT helloS
      rw [str_known] at this
      refine Eq.trans this ?_
      unfold pTagS
      rw [own_known]
    rw [e1, e2]
    unfold pTagS
    rw [own_known, tag_a, tag_b]
    decide +kernel
  unfold openOk
  have z : (sealT z32 z12 aT helloS).size = 21 := sealT_size _ _ _ _
  rw [z, hx]
  simp
end Go.Proofs.Pol
