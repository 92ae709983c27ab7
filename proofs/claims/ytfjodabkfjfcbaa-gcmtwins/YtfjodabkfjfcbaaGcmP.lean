/-
  GCM as plain functions: known seals, by the kernel.
-/
import Derived.Test.YtfjodabkfjfcbaaGcmO
import Derived.Test.YtfjodabkfjfcbaaAesE
import Derived.KernelRfl
namespace Go.Proofs.Gcm
open Go.RowKit
open Go.Proofs.Aes (byt byt_lt ciphS ciphS_size encS encL encL_eq)
open Go.Proofs.Be (beS)
def xor16 (a b : ByteArray) : ByteArray := strOfNums ((List.range 16).map fun t => ((byt a t ^^^ byt b t : Nat) : Int))
theorem ctrS_16 (wk : Nat → Nat) (n : Nat) (nonce : ByteArray) (f : Nat) (s : ByteArray) (hs : s.size = 16) : ctrS wk n nonce f s = xor16 s (ciphS wk n (nonce ++ beS f 4)) := by
  unfold ctrS xor16
  rw [hs]
  refine congrArg strOfNums (List.map_congr_left fun t ht => ?_)
  have ht := List.mem_range.1 ht
  unfold ctrB
  rw [show t / 16 = 0 by omega, show t % 16 = t by omega, Nat.add_zero]
theorem tag_16 (key nonce aad c : ByteArray) (h : key.size = 16) : tagS (wkS key) (nR key) nonce aad c = xor16 (ghS (encL 4 key (zS 16)) (authS aad c)) (encL 4 key (nonce ++ beS 1 4)) := by
  have e (s : ByteArray) : ciphS (wkS key) (nR key) s = encL 4 key s := by rw [← encL_eq 4 key s (by decide) (by rw [h])]; rfl
  unfold tagS
  rw [ctrS_16 _ _ _ _ _ (ghS_size _ _), e, e]
def t0 : ByteArray := ⟨#[88, 226, 252, 206, 250, 126, 48, 97, 54, 127, 29, 87, 164, 231, 69, 90]⟩
def z16 : ByteArray := ⟨#[0, 0, 0, 0, 0, 0, 0, 0, 0, 0, 0, 0, 0, 0, 0, 0]⟩
def z12 : ByteArray := ⟨#[0, 0, 0, 0, 0, 0, 0, 0, 0, 0, 0, 0]⟩
theorem zS_16 : zS 16 = z16 := by rfl
theorem zS_12 : (zS 16).extract 0 12 = z12 := by rfl
set_option maxRecDepth 100000 in
theorem tag_none : tagS (wkS z16) (nR z16) z12 ⟨#[]⟩ ⟨#[]⟩ = t0 := (tag_16 z16 z12 ⟨#[]⟩ ⟨#[]⟩ rfl).trans (by kernel_rfl)
def tx : ByteArray := ⟨#[30, 5, 250, 185, 227, 162, 125, 88, 238, 216, 227, 180, 162, 82, 177, 218]⟩
set_option maxRecDepth 100000 in
theorem tag_x : tagS (wkS z16) (nR z16) z12 ⟨#[120]⟩ ⟨#[]⟩ = tx := (tag_16 z16 z12 ⟨#[120]⟩ ⟨#[]⟩ rfl).trans (by kernel_rfl)
theorem ctrS_none (wk : Nat → Nat) (n : Nat) (nonce : ByteArray) (f : Nat) : ctrS wk n nonce f ⟨#[]⟩ = ⟨#[]⟩ := by rfl
theorem seal_none : sealS z16 z12 ⟨#[]⟩ ⟨#[]⟩ = t0 := by
  unfold sealS
  rw [ctrS_none, tag_none]; rfl
theorem ok_none (aad s : ByteArray) (ha : aad.size ≤ 65536) (more : Nat) (hs : s.size ≤ 65536 + more) : gcmOk z16 z12 aad s more = true := by
  unfold gcmOk
  rw [decide_eq_true ha, decide_eq_true hs]; rfl
theorem open_none : openS z16 z12 ⟨#[]⟩ t0 = ⟨#[]⟩ ∧ openE z16 z12 ⟨#[]⟩ t0 = 0 := by
  have h := open_seal z16 z12 ⟨#[]⟩ ⟨#[]⟩ (ok_none _ _ (by decide) _ (by decide))
  rwa [seal_none] at h
theorem open_x : openE z16 z12 ⟨#[120]⟩ t0 = 501 := by
  have ok : gcmOk z16 z12 ⟨#[120]⟩ t0 16 = true := ok_none _ _ (by decide) _ (by decide)
  have tg : tagOk z16 z12 ⟨#[120]⟩ t0 (t0.size - 16) = false := by
    unfold tagOk
    rw [show t0.size - 16 = 0 from rfl, show t0.extract 0 0 = ⟨#[]⟩ from rfl, tag_x]
    exact Bool.eq_false_iff.2 fun h => absurd (congrArg (fun b => byt b 0) ((same_iff _ _).1 h)) (by decide +kernel)
  have o : openB z16 z12 ⟨#[120]⟩ t0 = false := by unfold openB; rw [tg]; simp
  unfold openE
  rw [o, ok]; rfl
end Go.Proofs.Gcm
