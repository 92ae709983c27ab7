/-
  The document's own answer: Ghash at every input, filled, a nonce's blocks over a text.
-/
import Derived.Test.YtfjodabkfjfcbaaGcmC
import Derived.Test.YtfjodabkfjfcbaaAesC
import Derived.Test.YtfjodabkfjfcbaaBeA
namespace Go.Proofs.Gcm
open Go.RowKit
open Go.Proofs.Aes (byt byt_lt get_byt ciphS ciphS_size Keys cipher_any)
open Go.Proofs.Sha (rowIs_of)
def ghOk (h s : ByteArray) : Bool := decide (h.size = 16) && decide (s.size % 16 = 0)
def ghashS (h s : ByteArray) : ByteArray := bif ghOk h s then ghS h s else ⟨#[]⟩
def ghashE (h s : ByteArray) : Int := bif ghOk h s then 0 else 500
set_option maxHeartbeats 1000000 in
theorem rghash_ok (h s : ByteArray) (w : World) (hh : h.size = 16) (hm : s.size % 16 = 0) (hs : s.size ≤ 140737488355328) :
    Calls Try.prog 14 #[.string h, .string s] w fun e w' => e = .returned (.tuple #[.string (ghS h s), .int .i64 0]) ∧ Below w.heap.size w w' := by
  have H := Lib.hid (ghash_any h s w hh hs)
  have e1 : ((s.size : Int) % 16 == 0) = true := by simp; omega
  have e2 : ((s.size : Int) % 16 != 0) = false := by simp; omega
  clear hs hm
  go_enter Try.func14, Try.ntmps14
  go_wp2_with (fail)
  refine H.out.mono ?_
  rintro e v ⟨rfl, hv⟩
  go_wp2_with (fail)
  go_ret2
  exact ⟨rfl, hv⟩
set_option maxHeartbeats 1000000 in
theorem rghash_h (h s : ByteArray) (w : World) (hh : ¬ h.size = 16) :
    Calls Try.prog 14 #[.string h, .string s] w fun e w' => e = .returned (.tuple #[.string ⟨#[]⟩, .int .i64 500]) ∧ Below w.heap.size w w' := by
  have e1 : ((h.size : Int) == 16) = false := by simp; omega
  have e2 : ((h.size : Int) != 16) = true := by simp; omega
  clear hh
  go_enter Try.func14, Try.ntmps14
  go_wp2_with (fail)
  go_ret2
  exact ⟨rfl, Below.refl _ _⟩
set_option maxHeartbeats 1000000 in
theorem rghash_s (h s : ByteArray) (w : World) (hh : h.size = 16) (hm : ¬ s.size % 16 = 0) :
    Calls Try.prog 14 #[.string h, .string s] w fun e w' => e = .returned (.tuple #[.string ⟨#[]⟩, .int .i64 500]) ∧ Below w.heap.size w w' := by
  have e1 : ((s.size : Int) % 16 == 0) = false := by simp; omega
  have e2 : ((s.size : Int) % 16 != 0) = true := by simp; omega
  clear hm
  go_enter Try.func14, Try.ntmps14
  go_wp2_with (fail)
  go_ret2
  exact ⟨rfl, Below.refl _ _⟩
theorem rghash_any (h s : ByteArray) (w : World) (hs : s.size ≤ 140737488355328) :
    Calls Try.prog 14 #[.string h, .string s] w fun e w' => e = .returned (.tuple #[.string (ghashS h s), .int .i64 (ghashE h s)]) ∧ Below w.heap.size w w' := by
  by_cases hh : h.size = 16
  · by_cases hm : s.size % 16 = 0
    · have ok : ghOk h s = true := by simp [ghOk, hh, hm]
      rw [show ghashS h s = ghS h s by unfold ghashS; rw [ok]; rfl, show ghashE h s = 0 by unfold ghashE; rw [ok]; rfl]
      exact rghash_ok h s w hh hm hs
    · have ok : ghOk h s = false := by simp [ghOk, hm]
      rw [show ghashS h s = ⟨#[]⟩ by unfold ghashS; rw [ok]; rfl, show ghashE h s = 500 by unfold ghashE; rw [ok]; rfl]
      exact rghash_s h s w hh hm
  · have ok : ghOk h s = false := by simp [ghOk, hh]
    rw [show ghashS h s = ⟨#[]⟩ by unfold ghashS; rw [ok]; rfl, show ghashE h s = 500 by unfold ghashE; rw [ok]; rfl]
    exact rghash_h h s w hh
/-- m noughts as a text. -/
def zS (m : Nat) : ByteArray := strOfNums (List.replicate m 0)
theorem zS_size (m : Nat) : (zS m).size = m := by simp [zS, strOfNums_size]
theorem conv_new (W : World) (M : Array Value) (m : Nat) (hMc : ∀ i, i < m → M[i]? = some (.int .u8 0)) :
    (convert 32 9 (.slice (some ⟨W.heap.size, 0, none⟩) m m)).run Try.prog (W.alloc (.cells M 5)) = .ok (.string (zS m)) (W.alloc (.cells M 5)) :=
  run_convert_bytes_arg (P := Try.prog) _ 32 5 Try.underlying32 Try.underlying5 W.heap.size 0 m m (List.replicate m 0) (by simp) (fun i hi => by
    rw [World.cell?_alloc_at _ _ _ _ rfl, Nat.zero_add, List.getD_eq_getElem?_getD, List.getElem?_replicate, if_pos hi]; exact hMc i hi) 9 Try.underlying9
/-- With noughts to whole blocks. -/
def fillS (s : ByteArray) : ByteArray := s ++ zS ((16 - s.size % 16) % 16)
set_option maxHeartbeats 1000000 in
theorem filled_any (s : ByteArray) (w : World) (hs : s.size ≤ 140737488355328) :
    Calls Try.prog 38 #[.string s] w fun e w' => e = .returned (.string (fillS s)) ∧ Below w.heap.size w w' := by
  unfold fillS
  obtain ⟨k, hk⟩ : ∃ k, s.size % 16 = k := ⟨_, rfl⟩
  obtain ⟨m, hm⟩ : ∃ m, (16 - k) % 16 = m := ⟨_, rfl⟩
  rw [hk, hm]
  have m16 : m < 16 := by omega
  obtain ⟨M, _, hMc, hmk⟩ := zeros m (by omega)
  have hcv := fun W => conv_new W M m hMc
  have z1 := zS_size m
  have q0 : (s.size : Int) % 16 = (k : Int) := by omega
  have q1 : (16 - (k : Int)) % 16 = (m : Int) := by omega
  have k16 : (k : Int) < 16 := by omega
  have q2 : ¬ 9223372036854775807 < s.size + m := by omega
  clear hMc hk hm
  go_enter Try.func38, Try.ntmps38
  go_wp2_with (fail)
  go_ret
  exact ⟨rfl, (Below.refl _ _).alloc (Nat.le_refl _) _⟩
end Go.Proofs.Gcm
