/-
  Small forms of the contracts of the developers' hkdf for the laws' walks.
-/
import Derived.Test.YtbfkbinkfboklaaDoorKdG
import Derived.Test.YtbfkbinkfboklaaDoorImT
namespace Go.Proofs.Kd
open Go.RowKit Go.Proofs.Be Go.Proofs.Sha Go.Proofs.Hk Go.Proofs.Im
set_option maxHeartbeats 400000 in
theorem extract_none (bits : Int) (key s : ByteArray) (w : World) (h : ¬ bits = 256) (h' : ¬ bits = 384) :
    Calls Tryd.prog 10 #[.int .i64 bits, .string key, .string s] w fun e w' => e = .returned (.tuple #[.string ⟨#[]⟩, .int .i64 300]) ∧ Below w.heap.size w w' := by
  have H := Lib.hid (hmac_none bits key s w h h')
  clear h h'
  go_enter Tryd.func10, Tryd.ntmps10
  go_wp2_with (fail)
  refine H.out.mono ?_
  rintro e v ⟨rfl, hv⟩
  go_wp2_with (fail)
  go_ret2
  exact ⟨rfl, hv⟩
theorem label_none (bits : Int) (z : Nat) (key label context : ByteArray) (w : World) (hT : Tab w) (hk : key.size ≤ 288230376151711744) (hz : z ≤ 65535) (hl : label.size ≤ 249) (hc : context.size ≤ 255) (h : ¬ bits = 256) (h' : ¬ bits = 384) :
    Calls Tryd.prog 13 #[.int .i64 bits, .string key, .string label, .string context, .int .i64 z] w fun e w' => e = .returned (.tuple #[.string ⟨#[]⟩, .int .i64 300]) ∧ Below w.heap.size w w' := by
  have hm : mayE bits z = false := by unfold mayE; rw [may_no h h']; rfl
  have := label_ok bits z key label context w hT hk hz hl hc
  rwa [show expS bits key (infoS label context z) z = ⟨#[]⟩ by unfold expS; rw [hm]; rfl, show expE bits z = 300 by unfold expE; rw [hm]; rfl] at this
theorem exp256_no (z : Int) (key info : ByteArray) (w : World) (hT : Tab w) (hk : key.size ≤ 288230376151711744) (hz : z < 0 ∨ 8160 < z) :
    Calls Tryd.prog 11 #[.int .i64 256, .string key, .string info, .int .i64 z] w fun e w' => e = .returned (.tuple #[.string ⟨#[]⟩, .int .i64 300]) ∧ Below w.heap.size w w' := by
  rcases hz with hz | hz
  · exact expand_neg false z key info w hT hk hz
  · exact expand_great false z key info w hT hk hz
theorem exp384_no (z : Int) (key info : ByteArray) (w : World) (hT : Tab w) (hk : key.size ≤ 288230376151711744) (hz : z < 0 ∨ 12240 < z) :
    Calls Tryd.prog 11 #[.int .i64 384, .string key, .string info, .int .i64 z] w fun e w' => e = .returned (.tuple #[.string ⟨#[]⟩, .int .i64 300]) ∧ Below w.heap.size w w' := by
  rcases hz with hz | hz
  · exact expand_neg true z key info w hT hk hz
  · exact expand_great true z key info w hT hk hz
theorem may256 (z : Int) (h : 0 ≤ z ∧ z ≤ 8160) : mayE 256 z = true := (mayE_bitsK false z).trans (by
  show (decide (0 ≤ z) && decide (z ≤ 8160)) = true
  rw [decide_eq_true h.1, decide_eq_true h.2]; rfl)
theorem may384 (z : Int) (h : 0 ≤ z ∧ z ≤ 12240) : mayE 384 z = true := (mayE_bitsK true z).trans (by
  show (decide (0 ≤ z) && decide (z ≤ 12240)) = true
  rw [decide_eq_true h.1, decide_eq_true h.2]; rfl)
theorem exp256_yes (z : Int) (key info : ByteArray) (w : World) (hT : Tab w) (hk : key.size ≤ 288230376151711744) (hi : info.size ≤ 72057594037927936) (hz : 0 ≤ z ∧ z ≤ 8160) :
    Calls Tryd.prog 11 #[.int .i64 256, .string key, .string info, .int .i64 z] w fun e w' => e = .returned (.tuple #[.string (expS 256 key info z), .int .i64 0]) ∧ Below w.heap.size w w' := by
  have hm : mayE 256 z = true := may256 z hz
  have := expandK false z key info w hT hk hi
  rwa [show expE (bitsK false) z = 0 by show expE 256 z = 0; unfold expE; rw [hm]; rfl] at this
theorem exp384_yes (z : Int) (key info : ByteArray) (w : World) (hT : Tab w) (hk : key.size ≤ 288230376151711744) (hi : info.size ≤ 72057594037927936) (hz : 0 ≤ z ∧ z ≤ 12240) :
    Calls Tryd.prog 11 #[.int .i64 384, .string key, .string info, .int .i64 z] w fun e w' => e = .returned (.tuple #[.string (expS 384 key info z), .int .i64 0]) ∧ Below w.heap.size w w' := by
  have hm : mayE 384 z = true := may384 z hz
  have := expandK true z key info w hT hk hi
  rwa [show expE (bitsK true) z = 0 by show expE 384 z = 0; unfold expE; rw [hm]; rfl] at this
theorem exp384_zero (key : ByteArray) (w : World) (hT : Tab w) (hk : key.size ≤ 288230376151711744) :
    Calls Tryd.prog 11 #[.int .i64 384, .string key, .string ⟨#[]⟩, .int .i64 0] w fun e w' => e = .returned (.tuple #[.string ⟨#[]⟩, .int .i64 0]) ∧ Below w.heap.size w w' :=
  expand_ok true 0 key ⟨#[]⟩ w hT hk (by decide) (by decide)
end Go.Proofs.Kd
