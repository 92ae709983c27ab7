/-
  The developers' gcm: a cipher in memory, the counter's blocks, a text under them.
-/
import Derived.Test.YtfjodabkfjfcbaaGdF
import Derived.Test.YtfjodabkfjfcbaaGdW
import Derived.Test.YtfjodabkfjfcbaaAeK
namespace Go.Proofs.Gd
open Go.RowKit Go.Proofs.Gcm
open Go.Proofs.Aes (byt byt_lt get_byt ciphS encS encS_size aesS aesE aesOk)
open Go.Proofs.Be (beS beS_size)
open Go.Proofs.Im (wpList_box_to)
/-- A cipher as a value. -/
def cA (key nonce : ByteArray) (K : Nat × Nat) : Array Value := #[.string key, .string nonce, .int .u64 (K.1 : Nat), .int .u64 (K.2 : Nat)]
/-- A cipher in memory. -/
def CiR (w : World) (g : Nat) (key nonce : ByteArray) (K : Nat × Nat) : Prop := w.heap[g]? = some (.cells (cA key nonce K) 43 (0, 0))
theorem CiR.new (w : World) (key nonce : ByteArray) (K : Nat × Nat) : CiR (w.alloc (.cells (cA key nonce K) 43)) w.heap.size key nonce K := heap_alloc_last w _
theorem CiR.cell {w : World} {g : Nat} {key nonce : ByteArray} {K : Nat × Nat} (h : CiR w g key nonce K) (j : Nat) : w.cell? ⟨g, j, none⟩ = (cA key nonce K)[j]? := by
  unfold CiR at h
  simp [World.cell?, h]
theorem CiR.lt {w : World} {g : Nat} {key nonce : ByteArray} {K : Nat × Nat} (h : CiR w g key nonce K) : g < w.heap.size := (Array.getElem?_eq_some_iff.1 h).1
theorem CiR.on {w u : World} {g : Nat} {key nonce : ByteArray} {K : Nat × Nat} (h : CiR w g key nonce K) (hb : Below w.heap.size w u) : CiR u g key nonce K := (hb.block g h.lt).trans h
theorem cA_one (key nonce : ByteArray) (K : Nat × Nat) : (cA key nonce K).all (·.oneCell') = true := by simp [cA, Value.oneCell']
theorem block_fine (key s : ByteArray) (w : World) (hk : keyOk key = true) (hs : s.size = 16) :
    Calls Try.prog 17 #[.string key, .string s] w fun e w' => e = .returned (.tuple #[.string (encS key s), .int .i64 0]) ∧ Below w.heap.size w w' := by
  have h := Ae.block_any key s w
  have ok : aesOk key s = true := by
    rcases keyOk_or hk with h1 | h1 <;> simp [aesOk, h1, hs]
  rwa [show aesS key s = encS key s by unfold aesS; rw [ok]; rfl, show aesE key s = 0 by unfold aesE; rw [ok]; rfl] at h
set_option maxHeartbeats 1000000 in
theorem mask_any (key nonce : ByteArray) (K : Nat × Nat) (n : Nat) (w : World) (hk : keyOk key = true) (hno : nonce.size = 12) (hn : n < 4294967296) :
    Calls Try.prog 32 #[.agg (cA key nonce K), .int .i64 n] w fun e w' => e = .returned (.string (encS key (nonce ++ beS n 4))) ∧ Below w.heap.size w w' := by
  have HK := Lib.hid hk
  have HNo := Lib.hid hno
  have HN := Lib.hid hn
  have z4 := beS_size n 4
  have HZ : Hid ((nonce ++ beS n 4).size = 16) := by show (nonce ++ beS n 4).size = 16; rw [ByteArray.size_append, z4, hno]
  clear hk hn
  go_enter Try.func32, Try.ntmps32
  go_upto_region 0 with (fail)
  apply wp_region_lit
  refine wpList_box_to rfl 43 _ rfl (cA key nonce K) rfl w.heap.size rfl ?_
  have HC := Lib.hid (CiR.new w key nonce K)
  have HB : Hid (Below w.heap.size w (w.alloc (.cells (cA key nonce K) 43))) := (Below.refl _ _).alloc (Nat.le_refl _) _
  generalize w.alloc (.cells (cA key nonce K) 43) = w1 at HC HB ⊢
  go_wp2_with (go_at_call 53; refine (Wp.put_4 n _ HN.out).mono ?_; rintro e u ⟨rfl, hbu⟩; have HB := Lib.hid (Lw.go_on HB.out hbu); have HC := Lib.hid (HC.out.on hbu); clear hbu; have c0 := HC.out.cell 0; have c1 := HC.out.cell 1; simp only [cA] at c0 c1)
  clear c0 c1 z4 hno
  go_wp2_with (fail)
  refine (block_fine key (nonce ++ beS n 4) _ HK.out HZ.out).mono ?_
  rintro e v ⟨rfl, hbv⟩
  have HB := Lib.hid (Lw.go_on HB.out hbv)
  clear hbv
  go_wp2_with (fail)
  go_ret
  exact ⟨rfl, HB.out⟩
end Go.Proofs.Gd
