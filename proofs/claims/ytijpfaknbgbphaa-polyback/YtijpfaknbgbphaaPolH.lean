/-
  The document's own answer: Poly, texts filled up, the tag of a sealed text.
-/
import Derived.Test.YtijpfaknbgbphaaPolG
import Derived.Test.YtijpfaknbgbphaaChaE
import Derived.Deep.RegionHeld3
namespace Go.Proofs.Pol
open Go.RowKit
open Go.Proofs.Aes (byt byt_lt get_byt)
open Go.Proofs.Cha (chaS chaS_size strS strS_size chacha_any stream_any)
/-- Which answers Poly has. -/
def plS (key s : ByteArray) : ByteArray := bif decide (key.size = 32) then macS key s else ⟨#[]⟩
def plE (key : ByteArray) : Int := bif decide (key.size = 32) then 0 else 700
set_option maxHeartbeats 1000000 in
theorem rpoly_any (key s : ByteArray) (w : World) (hs : s.size ≤ 140737488355328) :
    Calls Try.prog 9 #[.string key, .string s] w fun e w' => e = .returned (.tuple #[.string (plS key s), .int .i64 (plE key)]) ∧ Below w.heap.size w w' := by
  by_cases hk : key.size = 32
  · rw [show plS key s = macS key s by unfold plS; rw [decide_eq_true hk]; rfl, show plE key = 0 by unfold plE; rw [decide_eq_true hk]; rfl]
    have HC := Lib.hid (fun u => poly_any key s u hk hs)
    have ks : (key.size : Int) = 32 := by omega
    generalize macS key s = T at HC ⊢
    clear hs
    go_enter Try.func9, Try.ntmps9
    go_wp2_with (go_at_call 21; refine (HC.out _).mono ?_; rintro e u ⟨rfl, hb⟩)
    go_ret2
    exact ⟨rfl, hb⟩
  · rw [show plS key s = ⟨#[]⟩ by unfold plS; rw [decide_eq_false hk]; rfl, show plE key = 700 by unfold plE; rw [decide_eq_false hk]; rfl]
    have ks : ¬ (key.size : Int) = 32 := by omega
    clear hs
    go_enter Try.func9, Try.ntmps9
    go_wp2_with (fail)
    go_ret2
    exact ⟨rfl, Below.refl _ _⟩
set_option maxHeartbeats 1000000 in
theorem rfilled_any (s : ByteArray) (w : World) (hs : s.size ≤ 140737488355328) :
    Calls Try.prog 42 #[.string s] w fun e w' => e = .returned (.string (fillS s)) ∧ Below w.heap.size w w' := by
  unfold fillS
  obtain ⟨k, hk⟩ : ∃ k, s.size % 16 = k := ⟨_, rfl⟩
  obtain ⟨m, hm⟩ : ∃ m, (16 - k) % 16 = m := ⟨_, rfl⟩
  rw [hk, hm]
  have m16 : m < 16 := by omega
  obtain ⟨M, hM, hMc, hmk⟩ := Lw.zeros m (by omega)
  have hcv := fun W => (Lw.rowB_new W M m hM hMc).text 0 m m (by omega)
  have HZ : Hid (Lw.pieceS (fun _ => 0) 0 m = zS m) := rfl
  rw [HZ.out] at hcv
  have z1 := zS_size m
  have q0 : (s.size : Int) % 16 = (k : Int) := by omega
  have q1 : (16 - (k : Int)) % 16 = (m : Int) := by omega
  have k16 : (k : Int) < 16 := by omega
  have q2 : ¬ 9223372036854775807 < s.size + m := by omega
  clear hMc hk hm hM HZ
  go_enter Try.func42, Try.ntmps42
  go_wp2_with (fail)
  go_ret
  exact ⟨rfl, (Below.refl _ _).alloc (Nat.le_refl _) _⟩
/-- The tag of a sealed text. -/
def pTagS (key nonce aad c : ByteArray) : ByteArray := macS ((chaS key 0 nonce).extract 0 32) (allS aad c)
theorem pTagS_size (key nonce aad c : ByteArray) : (pTagS key nonce aad c).size = 16 := macS_size _ _
set_option maxHeartbeats 4000000 in
theorem polyTag_any (key nonce aad c : ByteArray) (w : World) (hk : key.size = 32) (hno : nonce.size = 12) (ha : aad.size ≤ 100000) (hc : c.size ≤ 100000) :
    Calls Try.prog 26 #[.string key, .string nonce, .string aad, .string c] w fun e w' => e = .returned (.string (pTagS key nonce aad c)) ∧ Below w.heap.size w w' := by
  have H0 : Hid (∀ u : World, Below w.heap.size w u → Calls Try.prog 41 #[.string key, .int .u32 0, .string nonce] u fun e u' => e = .returned (.string (chaS key 0 nonce)) ∧ Below w.heap.size w u') := fun u hS => (chacha_any key 0 nonce u hk hno (by decide)).mono fun _ _ ⟨h1, h2⟩ => ⟨h1, Lw.go_on hS h2⟩
  have H1 : Hid (∀ u : World, Below w.heap.size w u → Calls Try.prog 42 #[.string aad] u fun e u' => e = .returned (.string (fillS aad)) ∧ Below w.heap.size w u') := fun u hS => (rfilled_any aad u (by omega)).mono fun _ _ ⟨h1, h2⟩ => ⟨h1, Lw.go_on hS h2⟩
  have H2 : Hid (∀ u : World, Below w.heap.size w u → Calls Try.prog 42 #[.string c] u fun e u' => e = .returned (.string (fillS c)) ∧ Below w.heap.size w u') := fun u hS => (rfilled_any c u (by omega)).mono fun _ _ ⟨h1, h2⟩ => ⟨h1, Lw.go_on hS h2⟩
  have H3 : Hid (∀ u : World, Below w.heap.size w u → Calls Try.prog 43 #[.int .i64 aad.size] u fun e u' => e = .returned (.string (litS aad.size)) ∧ Below w.heap.size w u') := fun u hS => (little_any aad.size u (by omega)).mono fun _ _ ⟨h1, h2⟩ => ⟨h1, Lw.go_on hS h2⟩
  have H4 : Hid (∀ u : World, Below w.heap.size w u → Calls Try.prog 43 #[.int .i64 c.size] u fun e u' => e = .returned (.string (litS c.size)) ∧ Below w.heap.size w u') := fun u hS => (little_any c.size u (by omega)).mono fun _ _ ⟨h1, h2⟩ => ⟨h1, Lw.go_on hS h2⟩
  have H5 : Hid (∀ u : World, Below w.heap.size w u → Calls Try.prog 21 #[.string ((chaS key 0 nonce).extract 0 32), .string (fillS aad ++ fillS c ++ litS aad.size ++ litS c.size)] u fun e u' => e = .returned (.string (pTagS key nonce aad c)) ∧ Below w.heap.size w u') := fun u hS =>
    (poly_any _ (allS aad c) u (by rw [ByteArray.size_extract, chaS_size]; rfl) (by unfold allS; rw [ByteArray.size_append, ByteArray.size_append, ByteArray.size_append, fillS_size, fillS_size, litS_size, litS_size]; omega)).mono fun _ _ ⟨h1, h2⟩ => ⟨h1, Lw.go_on hS h2⟩
  have zb := chaS_size key 0 nonce
  have z1 : (fillS aad).size ≤ 200000 := by rw [fillS_size]; omega
  have z2 : (fillS c).size ≤ 200000 := by rw [fillS_size]; omega
  have z3 := litS_size aad.size
  have z4 := litS_size c.size
  generalize pTagS key nonce aad c = TG at H5 ⊢
  generalize chaS key 0 nonce = B at H0 H5 zb
  generalize fillS aad = FA at H1 H5 z1
  generalize fillS c = FC at H2 H5 z2
  generalize litS aad.size = LA at H3 H5 z3
  generalize litS c.size = LC at H4 H5 z4
  obtain ⟨O, eO⟩ : ∃ O, B.extract 0 32 = O := ⟨_, rfl⟩
  obtain ⟨T1, e1⟩ : ∃ T, FA ++ FC = T := ⟨_, rfl⟩
  obtain ⟨T2, e2⟩ : ∃ T, T1 ++ LA = T := ⟨_, rfl⟩
  obtain ⟨T3, e3⟩ : ∃ T, T2 ++ LC = T := ⟨_, rfl⟩
  rw [eO, e1, e2, e3] at H5
  obtain ⟨na, hna⟩ : ∃ n, aad.size = n := ⟨_, rfl⟩
  obtain ⟨nc, hnc⟩ : ∃ n, c.size = n := ⟨_, rfl⟩
  rw [hna] at H3
  rw [hnc] at H4
  have y1 : T1.size = FA.size + FC.size := by rw [← e1, ByteArray.size_append]
  have y2 : T2.size = FA.size + FC.size + 8 := by rw [← e2, ByteArray.size_append, y1, z3]
  have q1 : ¬ 9223372036854775807 < FA.size + FC.size := by omega
  have q2 : ¬ 9223372036854775807 < FA.size + FC.size + 8 := by omega
  have q3 : ¬ 9223372036854775807 < FA.size + FC.size + 8 + 8 := by omega
  have hS0 : Below w.heap.size w w := Below.refl _ _
  have hSd : Below w.heap.size w w.drew := hS0.drew
  clear hk hno ha hc z1 z2
  go_enter Try.func26, Try.ntmps26
  go_upto_region 1 with (fail)
  go_region_held3 (fun w' => Below w.heap.size w w') (assumption)
    (first
      | (go_at_call 41; refine (H0.out _ (by assumption)).mono ?_; rintro e u0 ⟨rfl, hS1⟩)
      | (go_at_call_of 42 (Value.string aad); refine (H1.out _ (by assumption)).mono ?_; rintro e u1 ⟨rfl, hS2⟩)
      | (go_at_call_of 42 (Value.string c); refine (H2.out _ (by assumption)).mono ?_; rintro e u2 ⟨rfl, hS3⟩)
      | (go_at_call_of 43 (Value.int .i64 (na : Int)); refine (H3.out _ (by assumption)).mono ?_; rintro e u3 ⟨rfl, hS4⟩)
      | (go_at_call_of 43 (Value.int .i64 (nc : Int)); refine (H4.out _ (by assumption)).mono ?_; rintro e u4 ⟨rfl, hS5⟩)
      | (go_at_call 21; refine (H5.out _ (by assumption)).mono ?_; rintro e u5 ⟨rfl, hS6⟩))
  go_wp2_with (fail)
  go_ret
  exact ⟨rfl, hS6⟩
end Go.Proofs.Pol
