/-
  The developers' aead: OpenIn and SealIn at every input: two pieces that lie one behind the other.
-/
import Derived.Test.YtljhenjbjondkaaJobw
import Derived.Test.YtljhenjbjondkaaJoby
import Derived.Deep.RegionHeld3
namespace Go.Proofs.Ed
open Go.RowKit Go.Proofs.Ad
open Go.Proofs.Ew (Seg byt_part part_of)
open Go.Proofs.Pd (But)
open Go.Proofs.Lw (pieceS)
open Go.Proofs.Aes (byt byt_lt get_byt)
open Go.Proofs.Cha (text_ext)
/-- The boxed pieces lie behind the old blocks, and those stay. -/
def BoxP (w u : World) (a b : Value) : Prop := u.cell? ⟨w.heap.size, 0, none⟩ = some a ∧ u.cell? ⟨w.heap.size, 1, none⟩ = some b ∧ Below w.heap.size w u ∧ w.heap.size < u.heap.size
theorem BoxP.on {w u v : World} {a b : Value} (h : BoxP w u a b) (hb : Below u.heap.size u v) : BoxP w v a b :=
  ⟨(hb.cell (p := ⟨w.heap.size, 0, none⟩) h.2.2.2).trans h.1, (hb.cell (p := ⟨w.heap.size, 1, none⟩) h.2.2.2).trans h.2.1, Lw.go_on h.2.2.1 hb, Nat.lt_of_lt_of_le h.2.2.2 hb.size⟩
theorem BoxP.new (w : World) (a b : Value) : BoxP w (w.alloc (.cells #[a, b] 40)) a b :=
  ⟨by rw [World.cell?_alloc_at _ _ _ _ rfl]; rfl, by rw [World.cell?_alloc_at _ _ _ _ rfl]; rfl, (Below.refl _ _).alloc (Nat.le_refl _) _, by simp⟩
theorem BoxP.drew {w u : World} {a b : Value} (h : BoxP w u a b) : BoxP w u.drew a b := h.on (Below.refl _ _).drew
/-- A text over the first bytes of another one. -/
theorem over_text (X : Nat → Nat) (T : ByteArray) (n : Nat) (h : T.size ≤ n) : pieceS (fun t => if t < T.size then byt T t else X t) 0 n = T ++ (pieceS X 0 n).extract T.size n := by
  have e : ((pieceS X 0 n).extract T.size n).size = n - T.size := by rw [ByteArray.size_extract, Lw.pieceS_size, Nat.min_self]
  refine text_ext (by rw [Lw.pieceS_size, ByteArray.size_append, e]; omega) fun t ht => ?_
  rw [Lw.pieceS_size] at ht
  rw [byt_part _ _ _ _ ht, Nat.zero_add]
  by_cases hc : t < T.size
  · rw [Cha.byt_left _ _ _ hc, if_pos hc]; exact Nat.mod_eq_of_lt (byt_lt T t)
  · rw [Cha.byt_right _ _ _ (by omega) (by rw [e]; omega), if_neg hc, Cha.byt_cut _ T.size n _ (by omega) (by rw [Lw.pieceS_size]; exact Nat.le_refl _), byt_part _ _ _ _ (by omega)]
    congr 2; omega
theorem open_fits (z : Int) (key nonce aad : ByteArray) (X : Nat → Nat) (n : Nat) (w : World) :
    Calls Try.prog 18 #[.int .i64 z, .string key, .string nonce, .string aad, .int .i64 ((n : Int) - 16)] w fun e w' => e = .returned (.bool (o8F z key nonce aad (pieceS X 0 n))) ∧ w' = w := by
  have h := fits_any z key nonce aad ((n : Int) - 16) w
  have e := f8_open z key nonce aad (pieceS X 0 n)
  rw [Lw.pieceS_size] at e
  rw [e] at h
  exact h
set_option maxHeartbeats 2000000 in
set_option maxRecDepth 20000 in
theorem openIn_no (z : Int) (key nonce aad : ByteArray) (k m n c1 c2 : Nat) (p1 p2 : Option Addr) (X : Nat → Nat) (w : World) (hk : k + m = n) (hn : n ≤ 140737488355328) (hf : o8F z key nonce aad (pieceS X 0 n) = false) :
    Calls Try.prog 12 #[.int .i64 z, .string key, .string nonce, .string aad, .slice p1 k c1, .slice p2 m c2] w fun e w' => e = .returned (.tuple #[.int .i64 0, .int .i64 800]) ∧ Below w.heap.size w w' := by
  have HF := Lib.hid fun W => open_fits z key nonce aad X n W
  rw [hf] at HF
  have HSz := Lib.hid fun W => psize_any p1 p2 k m c1 c2 W (by omega)
  rw [hk] at HSz
  have q : IntKind.i64.wrap ((n : Int) - 16) = (n : Int) - 16 := IntWalk.i64_in _ (by omega)
  clear hk hn hf
  go_enter Try.func12, Try.ntmps12
  go_wp2_with (first
    | (go_at_call 17; refine (HSz.out _).mono ?_; rintro e u ⟨rfl, hb⟩)
    | (go_at_call 18; refine (HF.out _).mono ?_; rintro e v ⟨rfl, rfl⟩))
  go_ret2
  exact ⟨rfl, Lw.go_on ((Below.refl _ _).alloc (Nat.le_refl _) _) hb⟩
theorem psize_held {w u : World} {a b : Value} (hS : BoxP w u a b) (p1 p2 : Option Addr) (k m n c1 c2 : Nat) (hk : k + m = n) (hn : n ≤ 140737488355328) :
    Calls Try.prog 17 #[.agg #[.slice p1 k c1, .slice p2 m c2]] u fun e u' => e = .returned (.int .i64 (n : Int)) ∧ BoxP w u' a b := by
  have h := psize_any p1 p2 k m c1 c2 u (by omega)
  rw [hk] at h
  exact h.mono fun _ _ ⟨h1, h2⟩ => ⟨h1, hS.on h2⟩
theorem ptext_held {w u : World} {a b : Value} (hS : BoxP w u a b) (g o k m n c1 c2 N : Nat) (p1 p2 : Option Addr) (X : Nat → Nat) (h : Seg w g o n X) (h1 : k = 0 ∨ p1 = some ⟨g, o, none⟩) (h2 : m = 0 ∨ p2 = some ⟨g, o + k, none⟩) (hk : k + m = n) (hc1 : k ≤ c1) (hc2 : m ≤ c2) (hN : N ≤ n) (hN2 : N ≤ 1000000) (hn : n ≤ 140737488355328) :
    Calls Try.prog 19 #[.agg #[.slice p1 k c1, .slice p2 m c2], .int .i64 (N : Int)] u fun e u' => e = .returned (.string (pieceS X 0 N)) ∧ BoxP w u' a b :=
  (ptext_any g o k m n c1 c2 N p1 p2 X u (h.on hS.2.2.1) h1 h2 hk hc1 hc2 hN hN2 (by omega)).mono fun _ _ ⟨h1, h2⟩ => ⟨h1, hS.on h2⟩
theorem open_held {w u : World} {a b : Value} (hS : BoxP w u a b) (z : Int) (key nonce aad s : ByteArray) (h : o8F z key nonce aad s = true) :
    Calls Try.prog 15 #[.int .i64 z, .string key, .string nonce, .string aad, .string s] u fun e u' => e = .returned (.tuple #[.string (bif o8B z key nonce aad s then o8T z key nonce aad s else ⟨#[]⟩), .int .i64 (bif o8B z key nonce aad s then 0 else 801)]) ∧ BoxP w u' a b :=
  (open_ok z key nonce aad s u h).mono fun _ _ ⟨h1, h2⟩ => ⟨h1, hS.on h2⟩
set_option maxHeartbeats 2000000 in
set_option maxRecDepth 20000 in
theorem openIn_bad (z : Int) (key nonce aad : ByteArray) (g o k m n c1 c2 : Nat) (p1 p2 : Option Addr) (X : Nat → Nat) (w : World) (h : Seg w g o n X) (h1 : k = 0 ∨ p1 = some ⟨g, o, none⟩) (h2 : m = 0 ∨ p2 = some ⟨g, o + k, none⟩) (hk : k + m = n) (hc1 : k ≤ c1) (hc2 : m ≤ c2) (hn : n ≤ 65552)
    (hf : o8F z key nonce aad (pieceS X 0 n) = true) (hb : o8B z key nonce aad (pieceS X 0 n) = false) :
    Calls Try.prog 12 #[.int .i64 z, .string key, .string nonce, .string aad, .slice p1 k c1, .slice p2 m c2] w fun e w' => e = .returned (.tuple #[.int .i64 0, .int .i64 801]) ∧ Below w.heap.size w w' := by
  have HF := Lib.hid fun W => open_fits z key nonce aad X n W
  have HSz := Lib.hid fun W => psize_any p1 p2 k m c1 c2 W (by omega)
  rw [hk] at HSz
  have HS1 := Lib.hid fun (u : World) (hS : BoxP w u (.slice p1 k c1) (.slice p2 m c2)) => psize_held hS p1 p2 k m n c1 c2 hk (by omega)
  have HS2 := Lib.hid fun (u : World) (hS : BoxP w u (.slice p1 k c1) (.slice p2 m c2)) => ptext_held hS g o k m n c1 c2 n p1 p2 X h h1 h2 hk hc1 hc2 (Nat.le_refl _) (by omega) (by omega)
  have HS3 := Lib.hid fun (u : World) (hS : BoxP w u (.slice p1 k c1) (.slice p2 m c2)) => open_held hS z key nonce aad _ hf
  rw [hf] at HF
  simp only [hb, cond_false] at HS3
  have q : IntKind.i64.wrap ((n : Int) - 16) = (n : Int) - 16 := IntWalk.i64_in _ (by omega)
  generalize pieceS X 0 n = S at HS2 HS3
  clear h h1 h2 hk hc1 hc2 hn hf hb
  go_enter Try.func12, Try.ntmps12
  go_upto_region 2 with (fail)
  have hS0 := BoxP.new w (.slice p1 k c1) (.slice p2 m c2)
  generalize w.alloc (.cells #[.slice p1 k c1, .slice p2 m c2] 40) = w1 at hS0 ⊢
  have hA := hS0.1
  have hB := hS0.2.1
  go_wp2_with (first
    | (go_at_call 17; refine (HSz.out _).mono ?_; rintro e u ⟨rfl, hbu⟩)
    | (go_at_call 18; refine (HF.out _).mono ?_; rintro e v ⟨rfl, rfl⟩))
  have hS1 := hS0.on hbu
  have hSd := hS1.drew
  clear hA hB hbu hS0 HSz HF
  go_region_held3 (fun w' => w'.cell? ⟨w.heap.size, 0, none⟩ = some (.slice p1 k c1) ∧ w'.cell? ⟨w.heap.size, 1, none⟩ = some (.slice p2 m c2) ∧ Below w.heap.size w w' ∧ w.heap.size < w'.heap.size)
    (first | exact hS4 | exact hS3 | exact hS2 | exact hSd | exact hS1)
    (first
      | (go_at_call 17; refine (HS1.out _ hSd).mono ?_; rintro e u1 ⟨rfl, hS2⟩)
      | (go_at_call 19; refine (HS2.out _ hS2).mono ?_; rintro e u2 ⟨rfl, hS3⟩)
      | (go_at_call 15; refine (HS3.out _ hS3).mono ?_; rintro e u3 ⟨rfl, hS4⟩))
  go_wp2_with (fail)
  go_ret2
  exact ⟨rfl, hS4.2.2.1⟩
set_option maxHeartbeats 2000000 in
set_option maxRecDepth 20000 in
theorem openIn_good (z : Int) (key nonce aad : ByteArray) (g o k m n c1 c2 : Nat) (p1 p2 : Option Addr) (X : Nat → Nat) (w : World) (h : Seg w g o n X) (h1 : k = 0 ∨ p1 = some ⟨g, o, none⟩) (h2 : m = 0 ∨ p2 = some ⟨g, o + k, none⟩) (hk : k + m = n) (hc1 : k ≤ c1) (hc2 : m ≤ c2) (hn : n ≤ 65552)
    (hf : o8F z key nonce aad (pieceS X 0 n) = true) (hb : o8B z key nonce aad (pieceS X 0 n) = true) :
    Calls Try.prog 12 #[.int .i64 z, .string key, .string nonce, .string aad, .slice p1 k c1, .slice p2 m c2] w fun e w' => e = .returned (.tuple #[.int .i64 ((o8T z key nonce aad (pieceS X 0 n)).size : Nat), .int .i64 0]) ∧ But g w w' ∧ Seg w' g o n (fun t => if t < (o8T z key nonce aad (pieceS X 0 n)).size then byt (o8T z key nonce aad (pieceS X 0 n)) t else X t) := by
  have HF := Lib.hid fun W => open_fits z key nonce aad X n W
  have HSz := Lib.hid fun W => psize_any p1 p2 k m c1 c2 W (by omega)
  rw [hk] at HSz
  have HS1 := Lib.hid fun (u : World) (hS : BoxP w u (.slice p1 k c1) (.slice p2 m c2)) => psize_held hS p1 p2 k m n c1 c2 hk (by omega)
  have HS2 := Lib.hid fun (u : World) (hS : BoxP w u (.slice p1 k c1) (.slice p2 m c2)) => ptext_held hS g o k m n c1 c2 n p1 p2 X h h1 h2 hk hc1 hc2 (Nat.le_refl _) (by omega) (by omega)
  have HS3 := Lib.hid fun (u : World) (hS : BoxP w u (.slice p1 k c1) (.slice p2 m c2)) => open_held hS z key nonce aad _ hf
  rw [hf] at HF
  simp only [hb, cond_true] at HS3
  have ht := o8T_size z key nonce aad _ hb
  rw [Lw.pieceS_size] at ht
  generalize o8T z key nonce aad (pieceS X 0 n) = T at HS3 ht ⊢
  have HPut := Lib.hid fun (u : World) (hS : BoxP w u (.slice p1 k c1) (.slice p2 m c2)) => pput_any g o k m n c1 c2 T p1 p2 X u (h.on hS.2.2.1) h1 h2 hk hc1 hc2 (by omega) (by omega)
  have q : IntKind.i64.wrap ((n : Int) - 16) = (n : Int) - 16 := IntWalk.i64_in _ (by omega)
  generalize pieceS X 0 n = S at HS2 HS3
  clear h h1 h2 hk hc1 hc2 hn hf hb ht
  go_enter Try.func12, Try.ntmps12
  go_upto_region 2 with (fail)
  have hS0 := BoxP.new w (.slice p1 k c1) (.slice p2 m c2)
  generalize w.alloc (.cells #[.slice p1 k c1, .slice p2 m c2] 40) = w1 at hS0 ⊢
  have hA := hS0.1
  have hB := hS0.2.1
  go_wp2_with (first
    | (go_at_call 17; refine (HSz.out _).mono ?_; rintro e u ⟨rfl, hbu⟩)
    | (go_at_call 18; refine (HF.out _).mono ?_; rintro e v ⟨rfl, rfl⟩))
  have hS1 := hS0.on hbu
  have hSd := hS1.drew
  clear hA hB hbu hS0 HSz HF
  go_region_held3 (fun w' => w'.cell? ⟨w.heap.size, 0, none⟩ = some (.slice p1 k c1) ∧ w'.cell? ⟨w.heap.size, 1, none⟩ = some (.slice p2 m c2) ∧ Below w.heap.size w w' ∧ w.heap.size < w'.heap.size)
    (first | exact hS4 | exact hS3 | exact hS2 | exact hSd | exact hS1)
    (first
      | (go_at_call 17; refine (HS1.out _ hSd).mono ?_; rintro e u1 ⟨rfl, hS2⟩)
      | (go_at_call 19; refine (HS2.out _ hS2).mono ?_; rintro e u2 ⟨rfl, hS3⟩)
      | (go_at_call 15; refine (HS3.out _ hS3).mono ?_; rintro e u3 ⟨rfl, hS4⟩))
  have hA := hS4.1
  have hB := hS4.2.1
  clear hS1 hSd hS2 hS3 HS1 HS2 HS3
  go_wp2_with (go_at_call 20; refine (HPut.out _ hS4).mono ?_; rintro e u4 ⟨rfl, hBu, hR⟩)
  go_ret2
  exact ⟨rfl, (But.of_below hS4.2.2.1).trans hBu, hR⟩
theorem openIn_any (z : Int) (key nonce aad : ByteArray) (g o k m n c1 c2 : Nat) (p1 p2 : Option Addr) (X : Nat → Nat) (w : World) (h : Seg w g o n X) (h1 : k = 0 ∨ p1 = some ⟨g, o, none⟩) (h2 : m = 0 ∨ p2 = some ⟨g, o + k, none⟩) (hk : k + m = n) (hn : n ≤ 140737488355328) (hc1 : k ≤ c1) (hc2 : m ≤ c2) :
    Calls Try.prog 12 #[.int .i64 z, .string key, .string nonce, .string aad, .slice p1 k c1, .slice p2 m c2] w fun e w' =>
      e = .returned (.tuple #[.int .i64 ((o8S z key nonce aad (pieceS X 0 n)).size : Nat), .int .i64 (o8E z key nonce aad (pieceS X 0 n))]) ∧ But g w w' ∧ ∃ Y, Seg w' g o n Y ∧ pieceS Y 0 n = o8X z key nonce aad (pieceS X 0 n) := by
  cases hf : o8F z key nonce aad (pieceS X 0 n)
  · rw [show o8S z key nonce aad (pieceS X 0 n) = ⟨#[]⟩ by unfold o8S; rw [hf]; rfl, show o8E z key nonce aad (pieceS X 0 n) = 800 by unfold o8E; rw [hf]; rfl, show o8X z key nonce aad (pieceS X 0 n) = pieceS X 0 n by unfold o8X; rw [hf]; rfl]
    exact (openIn_no z key nonce aad k m n c1 c2 p1 p2 X w hk hn hf).mono fun e w' ⟨e1, e2⟩ => ⟨e1, But.of_below e2, X, h.on e2, rfl⟩
  · have hz : n ≤ 65552 := by have := ((o8_iff z key nonce aad _).1 hf).2; rwa [Lw.pieceS_size] at this
    cases hb : o8B z key nonce aad (pieceS X 0 n)
    · rw [show o8S z key nonce aad (pieceS X 0 n) = ⟨#[]⟩ by unfold o8S; rw [hf, hb]; rfl, show o8E z key nonce aad (pieceS X 0 n) = 801 by unfold o8E; rw [hf, hb]; rfl, show o8X z key nonce aad (pieceS X 0 n) = pieceS X 0 n by unfold o8X; rw [hf, hb]; rfl]
      exact (openIn_bad z key nonce aad g o k m n c1 c2 p1 p2 X w h h1 h2 hk hc1 hc2 hz hf hb).mono fun e w' ⟨e1, e2⟩ => ⟨e1, But.of_below e2, X, h.on e2, rfl⟩
    · have ht := o8T_size z key nonce aad _ hb
      rw [show o8S z key nonce aad (pieceS X 0 n) = o8T z key nonce aad (pieceS X 0 n) by unfold o8S; rw [hf, hb]; rfl, show o8E z key nonce aad (pieceS X 0 n) = 0 by unfold o8E; rw [hf, hb]; rfl, show o8X z key nonce aad (pieceS X 0 n) = o8T z key nonce aad (pieceS X 0 n) ++ (pieceS X 0 n).extract (o8T z key nonce aad (pieceS X 0 n)).size (pieceS X 0 n).size by unfold o8X; rw [hf, hb]; rfl]
      rw [Lw.pieceS_size] at ht ⊢
      exact (openIn_good z key nonce aad g o k m n c1 c2 p1 p2 X w h h1 h2 hk hc1 hc2 hz hf hb).mono fun e w' ⟨e1, e2, e3⟩ => ⟨e1, e2, _, e3, over_text X _ n (by omega)⟩
end Go.Proofs.Ed
