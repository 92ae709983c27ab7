/-
  The document's own answer: a tag, Seal of GCM at every input.
-/
import Derived.Test.YtljhenjbjondkaaGreatJoas
import Derived.Test.YtljhenjbjondkaaGreatJoar
namespace Go.Proofs.Gcm
open Go.RowKit
open Go.Proofs.Aes (byt byt_lt get_byt ciphS ciphS_size Keys cipher_any exS exS_lt Sched sched_16 sched_32)
open Go.Proofs.Be (beS beS_size be_4 be_8)
/-- A schedule in memory. -/
def Key (w : World) (b len n : Nat) (wk : Nat → Nat) : Prop := len = 4 * (n + 1) ∧ (1 ≤ n ∧ n ≤ 14) ∧ b < w.heap.size ∧ Keys w b len wk ∧ ∀ i, wk i < 256
theorem Key.below {w u : World} {b len n : Nat} {wk : Nat → Nat} (h : Key w b len n wk) (hb : Below w.heap.size w u) : Key u b len n wk :=
  ⟨h.1, h.2.1, Nat.lt_of_lt_of_le h.2.2.1 hb.size, Keys.below h.2.2.2.1 h.2.2.1 hb, h.2.2.2.2⟩
theorem cipher_key {wk : Nat → Nat} {b len n : Nat} (cap : Nat) (s : ByteArray) (w : World) (h : Key w b len n wk) (hs : s.size = 16) :
    Calls Tryz.prog 62 #[.slice (some ⟨b, 0, none⟩) len cap, .string s] w fun e w' => e = .returned (.string (ciphS wk n s)) ∧ Below w.heap.size w w' :=
  cipher_any wk b len cap n s w h.1 h.2.1.1 h.2.1.2 hs h.2.2.1 h.2.2.2.1 h.2.2.2.2
theorem counter_key {wk : Nat → Nat} {b len n : Nat} (cap f : Nat) (nonce s : ByteArray) (w : World) (h : Key w b len n wk) (hno : nonce.size = 12) (hf : f ≤ 2) (hs : s.size ≤ 100000) :
    Calls Tryz.prog 37 #[.slice (some ⟨b, 0, none⟩) len cap, .string nonce, .int .i64 f, .string s] w fun e w' => e = .returned (.string (ctrS wk n nonce f s)) ∧ Below w.heap.size w w' :=
  counter_any wk b len cap n f nonce s w h.1 h.2.1.1 h.2.1.2 h.2.2.1 h.2.2.2.1 h.2.2.2.2 hno hf hs
theorem counter_1 {wk : Nat → Nat} {b len n : Nat} (cap : Nat) (nonce s : ByteArray) (w : World) (h : Key w b len n wk) (hno : nonce.size = 12) (hs : s.size ≤ 100000) :
    Calls Tryz.prog 37 #[.slice (some ⟨b, 0, none⟩) len cap, .string nonce, .int .i64 1, .string s] w fun e w' => e = .returned (.string (ctrS wk n nonce 1 s)) ∧ Below w.heap.size w w' := counter_key cap 1 nonce s w h hno (by decide) hs
theorem counter_2 {wk : Nat → Nat} {b len n : Nat} (cap : Nat) (nonce s : ByteArray) (w : World) (h : Key w b len n wk) (hno : nonce.size = 12) (hs : s.size ≤ 100000) :
    Calls Tryz.prog 37 #[.slice (some ⟨b, 0, none⟩) len cap, .string nonce, .int .i64 2, .string s] w fun e w' => e = .returned (.string (ctrS wk n nonce 2 s)) ∧ Below w.heap.size w w' := counter_key cap 2 nonce s w h hno (by decide) hs
/-- What a tag is made of. -/
def authS (aad c : ByteArray) : ByteArray := fillS aad ++ fillS c ++ (beS (8 * aad.size) 8 ++ beS (8 * c.size) 8)
def tagS (wk : Nat → Nat) (n : Nat) (nonce aad c : ByteArray) : ByteArray := ctrS wk n nonce 1 (ghS (ciphS wk n (zS 16)) (authS aad c))
theorem tagS_size (wk : Nat → Nat) (n : Nat) (nonce aad c : ByteArray) : (tagS wk n nonce aad c).size = 16 := by unfold tagS; rw [ctrS_size, ghS_size]
theorem fillS_le (s : ByteArray) : (fillS s).size ≤ s.size + 15 := by unfold fillS; rw [ByteArray.size_append, zS_size]; omega
theorem go_on {w u v : World} (h : Below w.heap.size w u) (hb : Below u.heap.size u v) : Below w.heap.size w v := h.trans (hb.mono h.size)
set_option maxHeartbeats 1000000 in
theorem tag_any {wk : Nat → Nat} {b len n : Nat} (cap : Nat) (nonce aad c : ByteArray) (w : World) (h : Key w b len n wk) (hno : nonce.size = 12) (ha : aad.size ≤ 100000) (hc : c.size ≤ 100000) :
    Calls Tryz.prog 38 #[.slice (some ⟨b, 0, none⟩) len cap, .string nonce, .string aad, .string c] w fun e w' => e = .returned (.string (tagS wk n nonce aad c)) ∧ Below w.heap.size w w' := by
  have HK := Lib.hid h
  have HNo := Lib.hid hno
  obtain ⟨M, _, hMc, hmk0⟩ := zeros 16 (by decide)
  have hmk : ∀ W : World, (Instr.makeSlice 35 (.int .i64 16) (.int .i64 16)).run Tryz.prog W = .ok (.slice (some ⟨W.heap.size, 0, none⟩) 16 16) (W.alloc (.cells M 5)) := hmk0
  have hcv := fun W => conv_new W M 16 hMc
  have HB0 : Hid (Below w.heap.size w (w.alloc (.cells M 5))) := (Below.refl _ _).alloc (Nat.le_refl _) _
  have HA := Lib.hid ha
  have HC := Lib.hid hc
  have HF1 := Lib.hid (fillS_le aad)
  have HF2 := Lib.hid (fillS_le c)
  obtain ⟨x, hx⟩ : ∃ x, 8 * aad.size = x := ⟨_, rfl⟩
  obtain ⟨y, hy⟩ : ∃ y, 8 * c.size = y := ⟨_, rfl⟩
  have x1 : 8 * (aad.size : Int) = (x : Int) := by omega
  have y1 : 8 * (c.size : Int) = (y : Int) := by omega
  have HXl : Hid (x < 4611686018427387904) := by show x < _; omega
  have HYl : Hid (y < 4611686018427387904) := by show y < _; omega
  have HX := Lib.hid hx
  have HY := Lib.hid hy
  have z1 := beS_size x 8
  have z2 := beS_size y 8
  clear h hno hMc hmk0 hx hy
  go_enter Tryz.func38, Tryz.ntmps38
  go_wp2_with (fail)
  clear hmk hcv
  generalize w.alloc (.cells M 5) = w1 at HB0 ⊢
  refine (cipher_key cap (zS 16) _ (HK.out.below HB0.out) (zS_size 16)).mono ?_
  rintro e u1 ⟨rfl, hb⟩
  have HB1 := Lib.hid (go_on HB0.out hb)
  clear hb
  go_wp2_with (fail)
  refine (be_8 x _ HXl.out).mono ?_
  rintro e u2 ⟨rfl, hb⟩
  have HB2 := Lib.hid (go_on HB1.out hb)
  clear hb
  go_wp2_with (fail)
  refine (be_8 y _ HYl.out).mono ?_
  rintro e u3 ⟨rfl, hb⟩
  have HB3 := Lib.hid (go_on HB2.out hb)
  clear hb
  go_wp2_with (fail)
  refine (filled_any aad _ (Nat.le_trans HA.out (by decide))).mono ?_
  rintro e u4 ⟨rfl, hb⟩
  have HB4 := Lib.hid (go_on HB3.out hb)
  clear hb
  go_wp2_with (fail)
  refine (filled_any c _ (Nat.le_trans HC.out (by decide))).mono ?_
  rintro e u5 ⟨rfl, hb⟩
  have HB5 := Lib.hid (go_on HB4.out hb)
  clear hb
  have q1 : ¬ 9223372036854775807 < (fillS aad).size + (fillS c).size := by have := HF1.out; have := HF2.out; omega
  have q2 : ¬ 9223372036854775807 < (fillS aad).size + (fillS c).size + (8 + 8) := by have := HF1.out; have := HF2.out; omega
  go_wp2_with (fail)
  have hAu : fillS aad ++ fillS c ++ (beS x 8 ++ beS y 8) = authS aad c := by unfold authS; rw [HX.out, HY.out]
  have HAz : Hid ((authS aad c).size ≤ 140737488355328) := by
    show (authS aad c).size ≤ _
    rw [← hAu, ByteArray.size_append, ByteArray.size_append, ByteArray.size_append, z1, z2]
    have := HF1.out; have := HF2.out; omega
  rw [hAu]
  refine (ghash_any (ciphS wk n (zS 16)) (authS aad c) _ (ciphS_size _ _ _) HAz.out).mono ?_
  rintro e u6 ⟨rfl, hb⟩
  have HB6 := Lib.hid (go_on HB5.out hb)
  clear hb hAu q1 q2
  go_wp2_with (fail)
  refine (counter_1 cap nonce (ghS (ciphS wk n (zS 16)) (authS aad c)) _ (HK.out.below HB6.out) HNo.out (by rw [ghS_size]; decide)).mono ?_
  rintro e u7 ⟨rfl, hb⟩
  have HB7 := Lib.hid (go_on HB6.out hb)
  clear hb
  go_wp2_with (fail)
  go_ret
  exact ⟨rfl, HB7.out⟩
/-- A key's schedule, and how many rounds it has. -/
def wkS (key : ByteArray) : Nat → Nat := exS (key.size / 4) key (3 * (key.size / 4) + 28)
def nR (key : ByteArray) : Nat := key.size / 4 + 6
def keyOk (key : ByteArray) : Bool := decide (key.size = 16) || decide (key.size = 32)
theorem keyOk_or {key : ByteArray} (h : keyOk key = true) : key.size = 16 ∨ key.size = 32 := by simpa [keyOk] using h
def SchedAt (w : World) (key : ByteArray) (e : Ending) (w' : World) : Prop := ∃ g len cap, e = .returned (.slice (some ⟨g, 0, none⟩) len cap) ∧ Below w.heap.size w w' ∧ Key w' g len (nR key) (wkS key)
theorem sched_any (key : ByteArray) (w : World) (h : keyOk key = true) : Calls Tryz.prog 36 #[.string key] w (SchedAt w key) := by
  rcases keyOk_or h with h | h
  · refine (sched_16 key w h).mono ?_
    rintro e w' ⟨g, cap, he, _, hg, hb, hk⟩
    have e1 : wkS key = exS 4 key 40 := by unfold wkS; rw [h]
    have e2 : nR key = 10 := by unfold nR; rw [h]
    refine ⟨g, 44, cap, he, hb, ?_⟩
    rw [e1, e2]
    exact ⟨rfl, ⟨by decide, by decide⟩, hg, hk, exS_lt 4 key 40⟩
  · refine (sched_32 key w h).mono ?_
    rintro e w' ⟨g, cap, he, _, hg, hb, hk⟩
    have e1 : wkS key = exS 8 key 52 := by unfold wkS; rw [h]
    have e2 : nR key = 14 := by unfold nR; rw [h]
    refine ⟨g, 60, cap, he, hb, ?_⟩
    rw [e1, e2]
    exact ⟨rfl, ⟨by decide, by decide⟩, hg, hk, exS_lt 8 key 52⟩
def gcmOk (key nonce aad s : ByteArray) (more : Nat) : Bool := keyOk key && (decide (nonce.size = 12) && (decide (aad.size ≤ 65536) && decide (s.size ≤ 65536 + more)))
set_option maxHeartbeats 2000000 in
theorem gcmMay_any (key nonce aad s : ByteArray) (more : Nat) (w : World) (hm : more ≤ 16) :
    Calls Tryz.prog 35 #[.string key, .string nonce, .string aad, .string s, .int .i64 more] w fun e w' => e = .returned (.bool (gcmOk key nonce aad s more)) ∧ w = w' := by
  have a1 : decide (key.size = 16) = ((key.size : Int) == 16) := by rw [Bool.eq_iff_iff]; simp; omega
  have a2 : decide (key.size = 32) = ((key.size : Int) == 32) := by rw [Bool.eq_iff_iff]; simp; omega
  have a3 : decide (nonce.size = 12) = ((nonce.size : Int) == 12) := by rw [Bool.eq_iff_iff]; simp; omega
  have a4 : decide (aad.size ≤ 65536) = decide ((aad.size : Int) ≤ 65536) := by rw [Bool.eq_iff_iff]; simp; omega
  have a5 : decide (s.size ≤ 65536 + more) = decide ((s.size : Int) ≤ 65536 + (more : Int)) := by rw [Bool.eq_iff_iff]; simp; omega
  unfold gcmOk keyOk
  rw [a1, a2, a3, a4, a5]
  clear a1 a2 a3 a4 a5
  cases h1 : ((key.size : Int) == 16)
  · cases h2 : ((key.size : Int) == 32)
    · go_enter Tryz.func35, Tryz.ntmps35
      go_wp2_with (fail)
      go_ret
      exact ⟨rfl, rfl⟩
    · cases h3 : ((nonce.size : Int) == 12)
      · go_enter Tryz.func35, Tryz.ntmps35
        go_wp2_with (fail)
        go_ret
        exact ⟨rfl, rfl⟩
      · cases h4 : decide ((aad.size : Int) ≤ 65536)
        · go_enter Tryz.func35, Tryz.ntmps35
          go_wp2_with (fail)
          go_ret
          exact ⟨rfl, rfl⟩
        · go_enter Tryz.func35, Tryz.ntmps35
          go_wp2_with (fail)
          go_ret
          exact ⟨rfl, rfl⟩
  · cases h3 : ((nonce.size : Int) == 12)
    · go_enter Tryz.func35, Tryz.ntmps35
      go_wp2_with (fail)
      go_ret
      exact ⟨rfl, rfl⟩
    · cases h4 : decide ((aad.size : Int) ≤ 65536)
      · go_enter Tryz.func35, Tryz.ntmps35
        go_wp2_with (fail)
        go_ret
        exact ⟨rfl, rfl⟩
      · go_enter Tryz.func35, Tryz.ntmps35
        go_wp2_with (fail)
        go_ret
        exact ⟨rfl, rfl⟩
def sealS (key nonce aad s : ByteArray) : ByteArray := ctrS (wkS key) (nR key) nonce 2 s ++ tagS (wkS key) (nR key) nonce aad (ctrS (wkS key) (nR key) nonce 2 s)
def gcmS (key nonce aad s : ByteArray) : ByteArray := bif gcmOk key nonce aad s 0 then sealS key nonce aad s else ⟨#[]⟩
def gcmE (key nonce aad s : ByteArray) : Int := bif gcmOk key nonce aad s 0 then 0 else 500
theorem gcmMay_0 (key nonce aad s : ByteArray) (w : World) :
    Calls Tryz.prog 35 #[.string key, .string nonce, .string aad, .string s, .int .i64 0] w fun e w' => e = .returned (.bool (gcmOk key nonce aad s 0)) ∧ w = w' := gcmMay_any key nonce aad s 0 w (by decide)
theorem gcmMay_16 (key nonce aad s : ByteArray) (w : World) :
    Calls Tryz.prog 35 #[.string key, .string nonce, .string aad, .string s, .int .i64 16] w fun e w' => e = .returned (.bool (gcmOk key nonce aad s 16)) ∧ w = w' := gcmMay_any key nonce aad s 16 w (by decide)
theorem gcmOk_parts {key nonce aad s : ByteArray} {more : Nat} (h : gcmOk key nonce aad s more = true) : keyOk key = true ∧ nonce.size = 12 ∧ aad.size ≤ 65536 ∧ s.size ≤ 65536 + more := by
  unfold gcmOk at h
  simp only [Bool.and_eq_true, decide_eq_true_eq] at h
  exact h
set_option maxHeartbeats 1000000 in
theorem rseal_no (key nonce aad s : ByteArray) (w : World) (h : gcmOk key nonce aad s 0 = false) :
    Calls Tryz.prog 19 #[.string key, .string nonce, .string aad, .string s] w fun e w' => e = .returned (.tuple #[.string ⟨#[]⟩, .int .i64 500]) ∧ Below w.heap.size w w' := by
  have H := Lib.hid (gcmMay_0 key nonce aad s w)
  rw [h] at H
  clear h
  go_enter Tryz.func19, Tryz.ntmps19
  go_wp2_with (fail)
  refine H.out.mono ?_
  rintro e u ⟨rfl, rfl⟩
  go_wp2_with (fail)
  go_ret2
  exact ⟨rfl, Below.refl _ _⟩
set_option maxHeartbeats 1000000 in
theorem rseal_ok (key nonce aad s : ByteArray) (w : World) (h : gcmOk key nonce aad s 0 = true) :
    Calls Tryz.prog 19 #[.string key, .string nonce, .string aad, .string s] w fun e w' => e = .returned (.tuple #[.string (sealS key nonce aad s), .int .i64 0]) ∧ Below w.heap.size w w' := by
  obtain ⟨h1, h2, h3, h4⟩ := gcmOk_parts h
  have H := Lib.hid (gcmMay_0 key nonce aad s w)
  rw [h] at H
  have HK := Lib.hid h1
  have HNo := Lib.hid h2
  have HA : Hid (aad.size ≤ 100000) := by show aad.size ≤ 100000; omega
  have HS : Hid (s.size ≤ 100000) := by show s.size ≤ 100000; omega
  clear h h1 h2 h3
  unfold sealS
  go_enter Tryz.func19, Tryz.ntmps19
  go_wp2_with (fail)
  refine H.out.mono ?_
  rintro e u ⟨rfl, rfl⟩
  clear H
  go_wp2_with (fail)
  refine (sched_any key _ HK.out).mono ?_
  rintro e u1 ⟨g, len, cap, rfl, hb, hKy⟩
  have HB1 := Lib.hid hb
  have HKy := Lib.hid hKy
  clear hb hKy
  go_wp2_with (fail)
  refine (counter_2 cap nonce s _ HKy.out HNo.out HS.out).mono ?_
  rintro e u2 ⟨rfl, hb⟩
  have HKy2 := Lib.hid (HKy.out.below hb)
  have HB2 := Lib.hid (go_on HB1.out hb)
  have cz := ctrS_size (wkS key) (nR key) nonce 2 s
  clear hb HKy
  generalize hce : ctrS (wkS key) (nR key) nonce 2 s = c at cz ⊢
  have HE := Lib.hid hce
  clear hce
  have HCz : Hid (c.size ≤ 100000) := by show c.size ≤ 100000; rw [cz]; exact HS.out
  go_wp2_with (fail)
  refine (tag_any cap nonce aad c _ HKy2.out HNo.out HA.out HCz.out).mono ?_
  rintro e u3 ⟨rfl, hb⟩
  have HB3 := Lib.hid (go_on HB2.out hb)
  have tz := tagS_size (wkS key) (nR key) nonce aad c
  have q1 : ¬ 9223372036854775807 < c.size + 16 := by have := HCz.out; omega
  clear hb
  go_wp2_with (fail)
  go_ret2
  exact ⟨by rw [HE.out]; rfl, HB3.out⟩
theorem rseal_any (key nonce aad s : ByteArray) (w : World) :
    Calls Tryz.prog 19 #[.string key, .string nonce, .string aad, .string s] w fun e w' => e = .returned (.tuple #[.string (gcmS key nonce aad s), .int .i64 (gcmE key nonce aad s)]) ∧ Below w.heap.size w w' := by
  cases h : gcmOk key nonce aad s 0
  · rw [show gcmS key nonce aad s = ⟨#[]⟩ by unfold gcmS; rw [h]; rfl, show gcmE key nonce aad s = 500 by unfold gcmE; rw [h]; rfl]
    exact rseal_no key nonce aad s w h
  · rw [show gcmS key nonce aad s = sealS key nonce aad s by unfold gcmS; rw [h]; rfl, show gcmE key nonce aad s = 0 by unfold gcmE; rw [h]; rfl]
    exact rseal_ok key nonce aad s w h
end Go.Proofs.Gcm
