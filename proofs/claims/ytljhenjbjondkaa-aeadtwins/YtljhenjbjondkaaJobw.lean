/-
  The developers' poly: a Seal and an Open whose form is fine.
-/
import Derived.Test.YtljhenjbjondkaaJobv
import Derived.Test.YtljhenjbjondkaaJoan
import Derived.Test.YtljhenjbjondkaaJobd
import Derived.Test.YtljhenjbjondkaaJobe
import Derived.Test.YtljhenjbjondkaaJoab
import Derived.Test.YtljhenjbjondkaaJoah
import Derived.Laws.IdiomStrings
import Derived.Test.YtljhenjbjondkaaJobl
namespace Go.Proofs.Pw
open Go.RowKit
open Go.Proofs.Pol
open Go.Proofs.Ps (seal_any open_any)
theorem seal_of (K N A s : ByteArray) (hk : K.size = 32) (hn : N.size = 12) (ha : A.size ≤ 65536) (hs : s.size ≤ 65536) : sealOk K N A s = true := (sealOk_iff K N A s).2 ⟨⟨hk, hn, ha⟩, hs⟩
theorem seal_fine (K N A s : ByteArray) (w : World) (hk : K.size = 32) (hn : N.size = 12) (ha : A.size ≤ 65536) (hs : s.size ≤ 65536) :
    Calls Try.prog 14 #[.string K, .string N, .string A, .string s] w fun e w' => e = .returned (.tuple #[.string (sealT K N A s), .int .i64 0]) ∧ Below w.heap.size w w' := by
  have h := seal_any K N A s w
  have ok := seal_of K N A s hk hn ha hs
  rw [show psS K N A s = sealT K N A s by unfold psS; rw [ok]; rfl, show psE K N A s = 0 by unfold psE; rw [ok]; rfl] at h
  exact h
theorem open_fine (K N A s : ByteArray) (w : World) (hk : K.size = 32) (hn : N.size = 12) (ha : A.size ≤ 65536) (hs : s.size ≤ 65536) :
    Calls Try.prog 16 #[.string K, .string N, .string A, .string (sealT K N A s)] w fun e w' => e = .returned (.tuple #[.string s, .int .i64 0]) ∧ Below w.heap.size w w' := by
  have h := open_any K N A (sealT K N A s) w
  have ok := open_seal K N A s (seal_of K N A s hk hn ha hs)
  rw [ok.1, ok.2] at h
  exact h
end Go.Proofs.Pw
/-
  The developers' aead: Seal and Open at every input.
-/
namespace Go.Proofs.Ed
open Go.RowKit Go.Proofs.Ad
open Go.Proofs.Pol (sealT psS psE sealOk sealOk_iff openOk poS poE)
theorem gcm_seals (key nonce aad s : ByteArray) (w : World) (h1 : Gcm.keyOk key = true) (h2 : nonce.size = 12) (h3 : aad.size ≤ 65536) (h4 : s.size ≤ 65536) :
    Calls Try.prog 13 #[.string key, .string nonce, .string aad, .string s] w fun e w' => e = .returned (.tuple #[.string (Gcm.sealS key nonce aad s), .int .i64 0]) ∧ Below w.heap.size w w' := by
  have h := Gs.seal_any key nonce aad s w
  have ok := gcmOk_of (more := 0) h1 h2 h3 h4
  rw [show Gcm.gcmS key nonce aad s = Gcm.sealS key nonce aad s by unfold Gcm.gcmS; rw [ok]; rfl, show Gcm.gcmE key nonce aad s = 0 by unfold Gcm.gcmE; rw [ok]; rfl] at h
  exact h
theorem gcm_opened (key nonce aad s : ByteArray) (w : World) (h1 : Gcm.keyOk key = true) (h2 : nonce.size = 12) (h3 : aad.size ≤ 65536) (h4 : s.size ≤ 65552) :
    Calls Try.prog 27 #[.string key, .string nonce, .string aad, .string s] w fun e w' => e = .returned (.tuple #[.string (bif Gcm.openB key nonce aad s then Gcm.openS key nonce aad s else ⟨#[]⟩), .int .i64 (bif Gcm.openB key nonce aad s then 0 else 501)]) ∧ Below w.heap.size w w' := by
  have h := Gs.open_any key nonce aad s w
  have ok := gcmOk_of (more := 16) h1 h2 h3 (show s.size ≤ 65536 + 16 by omega)
  cases hb : Gcm.openB key nonce aad s
  · rw [show Gcm.openS key nonce aad s = ⟨#[]⟩ by unfold Gcm.openS; rw [hb]; rfl, show Gcm.openE key nonce aad s = 501 by unfold Gcm.openE; rw [hb, ok]; rfl] at h
    exact h
  · rw [show Gcm.openE key nonce aad s = 0 by unfold Gcm.openE; rw [hb]; rfl] at h
    exact h
theorem pol_opened (key nonce aad s : ByteArray) (w : World) :
    Calls Try.prog 16 #[.string key, .string nonce, .string aad, .string s] w fun e w' => e = .returned (.tuple #[.string (bif openOk key nonce aad s then poS key nonce aad s else ⟨#[]⟩), .int .i64 (bif openOk key nonce aad s then 0 else 700)]) ∧ Below w.heap.size w w' := by
  have h := Ps.open_any key nonce aad s w
  cases hb : openOk key nonce aad s
  · rw [show poS key nonce aad s = ⟨#[]⟩ by unfold poS; rw [hb]; rfl, show poE key nonce aad s = 700 by unfold poE; rw [hb]; rfl] at h
    exact h
  · rw [show poE key nonce aad s = 0 by unfold poE; rw [hb]; rfl] at h
    exact h
set_option maxHeartbeats 1000000 in
theorem seal_no (z : Int) (key nonce aad s : ByteArray) (w : World) (h : s8Ok z key nonce aad s = false) :
    Calls Try.prog 10 #[.int .i64 z, .string key, .string nonce, .string aad, .string s] w fun e w' => e = .returned (.tuple #[.string ⟨#[]⟩, .int .i64 800]) ∧ Below w.heap.size w w' := by
  have HF := Lib.hid (fun u => fits_any z key nonce aad s.size u)
  rw [f8_fit, h] at HF
  clear h
  go_enter Try.func10, Try.ntmps10
  go_wp2_with (go_at_call 18; refine (HF.out _).mono ?_; rintro e u ⟨rfl, rfl⟩)
  go_ret2
  exact ⟨rfl, Below.refl _ _⟩
set_option maxHeartbeats 1000000 in
theorem seal_ok (z : Int) (key nonce aad s : ByteArray) (w : World) (h : s8Ok z key nonce aad s = true) :
    Calls Try.prog 10 #[.int .i64 z, .string key, .string nonce, .string aad, .string s] w fun e w' => e = .returned (.tuple #[.string (s8T z key nonce aad s), .int .i64 0]) ∧ Below w.heap.size w w' := by
  have HF := Lib.hid (fun u => fits_any z key nonce aad s.size u)
  rw [f8_fit, h] at HF
  obtain ⟨⟨⟨h0, h1⟩, h2, h3⟩, h4⟩ := (s8_iff z key nonce aad s).1 h
  have hk := keyOk_of h0 h1
  clear h
  by_cases hz : z = 4867
  · have HT : Hid (s8T z key nonce aad s = sealT key nonce aad s) := by show _ = _; unfold s8T; rw [if_pos hz]
    have HP := Lib.hid (fun u => Pw.seal_fine key nonce aad s u (by rw [hz, siz_three.1] at h1; omega) h2 h3 h4)
    rw [HT.out]
    generalize sealT key nonce aad s = R at HP ⊢
    clear HT h0 h1 h2 h3 h4 hk
    subst hz
    go_enter Try.func10, Try.ntmps10
    go_wp2_with (first
      | (go_at_call 18; refine (HF.out _).mono ?_; rintro e u ⟨rfl, rfl⟩)
      | (go_at_call 14; refine (HP.out _).mono ?_; rintro e u1 ⟨rfl, hb⟩))
    go_ret2
    exact ⟨rfl, hb⟩
  · have HT : Hid (s8T z key nonce aad s = Gcm.sealS key nonce aad s) := by show _ = _; unfold s8T; rw [if_neg hz]
    have HP := Lib.hid (fun u => gcm_seals key nonce aad s u hk h2 h3 h4)
    have z1 : (z == 4867) = false := by simpa using hz
    have z2 : (z = 4867) = False := eq_false hz
    rw [HT.out]
    generalize Gcm.sealS key nonce aad s = R at HP ⊢
    clear HT h0 h1 h2 h3 h4 hk hz
    go_enter Try.func10, Try.ntmps10
    go_wp2_with (first
      | (go_at_call 18; refine (HF.out _).mono ?_; rintro e u ⟨rfl, rfl⟩)
      | (go_at_call 13; refine (HP.out _).mono ?_; rintro e u1 ⟨rfl, hb⟩))
    go_ret2
    exact ⟨rfl, hb⟩
theorem seal_any (z : Int) (key nonce aad s : ByteArray) (w : World) :
    Calls Try.prog 10 #[.int .i64 z, .string key, .string nonce, .string aad, .string s] w fun e w' => e = .returned (.tuple #[.string (s8S z key nonce aad s), .int .i64 (s8E z key nonce aad s)]) ∧ Below w.heap.size w w' := by
  cases h : s8Ok z key nonce aad s
  · rw [show s8S z key nonce aad s = ⟨#[]⟩ by unfold s8S; rw [h]; rfl, show s8E z key nonce aad s = 800 by unfold s8E; rw [h]; rfl]
    exact seal_no z key nonce aad s w h
  · rw [show s8S z key nonce aad s = s8T z key nonce aad s by unfold s8S; rw [h]; rfl, show s8E z key nonce aad s = 0 by unfold s8E; rw [h]; rfl]
    exact seal_ok z key nonce aad s w h
set_option maxHeartbeats 1000000 in
theorem open_no (z : Int) (key nonce aad s : ByteArray) (w : World) (hs : s.size ≤ 9223372036854775807) (h : o8F z key nonce aad s = false) :
    Calls Try.prog 15 #[.int .i64 z, .string key, .string nonce, .string aad, .string s] w fun e w' => e = .returned (.tuple #[.string ⟨#[]⟩, .int .i64 800]) ∧ Below w.heap.size w w' := by
  have HF := Lib.hid (fun u => fits_any z key nonce aad ((s.size : Int) - 16) u)
  rw [f8_open, h] at HF
  clear h
  obtain ⟨n, hn⟩ : ∃ n, s.size = n := ⟨_, rfl⟩
  rw [hn] at hs HF
  have q : IntKind.i64.wrap ((n : Int) - 16) = (n : Int) - 16 := IntWalk.i64_in _ (by omega)
  go_enter Try.func15, Try.ntmps15
  go_wp2_with (go_at_call 18; refine (HF.out _).mono ?_; rintro e u ⟨rfl, rfl⟩)
  go_ret2
  exact ⟨rfl, Below.refl _ _⟩
set_option maxHeartbeats 1000000 in
theorem open_ok (z : Int) (key nonce aad s : ByteArray) (w : World) (h : o8F z key nonce aad s = true) :
    Calls Try.prog 15 #[.int .i64 z, .string key, .string nonce, .string aad, .string s] w fun e w' => e = .returned (.tuple #[.string (bif o8B z key nonce aad s then o8T z key nonce aad s else ⟨#[]⟩), .int .i64 (bif o8B z key nonce aad s then 0 else 801)]) ∧ Below w.heap.size w w' := by
  have HF := Lib.hid (fun u => fits_any z key nonce aad ((s.size : Int) - 16) u)
  rw [f8_open, h] at HF
  obtain ⟨⟨⟨h0, h1⟩, h2, h3⟩, h4⟩ := (o8_iff z key nonce aad s).1 h
  have hk := keyOk_of h0 h1
  clear h
  obtain ⟨n, hn⟩ : ∃ n, s.size = n := ⟨_, rfl⟩
  have q : IntKind.i64.wrap ((n : Int) - 16) = (n : Int) - 16 := IntWalk.i64_in _ (by omega)
  rw [hn] at HF
  by_cases hz : z = 4867
  · have HP := Lib.hid (fun u => pol_opened key nonce aad s u)
    rw [show o8B z key nonce aad s = openOk key nonce aad s by unfold o8B; rw [if_pos hz], show o8T z key nonce aad s = poS key nonce aad s by unfold o8T; rw [if_pos hz]]
    generalize poS key nonce aad s = R at HP ⊢
    generalize openOk key nonce aad s = D at HP ⊢
    clear h0 h1 h2 h3 h4 hk
    subst hz
    cases D <;> simp only [cond_false, cond_true] at HP ⊢
    · go_enter Try.func15, Try.ntmps15
      go_wp2_with (first
        | (go_at_call 18; refine (HF.out _).mono ?_; rintro e u ⟨rfl, rfl⟩)
        | (go_at_call 16; refine (HP.out _).mono ?_; rintro e u1 ⟨rfl, hb⟩))
      go_ret2
      exact ⟨rfl, hb⟩
    · go_enter Try.func15, Try.ntmps15
      go_wp2_with (first
        | (go_at_call 18; refine (HF.out _).mono ?_; rintro e u ⟨rfl, rfl⟩)
        | (go_at_call 16; refine (HP.out _).mono ?_; rintro e u1 ⟨rfl, hb⟩))
      go_ret2
      exact ⟨rfl, hb⟩
  · have HP := Lib.hid (fun u => gcm_opened key nonce aad s u hk h2 h3 h4)
    have z1 : (z == 4867) = false := by simpa using hz
    have z2 : (z = 4867) = False := eq_false hz
    rw [show o8B z key nonce aad s = Gcm.openB key nonce aad s by unfold o8B; rw [if_neg hz], show o8T z key nonce aad s = Gcm.openS key nonce aad s by unfold o8T; rw [if_neg hz]]
    generalize Gcm.openS key nonce aad s = R at HP ⊢
    generalize Gcm.openB key nonce aad s = D at HP ⊢
    clear h0 h1 h2 h3 h4 hk hz
    cases D <;> simp only [cond_false, cond_true] at HP ⊢
    · go_enter Try.func15, Try.ntmps15
      go_wp2_with (first
        | (go_at_call 18; refine (HF.out _).mono ?_; rintro e u ⟨rfl, rfl⟩)
        | (go_at_call 27; refine (HP.out _).mono ?_; rintro e u1 ⟨rfl, hb⟩))
      go_ret2
      exact ⟨rfl, hb⟩
    · go_enter Try.func15, Try.ntmps15
      go_wp2_with (first
        | (go_at_call 18; refine (HF.out _).mono ?_; rintro e u ⟨rfl, rfl⟩)
        | (go_at_call 27; refine (HP.out _).mono ?_; rintro e u1 ⟨rfl, hb⟩))
      go_ret2
      exact ⟨rfl, hb⟩
theorem open_any (z : Int) (key nonce aad s : ByteArray) (w : World) (hs : s.size ≤ 9223372036854775807) :
    Calls Try.prog 15 #[.int .i64 z, .string key, .string nonce, .string aad, .string s] w fun e w' => e = .returned (.tuple #[.string (o8S z key nonce aad s), .int .i64 (o8E z key nonce aad s)]) ∧ Below w.heap.size w w' := by
  cases h : o8F z key nonce aad s
  · rw [show o8S z key nonce aad s = ⟨#[]⟩ by unfold o8S; rw [h]; rfl, show o8E z key nonce aad s = 800 by unfold o8E; rw [h]; rfl]
    exact open_no z key nonce aad s w hs h
  · rw [show o8S z key nonce aad s = (bif o8B z key nonce aad s then o8T z key nonce aad s else ⟨#[]⟩) by unfold o8S; rw [h]; rfl, show o8E z key nonce aad s = (bif o8B z key nonce aad s then 0 else 801) by unfold o8E; rw [h]; rfl]
    exact open_ok z key nonce aad s w h
end Go.Proofs.Ed
/-
  Bytes in memory as parts of slices: what lies there, how they turn to texts, where a text was turned to bytes.
-/
namespace Go.Proofs.Ew
open Go.RowKit
open Go.Proofs.Aes (byt byt_lt get_byt)
open Go.Proofs.Cha (byt_nums text_ext)
/-- n bytes from place o of block g on; none is frozen. -/
def Seg (w : World) (g o n : Nat) (X : Nat → Nat) : Prop := g < w.heap.size ∧ ∀ i, i < n → w.cell? ⟨g, o + i, none⟩ = some (.int .u8 (X i : Nat)) ∧ w.frozen? ⟨g, o + i, none⟩ = false
theorem Seg.lt {w : World} {g o n : Nat} {X : Nat → Nat} (h : Seg w g o n X) : g < w.heap.size := h.1
theorem Seg.on {w u : World} {g o n : Nat} {X : Nat → Nat} (h : Seg w g o n X) (hb : Below w.heap.size w u) : Seg u g o n X :=
  ⟨Nat.lt_of_lt_of_le h.1 hb.size, fun i hi => ⟨(hb.cell (p := ⟨g, o + i, none⟩) h.1).trans (h.2 i hi).1, (hb.frozen (p := ⟨g, o + i, none⟩) h.1).trans (h.2 i hi).2⟩⟩
theorem Seg.drew {w : World} {g o n : Nat} {X : Nat → Nat} (h : Seg w g o n X) : Seg w.drew g o n X := h.on (Below.refl _ _).drew
theorem Seg.congr {w : World} {g o n : Nat} {X Y : Nat → Nat} (h : Seg w g o n X) (e : ∀ i, i < n → X i = Y i) : Seg w g o n Y := ⟨h.1, fun i hi => by rw [← e i hi]; exact h.2 i hi⟩
theorem Seg.cut {w : World} {g o n : Nat} {X : Nat → Nat} (h : Seg w g o n X) (a m : Nat) (ha : a + m ≤ n) : Seg w g (o + a) m (fun i => X (a + i)) :=
  ⟨h.1, fun i hi => by rw [Nat.add_assoc]; exact h.2 (a + i) (by omega)⟩
theorem Seg.text {w : World} {g o n : Nat} {X : Nat → Nat} (h : Seg w g o n X) (c : Nat) : (Go.convert 27 9 (.slice (some ⟨g, o, none⟩) n c)).run Try.prog w = .ok (.string (Lw.pieceS X 0 n)) w := by
  rw [run_convert_bytes_arg (P := Try.prog) w 27 5 Try.underlying27 Try.underlying5 g o n c ((List.range n).map fun t => (X t : Int)) (by simp) (fun i hi => by
    rw [(h.2 i hi).1]
    simp [List.getD_eq_getElem?_getD, List.getElem?_range hi]) 9 Try.underlying9]
  unfold Lw.pieceS
  simp only [Nat.zero_add]
theorem Seg.of_row {w : World} {g n : Nat} {X : Nat → Nat} (h : Lw.RowB w g n X) (o m : Nat) (hm : o + m ≤ n) : Seg w g o m (fun i => X (o + i)) :=
  ⟨World.rowIs.lt h, fun i hi => ⟨World.rowIs.cell h (i := o + i) (by omega), World.rowIs.frozen h _⟩⟩
theorem piece_byt (s : ByteArray) : Lw.pieceS (byt s) 0 s.size = s :=
  text_ext (Lw.pieceS_size _ _ _) fun t ht => by
    rw [Lw.pieceS_size] at ht
    rw [Lw.byt_piece _ 0 s.size t ht (byt_lt s), Nat.zero_add]
/-- What a text turned to bytes lays. -/
def bytesW (w : World) (s : ByteArray) : World := w.drew.alloc (.cells (bytesRow s (grownCap w s.size 0 5)) 5 ((bytesRow s (grownCap w s.size 0 5)).size, (bytesRow s (grownCap w s.size 0 5)).size + 1))
theorem bytes_run (w : World) (s : ByteArray) : (Go.convert 9 27 (.string s)).run Try.prog w = .ok (.slice (some ⟨w.heap.size, 0, none⟩) s.size (grownCap w s.size 0 5)) (bytesW w s) := run_bytes_of_string w 9 27 5 s Try.underlying9 Try.underlying27 Try.underlying5
theorem bytes_below (w : World) (s : ByteArray) : Below w.heap.size w (bytesW w s) := (Below.refl _ _).drew.alloc (Nat.le_refl _) _
theorem bytes_seg (w : World) (s : ByteArray) : Seg (bytesW w s) w.heap.size 0 s.size (byt s) := by
  unfold bytesW
  generalize grownCap w s.size 0 5 = c
  have hz : s.size ≤ (bytesRow s c).size := by unfold bytesRow; rw [Array.size_append, Array.size_map]; exact Nat.le_add_right _ _
  refine ⟨by show w.heap.size < (w.drew.alloc _).heap.size; simp, fun i hi => ⟨?_, ?_⟩⟩
  · have e : (w.drew.alloc (.cells (bytesRow s c) 5 ((bytesRow s c).size, (bytesRow s c).size + 1))).heap[w.heap.size]? = some (.cells (bytesRow s c) 5 ((bytesRow s c).size, (bytesRow s c).size + 1)) := by
      show (w.heap.push _)[w.heap.size]? = _
      simp
    have hc : (bytesRow s c)[i]? = some (.int .u8 (byt s i : Nat)) := by
      unfold bytesRow
      rw [Array.getElem?_append_left (by rw [Array.size_map]; exact hi), Array.getElem?_map, Array.getElem?_eq_getElem (show i < s.data.size from hi), ← get_byt s i hi]
      rfl
    show (match (w.drew.alloc (.cells (bytesRow s c) 5 ((bytesRow s c).size, (bytesRow s c).size + 1))).heap[w.heap.size]? with | some (.cells c _ _) => c[0 + i]? | _ => none) = _
    rw [e, Nat.zero_add]
    exact hc
  · have e : (w.drew.alloc (.cells (bytesRow s c) 5 ((bytesRow s c).size, (bytesRow s c).size + 1))).heap[w.heap.size]? = some (.cells (bytesRow s c) 5 ((bytesRow s c).size, (bytesRow s c).size + 1)) := by
      show (w.heap.push _)[w.heap.size]? = _
      simp
    have hl : i < (bytesRow s c).size := by omega
    simp only [World.frozen?, e]
    simp
    omega
theorem byt_part (X : Nat → Nat) (off n t : Nat) (h : t < n) : byt (Lw.pieceS X off n) t = X (off + t) % 256 := by
  unfold Lw.pieceS byt strOfNums
  rw [List.getD_eq_getElem?_getD]
  simp [h]
theorem part_of (X : Nat → Nat) (n a b : Nat) (h : b ≤ n) (hab : a ≤ b) : Lw.pieceS X a (b - a) = (Lw.pieceS X 0 n).extract a b :=
  text_ext (by rw [ByteArray.size_extract, Lw.pieceS_size, Lw.pieceS_size]; omega) fun t ht => by
    rw [Lw.pieceS_size] at ht
    rw [Cha.byt_cut _ a b t (by omega) (by rw [Lw.pieceS_size]; exact h), byt_part _ _ _ _ ht, byt_part _ _ _ _ (by omega), Nat.zero_add]
end Go.Proofs.Ew
/-
  The three suites: what lies in memory behind OpenIn and SealIn.
-/
namespace Go.Proofs.Ad
open Go.RowKit
open Go.Proofs.Ew (Seg)
open Go.Proofs.Pd (But)
open Go.Proofs.Pol (openOk poS sealT_size)
/-- What two segments hold behind OpenIn; behind SealIn; what SealIn answers. -/
def o8X (z : Int) (key nonce aad s : ByteArray) : ByteArray := bif o8F z key nonce aad s && o8B z key nonce aad s then o8T z key nonce aad s ++ s.extract (o8T z key nonce aad s).size s.size else s
def i8Ok (z : Int) (key nonce aad s : ByteArray) : Bool := decide (16 ≤ s.size) && s8Ok z key nonce aad (s.extract 0 (s.size - 16))
def i8X (z : Int) (key nonce aad s : ByteArray) : ByteArray := bif i8Ok z key nonce aad s then s8T z key nonce aad (s.extract 0 (s.size - 16)) else s
def i8E (z : Int) (key nonce aad s : ByteArray) : Int := bif i8Ok z key nonce aad s then 0 else 800
theorem _root_.Go.Proofs.Ew.Seg.but {w u : World} {g g' o n : Nat} {X : Nat → Nat} (h : Seg w g o n X) (hb : But g' w u) (hg : g ≠ g') : Seg u g o n X := by
  have e := hb.block g h.1 hg
  exact ⟨Nat.lt_of_lt_of_le h.1 hb.size, fun i hi => ⟨Eq.trans (World.cell?_of_block (w := w) e) (h.2 i hi).1, Eq.trans (World.frozen?_of_block (w := w) e) (h.2 i hi).2⟩⟩
theorem o8T_size (z : Int) (key nonce aad s : ByteArray) (h : o8B z key nonce aad s = true) : (o8T z key nonce aad s).size + 16 = s.size := by
  unfold o8T
  unfold o8B at h
  by_cases hz : z = 4867
  · rw [if_pos hz] at h ⊢
    have h16 : 16 ≤ s.size := by unfold openOk at h; simp only [Bool.and_eq_true, decide_eq_true_iff] at h; exact h.2.1.1
    unfold poS
    rw [h]
    simp only [cond_true]
    rw [Cha.strS_size, ByteArray.size_extract]; omega
  · rw [if_neg hz] at h ⊢
    have h16 : 16 ≤ s.size := by unfold Gcm.openB at h; simp only [Bool.and_eq_true, decide_eq_true_iff] at h; exact h.2.1
    unfold Gcm.openS
    rw [h]
    simp only [cond_true]
    rw [Gcm.ctrS_size, ByteArray.size_extract]; omega
theorem s8T_size (z : Int) (K N A s : ByteArray) : (s8T z K N A s).size = s.size + 16 := by
  unfold s8T
  split
  · exact sealT_size _ _ _ _
  · exact Gcm.sealS_size _ _ _ _

end Go.Proofs.Ad
