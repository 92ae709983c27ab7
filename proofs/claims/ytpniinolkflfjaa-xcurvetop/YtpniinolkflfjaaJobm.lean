/-
  The developers' X25519: texts in the other row.
-/
import Derived.Test.YtpniinolkflfjaaJobi
import Derived.Test.YtpniinolkflfjaaJobl
import Derived.Laws.IdiomStrings
import Derived.Laws.BytesArg
import Derived.Lib.LazyBuf
namespace Go.Proofs.Xe
open Go.RowKit
open Go.Proofs.Nt
open Go.Proofs.Nd (But)
open Go.Proofs.Aes (byt byt_lt get_byt)
open Go.Proofs.Im (wpAny_two ready_skip)
open Go.Proofs.Xu (rv rv_size rv_byt)
/-- n bytes from place o of block g on; none is frozen. -/
def Seg (w : World) (g o n : Nat) (X : Nat → Nat) : Prop := g < w.heap.size ∧ ∀ i, i < n → w.cell? ⟨g, o + i, none⟩ = some (.int .u8 (X i : Nat)) ∧ w.frozen? ⟨g, o + i, none⟩ = false
theorem Seg.lt {w : World} {g o n : Nat} {X : Nat → Nat} (h : Seg w g o n X) : g < w.heap.size := h.1
theorem Seg.on {w u : World} {g o n : Nat} {X : Nat → Nat} (h : Seg w g o n X) (hb : Below w.heap.size w u) : Seg u g o n X :=
  ⟨Nat.lt_of_lt_of_le h.1 hb.size, fun i hi => ⟨(hb.cell (p := ⟨g, o + i, none⟩) h.1).trans (h.2 i hi).1, (hb.frozen (p := ⟨g, o + i, none⟩) h.1).trans (h.2 i hi).2⟩⟩
theorem Seg.drew {w : World} {g o n : Nat} {X : Nat → Nat} (h : Seg w g o n X) : Seg w.drew g o n X := h.on (Below.refl _ _).drew
theorem Seg.congr {w : World} {g o n : Nat} {X Y : Nat → Nat} (h : Seg w g o n X) (e : ∀ i, i < n → X i = Y i) : Seg w g o n Y := ⟨h.1, fun i hi => by rw [← e i hi]; exact h.2 i hi⟩
theorem Seg.text {w : World} {g o n : Nat} {X : Nat → Nat} (h : Seg w g o n X) (c : Nat) : (Go.convert 32 9 (.slice (some ⟨g, o, none⟩) n c)).run Try.prog w = .ok (.string (Lw.pieceS X 0 n)) w := by
  rw [run_convert_bytes_arg (P := Try.prog) w 32 5 Try.underlying32 Try.underlying5 g o n c ((List.range n).map fun t => (X t : Int)) (by simp) (fun i hi => by
    rw [(h.2 i hi).1]
    simp [List.getD_eq_getElem?_getD, List.getElem?_range hi]) 9 Try.underlying9]
  unfold Lw.pieceS
  simp only [Nat.zero_add]
/-- What a text turned to bytes lays. -/
def bytesW (w : World) (s : ByteArray) : World := w.drew.alloc (.cells (bytesRow s (grownCap w s.size 0 5)) 5 ((bytesRow s (grownCap w s.size 0 5)).size, (bytesRow s (grownCap w s.size 0 5)).size + 1))
theorem bytes_run (w : World) (s : ByteArray) : (Go.convert 9 32 (.string s)).run Try.prog w = .ok (.slice (some ⟨w.heap.size, 0, none⟩) s.size (grownCap w s.size 0 5)) (bytesW w s) := run_bytes_of_string w 9 32 5 s Try.underlying9 Try.underlying32 Try.underlying5
theorem bytes_below (w : World) (s : ByteArray) : Below w.heap.size w (bytesW w s) := (Below.refl _ _).drew.alloc (Nat.le_refl _) _
theorem bytes_seg (w : World) (s : ByteArray) : Seg (bytesW w s) w.heap.size 0 s.size (byt s) := by
  unfold bytesW
  generalize grownCap w s.size 0 5 = c
  have hz : s.size ≤ (bytesRow s c).size := by unfold bytesRow; rw [Array.size_append, Array.size_map]; exact Nat.le_add_right _ _
  refine ⟨by show w.heap.size < (w.drew.alloc _).heap.size; simp, fun i hi => ⟨?_, ?_⟩⟩
  · have e : (w.drew.alloc (.cells (bytesRow s c) 5 ((bytesRow s c).size, (bytesRow s c).size + 1))).heap[w.heap.size]? = some (.cells (bytesRow s c) 5 ((bytesRow s c).size, (bytesRow s c).size + 1)) := by
      show (w.heap.push _)[w.heap.size]? = _
      simp
    have hc : (bytesRow s c)[i]? = some (.int .u8 (byt s i : Nat)) := by
      unfold bytesRow
      rw [Array.getElem?_append_left (by rw [Array.size_map]; exact hi), Array.getElem?_map, Array.getElem?_eq_getElem (show i < s.data.size from hi), ← get_byt s i hi]
      rfl
    show (match (w.drew.alloc (.cells (bytesRow s c) 5 ((bytesRow s c).size, (bytesRow s c).size + 1))).heap[w.heap.size]? with | some (.cells c _ _) => c[0 + i]? | _ => none) = _
    rw [e, Nat.zero_add]
    exact hc
  · have e : (w.drew.alloc (.cells (bytesRow s c) 5 ((bytesRow s c).size, (bytesRow s c).size + 1))).heap[w.heap.size]? = some (.cells (bytesRow s c) 5 ((bytesRow s c).size, (bytesRow s c).size + 1)) := by
      show (w.heap.push _)[w.heap.size]? = _
      simp
    have hl : i < (bytesRow s c).size := by omega
    simp only [World.frozen?, e]
    simp
    omega
theorem Seg.set {w : World} {g n : Nat} {X : Nat → Nat} (h : Seg w g 0 n X) (j x : Nat) (hj : j < n) : Seg (w.setCell ⟨g, j, none⟩ (.int .u8 (x : Nat))) g 0 n (fun i => if i = j then x else X i) := by
  refine ⟨Nat.lt_of_lt_of_le h.1 (by simp [World.setCell]), fun i hi => ⟨?_, by rw [World.frozen?_setCell]; exact (h.2 i hi).2⟩⟩
  have hc := (h.2 i hi).1
  rw [Nat.zero_add] at hc ⊢
  by_cases e : i = j
  · subst e
    rw [World.cell?_setCell_same w _ _ hc]; simp
  · rw [World.cell?_setCell_other w _ _ _ (fun q => e (by injection q with _ q _; exact q.symm)), hc]; simp [e]
theorem Seg.but {u v : World} {g k o n : Nat} {X : Nat → Nat} (h : Seg u k o n X) (hb : But g u v) (hk : k ≠ g) : Seg v k o n X := by
  have e := hb.block k h.1 hk
  refine ⟨Nat.lt_of_lt_of_le h.1 hb.size, fun i hi => ⟨?_, ?_⟩⟩
  · rw [← (h.2 i hi).1]; simp only [World.cell?, e]
  · rw [← (h.2 i hi).2]; simp only [World.frozen?, e]
theorem bytesW_size (w : World) (s : ByteArray) : w.heap.size < (bytesW w s).heap.size := by unfold bytesW; simp
/-- The bytes with k exchanged from each end. -/
def rk (k : Nat) (X : Nat → Nat) (t : Nat) : Nat := if t < k ∨ 31 - k < t then X (31 - t) else X t
theorem rk_zero (X : Nat → Nat) (t : Nat) (_ : t < 32) : rk 0 X t = X t := if_neg (by omega)
theorem rk_end (X : Nat → Nat) (t : Nat) : rk 16 X t = X (31 - t) := if_pos (by omega)
theorem rk_one {k : Nat} (X : Nat → Nat) (h : k < 16) : rk k X k = X k := if_neg (by omega)
theorem rk_two {k m : Nat} (X : Nat → Nat) (h : k < 16) (hm : k + m = 31) : rk k X m = X m := if_neg (by omega)
theorem rk_next {k m : Nat} (X : Nat → Nat) (h : k < 16) (hm : k + m = 31) (t : Nat) (_ : t < 32) : (if t = m then X k else if t = k then X m else rk k X t) = rk (k + 1) X t := by
  unfold rk
  by_cases h1 : t = m
  · rw [if_pos h1, if_pos (by omega), show 31 - t = k by omega]
  · rw [if_neg h1]
    by_cases h2 : t = k
    · rw [if_pos h2, if_pos (by omega), show 31 - t = m by omega]
    · rw [if_neg h2]
      by_cases h3 : t < k ∨ 31 - k < t
      · rw [if_pos h3, if_pos (by omega)]
      · rw [if_neg h3, if_neg (by omega)]
set_option maxHeartbeats 4000000 in
set_option maxRecDepth 20000 in
theorem reverse_any (g c : Nat) (X : Nat → Nat) (w : World) (H : Seg w g 0 32 X) :
    Calls Try.prog 33 #[.slice (some ⟨g, 0, none⟩) 32 c] w fun x u => x = .returned (.tuple #[]) ∧ But g w u ∧ Seg u g 0 32 (fun t => X (31 - t)) := by
  have HM : Hid (But g w w ∧ Seg w g 0 32 (rk 0 X)) := ⟨But.refl g w, H.congr fun t ht => (rk_zero X t ht).symm⟩
  clear H
  go_enter Try.func33, Try.ntmps33
  go_wp2_with (fail)
  go_loopw [2, 3] (fun iv jv wx => ∃ k m : Nat, Hid (k ≤ 16) ∧ Hid (k + m = 31) ∧ iv = .int .i64 (k : Nat) ∧ jv = .int .i64 (m : Nat) ∧ Hid (But g w wx ∧ Seg wx g 0 32 (rk k X))) (fun iv _ _ => 16 - (intOf iv).toNat)
  case atStart => exact ⟨0, 31, Nat.zero_le _, rfl, rfl, rfl, HM⟩
  case round =>
    clear HM
    obtain ⟨k, m, hk, hm, rfl, rfl, HM⟩ := hrel
    by_cases hlt : k < m
    · have il : ((k : Int) < (m : Int)) = True := eq_true (by omega)
      have il' : (k : Int) < (m : Int) := by omega
      have h16 : k < 16 := by have := hm.out; omega
      have HJ := Lib.hid h16
      have kb : (k : Int) < 32 := by omega
      have mb : (m : Int) < 32 := by have := hm.out; omega
      have m32 : m < 32 := by have := hm.out; omega
      have k1 : IntKind.i64.wrap ((k : Int) + 1) = ((k + 1 : Nat) : Int) := by rw [IntWalk.i64_in _ (by omega)]; omega
      have HN : Hid (∀ t, t < 32 → (if t = m then X k else if t = k then X m else rk k X t) = rk (k + 1) X t) := rk_next X h16 hm.out
      have xk : rk k X k = X k := rk_one X h16
      have xm : rk k X m = X m := rk_two X h16 hm.out
      have Hx : Hid (rk k X k = X k ∧ rk k X m = X m) := ⟨xk, xm⟩
      clear xk xm hlt
      go_upto_region 3 with (fail)
      refine wp_region_any (by kernel_rfl) ?_
      change wpAny _ _ _ _ _ _ _ wr.drew
      have HM : Hid (But g w wr.drew ∧ Seg wr.drew g 0 32 (rk k X)) := ⟨HM.out.1.drewN 1, HM.out.2.drew⟩
      generalize wr.drew = w2 at HM ⊢
      refine Lw.take_to (i := 0) (some 14) (.slice (some ⟨g, 0, none⟩) 32 c) rfl rfl (by kernel_rfl) (by kernel_rfl) (by kernel_rfl) (fun _ _ _ h => h) (Or.inl ⟨by rfl, fun w => by go_simp⟩) ?_
      refine Lw.take_to (i := 1) (some 15) (.int .i64 (k : Nat)) rfl rfl (by kernel_rfl) (by kernel_rfl) (by kernel_rfl) (fun _ _ _ h => h) (Or.inl ⟨by rfl, fun w => by go_simp⟩) ?_
      refine Lw.take_to (i := 2) (some 16) (.slice (some ⟨g, 0, none⟩) 32 c) rfl rfl (by kernel_rfl) (by kernel_rfl) (by kernel_rfl) (fun _ _ _ h => h) (Or.inl ⟨by rfl, fun w => by go_simp⟩) ?_
      refine Lw.take_to (i := 3) (some 17) (.int .i64 (m : Nat)) rfl rfl (by kernel_rfl) (by kernel_rfl) (by kernel_rfl) (fun _ _ _ h => h) (Or.inl ⟨by rfl, fun w => by go_simp⟩) ?_
      refine Lw.take_to (i := 4) (some 18) (.slice (some ⟨g, 0, none⟩) 32 c) rfl rfl (by kernel_rfl) (by kernel_rfl) (by kernel_rfl) (fun _ _ _ h => h) (Or.inl ⟨by rfl, fun w => by go_simp⟩) ?_
      refine Lw.take_to (i := 5) (some 19) (.int .i64 (m : Nat)) rfl rfl (by kernel_rfl) (by kernel_rfl) (by kernel_rfl) (fun _ _ _ h => h) (Or.inl ⟨by rfl, fun w => by go_simp⟩) ?_
      refine Lw.take_to (i := 6) (some 20) (.pointer (some ⟨g, m, none⟩)) rfl rfl (by kernel_rfl) (by kernel_rfl) (by kernel_rfl) (fun _ _ _ h => h) (Or.inl ⟨by rfl, fun w => by go_simp⟩) ?_
      refine Lw.take_to (i := 8) (some 22) (.slice (some ⟨g, 0, none⟩) 32 c) rfl rfl (by kernel_rfl) (by kernel_rfl) (by kernel_rfl) (fun _ _ _ h => h) (Or.inl ⟨by rfl, fun w => by go_simp⟩) ?_
      refine Lw.take_to (i := 9) (some 23) (.int .i64 (k : Nat)) rfl rfl (by kernel_rfl) (by kernel_rfl) (by kernel_rfl) (fun _ _ _ h => h) (Or.inl ⟨by rfl, fun w => by go_simp⟩) ?_
      refine Lw.take_to (i := 10) (some 24) (.pointer (some ⟨g, k, none⟩)) rfl rfl (by kernel_rfl) (by kernel_rfl) (by kernel_rfl) (fun _ _ _ h => h) (Or.inl ⟨by rfl, fun w => by go_simp⟩) ?_
      simp only [Act.put, List.setIfInBounds_toArray, List.set_cons_zero, List.set_cons_succ]
      have ck : w2.cell? ⟨g, k, none⟩ = some (.int .u8 (X k : Nat)) := by have := (HM.out.2.2 k (by omega)).1; rw [Nat.zero_add, Hx.out.1] at this; exact this
      have cm : w2.cell? ⟨g, m, none⟩ = some (.int .u8 (X m : Nat)) := by have := (HM.out.2.2 m m32).1; rw [Nat.zero_add, Hx.out.2] at this; exact this
      have fk : w2.frozen? ⟨g, k, none⟩ = false := by have := (HM.out.2.2 k (by omega)).2; rwa [Nat.zero_add] at this
      refine wpAny_two (i := 7) (j := 11) (some 21) (some 25) (.int .u8 (X m : Nat)) (.int .u8 (X k : Nat)) (by kernel_rfl) (by kernel_rfl) (by kernel_rfl) rfl rfl rfl rfl rfl rfl rfl rfl (by go_simp) (by go_simp) (by go_simp) (by go_simp) ?_
      simp only [Act.put, List.setIfInBounds_toArray, List.set_cons_zero, List.set_cons_succ]
      refine wpAny_ready (rs := [12]) (by kernel_rfl) (by simp) ?_
      refine Im.ready_one2 (some 26) rfl rfl rfl (.pointer (some ⟨g, k, none⟩)) w2 (by go_simp) ?_ AllReady.nil
      simp only [Act.put, List.setIfInBounds_toArray, List.set_cons_zero, List.set_cons_succ]
      refine wpAny_ready (rs := [13]) (by kernel_rfl) (by simp) ?_
      refine ready_skip rfl rfl rfl (w2.setCell ⟨g, k, none⟩ (.int .u8 (X m : Nat))) (by go_simp) ?_ AllReady.nil
      have HM : Hid (But g w (w2.setCell ⟨g, k, none⟩ (.int .u8 (X m : Nat))) ∧ Seg (w2.setCell ⟨g, k, none⟩ (.int .u8 (X m : Nat))) g 0 32 (fun t => if t = k then X m else rk k X t)) := ⟨HM.out.1.setCell k _, HM.out.2.set k (X m) (by omega)⟩
      clear ck cm fk
      generalize w2.setCell ⟨g, k, none⟩ (.int .u8 (X m : Nat)) = w3 at HM ⊢
      have cm : (w3.cell? ⟨g, m, none⟩).isSome = true := by have := (HM.out.2.2 m m32).1; rw [Nat.zero_add] at this; rw [this]; rfl
      have fm : w3.frozen? ⟨g, m, none⟩ = false := by have := (HM.out.2.2 m m32).2; rwa [Nat.zero_add] at this
      obtain ⟨v0, cm⟩ := Option.isSome_iff_exists.1 cm
      refine wpAny_ready (rs := [14]) (by kernel_rfl) (by simp) ?_
      refine Im.ready_one2 (some 27) rfl rfl rfl (.pointer (some ⟨g, m, none⟩)) w3 (by go_simp) ?_ AllReady.nil
      simp only [Act.put, List.setIfInBounds_toArray, List.set_cons_zero, List.set_cons_succ]
      refine wpAny_ready (rs := [15]) (by kernel_rfl) (by simp) ?_
      refine ready_skip rfl rfl rfl (w3.setCell ⟨g, m, none⟩ (.int .u8 (X k : Nat))) (by go_simp) ?_ AllReady.nil
      refine wpAny_done (by kernel_rfl) ?_ _
      have HM : Hid (But g w (w3.setCell ⟨g, m, none⟩ (.int .u8 (X k : Nat))) ∧ Seg (w3.setCell ⟨g, m, none⟩ (.int .u8 (X k : Nat))) g 0 32 (rk (k + 1) X)) := ⟨HM.out.1.setCell m _, (HM.out.2.set m (X k) m32).congr HN.out⟩
      clear cm fm
      generalize w3.setCell ⟨g, m, none⟩ (.int .u8 (X k : Nat)) = w4 at HM ⊢
      have m1 : IntKind.i64.wrap ((m : Int) - 1) = ((m - 1 : Nat) : Int) := by rw [IntWalk.i64_in _ (by omega)]; omega
      go_wp2_with (fail)
      refine ⟨⟨k + 1, m - 1, HJ.out, ?_, by go_num, ?_, HM⟩, Lw.meas 16 k HJ.out⟩
      · show k + 1 + (m - 1) = 31; have := hm.out; omega
      · congr 1
    · have il : ((k : Int) < (m : Int)) = False := eq_false (by omega)
      obtain rfl : k = 16 := by have := hm.out; have := hk.out; omega
      have il' : ¬ ((16 : Nat) : Int) < (m : Int) := by have := hm.out; omega
      clear hlt hk
      go_wp2_with (fail)
      go_end0
      exact ⟨rfl, HM.out.1, HM.out.2.congr fun t _ => rk_end X t⟩
theorem piece_rv (s : ByteArray) : Lw.pieceS (fun t => byt s (31 - t)) 0 32 = rv s := rfl
set_option maxHeartbeats 4000000 in
set_option maxRecDepth 20000 in
theorem reversed_any (s : ByteArray) (w : World) (hs : s.size = 32) : Calls Try.prog 17 #[.string s] w fun e u => e = .returned (.string (rv s)) ∧ Below w.heap.size w u := by
  have hbr := bytes_run w s
  have HS := Lib.hid (bytes_seg w s)
  have HB := Lib.hid (bytes_below w s)
  obtain ⟨c, hc⟩ : ∃ c, grownCap w s.size 0 5 = c := ⟨_, rfl⟩
  rw [hc, hs] at hbr
  rw [hs] at HS
  have hsz := bytesW_size w s
  clear hc
  generalize bytesW w s = w1 at hbr HS HB hsz
  go_enter Try.func17, Try.ntmps17
  go_upto_region 2 with (fail)
  clear hbr
  apply wp_region_lit
  refine Lw.wpList_val rfl (.slice (some ⟨w.heap.size, 0, none⟩) 32 c) w1 (by go_simp) ?_
  simp only [Act.put, List.setIfInBounds_toArray, List.set_cons_zero, List.set_cons_succ]
  refine Lw.wpList_callTo (some 7) rfl rfl 33 _ _ rfl (fun _ _ => by go_simp) #[.slice (some ⟨w.heap.size, 0, none⟩) 32 c] (by kernel_rfl) ?_
  refine (reverse_any w.heap.size c (byt s) w1 HS.out).mono ?_
  rintro e u ⟨rfl, hb, hr⟩
  refine ⟨_, rfl, ?_⟩
  have HB := Lib.hid (hb.below HB.out (Nat.le_refl _) HB.out.size)
  have ht := hr.text c
  clear hb hr HS
  rw [piece_rv] at ht
  simp only [Act.put, List.setIfInBounds_toArray, List.set_cons_zero, List.set_cons_succ]
  go_wp2_with (fail)
  go_ret
  exact ⟨rfl, HB.out⟩
end Go.Proofs.Xe
