/-
  Numbers as texts of 32 bytes, the highest first. Of no program.
-/
import Derived.Test.YtpniinolkflfjaaJoad
import Derived.Test.YtpniinolkflfjaaJoab
import Derived.Test.YtpniinolkflfjaaJoaj
import Derived.StillTail
import Derived.StillTailTactics
namespace Go.Proofs.Nt
open Go.RowKit
open Go.Proofs.Aes (byt byt_lt get_byt)
/-- The value of k bytes from place o on. -/
def bg (s : ByteArray) (o : Nat) : Nat → Nat
  | 0 => 0
  | k + 1 => bg s o k * 256 + byt s (o + k)
def bn (s : ByteArray) : Nat := bg s 0 32
theorem bg_lt (s : ByteArray) (o : Nat) : ∀ k, bg s o k < 256 ^ k
  | 0 => Nat.one_pos
  | k + 1 => by
    have h1 := bg_lt s o k
    have h2 := byt_lt s (o + k)
    show bg s o k * 256 + byt s (o + k) < 256 ^ (k + 1)
    rw [Nat.pow_succ]; omega
/-- A number's text. -/
def tb (x i : Nat) : Nat := x / 256 ^ (31 - i) % 256
def t32 (x : Nat) : ByteArray := Lw.pieceS (tb x) 0 32
theorem tb_lt (x i : Nat) : tb x i < 256 := Nat.mod_lt _ (by decide)
theorem t32_size (x : Nat) : (t32 x).size = 32 := Lw.pieceS_size _ _ _
theorem t32_byt (x i : Nat) (h : i < 32) : byt (t32 x) i = tb x i := by
  unfold t32
  rw [Lw.byt_piece (tb x) 0 32 i h (tb_lt x), Nat.zero_add]
theorem t32_val (x : Nat) : ∀ k, k ≤ 32 → bg (t32 x) 0 k = x / 256 ^ (32 - k) % 256 ^ k
  | 0, _ => (Nat.mod_one _).symm
  | k + 1, h => by
    have ih := t32_val x k (by omega)
    show bg (t32 x) 0 k * 256 + byt (t32 x) (0 + k) = _
    rw [ih, Nat.zero_add, t32_byt x k (by omega)]
    unfold tb
    rw [show 31 - k = 32 - (k + 1) by omega, show 32 - k = 32 - (k + 1) + 1 by omega, Nat.pow_succ, ← Nat.div_div_eq_div_mul]
    generalize x / 256 ^ (32 - (k + 1)) = y
    rw [Nat.pow_succ, Nat.mul_comm (256 ^ k) 256, Nat.mod_mul]
    omega
theorem bn_t32 {x : Nat} (h : x < 2 ^ 256) : bn (t32 x) = x := by
  have e := t32_val x 32 (Nat.le_refl _)
  rw [Nat.sub_self, Nat.pow_zero, Nat.div_one] at e
  unfold bn
  rw [e]
  exact Nat.mod_eq_of_lt (by rw [show (256 : Nat) ^ 32 = 2 ^ 256 by decide]; exact h)
theorem bg_tb (s : ByteArray) (i : Nat) : ∀ k, i < k → bg s 0 k / 256 ^ (k - 1 - i) % 256 = byt s i
  | 0, h => absurd h (by omega)
  | k + 1, h => by
    have hb := byt_lt s k
    show (bg s 0 k * 256 + byt s (0 + k)) / 256 ^ (k + 1 - 1 - i) % 256 = _
    rw [Nat.zero_add]
    by_cases e : i = k
    · subst e
      rw [show i + 1 - 1 - i = 0 by omega, Nat.pow_zero, Nat.div_one]; omega
    · have ih := bg_tb s i k (by omega)
      rw [show k + 1 - 1 - i = (k - 1 - i) + 1 by omega, Nat.pow_succ, Nat.mul_comm (256 ^ (k - 1 - i)) 256, ← Nat.div_div_eq_div_mul, show (bg s 0 k * 256 + byt s k) / 256 = bg s 0 k by omega]
      exact ih
/-- Two texts of one length whose bytes are the same. -/
theorem text_same {a b : ByteArray} (hs : a.size = b.size) (h : ∀ t, t < a.size → byt a t = byt b t) : a = b := by
  apply ByteArray.ext
  apply Array.ext hs
  intro i h1 h2
  have e := h i h1
  rw [← get_byt a i h1, ← get_byt b i h2] at e
  exact UInt8.toNat_inj.1 e
theorem t32_bn {s : ByteArray} (h : s.size = 32) : t32 (bn s) = s :=
  text_same (by rw [t32_size, h]) fun i hi => by
    rw [t32_size] at hi
    rw [t32_byt _ i hi]
    exact bg_tb s i 32 hi
end Go.Proofs.Nt
/-
  The document's own answer for layer 9: a text read as a number.
-/
namespace Go.Proofs.Nu
open Go.RowKit
open Go.Proofs.Im (wpList_box_to words_heap words_one run_index_row)
open Go.Proofs.Sha (wordCells wordCells_get wordCells_size rowIs_of wpList_alloc_to wpList_build_to)
open Go.Proofs.Nt
open Go.Proofs.Aes (byt byt_lt get_byt)
/-- The words while i bytes are read. -/
def gw (s : ByteArray) (i j : Nat) : Nat := bg s (4 * (7 - j)) (min 4 (i - 4 * (7 - j)))
theorem gw_zero (s : ByteArray) (j : Nat) : 0 = gw s 0 j := by unfold gw; rw [Nat.zero_sub, Nat.min_zero]; rfl
theorem gw_next (s : ByteArray) (i j : Nat) (hi : i < 32) (hj : j < 8) : (if j = 7 - i / 4 then gw s i (7 - i / 4) * 256 + byt s i else gw s i j) = gw s (i + 1) j := by
  by_cases h : j = 7 - i / 4
  · rw [if_pos h]
    subst h
    have e : 7 - (7 - i / 4) = i / 4 := by omega
    unfold gw
    rw [e, show min 4 (i + 1 - 4 * (i / 4)) = min 4 (i - 4 * (i / 4)) + 1 by omega]
    show _ = bg s (4 * (i / 4)) (min 4 (i - 4 * (i / 4))) * 256 + byt s (4 * (i / 4) + min 4 (i - 4 * (i / 4)))
    rw [show 4 * (i / 4) + min 4 (i - 4 * (i / 4)) = i by omega]
  · rw [if_neg h]
    unfold gw
    rw [show min 4 (i + 1 - 4 * (7 - j)) = min 4 (i - 4 * (7 - j)) by omega]
theorem gw_lt (s : ByteArray) (i j : Nat) : gw s i j < 4294967296 := by
  have h := bg_lt s (4 * (7 - j)) (min 4 (i - 4 * (7 - j)))
  exact Nat.lt_of_lt_of_le h (show 256 ^ _ ≤ 256 ^ 4 from Nat.pow_le_pow_right (by decide) (by omega))
theorem gw_cur (s : ByteArray) (i : Nat) (hi : i < 32) : gw s i (7 - i / 4) < 16777216 := by
  have h := bg_lt s (4 * (7 - (7 - i / 4))) (min 4 (i - 4 * (7 - (7 - i / 4))))
  exact Nat.lt_of_lt_of_le h (show 256 ^ _ ≤ 256 ^ 3 from Nat.pow_le_pow_right (by decide) (by omega))
theorem bg_add (s : ByteArray) (o a : Nat) : ∀ b, bg s o (a + b) = bg s o a * 256 ^ b + bg s (o + a) b
  | 0 => by show bg s o a = bg s o a * 1 + 0; omega
  | b + 1 => by
    show bg s o (a + b) * 256 + byt s (o + (a + b)) = bg s o a * 256 ^ (b + 1) + (bg s (o + a) b * 256 + byt s (o + a + b))
    rw [bg_add s o a b, Nat.pow_succ, Nat.add_mul, ← Nat.mul_assoc, Nat.add_assoc o a b]; omega
theorem gw_end (s : ByteArray) : nv (gw s 32) 8 = bn s := by
  have e : ∀ k, k ≤ 8 → nv (gw s 32) k = bg s (4 * (8 - k)) (4 * k) := by
    intro k
    induction k with
    | zero => intro _; rfl
    | succ k ih =>
      intro hk
      have h1 := ih (by omega)
      have h2 : gw s 32 k = bg s (4 * (7 - k)) 4 := by unfold gw; rw [show min 4 (32 - 4 * (7 - k)) = 4 by omega]
      have h3 := bg_add s (4 * (8 - (k + 1))) 4 (4 * k)
      rw [show 4 * (8 - (k + 1)) + 4 = 4 * (8 - k) by omega, show 4 * (8 - (k + 1)) = 4 * (7 - k) by omega] at h3
      show nv (gw s 32) k + gw s 32 k * 2 ^ (32 * k) = _
      rw [h1, h2, show 4 * (8 - (k + 1)) = 4 * (7 - k) by omega, show 4 * (k + 1) = 4 + 4 * k by omega, h3, show (2 : Nat) ^ (32 * k) = 256 ^ (4 * k) by rw [show (256 : Nat) = 2 ^ 8 by rfl, ← Nat.pow_mul]; congr 1; omega]
      omega
  exact e 8 (Nat.le_refl _)
theorem or_u32 (x y : Nat) (hx : x < 16777216) (hy : y < 256) : bits .or .u32 (IntKind.u32.wrap ((x : Int) * 256)) (IntKind.u32.wrap (y : Int)) = ((x * 256 + y : Nat) : Int) := by
  have e : IntKind.u32.wrap (y : Int) = (y : Int) := by show (y : Int) % 4294967296 = _; omega
  have e2 : IntKind.u32.wrap ((x : Int) * 256) = ((x * 256 : Nat) : Int) := by show (x : Int) * 256 % 4294967296 = _; omega
  rw [e, e2, u32_or_nat _ _ (by omega) (by omega), nat_join 8 (x * 256) y (by omega) (by omega)]
/-- A word's place, and a result's. -/
def Dup (w u : World) (d : Nat → Nat) : Prop := RN u (w.heap.size + 1) d ∧ RN u w.heap.size (fun _ => 0) ∧ Below w.heap.size w u
theorem dup_new (w : World) : Dup w ((w.alloc (.cells (nmA fun _ => 0) 50)).alloc (.cells (nmA fun _ => 0) 50)) (fun _ => 0) := by
  obtain ⟨h1, h2, h3⟩ := two_new w (fun _ => 0) (fun _ => 0)
  exact ⟨h2, h1, h3⟩
theorem Dup.set {w u : World} {d : Nat → Nat} (h : Dup w u d) (j v : Nat) : Dup w (u.setCell ⟨w.heap.size + 1, j, none⟩ (.int .u32 v)) (fun i => if i = j then v else d i) :=
  ⟨h.1.set j v, h.2.1.other (by simp) _, h.2.2.setCell (by simp) _⟩
theorem Dup.congr {w u : World} {d e : Nat → Nat} (h : Dup w u d) (he : ∀ i, i < 8 → d i = e i) : Dup w u e := ⟨h.1.congr he, h.2⟩
theorem Dup.drewN {w u : World} {d : Nat → Nat} (m : Dup w u d) (q : Nat) : Dup w (u.drewN q) d := ⟨m.1, m.2.1, Lw.below_drewN m.2.2 q⟩
set_option maxHeartbeats 2000000 in
set_option maxRecDepth 20000 in
theorem get_any (s : ByteArray) (w : World) (hs : s.size = 32) :
    Calls Try.prog 19 #[.string s] w fun e w' => e = .returned (nmV (bn s)) ∧ Below w.heap.size w w' := by
  have hE : nmV (bn s) = .agg (nmA (gw s 32)) := by
    unfold nmV
    rw [← gw_end, ← nmA_lb (gw_lt s 32)]
  rw [hE]
  have HSz := Lib.hid hs
  clear hE hs
  go_enter Try.func19, Try.ntmps19
  go_upto_region 0 with (fail)
  apply wp_region_lit
  refine wpList_alloc_to rfl 50 rfl (nmA fun _ => 0) w.heap.size rfl alloc8 ?_
  go_upto_region 1 with (fail)
  apply wp_region_lit
  refine wpList_alloc_to rfl 50 rfl (nmA fun _ => 0) (w.heap.size + 1) (by simp) alloc8 ?_
  simp only [Act.put, List.setIfInBounds_toArray, List.set_cons_zero, List.set_cons_succ]
  have HM := Lib.hid (dup_new w)
  generalize (w.alloc (.cells (nmA fun _ => 0) 50)).alloc (.cells (nmA fun _ => 0) 50) = w1 at HM ⊢
  go_wp2_with (fail)
  go_loopw [4] (fun v wx => ∃ i : Nat, Hid (i ≤ 32) ∧ v = .int .i64 i ∧ Hid (Dup w wx (gw s i))) (fun v _ => 32 - (intOf v).toNat)
  case atStart => exact ⟨0, Nat.zero_le _, rfl, HM.out.congr fun j _ => gw_zero s j⟩
  case round =>
    clear HM
    obtain ⟨i, hi, rfl, HM⟩ := hrel
    by_cases hlt : i < 32
    · have il : ((i : Int) < 32) = True := eq_true (by omega)
      have il' : (i : Int) < 32 := by omega
      have HI := Lib.hid hlt
      obtain ⟨j, hj⟩ : ∃ j, 7 - i / 4 = j := ⟨_, rfl⟩
      have hj8 : j < 8 := by omega
      obtain ⟨q, hq⟩ : ∃ q, i / 4 = q := ⟨_, rfl⟩
      have t1 : IntKind.i64.wrap ((i : Int) / 4) = (q : Int) := by rw [IntWalk.i64_in _ (by omega)]; omega
      have t2 : IntKind.i64.wrap (7 - (q : Int)) = (j : Int) := by rw [IntWalk.i64_in _ (by omega)]; omega
      have jb : (j : Int) < 8 := by omega
      have xc := HM.out.1.at_ j (gw s i j) hj8 rfl
      have xf := World.rowIs.frozen HM.out.1 j
      have l1 : gw s i j < 16777216 := by rw [← hj]; exact gw_cur s i hlt
      have l2 := byt_lt s i
      have hs' : i < s.size := by have := HSz.out; omega
      have v0 : ∀ h : i < s.size, (s[i]'h).toNat = byt s i := fun h => get_byt s _ h
      have HN : Hid (∀ k, k < 8 → (if k = j then gw s i j * 256 + byt s i else gw s i k) = gw s (i + 1) k) := fun k hk => by have := gw_next s i k HI.out hk; rw [hj] at this; exact this
      generalize gw s i j = x at xc l1 HN
      generalize byt s i = y at l2 v0 HN
      have o1 := or_u32 x y l1 l2
      clear hlt hj hj8 hq
      go_wp2_with (fail)
      go_still_tail 15, (by kernel_rfl)
      change wpList _ _ _ _ _ wr.drew
      have HM := Lib.hid (HM.out.drewN 1)
      have yc : wr.drew.cell? ⟨w.heap.size + 1, j, none⟩ = some (.int .u32 (x : Nat)) := xc
      have yf : wr.drew.frozen? ⟨w.heap.size + 1, j, none⟩ = false := xf
      change Hid (Dup w wr.drew (gw s i)) at HM
      clear xc xf v0
      generalize wr.drew = w2 at HM yc yf ⊢
      go_wp2_with (fail)
      rw [show (x : Int) * 256 + (y : Int) = ((x * 256 + y : Nat) : Int) by omega]
      exact ⟨⟨i + 1, HI.out, by go_num, (HM.out.set j (x * 256 + y)).congr HN.out⟩, Lw.meas 32 i HI.out⟩
    · have il : ((i : Int) < 32) = False := eq_false (by omega)
      obtain rfl : i = 32 := by have := hi.out; omega
      rw [show ((32 : Nat) : Int) = 32 from rfl]
      clear hlt il hi
      have HN := Lib.hid HM.out.1.heap
      have HO := Lib.hid HM.out.2.1.heap
      go_upto_region 6 with (fail)
      generalize hA : nmA (gw s 32) = A at HN
      apply wp_region_lit
      refine wpList_load_row rfl 50 _ rfl (w.heap.size + 1) (by kernel_rfl) 50 A (0, 0) _ HN.out Try.underlying50 rfl (by rw [← hA]; kernel_rfl) ?_
      refine wpList_store_row rfl 50 _ _ rfl w.heap.size A (by kernel_rfl) (by kernel_rfl) 50 _ HO.out (by rw [← hA]; kernel_rfl) (by rw [← hA, nmA_size, nmA_size]) (by rw [← hA]; exact nmA_one _) ?_
      simp only [Act.put, List.setIfInBounds_toArray, List.set_cons_zero, List.set_cons_succ]
      go_wp2_with (fail)
      refine bodyPost_ret (v := .agg A) ?_ rfl ?_
      · exact results_cell_row (fn := Try.f19) Try.results19 _ _ w.heap.size 50 _ (0, 0) _ rfl (setRow_heap _ _ _ _ _ _ HO.out) Try.underlying50 rfl (by rw [← hA]; kernel_rfl)
      · exact ⟨by rw [hA], below_setRow HM.out.2.2 (Nat.le_refl _) _⟩
end Go.Proofs.Nu
