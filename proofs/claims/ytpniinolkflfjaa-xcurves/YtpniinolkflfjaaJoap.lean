/-
  The developers' numbers: sixteen words in memory; a number times a word added to them.
-/
import Derived.Test.YtpniinolkflfjaaJoao
namespace Go.Proofs.Nd
open Go.RowKit
open Go.Proofs.Im (wpList_box_to words_heap words_one run_index_row)
open Go.Proofs.Sha (wordCells wordCells_get wordCells_size rowIs_of wpList_alloc_to wpList_build_to)
open Go.Proofs.Nt
open Go.Proofs.Nu (nmL nmA nmV lt8 nmA_get nmA_congr nmA_one nmA_size results_row_slot B8 b8 nv8 nmA_lb nv_lt8)
/-- What is carried, and the words, of f times n and t. -/
def ac (f : Nat) (n t : Nat → Nat) : Nat → Nat
  | 0 => 0
  | i + 1 => (f * n i + t i + ac f n t i) / 4294967296
def ad (f : Nat) (n t : Nat → Nat) (i : Nat) : Nat := (f * n i + t i + ac f n t i) % 4294967296
theorem prod_le {f x : Nat} (hf : f < 4294967296) (hx : x < 4294967296) : f * x ≤ 18446744065119617025 :=
  Nat.le_trans (Nat.mul_le_mul (show f ≤ 4294967295 by omega) (show x ≤ 4294967295 by omega)) (by decide)
theorem ac_lt {f : Nat} {n t : Nat → Nat} (hf : f < 4294967296) (hn : ∀ i, n i < 4294967296) (ht : ∀ i, t i < 4294967296) : ∀ i, ac f n t i < 4294967296
  | 0 => (by decide : 0 < 4294967296)
  | i + 1 => by
    have h1 := prod_le hf (hn i)
    have h2 := ht i
    have h3 := ac_lt hf hn ht i
    show (f * n i + t i + ac f n t i) / 4294967296 < 4294967296
    omega
theorem ad_lt (f : Nat) (n t : Nat → Nat) (i : Nat) : ad f n t i < 4294967296 := Nat.mod_lt _ (by decide)
theorem ad_val (f : Nat) (n t : Nat → Nat) : ∀ k, nv (ad f n t) k + ac f n t k * 2 ^ (32 * k) = f * nv n k + nv t k
  | 0 => by show 0 + 0 * _ = f * 0 + 0; omega
  | k + 1 => by
    have ih := ad_val f n t k
    show nv (ad f n t) k + (f * n k + t k + ac f n t k) % 4294967296 * 2 ^ (32 * k) + (f * n k + t k + ac f n t k) / 4294967296 * 2 ^ (32 * (k + 1)) = f * (nv n k + n k * 2 ^ (32 * k)) + (nv t k + t k * 2 ^ (32 * k))
    rw [Nat.add_assoc, word_val, Nat.add_mul, Nat.add_mul, Nat.mul_add, ← Nat.mul_assoc]
    omega
theorem nv_split (d : Nat → Nat) (a : Nat) : ∀ b, nv d (a + b) = nv d a + nv (fun i => d (a + i)) b * 2 ^ (32 * a)
  | 0 => by show nv d a = nv d a + 0 * _; omega
  | b + 1 => by
    show nv d (a + b) + d (a + b) * 2 ^ (32 * (a + b)) = nv d a + (nv (fun i => d (a + i)) b + d (a + b) * 2 ^ (32 * b)) * 2 ^ (32 * a)
    rw [nv_split d a b, Nat.add_mul, show 32 * (a + b) = 32 * b + 32 * a by omega, Nat.pow_add, Nat.mul_assoc]
    omega
/-- The words behind: those from `at` on are new ones, up to the j-th. -/
def wj (o j : Nat) (e t : Nat → Nat) (i : Nat) : Nat := if o ≤ i ∧ i < o + j then e (i - o) else t i
theorem wj_zero (o : Nat) (e t : Nat → Nat) (i : Nat) : t i = wj o 0 e t i := by unfold wj; rw [if_neg (by omega)]
theorem wj_at (o j : Nat) (e t : Nat → Nat) : wj o j e t (o + j) = t (o + j) := by unfold wj; rw [if_neg (by omega)]
theorem wj_next (o j : Nat) (e t : Nat → Nat) (i : Nat) : (if i = o + j then e j else wj o j e t i) = wj o (j + 1) e t i := by
  unfold wj
  by_cases h : i = o + j
  · rw [if_pos h, if_pos (by omega), h, Nat.add_sub_cancel_left]
  · rw [if_neg h]
    by_cases h2 : o ≤ i ∧ i < o + j
    · rw [if_pos h2, if_pos (by omega)]
    · rw [if_neg h2, if_neg (by omega)]
theorem wj_lt {o j : Nat} {e t : Nat → Nat} (he : ∀ i, e i < 4294967296) (ht : ∀ i, t i < 4294967296) (i : Nat) : wj o j e t i < 4294967296 := by unfold wj; split; exact he _; exact ht _
/-- The words that f times n, added at o, leaves. -/
def wa (f : Nat) (n t : Nat → Nat) (o : Nat) : Nat → Nat := wj o 8 (ad f n fun i => t (o + i)) t
def wc (f : Nat) (n t : Nat → Nat) (o : Nat) : Nat := ac f n (fun i => t (o + i)) 8
theorem wa_lt {f : Nat} {n t : Nat → Nat} {o : Nat} (ht : ∀ i, t i < 4294967296) : ∀ i, wa f n t o i < 4294967296 := wj_lt (ad_lt _ _ _) ht
theorem wa_off {f : Nat} {n t : Nat → Nat} {o : Nat} (i : Nat) (h : o + 8 ≤ i) : wa f n t o i = t i := if_neg (by omega)
theorem wa_val (f : Nat) (n t : Nat → Nat) (o m : Nat) (h : o + 8 ≤ m) : nv (wa f n t o) m + wc f n t o * 2 ^ (32 * (o + 8)) = nv t m + f * nv n 8 * 2 ^ (32 * o) := by
  obtain ⟨k, rfl⟩ : ∃ k, m = o + 8 + k := ⟨m - (o + 8), by omega⟩
  have hv := ad_val f n (fun i => t (o + i)) 8
  have e1 : nv (wa f n t o) o = nv t o := nv_congr o fun i hi => if_neg (by omega)
  have e2 : nv (fun i => wa f n t o (o + i)) 8 = nv (ad f n fun i => t (o + i)) 8 := nv_congr 8 fun i hi => by
    show wj _ _ _ _ _ = _
    unfold wj; rw [if_pos (by omega), Nat.add_sub_cancel_left]
  have e3 : nv (fun i => wa f n t o (o + 8 + i)) k = nv (fun i => t (o + 8 + i)) k := nv_congr k fun i hi => if_neg (by omega)
  rw [nv_split _ (o + 8) k, nv_split _ o 8, e1, e2, e3, nv_split t (o + 8) k, nv_split t o 8, show 32 * (o + 8) = 32 * 8 + 32 * o by omega, Nat.pow_add]
  unfold wc
  have hx : (nv (ad f n fun i => t (o + i)) 8 + ac f n (fun i => t (o + i)) 8 * 2 ^ (32 * 8)) * 2 ^ (32 * o) = (f * nv n 8 + nv (fun i => t (o + i)) 8) * 2 ^ (32 * o) := by rw [hv]
  rw [Nat.add_mul, Nat.add_mul, Nat.mul_assoc (ac _ _ _ _)] at hx
  generalize nv (fun i => t (o + 8 + i)) k * (2 ^ (32 * 8) * 2 ^ (32 * o)) = A
  generalize ac f n (fun i => t (o + i)) 8 * (2 ^ (32 * 8) * 2 ^ (32 * o)) = B at hx ⊢
  generalize f * nv n 8 * 2 ^ (32 * o) = C at hx ⊢
  omega
/-- Sixteen words in memory. -/
def RW (w : World) (g : Nat) (d : Nat → Nat) : Prop := w.rowIs g 83 16 (fun i => .int .u32 (d i : Nat))
theorem RW.set {w : World} {g : Nat} {d : Nat → Nat} (h : RW w g d) (j v : Nat) : RW (w.setCell ⟨g, j, none⟩ (.int .u32 v)) g (fun i => if i = j then v else d i) :=
  World.rowIs.congr (World.rowIs.set h j (.int .u32 v)) fun i _ => by simp only []; split <;> rfl
theorem RW.congr {w : World} {g : Nat} {d e : Nat → Nat} (h : RW w g d) (he : ∀ i, i < 16 → d i = e i) : RW w g e := World.rowIs.congr h fun i hi => by rw [he i hi]
theorem RW.at_ {w : World} {g : Nat} {d : Nat → Nat} (h : RW w g d) (i v : Nat) (hi : i < 16) (e : d i = v) : w.cell? ⟨g, i, none⟩ = some (.int .u32 (v : Nat)) := by rw [World.rowIs.cell h hi, e]
theorem RW.on {u v : World} {g : Nat} {d : Nat → Nat} (r : RW u g d) (hb : Below u.heap.size u v) : RW v g d := World.rowIs.of_block r (hb.block g (World.rowIs.lt r))
theorem RW.lt {w : World} {g : Nat} {d : Nat → Nat} (h : RW w g d) : g < w.heap.size := World.rowIs.lt h
theorem slice16 (w : World) (g L : Nat) (l h : Int) (hl : l = (L : Nat)) (hh : h = ((L + 8 : Nat) : Int)) (h2 : L ≤ 8) :
    (Instr.sliceAt 83 (.pointer (some ⟨g, 0, none⟩)) (some (.int .i64 l)) (some (.int .i64 h)) none).run Try.prog w = .ok (.slice (some ⟨g, L, none⟩) 8 (16 - L)) w := by
  subst hl hh
  have hz : ∀ w, (sizeOf 36).run Try.prog w = .ok 1 w := by intro w; kernel_rfl
  have hu : Try.prog.underlying 83 = some (.array 16 36) := Try.underlying83
  have e1 : ((L + 8 : Nat) : Int).toNat = L + 8 := Int.toNat_natCast _
  have e2 : (L : Int).toNat = L := Int.toNat_natCast _
  have b1 : ∀ w, (Instr.sliceBound (.int .i64 ((L + 8 : Nat) : Int)) 16 .sliceAlen).run Try.prog w = .ok (L + 8) w := fun w => by
    have := run_sliceBound (P := Try.prog) (w := w) .i64 ((L + 8 : Nat) : Int) 16 .sliceAlen (by omega) (by omega)
    rw [e1] at this; exact this
  have b2 : ∀ w, (Instr.sliceBound (.int .i64 (L : Int)) (L + 8) .sliceB).run Try.prog w = .ok L w := fun w => by
    have := run_sliceBound (P := Try.prog) (w := w) .i64 (L : Int) (L + 8) .sliceB (by omega) (by omega)
    rw [e2] at this; exact this
  have e3 : L + 8 - L = 8 := by omega
  have h4 : ¬ 16 = L := by omega
  simp only [Instr.sliceAt, Instr.sureAddr, Sem.run_bind, Sem.run_pure, Result.andThen_ok, run_underlying hu, Instr.sliceBounds, b1, b2, hz, Option.isSome, Bool.false_eq_true, if_false, Nat.mul_one, Addr.add_mid, e3, h4, Nat.zero_add]
set_option maxHeartbeats 2000000 in
set_option maxRecDepth 20000 in
theorem wadd_any (g o f x : Nat) (t : Nat → Nat) (w : World) (H : RW w g t) (ho : o ≤ 8) (hf : f < 4294967296) (ht : ∀ i, t i < 4294967296) :
    Calls Try.prog 55 #[.pointer (some ⟨g, 0, none⟩), .int .i64 (o : Nat), .int .u32 (f : Nat), nmV x] w fun e u => e = .returned (.int .u32 (wc f (lb x) t o : Nat)) ∧ But g w u ∧ RW u g (wa f (lb x) t o) := by
  have HAc := Lib.hid (ac_lt (n := lb x) (t := fun i => t (o + i)) hf (lb_lt x) fun i => ht (o + i))
  have HT := Lib.hid ht
  have HO := Lib.hid ho
  have hgl := H.lt
  go_enter Try.func55, Try.ntmps55
  go_upto_region 0 with (fail)
  apply wp_region_lit
  refine wpList_box_to rfl 38 _ rfl (nmA (lb x)) (by kernel_rfl) w.heap.size rfl ?_
  refine Lw.wpList_val rfl (.int .u32 0) (w.alloc (.cells (nmA (lb x)) 38)) (by go_simp) ?_
  simp only [Act.put, List.setIfInBounds_toArray, List.set_cons_zero, List.set_cons_succ]
  have HX := Lib.hid (RP.new w (lb x))
  have HW : Hid (RW (w.alloc (.cells (nmA (lb x)) 38)) g (wj o 0 (ad f (lb x) fun i => t (o + i)) t)) := (show RW (w.alloc (.cells (nmA (lb x)) 38)) g t from World.rowIs.alloc H _).congr fun i _ => wj_zero o _ t i
  have HB : Hid (But g w (w.alloc (.cells (nmA (lb x)) 38))) := But.of_below ((Below.refl _ _).alloc (Nat.le_refl _) _)
  have HG : Hid (g ≠ w.heap.size) := by show _ ≠ _; omega
  clear H ho ht hgl
  generalize w.alloc (.cells (nmA (lb x)) 38) = w1 at HX HW HB ⊢
  generalize nmV x = Av
  have ho8 : (o : Int) ≤ 8 := by have := HO.out; omega
  have o1 : IntKind.i64.wrap ((o : Int) + 8) = (o : Int) + 8 := IntWalk.i64_in _ (by omega)
  have hsl : ∀ W, (Instr.sliceAt 83 (.pointer (some ⟨g, 0, none⟩)) (some (.int .i64 (o : Nat))) (some (.int .i64 ((o : Int) + 8))) none).run Try.prog W = .ok (.slice (some ⟨g, o, none⟩) 8 (16 - o)) W := fun W => slice16 W g o _ _ rfl (by omega) HO.out
  generalize 16 - o = c at hsl
  go_upto_region 3 with (fail)
  clear hsl o1 ho8
  have HN := Lib.hid HX.out.heap
  apply wp_region_lit
  refine wpList_load_row rfl 38 _ rfl w.heap.size (by kernel_rfl) 38 (nmA (lb x)) (0, 0) _ HN.out Try.underlying38 rfl (by kernel_rfl) ?_
  refine Lw.wpList_val rfl (.int .i64 0) w1 (by go_simp) ?_
  simp only [Act.put, List.setIfInBounds_toArray, List.set_cons_zero, List.set_cons_succ]
  have hix : ∀ j : Nat, j < 8 → ∀ W : World, (Instr.index 38 (.agg (nmA (lb x))) (.int .i64 (j : Int))).run Try.prog W = .ok (.int .u32 (lb x j : Nat)) W := fun j hj W => run_index_row W 38 36 8 _ .i64 j _ Try.underlying38 (by kernel_rfl) _ Try.underlying36 rfl hj (nmA_get _ j hj)
  have HIX := Lib.hid hix
  clear hix HN
  generalize nmA (lb x) = A at HIX ⊢
  go_wp2_with (fail)
  go_loopw [10, 21] (fun cv v wx => ∃ j : Nat, Hid (j ≤ 8) ∧ v = .int .i64 j ∧ cv = .int .u64 (ac f (lb x) (fun i => t (o + i)) j : Nat) ∧ Hid (RW wx g (wj o j (ad f (lb x) fun i => t (o + i)) t)) ∧ Hid (But g w wx)) (fun _ v _ => 8 - (intOf v).toNat)
  case atStart => exact ⟨0, Nat.zero_le _, rfl, rfl, HW, HB⟩
  case round =>
    clear HW HB HX
    obtain ⟨j, hj, rfl, rfl, HW, HB⟩ := hrel
    by_cases hlt : j < 8
    · have jl : ((j : Int) < 8) = True := eq_true (by omega)
      have jl' : (j : Int) < 8 := by omega
      have hix := HIX.out j hlt
      have HJ := Lib.hid hlt
      have x1 := HW.out.at_ (o + j) (t (o + j)) (by have := HO.out; omega) (wj_at _ _ _ _)
      have xf := World.rowIs.frozen HW.out (o + j)
      have l1 := HT.out (o + j)
      have l2 := lb_lt x j
      have l3 := HAc.out j
      have HP := Lib.hid (prod_le hf l2)
      have HC : Hid ((f * lb x j + t (o + j) + ac f (lb x) (fun i => t (o + i)) j) / 4294967296 = ac f (lb x) (fun i => t (o + i)) (j + 1)) := rfl
      have HQ : Hid ((f * lb x j + t (o + j) + ac f (lb x) (fun i => t (o + i)) j) % 4294967296 = ad f (lb x) (fun i => t (o + i)) j) := rfl
      generalize ac f (lb x) (fun i => t (o + i)) j = k at l3 HC HQ ⊢
      generalize lb x j = y at l2 HC HQ HP hix
      generalize t (o + j) = z at x1 l1 HC HQ
      obtain ⟨pr, hpr⟩ : ∃ pr : Nat, f * y = pr := ⟨_, rfl⟩
      rw [hpr] at HC HQ HP
      have m1 : (f : Int) * (y : Int) = (pr : Int) := by rw [← hpr]; exact (Int.natCast_mul f y).symm
      have pl : (pr : Int) ≤ 18446744065119617025 := by have := HP.out; omega
      clear hlt hpr HP
      go_wp2_with (fail)
      rw [show (pr : Int) + (z : Int) + (k : Int) = ((pr + z + k : Nat) : Int) by omega, show ((pr + z + k : Nat) : Int) % 4294967296 = (((pr + z + k) % 4294967296 : Nat) : Int) by omega]
      refine ⟨⟨j + 1, HJ.out, by go_num, ?_, ?_, HB.out.setCell _ _⟩, Lw.meas 8 j HJ.out⟩
      · rw [← HC.out]; rfl
      · exact (HW.out.set (o + j) ((pr + z + k) % 4294967296)).congr fun i _ => by rw [HQ.out]; exact wj_next _ _ _ _ _
    · have jl : ((j : Int) < 8) = False := eq_false (by omega)
      obtain rfl : j = 8 := by have := hj.out; omega
      rw [show ((8 : Nat) : Int) = 8 from rfl]
      have l3 := HAc.out 8
      have HR : Hid (ac f (lb x) (fun i => t (o + i)) 8 = wc f (lb x) t o) := rfl
      generalize ac f (lb x) (fun i => t (o + i)) 8 = k at l3 HR ⊢
      clear hlt jl hj
      go_wp2_with (fail)
      go_ret
      exact ⟨by rw [HR.out]; rfl, HB.out, HW.out⟩
end Go.Proofs.Nd
