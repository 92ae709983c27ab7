/-
  The developers' gcm: sums and powers of elements, a block's words.
-/
import Derived.Test.YtljhenjbjondkaaJoao
import Derived.Test.YtljhenjbjondkaaJoab
import Derived.Test.YtljhenjbjondkaaJoak
import Derived.Test.YtljhenjbjondkaaJoaf
import Derived.Test.YtljhenjbjondkaaJoac
import Derived.Deep.DeepCutAuto
import Derived.Laws.Tables
import Derived.Deep.WholeRow
import Derived.Laws.CopyOwn
import Derived.StillTailTactics
import Derived.WalkSmall
namespace Go.Proofs.Gd
open Go.RowKit Go.Proofs.Gcm
open Go.Proofs.Im (wpList_box_to wp_region_quiet_tail)
open Go.Proofs.Sha (rowIs_of wpList_alloc_to)
/-- An element as a value. -/
def elA (p : Nat × Nat) : Array Value := #[.int .u64 (p.1 : Nat), .int .u64 (p.2 : Nat)]
set_option maxHeartbeats 1000000 in
theorem plus_any (p q : Nat × Nat) (w : World) (hp : Ok p) (hq : Ok q) :
    Calls Try.prog 37 #[.agg (elA p), .agg (elA q)] w fun e w' => e = .returned (.agg (elA (pl p q))) ∧ Below w.heap.size w w' := by
  have o1 := u64_xor_nat p.1 q.1 hp.1 hq.1
  have o2 := u64_xor_nat p.2 q.2 hp.2 hq.2
  unfold elA pl
  generalize p.1 = a at *
  generalize p.2 = b at *
  generalize q.1 = c at *
  generalize q.2 = d at *
  go_enter Try.func37, Try.ntmps37
  go_wp2_with (fail)
  exact bodyPost_ret (v := .agg #[.int .u64 ((a ^^^ c : Nat) : Int), .int .u64 ((b ^^^ d : Nat) : Int)]) (by simp [results, Try.results37, go_sem]) rfl ⟨rfl, (((Below.refl _ _).alloc (Nat.le_refl _) _).alloc (by simp) _).alloc (by simp; omega) _⟩
/-- What a power's words are, as the code says them. -/
theorem high_of (n a o : Nat) (ho : o < 18446744073709551616) (ha : a < 18446744073709551616) (W : Int) (hW : W = (o : Int)) (A : Int) (hA : A = ((a / 2 ^ n : Nat) : Int)) :
    bits .xor .u64 (bits .xor .u64 (bits .xor .u64 (bits .xor .u64 A W) (W / 2)) (W / 4)) (W / 128) = ((a / 2 ^ n ^^^ ovr o : Nat) : Int) := by
  subst hW hA
  have l0 : a / 2 ^ n < 18446744073709551616 := Nat.lt_of_le_of_lt (Nat.div_le_self _ _) ha
  have e1 : (o : Int) / 2 = ((o / 2 : Nat) : Int) := by omega
  have e2 : (o : Int) / 4 = ((o / 4 : Nat) : Int) := by omega
  have e3 : (o : Int) / 128 = ((o / 128 : Nat) : Int) := by omega
  have l1 := xor64_lt l0 ho
  have l2 := xor64_lt l1 (show o / 2 < 18446744073709551616 by omega)
  have l3 := xor64_lt l2 (show o / 4 < 18446744073709551616 by omega)
  rw [e1, e2, e3, u64_xor_nat _ _ l0 ho, u64_xor_nat _ _ l1 (by omega), u64_xor_nat _ _ l2 (by omega), u64_xor_nat _ _ l3 (by omega)]
  unfold ovr
  simp only [Nat.xor_assoc]
theorem low_1 (a b : Nat) (hb : b < 18446744073709551616) : bits .or .u64 ((b : Int) / 2) (IntKind.u64.wrap ((a : Int) * 9223372036854775808)) = ((b / 2 ^^^ a % 2 * 9223372036854775808 : Nat) : Int) := by
  have h := or_shift a b hb
  have j := xor_join 63 (a % 2) (b / 2) (by omega)
  rw [show (2 : Nat) ^ 63 = 9223372036854775808 from rfl] at j
  rw [j]
  exact h
theorem low_4 (a b : Nat) (hb : b < 18446744073709551616) : bits .or .u64 ((b : Int) / 16) (IntKind.u64.wrap ((a : Int) * 1152921504606846976)) = ((b / 16 ^^^ a % 16 * 1152921504606846976 : Nat) : Int) := by
  have j := xor_join 60 (a % 16) (b / 16) (by omega)
  rw [show (2 : Nat) ^ 60 = 1152921504606846976 from rfl] at j
  have e1 : (b : Int) / 16 = ((b / 16 : Nat) : Int) := by omega
  have e2 : IntKind.u64.wrap ((a : Int) * 1152921504606846976) = ((a % 16 * 1152921504606846976 : Nat) : Int) := by show (a : Int) * 1152921504606846976 % 18446744073709551616 = _; omega
  rw [j, e1, e2, u64_or_nat _ _ (by omega) (by omega), Nat.or_comm, nat_join 60 (a % 16 * 1152921504606846976) (b / 16) (by omega) (by omega), Nat.add_comm]
set_option maxHeartbeats 1000000 in
theorem raised_1 (p : Nat × Nat) (w : World) (hp : Ok p) :
    Calls Try.prog 50 #[.agg (elA p), .int .u64 1] w fun e w' => e = .returned (.agg (elA (xs p))) ∧ Below w.heap.size w w' := by
  obtain ⟨a, b⟩ := p
  have hl := low_1 a b hp.2
  have hh := high_of 1 a (b % 2 * 9223372036854775808) (by omega) hp.1 (IntKind.u64.wrap ((b : Int) * 9223372036854775808)) (by show (b : Int) * 9223372036854775808 % 18446744073709551616 = _; omega) ((a : Int) / 2) (by omega)
  rw [show elA (a, b) = #[.int .u64 (a : Nat), .int .u64 (b : Nat)] from rfl, xs_one]
  show Calls _ _ _ _ fun e w' => e = .returned (.agg #[.int .u64 ((a / 2 ^ 1 ^^^ ovr (b % 2 * 9223372036854775808) : Nat) : Int), .int .u64 ((b / 2 ^^^ a % 2 * 9223372036854775808 : Nat) : Int)]) ∧ Below w.heap.size w w'
  generalize a / 2 ^ 1 ^^^ ovr (b % 2 * 9223372036854775808) = x at hh ⊢
  generalize b / 2 ^^^ a % 2 * 9223372036854775808 = y at hl ⊢
  clear hp
  go_enter Try.func50, Try.ntmps50
  go_wp2_with (fail)
  exact bodyPost_ret (v := .agg #[.int .u64 (x : Int), .int .u64 (y : Int)]) (by simp [results, Try.results50, go_sem]) rfl ⟨rfl, ((Below.refl _ _).alloc (Nat.le_refl _) _).alloc (by simp) _⟩
set_option maxHeartbeats 1000000 in
theorem raised_4 (p : Nat × Nat) (w : World) (hp : Ok p) :
    Calls Try.prog 50 #[.agg (elA p), .int .u64 4] w fun e w' => e = .returned (.agg (elA (up p 4))) ∧ Below w.heap.size w w' := by
  obtain ⟨a, b⟩ := p
  have hl := low_4 a b hp.2
  have hh := high_of 4 a (b % 16 * 1152921504606846976) (by omega) hp.1 (IntKind.u64.wrap ((b : Int) * 1152921504606846976)) (by show (b : Int) * 1152921504606846976 % 18446744073709551616 = _; omega) ((a : Int) / 16) (by omega)
  rw [show elA (a, b) = #[.int .u64 (a : Nat), .int .u64 (b : Nat)] from rfl, up_four]
  show Calls _ _ _ _ fun e w' => e = .returned (.agg #[.int .u64 ((a / 2 ^ 4 ^^^ ovr (b % 16 * 1152921504606846976) : Nat) : Int), .int .u64 ((b / 16 ^^^ a % 16 * 1152921504606846976 : Nat) : Int)]) ∧ Below w.heap.size w w'
  generalize a / 2 ^ 4 ^^^ ovr (b % 16 * 1152921504606846976) = x at hh ⊢
  generalize b / 16 ^^^ a % 16 * 1152921504606846976 = y at hl ⊢
  clear hp
  go_enter Try.func50, Try.ntmps50
  go_wp2_with (fail)
  exact bodyPost_ret (v := .agg #[.int .u64 (x : Int), .int .u64 (y : Int)]) (by simp [results, Try.results50, go_sem]) rfl ⟨rfl, ((Below.refl _ _).alloc (Nat.le_refl _) _).alloc (by simp) _⟩
set_option maxHeartbeats 1000000 in
theorem word_any (s : ByteArray) (w : World) (hs : s.size = 8) :
    Calls Try.prog 48 #[.string s] w fun e w' => e = .returned (.int .u64 (nv s 0 8 : Nat)) ∧ w' = w := by
  go_enter Try.func48, Try.ntmps48
  go_wp2_with (fail)
  go_loop [3, 4, 5] (fun x _ i => ∃ (n : Nat), Hid (n ≤ 8) ∧ i = .int .i64 n ∧ x = .int .u64 (nv s 0 n : Nat)) (fun _ _ i => 8 - (intOf i).toNat)
  case atStart => exact ⟨0, Nat.zero_le _, rfl, rfl⟩
  case round =>
    obtain ⟨n, hn, rfl, rfl⟩ := hrel
    by_cases hlt : n < 8
    · have nl : ((n : Int) < 8) = True := eq_true (by omega)
      have HN := Lib.hid hlt
      have x1 := nv8 s 0 n hlt
      go_wp2_with (fail)
      refine ⟨⟨n + 1, HN.out, by go_num, int64 ?_⟩, by simp [intOf]; omega⟩
      rw [Aes.get_byt, or_byte _ _ x1 (Aes.byt_lt s n)]
      show ((nv s 0 n * 256 + Aes.byt s n : Nat) : Int) = ((nv s 0 n * 256 + Aes.byt s (0 + n) : Nat) : Int)
      rw [Nat.zero_add]
    · have nl : ((n : Int) < 8) = False := eq_false (by omega)
      obtain rfl : n = 8 := by have := hn.out; omega
      clear hlt
      go_wp2_with (fail)
      go_ret
      exact ⟨rfl, rfl⟩
theorem word_lo (s : ByteArray) (w : World) (hs : s.size = 16) : Calls Try.prog 48 #[.string (s.extract 0 8)] w fun e w' => e = .returned (.int .u64 (nv s 0 8 : Nat)) ∧ w' = w := by
  have h := word_any (s.extract 0 8) w (by rw [ByteArray.size_extract]; omega)
  rwa [show nv (s.extract 0 8) 0 8 = nv s 0 8 from nv_extract s 0 8 0 8 (by decide)] at h
theorem word_hi (s : ByteArray) (w : World) (hs : s.size = 16) : Calls Try.prog 48 #[.string (s.extract 8 16)] w fun e w' => e = .returned (.int .u64 (nv s 8 8 : Nat)) ∧ w' = w := by
  have h := word_any (s.extract 8 16) w (by rw [ByteArray.size_extract]; omega)
  rwa [show nv (s.extract 8 16) 0 8 = nv s 8 8 from nv_extract s 8 8 0 8 (by decide)] at h
theorem elA_one (p : Nat × Nat) : (elA p).all (·.oneCell') = true := by simp [elA, Value.oneCell']
/-- An element in memory. -/
def ElAt (w : World) (g : Nat) (p : Nat × Nat) : Prop := w.heap[g]? = some (.cells (elA p) 46 (0, 0))
theorem ElAt.new (w : World) (p : Nat × Nat) : ElAt (w.alloc (.cells (elA p) 46)) w.heap.size p := heap_alloc_last w _
theorem ElAt.drewN {w : World} {g : Nat} {p : Nat × Nat} (h : ElAt w g p) (q : Nat) : ElAt (w.drewN q) g p := h
theorem allocEl (w : World) : (Instr.alloc 46 true (.tuple #[])).run Try.prog w = .ok (.pointer (some ⟨w.heap.size, 0, none⟩)) (w.alloc (.cells (elA (0, 0)) 46)) := by kernel_rfl
set_option maxHeartbeats 1000000 in
theorem read_any (s : ByteArray) (w : World) (hs : s.size = 16) :
    Calls Try.prog 32 #[.string s] w fun e w' => e = .returned (.agg (elA (nv s 0 8, nv s 8 8))) ∧ Below w.heap.size w w' := by
  have HS := Lib.hid hs
  have HW1 := Lib.hid fun w => word_lo s w hs
  have HW2 := Lib.hid fun w => word_hi s w hs
  generalize nv s 0 8 = a at HW1 ⊢
  generalize nv s 8 8 = b at HW2 ⊢
  go_enter Try.func32, Try.ntmps32
  go_upto_region 0 with (fail)
  apply wp_region_lit
  refine wpList_alloc_to rfl 46 rfl (elA (0, 0)) w.heap.size rfl allocEl ?_
  have HE := Lib.hid (ElAt.new w (0, 0))
  have HB : Hid (Below w.heap.size w (w.alloc (.cells (elA (0, 0)) 46))) := (Below.refl _ _).alloc (Nat.le_refl _) _
  generalize w.alloc (.cells (elA (0, 0)) 46) = w1 at HE HB ⊢
  go_upto_region 1 with (fail)
  refine wp_region_quiet_tail 7 (by kernel_rfl) (by kernel_rfl) ?_
  simp only [List.take_succ_cons, List.take_zero, List.drop_succ_cons, List.drop_zero, Act.put, List.setIfInBounds_toArray, List.set_cons_zero, List.set_cons_succ]
  repeat (go_big_quiet_step (first | (go_at_call_of 48 (Value.string (s.extract 0 8)); exact Calls.quiet_of_same (HW1.out _)) | (go_at_call_of 48 (Value.string (s.extract 8 16)); exact Calls.quiet_of_same (HW2.out _))))
  refine wpQuiet_nil ?_
  intro nq
  have HE := Lib.hid (HE.out.drewN nq)
  have HB := Lib.hid (Lw.below_drewN HB.out nq)
  generalize w1.drewN nq = w2 at HE HB ⊢
  refine wpList_store_row rfl 46 _ _ rfl w.heap.size (elA (a, b)) rfl rfl 46 _ HE.out (by kernel_rfl) rfl (elA_one _) ?_
  go_wp2_with (fail)
  refine bodyPost_ret (v := .agg (elA (a, b))) ?_ rfl ?_
  · exact results_cell_row (fn := Try.f32) Try.results32 _ _ w.heap.size 46 _ (0, 0) _ rfl (setRow_heap _ _ _ _ _ _ HE.out) Try.underlying46 rfl (by kernel_rfl)
  · exact ⟨rfl, below_setRow HB.out (Nat.le_refl _) _⟩
end Go.Proofs.Gd
