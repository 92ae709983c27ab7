/-
  The developers' poly: a key's tagger.
-/
import Derived.Test.YtljhenjbjondkaaJobl
import Derived.Deep.RegionHeld3
namespace Go.Proofs.Pd
open Go.RowKit
open Go.Proofs.Aes (byt byt_lt get_byt)
open Go.Proofs.Cha (byt_left byt_right byt_cut text_ext)
open Go.Proofs.Pol (lmL lmA lmA_get lmA_congr lmA_one lmA_size lt5 lmV lmV_arr leB leB_lt leB_congr zS zS_size val p130 rN padN)
/-- Eight bytes of a text as a number. -/
def wdS (s : ByteArray) (o : Nat) : Nat := leB (fun i => byt s (o + i)) 8
theorem wdS_lt (s : ByteArray) (o : Nat) : wdS s o < 18446744073709551616 := leB_8 fun _ => byt_lt _ _
theorem wdS_cut (s : ByteArray) (o c : Nat) (h : o + 8 ≤ c) (hc : c ≤ s.size) : leB (byt (s.extract o c)) 8 = wdS s o := leB_congr 8 fun i hi => byt_cut s o c i (by omega) hc
theorem word_at (s : ByteArray) (o c : Nat) (w : World) (h : o + 8 ≤ c) (hc : c ≤ s.size) :
    Calls Try.prog 56 #[.string (s.extract o c)] w fun e w' => e = .returned (.int .u64 (wdS s o : Nat)) ∧ w' = w := by
  rw [← wdS_cut s o c h hc]
  exact word_any _ w (by rw [ByteArray.size_extract]; omega)
theorem fac_words (key : ByteArray) : wdS key 0 &&& 1152921487695413247 = facW key 0 ∧ wdS key 8 &&& 1152921487695413244 = facW key 8 := ⟨fac_low key, fac_high key⟩
theorem pad_words (key : ByteArray) : wdS key 16 = padW key 0 ∧ wdS key 24 = padW key 8 :=
  ⟨leB_congr 8 fun i _ => by rw [Nat.zero_add], leB_congr 8 fun i _ => by rw [show 16 + (8 + i) = 24 + i by omega]⟩
theorem and64 (x m : Nat) (hx : x < 18446744073709551616) (hm : m < 18446744073709551616) : bits .and .u64 (x : Int) (m : Int) = ((x &&& m : Nat) : Int) := u64_and_nat x m hx hm
theorem word_held {w u : World} (s : ByteArray) (o c : Nat) (hS : Below w.heap.size w u) (h : o + 8 ≤ c) (hc : c ≤ s.size) :
    Calls Try.prog 56 #[.string (s.extract o c)] u fun e u' => e = .returned (.int .u64 (wdS s o : Nat)) ∧ Below w.heap.size w u' :=
  (word_at s o c u h hc).mono fun _ _ ⟨h1, h2⟩ => ⟨h1, by rw [h2]; exact hS⟩
theorem limbs_held {w u : World} (l h t : Nat) (hS : Below w.heap.size w u) (hl : l < 18446744073709551616) (hh : h < 18446744073709551616) (ht : t ≤ 3) :
    Calls Try.prog 44 #[.int .u64 l, .int .u64 h, .int .u64 t] u fun e u' => e = .returned (.agg (lmA (limF l h t))) ∧ Below w.heap.size w u' :=
  (limbs_any l h t u hl hh ht).mono fun _ _ ⟨h1, h2⟩ => ⟨h1, Lw.go_on hS h2⟩
/-- A new tagger's cells. -/
def newC (l0 l1 l2 l3 l4 p0 p1 : Nat) : Array Value := #[.int .u64 l0, .int .u64 l1, .int .u64 l2, .int .u64 l3, .int .u64 l4, .int .u64 0, .int .u64 0, .int .u64 0, .int .u64 0, .int .u64 0, .int .u64 p0, .int .u64 p1]
theorem lt12 {P : Nat → Prop} (h0 : P 0) (h1 : P 1) (h2 : P 2) (h3 : P 3) (h4 : P 4) (h5 : P 5) (h6 : P 6) (h7 : P 7) (h8 : P 8) (h9 : P 9) (h10 : P 10) (h11 : P 11) (i : Nat) (hi : i < 12) : P i := by
  match i, hi with
  | 0, _ => exact h0
  | 1, _ => exact h1
  | 2, _ => exact h2
  | 3, _ => exact h3
  | 4, _ => exact h4
  | 5, _ => exact h5
  | 6, _ => exact h6
  | 7, _ => exact h7
  | 8, _ => exact h8
  | 9, _ => exact h9
  | 10, _ => exact h10
  | 11, _ => exact h11
theorem Tc.new (w : World) (r : Nat → Nat) (pl ph : Nat) : Tc (w.alloc (.cells (newC (r 0) (r 1) (r 2) (r 3) (r 4) pl ph) 87)) w.heap.size r (fun _ => 0) pl ph := Sha.rowIs_of w (newC (r 0) (r 1) (r 2) (r 3) (r 4) pl ph) 87 12 _ rfl fun i hi =>
  lt12 (P := fun i => (newC (r 0) (r 1) (r 2) (r 3) (r 4) pl ph)[i]? = some (.int .u64 (tgN r (fun _ => 0) pl ph i : Nat))) rfl rfl rfl rfl rfl rfl rfl rfl rfl rfl rfl rfl i hi
theorem keyed_new {w u : World} (key : ByteArray) (hS : Below w.heap.size w u) :
    w.heap.size ≤ u.heap.size ∧ Below w.heap.size w (u.alloc (.cells (newC (facL key 0) (facL key 1) (facL key 2) (facL key 3) (facL key 4) (padW key 0) (padW key 8)) 87)) ∧
      Ta (u.alloc (.cells (newC (facL key 0) (facL key 1) (facL key 2) (facL key 3) (facL key 4) (padW key 0) (padW key 8)) 87)) u.heap.size key 0 :=
  ⟨hS.size, hS.alloc hS.size _, _, good_zero, rfl, Tc.new u (facL key) _ _⟩
theorem lmA_lit (d : Nat → Nat) : lmA d = #[.int .u64 (d 0 : Nat), .int .u64 (d 1 : Nat), .int .u64 (d 2 : Nat), .int .u64 (d 3 : Nat), .int .u64 (d 4 : Nat)] := rfl
set_option maxHeartbeats 4000000 in
theorem keyed_any (key : ByteArray) (w : World) (hk : key.size = 32) :
    Calls Try.prog 41 #[.string key] w fun e w' => ∃ g, e = .returned (.pointer (some ⟨g, 0, none⟩)) ∧ w.heap.size ≤ g ∧ Below w.heap.size w w' ∧ Ta w' g key 0 := by
  have HK := Lib.hid hk
  have ks : (key.size : Int) = 32 := by omega
  have hf := fac_words key
  have a1 : bits .and .u64 ((wdS key 0 : Nat) : Int) 1152921487695413247 = ((facW key 0 : Nat) : Int) := by rw [← hf.1]; exact and64 (wdS key 0) 1152921487695413247 (wdS_lt _ _) (by decide)
  have a2 : bits .and .u64 ((wdS key 8 : Nat) : Int) 1152921487695413244 = ((facW key 8 : Nat) : Int) := by rw [← hf.2]; exact and64 (wdS key 8) 1152921487695413244 (wdS_lt _ _) (by decide)
  obtain ⟨K0, e0⟩ : ∃ K, key.extract 0 8 = K := ⟨_, rfl⟩
  obtain ⟨K1, e1⟩ : ∃ K, key.extract 8 16 = K := ⟨_, rfl⟩
  obtain ⟨K2, e2⟩ : ∃ K, key.extract 16 24 = K := ⟨_, rfl⟩
  obtain ⟨K3, e3⟩ : ∃ K, key.extract 24 32 = K := ⟨_, rfl⟩
  have H0 := Lib.hid (fun (u : World) (hS : Below w.heap.size w u) => word_held key 0 8 hS (by decide) (by omega))
  have H1 := Lib.hid (fun (u : World) (hS : Below w.heap.size w u) => word_held key 8 16 hS (by decide) (by omega))
  have H2 := Lib.hid (fun (u : World) (hS : Below w.heap.size w u) => word_held key 16 24 hS (by decide) (by omega))
  have H3 := Lib.hid (fun (u : World) (hS : Below w.heap.size w u) => word_held key 24 32 hS (by decide) (by omega))
  have H4 : Hid (∀ u : World, Below w.heap.size w u → Calls Try.prog 44 #[.int .u64 (facW key 0 : Nat), .int .u64 (facW key 8 : Nat), .int .u64 0] u fun e u' => e = .returned (.agg #[.int .u64 (facL key 0 : Nat), .int .u64 (facL key 1 : Nat), .int .u64 (facL key 2 : Nat), .int .u64 (facL key 3 : Nat), .int .u64 (facL key 4 : Nat)]) ∧ Below w.heap.size w u') := fun u hS => limbs_held (facW key 0) (facW key 8) 0 hS (facW_lt _ _) (facW_lt _ _) (by decide)
  have HN := Lib.hid (fun (u : World) (hS : Below w.heap.size w u) => keyed_new key hS)
  have hp := pad_words key
  rw [hp.1] at H2
  rw [hp.2] at H3
  rw [e0] at H0
  rw [e1] at H1
  rw [e2] at H2
  rw [e3] at H3
  have hS0 : Below w.heap.size w w := Below.refl _ _
  have hSd : Below w.heap.size w w.drew := hS0.drew
  generalize wdS key 0 = x0 at *
  generalize wdS key 8 = x1 at *
  generalize facW key 0 = f0 at *
  generalize facW key 8 = f1 at *
  generalize facL key 0 = l0 at H4 HN
  generalize facL key 1 = l1 at H4 HN
  generalize facL key 2 = l2 at H4 HN
  generalize facL key 3 = l3 at H4 HN
  generalize facL key 4 = l4 at H4 HN
  generalize padW key 0 = p0 at H2 HN
  generalize padW key 8 = p1 at H3 HN
  clear hf hp
  go_enter Try.func41, Try.ntmps41
  go_upto_region 1 with (fail)
  go_region_held3 (fun w' => Below w.heap.size w w') (first | assumption | exact hS4.alloc hS4.size _)
    (first
      | (go_at_call_of 56 (Value.string K0); refine (H0.out _ (by assumption)).mono ?_; rintro e u0 ⟨rfl, hS1⟩)
      | (go_at_call_of 56 (Value.string K1); refine (H1.out _ (by assumption)).mono ?_; rintro e u1 ⟨rfl, hS2⟩)
      | (go_at_call_of 56 (Value.string K2); refine (H2.out _ (by assumption)).mono ?_; rintro e u2 ⟨rfl, hS3⟩)
      | (go_at_call_of 56 (Value.string K3); refine (H3.out _ (by assumption)).mono ?_; rintro e u3 ⟨rfl, hS4⟩)
      | (go_at_call 44; refine (H4.out _ (by assumption)).mono ?_; rintro e u4 ⟨rfl, hS5⟩))
  have HE := Lib.hid (HN.out u3 hS4)
  generalize hC : u3.alloc _ = w9
  have HC := Lib.hid hC
  clear hC
  go_wp2_with (fail)
  go_ret
  refine ⟨u3.heap.size, rfl, HE.out.1, ?_⟩
  rw [← HC.out]
  exact HE.out.2
end Go.Proofs.Pd
