/-
  The developers' num: sums, differences, products, inverses of texts, at every input.
-/
import Derived.Test.YtbkfpaodicfmhaaNdS
import Derived.Test.YtbkfpaodicfmhaaNuO
namespace Go.Proofs.Nd
open Go.RowKit Go.Proofs.Nu
open Go.Proofs.Nt
theorem good_md (z : Int) : Good (md z) (ov z) := by
  refine ⟨md_lt z, ?_, ⟨B8 / md z, (Nat.mod_add_div B8 (md z)).symm⟩, ?_⟩
  · unfold md
    split
    · decide
    · split <;> decide
  · unfold ov md
    split
    · decide
    · split <;> decide
theorem num_ok (z : Int) (s : ByteArray) : numOk z s = (zOk z && rdOk (md z) s) := by
  have h := numOk_iff z s
  rw [Bool.eq_iff_iff, h, Bool.and_eq_true]
  unfold zOk rdOk
  rw [Bool.and_eq_true, decide_eq_true_eq, decide_eq_true_eq, decide_eq_true_eq]
theorem rdX_ok {p : Nat} {s : ByteArray} (h : rdOk p s = true) : rdX p s = bn s ∧ bn s < p := by
  unfold rdX
  rw [h]
  refine ⟨rfl, ?_⟩
  unfold rdOk at h
  rw [Bool.and_eq_true, decide_eq_true_eq, decide_eq_true_eq] at h
  exact h.2
def pz (z : Int) : Nat := bif zOk z then md z else 0
def vz (z : Int) : Nat := bif zOk z then ov z else 0
theorem of_z (z : Int) (w : World) : Calls Try.prog 30 #[.int .i64 z] w fun e u => e = .returned (.tuple #[fdV (pz z) (vz z), .bool (zOk z)]) ∧ Below w.heap.size w u := by
  have h := of_any z w
  unfold pz vz
  cases hz : zOk z <;> rw [hz] at h <;> exact h
theorem pz_ok {z : Int} (h : zOk z = true) : pz z = md z ∧ vz z = ov z := by unfold pz vz; rw [h]; exact ⟨rfl, rfl⟩
theorem c9_num (how z : Int) (a b : ByteArray) (R : Nat) (hR : zOk z = true → rdOk (md z) a = true → rdOk (md z) b = true → R = c9X how z a b) :
    (bif zOk z && rdOk (md z) a && rdOk (md z) b then t32 (bif rdOk (md z) b then R else 0) else ⟨#[]⟩) = c9S how z a b ∧ (bif zOk z && rdOk (md z) a && rdOk (md z) b then (0 : Int) else 900) = c9E z a b := by
  unfold c9S c9E c9Ok
  rw [num_ok, num_ok]
  cases h1 : zOk z
  · exact ⟨rfl, rfl⟩
  · cases h2 : rdOk (md z) a
    · exact ⟨rfl, rfl⟩
    · cases h3 : rdOk (md z) b
      · exact ⟨rfl, rfl⟩
      · rw [hR h1 h2 h3]; exact ⟨rfl, rfl⟩
/-- What reckoned answers of two texts. -/
theorem two_any (how z : Int) (a b : ByteArray) (f : FuncId) (R : Nat) (g k : Nat) (w : World) (hC : Cap w g k b f) (hr : ∀ args w, (callFunc f args).run Try.prog w = .ok (.enter f args) w)
    (hR : zOk z = true → rdOk (md z) a = true → rdOk (md z) b = true → R = c9X how z a b)
    (hW : bn a < md z → bn b < md z → ∀ u : World, Calls Try.prog f #[fdV (md z) (ov z), nmV (bn a), nmV (bn b)] u fun e u' => e = .returned (nmV R) ∧ Below u.heap.size u u') :
    Calls Try.prog 18 #[.int .i64 z, .string a, .func (.func 33) #[] #[.pointer (some ⟨g, 0, none⟩), .pointer (some ⟨k, 0, none⟩)]] w fun e u => e = .returned (.tuple #[.string (c9S how z a b), .int .i64 (c9E z a b)]) ∧ Below w.heap.size w u := by
  have h := reckoned_raw z a (t32 (bif rdOk (md z) b then R else 0)) (pz z) (vz z) (rdX (md z) a) (bif rdOk (md z) b then R else 0) 33 #[.pointer (some ⟨g, 0, none⟩), .pointer (some ⟨k, 0, none⟩)] (zOk z) (rdOk (md z) a) (rdOk (md z) b) w
    (fun _ _ => by go_simp) (of_z z)
    (fun h u => by rw [(pz_ok h).1, (pz_ok h).2]; exact read_any (md z) (ov z) a u (md_lt z))
    (fun h1 h2 u hb => by
      rw [(pz_ok h1).1, (pz_ok h1).2, (rdX_ok h2).1]
      refine with1_raw (md z) (ov z) (bn a) (rdX (md z) b) R g k b f (rdOk (md z) b) u (hC.on hb) hr (fun u => read_any (md z) (ov z) b u (md_lt z)) fun h3 u => ?_
      rw [(rdX_ok h3).1]
      exact hW (rdX_ok h2).2 (rdX_ok h3).2 u)
    (fun u => text_any _ u)
  obtain ⟨e1, e2⟩ := c9_num how z a b R hR
  rw [e1, e2] at h
  exact h
theorem c9E_wrap (z : Int) (a b : ByteArray) : IntKind.i64.wrap (c9E z a b) = c9E z a b := by unfold c9E; cases c9Ok z a b <;> rfl
theorem i9E_wrap (z : Int) (a : ByteArray) : IntKind.i64.wrap (i9E z a) = i9E z a := by unfold i9E; cases i9Ok z a <;> rfl
set_option maxHeartbeats 1000000 in
theorem add_any (z : Int) (a b : ByteArray) (w : World) : Calls Try.prog 8 #[.int .i64 z, .string a, .string b] w fun e w' => e = .returned (.tuple #[.string (c9S 0 z a b), .int .i64 (c9E z a b)]) ∧ Below w.heap.size w w' := by
  have HC : Hid (∀ (g k : Nat) (w : World), Cap w g k b 20 → Calls Try.prog 18 #[.int .i64 z, .string a, .func (.func 33) #[] #[.pointer (some ⟨g, 0, none⟩), .pointer (some ⟨k, 0, none⟩)]] w fun e u => e = .returned (.tuple #[.string (c9S 0 z a b), .int .i64 (c9E z a b)]) ∧ Below w.heap.size w u) := fun g k w hC =>
    two_any 0 z a b 20 ((bn a + bn b) % md z) g k w hC (fun _ _ => by go_simp) (fun _ _ _ => rfl) fun h1 h2 u => fplus_any (md z) (ov z) (bn a) (bn b) u (md_lt z) h1 h2
  have he := c9E_wrap z a b
  generalize c9S 0 z a b = R at HC ⊢
  generalize c9E z a b = E at HC he ⊢
  go_enter Try.func8, Try.ntmps8
  have HB : Hid (Below w.heap.size w w) := Below.refl _ _
  go_wp2_with (first | (go_at_call 19; refine (with_any b 20 _).mono ?_; rintro e u ⟨rfl, hb, hcap⟩; have HB := Lib.hid (Lw.go_on HB.out hb); have HCap := Lib.hid hcap; clear hb hcap) | (go_at_call 18; refine (HC.out _ _ _ HCap.out).mono ?_; rintro e u2 ⟨rfl, hb⟩; have HB := Lib.hid (Lw.go_on HB.out hb); clear hb))
  go_ret2
  exact ⟨rfl, HB.out⟩
set_option maxHeartbeats 1000000 in
theorem sub_any (z : Int) (a b : ByteArray) (w : World) : Calls Try.prog 10 #[.int .i64 z, .string a, .string b] w fun e w' => e = .returned (.tuple #[.string (c9S 1 z a b), .int .i64 (c9E z a b)]) ∧ Below w.heap.size w w' := by
  have HC : Hid (∀ (g k : Nat) (w : World), Cap w g k b 26 → Calls Try.prog 18 #[.int .i64 z, .string a, .func (.func 33) #[] #[.pointer (some ⟨g, 0, none⟩), .pointer (some ⟨k, 0, none⟩)]] w fun e u => e = .returned (.tuple #[.string (c9S 1 z a b), .int .i64 (c9E z a b)]) ∧ Below w.heap.size w u) := fun g k w hC =>
    two_any 1 z a b 26 ((bn a + md z - bn b) % md z) g k w hC (fun _ _ => by go_simp) (fun _ _ _ => rfl) fun h1 h2 u => fminus_any (md z) (ov z) (bn a) (bn b) u (md_lt z) h1 h2
  have he := c9E_wrap z a b
  generalize c9S 1 z a b = R at HC ⊢
  generalize c9E z a b = E at HC he ⊢
  go_enter Try.func10, Try.ntmps10
  have HB : Hid (Below w.heap.size w w) := Below.refl _ _
  go_wp2_with (first | (go_at_call 19; refine (with_any b 26 _).mono ?_; rintro e u ⟨rfl, hb, hcap⟩; have HB := Lib.hid (Lw.go_on HB.out hb); have HCap := Lib.hid hcap; clear hb hcap) | (go_at_call 18; refine (HC.out _ _ _ HCap.out).mono ?_; rintro e u2 ⟨rfl, hb⟩; have HB := Lib.hid (Lw.go_on HB.out hb); clear hb))
  go_ret2
  exact ⟨rfl, HB.out⟩
set_option maxHeartbeats 1000000 in
theorem mul_any (z : Int) (a b : ByteArray) (w : World) : Calls Try.prog 11 #[.int .i64 z, .string a, .string b] w fun e w' => e = .returned (.tuple #[.string (c9S 2 z a b), .int .i64 (c9E z a b)]) ∧ Below w.heap.size w w' := by
  have HC : Hid (∀ (g k : Nat) (w : World), Cap w g k b 27 → Calls Try.prog 18 #[.int .i64 z, .string a, .func (.func 33) #[] #[.pointer (some ⟨g, 0, none⟩), .pointer (some ⟨k, 0, none⟩)]] w fun e u => e = .returned (.tuple #[.string (c9S 2 z a b), .int .i64 (c9E z a b)]) ∧ Below w.heap.size w u) := fun g k w hC =>
    two_any 2 z a b 27 (bn a * bn b % md z) g k w hC (fun _ _ => by go_simp) (fun _ _ _ => rfl) fun h1 h2 u => times_any (md z) (ov z) (bn a) (bn b) u (good_md z) (Nat.lt_trans h1 (md_lt z)) (Nat.lt_trans h2 (md_lt z))
  have he := c9E_wrap z a b
  generalize c9S 2 z a b = R at HC ⊢
  generalize c9E z a b = E at HC he ⊢
  go_enter Try.func11, Try.ntmps11
  have HB : Hid (Below w.heap.size w w) := Below.refl _ _
  go_wp2_with (first | (go_at_call 19; refine (with_any b 27 _).mono ?_; rintro e u ⟨rfl, hb, hcap⟩; have HB := Lib.hid (Lw.go_on HB.out hb); have HCap := Lib.hid hcap; clear hb hcap) | (go_at_call 18; refine (HC.out _ _ _ HCap.out).mono ?_; rintro e u2 ⟨rfl, hb⟩; have HB := Lib.hid (Lw.go_on HB.out hb); clear hb))
  go_ret2
  exact ⟨rfl, HB.out⟩
theorem i9_num (z : Int) (a : ByteArray) (y : Nat) (hy : zOk z = true → rdOk (md z) a = true → y = (bif decide (bn a = 0) then 0 else bn a ^ (md z - 2) % md z)) :
    (bif zOk z && rdOk (md z) a && !decide (bn a = 0) then t32 y else ⟨#[]⟩) = i9S z a ∧ (bif zOk z && rdOk (md z) a && !decide (bn a = 0) then (0 : Int) else 900) = i9E z a := by
  unfold i9S i9E i9Ok
  rw [num_ok]
  cases h1 : zOk z
  · exact ⟨rfl, rfl⟩
  · cases h2 : rdOk (md z) a
    · exact ⟨rfl, rfl⟩
    · rw [hy h1 h2]
      cases h3 : decide (bn a = 0)
      · exact ⟨rfl, rfl⟩
      · exact ⟨rfl, rfl⟩
theorem one_any (z : Int) (a : ByteArray) (w : World) : Calls Try.prog 18 #[.int .i64 z, .string a, .func (.func 28) #[] #[]] w fun e u => e = .returned (.tuple #[.string (i9S z a), .int .i64 (i9E z a)]) ∧ Below w.heap.size w u := by
  obtain ⟨y, hy⟩ : ∃ y, y = (bif decide (bn a = 0) then 0 else bn a ^ (md z - 2) % md z) := ⟨_, rfl⟩
  have h := reckoned_raw z a (t32 y) (pz z) (vz z) (rdX (md z) a) y 28 #[] (zOk z) (rdOk (md z) a) (!decide (bn a = 0)) w
    (fun _ _ => by go_simp) (of_z z)
    (fun h u => by rw [(pz_ok h).1, (pz_ok h).2]; exact read_any (md z) (ov z) a u (md_lt z))
    (fun h1 h2 u hb => by
      rw [(pz_ok h1).1, (pz_ok h1).2, (rdX_ok h2).1, hy]
      exact inverse_any (md z) (ov z) (bn a) u (good_md z) (rdX_ok h2).2)
    (fun u => text_any _ u)
  obtain ⟨e1, e2⟩ := i9_num z a y fun _ _ => hy
  rw [e1, e2] at h
  exact h
set_option maxHeartbeats 1000000 in
theorem inv_any (z : Int) (a : ByteArray) (w : World) : Calls Try.prog 12 #[.int .i64 z, .string a] w fun e w' => e = .returned (.tuple #[.string (i9S z a), .int .i64 (i9E z a)]) ∧ Below w.heap.size w w' := by
  have HC := Lib.hid (fun u => one_any z a u)
  have he := i9E_wrap z a
  generalize i9S z a = R at HC ⊢
  generalize i9E z a = E at HC he ⊢
  go_enter Try.func12, Try.ntmps12
  go_wp2_with (go_at_call 18; refine (HC.out _).mono ?_; rintro e u ⟨rfl, hb⟩)
  go_ret2
  exact ⟨rfl, hb⟩
end Go.Proofs.Nd
