/-
  The developers' X25519: points and ladders, as values and in memory.
-/
import Derived.Test.YtpniinolkflfjaaJoag
import Derived.Test.YtpniinolkflfjaaJobh
namespace Go.Proofs.Xe
open Go.RowKit
open Go.Proofs.Im (words_one)
open Go.Proofs.Sha (wordCells)
open Go.Proofs.Nt
open Go.Proofs.Nu (nmL nmA nmV)
open Go.Proofs.Nd (fdA fdV fdA_one)
/-- A ladder's cells: the field, and the coordinate. -/
def ldA (p o x : Nat) : Array Value := wordCells .u32 (nmL (lb p) ++ nmL (lb o) ++ nmL (lb x))
def ldV (p o x : Nat) : Value := .agg (ldA p o x)
theorem ldA_one (p o x : Nat) : (ldA p o x).all (·.oneCell') = true := words_one _ _
/-- A point: two numbers. -/
def ptV (x z : Nat) : Value := .agg (fdA x z)
theorem pt_x {u : World} {g x z : Nat} {t : TypeId} (h : u.heap[g]? = some (.cells (fdA x z) t (0, 0))) : u.rangeAt g 0 (nmA (lb x)).toList := World.rangeAt_of_block h 0 8
theorem pt_z {u : World} {g x z : Nat} {t : TypeId} (h : u.heap[g]? = some (.cells (fdA x z) t (0, 0))) : u.rangeAt g 8 (nmA (lb z)).toList := World.rangeAt_of_block h 8 8
theorem ld_f {u : World} {g p o x : Nat} {t : TypeId} (h : u.heap[g]? = some (.cells (ldA p o x) t (0, 0))) : u.rangeAt g 0 (fdA p o).toList := World.rangeAt_of_block h 0 16
theorem ld_u {u : World} {g p o x : Nat} {t : TypeId} (h : u.heap[g]? = some (.cells (ldA p o x) t (0, 0))) : u.rangeAt g 16 (nmA (lb x)).toList := World.rangeAt_of_block h 16 8
theorem alloc_p (w : World) : (Instr.alloc 62 true (.tuple #[])).run Try.prog w = .ok (.pointer (some ⟨w.heap.size, 0, none⟩)) (w.alloc (.cells (fdA 0 0) 62)) := by kernel_rfl
theorem alloc_l (w : World) : (Instr.alloc 42 true (.tuple #[])).run Try.prog w = .ok (.pointer (some ⟨w.heap.size, 0, none⟩)) (w.alloc (.cells (ldA 0 0 0) 42)) := by kernel_rfl
end Go.Proofs.Xe
/-
  The developers' X25519: numbers of two points exchanged by a mask.
-/
namespace Go.Proofs.Xe
open Go.RowKit
open Go.Proofs.Nt
open Go.Proofs.Nd (fdA fdV fdA_one)
/-- Two points in memory, nothing else changed. -/
structure Pair (p q : Nat) (w u : World) (d e : Nat → Nat) : Prop where
  os : u.os = w.os
  tape : u.tape = w.tape
  output : u.output = w.output
  size : w.heap.size ≤ u.heap.size
  block : ∀ k, k < w.heap.size → k ≠ p → k ≠ q → u.heap[k]? = w.heap[k]?
  one : u.rowIs p 62 16 (fun i => .int .u32 (d i : Nat))
  two : u.rowIs q 62 16 (fun i => .int .u32 (e i : Nat))
theorem Pair.drewN {p q : Nat} {w u : World} {d e : Nat → Nat} (h : Pair p q w u d e) (n : Nat) : Pair p q w (u.drewN n) d e := ⟨h.os, h.tape, h.output, h.size, h.block, h.one, h.two⟩
theorem Pair.congr {p q : Nat} {w u : World} {d e d' e' : Nat → Nat} (h : Pair p q w u d e) (h1 : ∀ i, i < 16 → d i = d' i) (h2 : ∀ i, i < 16 → e i = e' i) : Pair p q w u d' e' :=
  ⟨h.os, h.tape, h.output, h.size, h.block, World.rowIs.congr h.one fun i hi => by rw [h1 i hi], World.rowIs.congr h.two fun i hi => by rw [h2 i hi]⟩
theorem Pair.setOne {p q : Nat} {w u : World} {d e : Nat → Nat} (h : Pair p q w u d e) (hpq : ¬ p = q) (j v : Nat) : Pair p q w (u.setCell ⟨p, j, none⟩ (.int .u32 v)) (fun i => if i = j then v else d i) e :=
  ⟨h.os, h.tape, h.output, by simpa using h.size, fun k hk h1 h2 => (Below.heap_setCell u ⟨p, j, none⟩ _ k h1).trans (h.block k hk h1 h2), World.rowIs.congr (World.rowIs.set h.one j (.int .u32 v)) fun i _ => by split <;> rfl, World.rowIs.setOther h.two (fun c => hpq c.symm) _⟩
theorem Pair.setTwo {p q : Nat} {w u : World} {d e : Nat → Nat} (h : Pair p q w u d e) (hpq : ¬ p = q) (j v : Nat) : Pair p q w (u.setCell ⟨q, j, none⟩ (.int .u32 v)) d (fun i => if i = j then v else e i) :=
  ⟨h.os, h.tape, h.output, by simpa using h.size, fun k hk h1 h2 => (Below.heap_setCell u ⟨q, j, none⟩ _ k h2).trans (h.block k hk h1 h2), World.rowIs.setOther h.one (fun c => hpq c) _, World.rowIs.congr (World.rowIs.set h.two j (.int .u32 v)) fun i _ => by split <;> rfl⟩
theorem Pair.from {p q : Nat} {w u v : World} {d e d' e' : Nat → Nat} (h : Pair p q w u d e) (k : Pair p q u v d' e') : Pair p q w v d' e' :=
  ⟨k.os.trans h.os, k.tape.trans h.tape, k.output.trans h.output, Nat.le_trans h.size k.size, fun i hi h1 h2 => (k.block i (Nat.lt_of_lt_of_le hi h.size) h1 h2).trans (h.block i hi h1 h2), k.one, k.two⟩
theorem Pair.self {p q : Nat} {w : World} {d e : Nat → Nat} (h1 : w.rowIs p 62 16 (fun i => .int .u32 (d i : Nat))) (h2 : w.rowIs q 62 16 (fun i => .int .u32 (e i : Nat))) : Pair p q w w d e :=
  ⟨rfl, rfl, rfl, Nat.le_refl _, fun _ _ _ _ => rfl, h1, h2⟩
/-- What the mask takes over. -/
def xm (M : Nat) (d e : Nat → Nat) (i : Nat) : Nat := (d i ^^^ e i) &&& M
/-- The words from place o on, the first j of them turned. -/
def tu (o j : Nat) (D d : Nat → Nat) (i : Nat) : Nat := if o ≤ i ∧ i < o + j then D i else d i
theorem tu_zero (o : Nat) (D d : Nat → Nat) (i : Nat) : tu o 0 D d i = d i := if_neg (by omega)
theorem tu_next (o j : Nat) (D d : Nat → Nat) {k v : Nat} (hk : o + j = k) (hv : D k = v) (i : Nat) : (if i = k then v else tu o j D d i) = tu o (j + 1) D d i := by
  subst hk hv
  unfold tu
  by_cases h : i = o + j
  · subst h; rw [if_pos rfl, if_pos (by omega)]
  · rw [if_neg h]
    by_cases h2 : o ≤ i ∧ i < o + j
    · rw [if_pos h2, if_pos (by omega)]
    · rw [if_neg h2, if_neg (by omega)]
theorem tu_at (o j : Nat) (D d : Nat → Nat) {k : Nat} (hk : o + j = k) : tu o j D d k = d k := if_neg (by omega)
set_option maxHeartbeats 4000000 in
set_option maxRecDepth 20000 in
theorem exchange_any (M p q o : Nat) (d e : Nat → Nat) (w : World) (hM : M < 4294967296) (hd : ∀ i, d i < 4294967296) (he : ∀ i, e i < 4294967296) (ho : o + 8 ≤ 16) (hpq : ¬ p = q) (H : Pair p q w w d e) :
    Calls Try.prog 42 #[.int .u32 (M : Nat), .pointer (some ⟨p, o, none⟩), .pointer (some ⟨q, o, none⟩)] w fun x u => x = .returned (.tuple #[]) ∧ Pair p q w u (tu o 8 (fun i => d i ^^^ xm M d e i) d) (tu o 8 (fun i => e i ^^^ xm M d e i) e) := by
  have HM := Lib.hid H
  have HD := Lib.hid hd
  have HE := Lib.hid he
  have HO := Lib.hid ho
  have HPQ := Lib.hid hpq
  have HMm := Lib.hid hM
  clear H hd he ho hpq hM
  go_enter Try.func42, Try.ntmps42
  go_wp2_with (fail)
  go_loopw [8] (fun v wx => ∃ j : Nat, Hid (j ≤ 8) ∧ v = .int .i64 j ∧ Hid (Pair p q w wx (tu o j (fun i => d i ^^^ xm M d e i) d) (tu o j (fun i => e i ^^^ xm M d e i) e))) (fun v _ => 8 - (intOf v).toNat)
  case atStart => exact ⟨0, Nat.zero_le _, rfl, HM.out.congr (fun i _ => (tu_zero _ _ _ i).symm) fun i _ => (tu_zero _ _ _ i).symm⟩
  case round =>
    clear HM
    obtain ⟨j, hj, rfl, HM⟩ := hrel
    by_cases hlt : j < 8
    · have jl : ((j : Int) < 8) = True := eq_true (by omega)
      have jl' : (j : Int) < 8 := by omega
      have HJ := Lib.hid hlt
      have k16 : o + j < 16 := by have := HO.out; omega
      have xa : wr.cell? ⟨p, o + j, none⟩ = some (.int .u32 (d (o + j) : Nat)) := by rw [World.rowIs.cell HM.out.one k16, tu_at o j _ d rfl]
      have xb : wr.cell? ⟨q, o + j, none⟩ = some (.int .u32 (e (o + j) : Nat)) := by rw [World.rowIs.cell HM.out.two k16, tu_at o j _ e rfl]
      have l1 := HD.out (o + j)
      have l2 := HE.out (o + j)
      have HN1 : Hid (∀ i, (if i = o + j then d (o + j) ^^^ xm M d e (o + j) else tu o j (fun i => d i ^^^ xm M d e i) d i) = tu o (j + 1) (fun i => d i ^^^ xm M d e i) d i) := fun i => tu_next o j _ d rfl rfl i
      have HN2 : Hid (∀ i, (if i = o + j then e (o + j) ^^^ xm M d e (o + j) else tu o j (fun i => e i ^^^ xm M d e i) e i) = tu o (j + 1) (fun i => e i ^^^ xm M d e i) e i) := fun i => tu_next o j _ e rfl rfl i
      have HX : Hid ((d (o + j) ^^^ e (o + j)) &&& M = xm M d e (o + j)) := rfl
      generalize xm M d e (o + j) = t at HX HN1 HN2
      generalize d (o + j) = x at xa l1 HN1 HX
      generalize e (o + j) = y at xb l2 HN2 HX
      have e1 := u32_xor_nat x y l1 l2
      have hxy : x ^^^ y < 4294967296 := Nat.xor_lt_two_pow (n := 32) l1 l2
      have e2 := u32_and_nat (x ^^^ y) M hxy HMm.out
      rw [HX.out] at e2
      have ht : t < 4294967296 := by rw [← HX.out]; exact Nat.lt_of_le_of_lt Nat.and_le_left hxy
      have e3 := u32_xor_nat x t l1 ht
      have e4 := u32_xor_nat y t l2 ht
      generalize x ^^^ y = z at e1 e2
      clear hlt HX hxy k16
      go_upto_region 3 with (fail)
      go_quiet (fail)
      have HM := Lib.hid (HM.out.drewN nq)
      have xa : (wr.drewN nq).cell? ⟨p, o + j, none⟩ = some (.int .u32 (x : Nat)) := xa
      have xb : (wr.drewN nq).cell? ⟨q, o + j, none⟩ = some (.int .u32 (y : Nat)) := xb
      have fa := World.rowIs.frozen HM.out.one (o + j)
      have fb := World.rowIs.frozen HM.out.two (o + j)
      generalize wr.drewN nq = w2 at HM xa xb fa fb ⊢
      go_upto_region 4 with (fail)
      go_still_tail 9, (by kernel_rfl)
      change wpList _ _ _ _ _ w2.drew
      have HM := Lib.hid (HM.out.drewN 1)
      have xa : w2.drew.cell? ⟨p, o + j, none⟩ = some (.int .u32 (x : Nat)) := xa
      have xb : w2.drew.cell? ⟨q, o + j, none⟩ = some (.int .u32 (y : Nat)) := xb
      have fa : w2.drew.frozen? ⟨p, o + j, none⟩ = false := fa
      have fb : w2.drew.frozen? ⟨q, o + j, none⟩ = false := fb
      change Hid (Pair p q w w2.drew _ _) at HM
      generalize w2.drew = w3 at HM xa xb fa fb ⊢
      go_upto_region 5 with (fail)
      have HM := Lib.hid (HM.out.setOne HPQ.out (o + j) (x ^^^ t))
      have xb : (w3.setCell ⟨p, o + j, none⟩ (.int .u32 (x ^^^ t : Nat))).cell? ⟨q, o + j, none⟩ = some (.int .u32 (y : Nat)) := by
        rw [World.cell?_setCell_other _ _ _ _ (fun c => HPQ.out (by injection c))]; exact xb
      clear xa fa fb
      have fb := World.rowIs.frozen HM.out.two (o + j)
      generalize w3.setCell ⟨p, o + j, none⟩ (.int .u32 (x ^^^ t : Nat)) = w4 at HM xb fb ⊢
      go_still_tail 9, (by kernel_rfl)
      change wpList _ _ _ _ _ w4.drew
      have HM := Lib.hid (HM.out.drewN 1)
      have xb : w4.drew.cell? ⟨q, o + j, none⟩ = some (.int .u32 (y : Nat)) := xb
      have fb : w4.drew.frozen? ⟨q, o + j, none⟩ = false := fb
      change Hid (Pair p q w w4.drew _ _) at HM
      generalize w4.drew = w5 at HM xb fb ⊢
      go_wp2_with (fail)
      exact ⟨⟨j + 1, HJ.out, by go_num, (HM.out.setTwo HPQ.out (o + j) (y ^^^ t)).congr (fun i _ => HN1.out i) fun i _ => HN2.out i⟩, Lw.meas 8 j HJ.out⟩
    · have jl : ((j : Int) < 8) = False := eq_false (by omega)
      obtain rfl : j = 8 := by have := hj.out; omega
      rw [show ((8 : Nat) : Int) = 8 from rfl]
      clear hlt jl hj
      go_wp2_with (fail)
      go_end0
      exact ⟨rfl, HM.out⟩
end Go.Proofs.Xe
