/-
  The document's own answer for layer 9: Montgomery's product: what lies in memory, the first half of a round.
-/
import Derived.Test.YtpniinolkflfjaaJoat
namespace Go.Proofs.Nu
open Go.RowKit
open Go.Proofs.Im (wpList_box_to words_heap words_one run_index_row)
open Go.Proofs.Sha (wordCells wordCells_get wordCells_size rowIs_of wpList_alloc_to wpList_build_to)
open Go.Proofs.Nt
/-- What makes a modulus' lowest word go away. -/
def kz (z : Int) : Nat := if z = 0 then 1 else if z = 1 then 3993025615 else 678152731
theorem kz_low (z : Int) : (1 + kz z * lb (md z) 0) % 4294967296 = 0 := by
  unfold kz md
  split
  · decide
  · split <;> decide
theorem kz_lt (z : Int) : kz z < 4294967296 := by unfold kz; split; decide; split <;> decide
theorem inverse_any (z : Int) (w : World) : Calls Try.prog 48 #[.int .i64 z] w fun e w' => e = .returned (.int .u64 (kz z : Nat)) ∧ Below w.heap.size w w' := by
  unfold kz
  by_cases h0 : z = 0
  · rw [if_pos h0]
    subst h0
    go_enter Try.func48, Try.ntmps48
    go_wp2_with (fail)
    go_ret
    exact ⟨rfl, Below.refl _ _⟩
  · rw [if_neg h0]
    have z0 : (z == 0) = false := by simpa using h0
    by_cases h1 : z = 1
    · rw [if_pos h1]
      subst h1
      go_enter Try.func48, Try.ntmps48
      go_wp2_with (fail)
      go_ret
      exact ⟨rfl, Below.refl _ _⟩
    · rw [if_neg h1]
      have z1 : (z == 1) = false := by simpa using h1
      clear h0 h1
      go_enter Try.func48, Try.ntmps48
      go_wp2_with (fail)
      go_ret
      exact ⟨rfl, Below.refl _ _⟩
/-- Ten words. -/
def RT (w : World) (g : Nat) (t : Nat → Nat) : Prop := w.rowIs g 81 10 (fun i => .int .u64 (t i : Nat))
def zA10 : Array Value := wordCells .u64 [0, 0, 0, 0, 0, 0, 0, 0, 0, 0]
theorem allocT (w : World) : (Instr.alloc 81 true (.tuple #[])).run Try.prog w = .ok (.pointer (some ⟨w.heap.size, 0, none⟩)) (w.alloc (.cells zA10 81)) := by kernel_rfl
theorem RT.set {w : World} {g : Nat} {d : Nat → Nat} (h : RT w g d) (j v : Nat) : RT (w.setCell ⟨g, j, none⟩ (.int .u64 v)) g (fun i => if i = j then v else d i) :=
  World.rowIs.congr (World.rowIs.set h j (.int .u64 v)) fun i _ => by simp only []; split <;> rfl
theorem RT.congr {w : World} {g : Nat} {d e : Nat → Nat} (h : RT w g d) (he : ∀ i, i < 10 → d i = e i) : RT w g e := World.rowIs.congr h fun i hi => by rw [he i hi]
theorem RT.at_ {w : World} {g : Nat} {d : Nat → Nat} (h : RT w g d) (i v : Nat) (hi : i < 10) (e : d i = v) : w.cell? ⟨g, i, none⟩ = some (.int .u64 (v : Nat)) := by rw [World.rowIs.cell h hi, e]
theorem RT.new (w : World) : RT (w.alloc (.cells zA10 81)) w.heap.size (fun _ => 0) := rowIs_of w zA10 81 10 _ rfl fun i hi => by
  match i, hi with
  | 0, _ => rfl
  | 1, _ => rfl
  | 2, _ => rfl
  | 3, _ => rfl
  | 4, _ => rfl
  | 5, _ => rfl
  | 6, _ => rfl
  | 7, _ => rfl
  | 8, _ => rfl
  | 9, _ => rfl
theorem Nm.words {w : World} {g x : Nat} (h : Nm w g x) : RN w g (lb x) := ⟨_, h, rfl, nmA_get (lb x)⟩
theorem RN.num {w : World} {g x : Nat} (h : RN w g (lb x)) : Nm w g x := h.heap
/-- A product's memory: the factors, the result's place, the modulus, the sum. -/
structure Mo (w u : World) (x y m gm gt : Nat) (t : Nat → Nat) : Prop where
  a : RN u w.heap.size (lb x)
  b : RN u (w.heap.size + 1) (lb y)
  r : RN u (w.heap.size + 2) (lb 0)
  mm : RN u gm (lb m)
  tt : RT u gt t
  below : Below w.heap.size w u
  g1 : w.heap.size + 2 < gm
  g2 : gm < gt
theorem Mo.set {w u : World} {x y m gm gt : Nat} {t : Nat → Nat} (h : Mo w u x y m gm gt t) (j v : Nat) : Mo w (u.setCell ⟨gt, j, none⟩ (.int .u64 v)) x y m gm gt (fun i => if i = j then v else t i) := by
  have h1 := h.g1
  have h2 := h.g2
  exact ⟨h.a.other (by show _ ≠ gt; omega) _, h.b.other (by show _ ≠ gt; omega) _, h.r.other (by show _ ≠ gt; omega) _, h.mm.other (by show _ ≠ gt; omega) _, h.tt.set j v, h.below.setCell (by show _ ≤ gt; omega) _, h1, h2⟩
theorem Mo.congr {w u : World} {x y m gm gt : Nat} {t t' : Nat → Nat} (h : Mo w u x y m gm gt t) (he : ∀ i, i < 10 → t i = t' i) : Mo w u x y m gm gt t' := ⟨h.a, h.b, h.r, h.mm, h.tt.congr he, h.below, h.g1, h.g2⟩
theorem Mo.drewN {w u : World} {x y m gm gt : Nat} {t : Nat → Nat} (h : Mo w u x y m gm gt t) (q : Nat) : Mo w (u.drewN q) x y m gm gt t := ⟨h.a, h.b, h.r, h.mm, h.tt, Lw.below_drewN h.below q, h.g1, h.g2⟩
theorem RT.on {u v : World} {g : Nat} {t : Nat → Nat} (r : RT u g t) (hb : Below u.heap.size u v) : RT v g t := World.rowIs.of_block r (hb.block g (World.rowIs.lt r))
theorem Mo.on {w u v : World} {x y m gm gt : Nat} {t : Nat → Nat} (h : Mo w u x y m gm gt t) (hb : Below u.heap.size u v) : Mo w v x y m gm gt t := ⟨h.a.on hb, h.b.on hb, h.r.on hb, h.mm.on hb, h.tt.on hb, Lw.go_on h.below hb, h.g1, h.g2⟩
theorem Mo.far {w u : World} {x y m gm gt g j : Nat} {t : Nat → Nat} (h : Mo w u x y m gm gt t) (hg : gt < g) (v : Value) : Mo w (u.setCell ⟨g, j, none⟩ v) x y m gm gt t := by
  have h1 := h.g1
  have h2 := h.g2
  exact ⟨h.a.other (by show _ ≠ g; omega) _, h.b.other (by show _ ≠ g; omega) _, h.r.other (by show _ ≠ g; omega) _, h.mm.other (by show _ ≠ g; omega) _, World.rowIs.setOther h.tt (by show _ ≠ g; omega) _, h.below.setCell (by show _ ≤ g; omega) _, h1, h2⟩
/-- The words while the second half goes on. -/
def sh (f u : Nat → Nat) (j i : Nat) : Nat := if i + 1 < j then f (i + 1) else u i
theorem sh_one (f u : Nat → Nat) (i : Nat) : u i = sh f u 1 i := by unfold sh; rw [if_neg (by omega)]
theorem sh_at (f u : Nat → Nat) (j : Nat) : sh f u j j = u j := by unfold sh; rw [if_neg (by omega)]
theorem sh_next (f u : Nat → Nat) (j i : Nat) (hj : 1 ≤ j) : (if i = j - 1 then f j else sh f u j i) = sh f u (j + 1) i := by
  unfold sh
  by_cases h : i = j - 1
  · rw [if_pos h, if_pos (by omega), show i + 1 = j by omega]
  · rw [if_neg h]
    by_cases h2 : i + 1 < j
    · rw [if_pos h2, if_pos (by omega)]
    · rw [if_neg h2, if_neg (by omega)]
/-- What holds ahead of round i. -/
def Rd (x y m i : Nat) (t : Nat → Nat) : Prop := (∀ j, t j < 4294967296) ∧ t 9 = 0 ∧ nv t 9 < 2 * m ∧ ∃ Q, nv t 9 * 2 ^ (32 * i) = x * nv (lb y) i + m * Q
theorem rd_zero (x y m : Nat) (hm : 0 < m) : Rd x y m 0 (fun _ => 0) := by
  have e : ∀ n, nv (fun _ => 0) n = 0 := by
    intro n
    induction n with
    | zero => rfl
    | succ n ih => show nv (fun _ => 0) n + 0 * 2 ^ (32 * n) = 0; rw [ih, Nat.zero_mul]
  exact ⟨fun _ => (by decide : 0 < 4294967296), rfl, by rw [e]; omega, 0, by rw [e, Nat.zero_mul]; rfl⟩
theorem rd_next {x y m k i : Nat} {t : Nat → Nat} (hx : x < m) (hm : m < B8) (hk : (1 + k * lb m 0) % 4294967296 = 0) (h : Rd x y m i t) (q : Nat) (hq : q = r1 8 t (lb x) (lb y i) 0 * k % 4294967296) :
    Rd x y m (i + 1) (r2 7 (r1 8 t (lb x) (lb y i)) (lb m) q) := by
  obtain ⟨h1, h2, h3, Q, h4⟩ := h
  have hv := round_val (n := 7) (t := t) (x := lb x) (m := lb m) (b := lb y i) hk q hq
  rw [nv8 (Nat.lt_trans hx hm), nv8 hm] at hv
  have hql : q < 4294967296 := by rw [hq]; exact Nat.mod_lt _ (by decide)
  have hl := round_lt h3 hx (lb_lt y i) hql hv
  generalize hu : r1 8 t (lb x) (lb y i) = u at hv hl ⊢
  have h8 : r2 7 u (lb m) q 8 < 4294967296 := by
    have e : nv (r2 7 u (lb m) q) 9 = nv (r2 7 u (lb m) q) 8 + r2 7 u (lb m) q 8 * 2 ^ (32 * 8) := rfl
    rw [← b8] at e
    have hB : B8 * 4294967296 > 2 * B8 := by decide
    refine Classical.byContradiction fun hc => ?_
    have h9 : 4294967296 * B8 ≤ r2 7 u (lb m) q 8 * B8 := Nat.mul_le_mul_right _ (by omega)
    have h10 : nv (r2 7 u (lb m) q) 9 < 2 * m := hl
    generalize r2 7 u (lb m) q 8 * B8 = A at *
    generalize nv (r2 7 u (lb m) q) 8 = A2 at *
    generalize nv (r2 7 u (lb m) q) 9 = A3 at *
    generalize B8 = K at *
    omega
  refine ⟨fun j => ?_, rfl, hl, Q + q * 2 ^ (32 * i), ?_⟩
  · by_cases e8 : j = 8
    · rw [e8]; exact h8
    · unfold r2
      by_cases h7 : j < 7
      · rw [if_pos h7]; exact Nat.mod_lt _ (by decide)
      · rw [if_neg h7]
        by_cases h71 : j = 7
        · rw [if_pos h71]; exact Nat.mod_lt _ (by decide)
        · rw [if_neg h71, if_neg e8]; decide
  · have e : nv (lb y) (i + 1) = nv (lb y) i + lb y i * 2 ^ (32 * i) := rfl
    have e2 : nv (r2 7 u (lb m) q) 9 * 2 ^ (32 * (i + 1)) = 4294967296 * nv (r2 7 u (lb m) q) 9 * 2 ^ (32 * i) := by rw [pw, Nat.mul_comm 4294967296, Nat.mul_assoc, Nat.mul_comm 4294967296]
    have hv' : 4294967296 * nv (r2 7 u (lb m) q) 9 = nv t 9 + x * lb y i + m * q := hv
    rw [e2, hv', e, Nat.add_mul, Nat.add_mul, h4, Nat.mul_add, Nat.mul_add, Nat.mul_assoc x, Nat.mul_assoc m]
    omega
end Go.Proofs.Nu
