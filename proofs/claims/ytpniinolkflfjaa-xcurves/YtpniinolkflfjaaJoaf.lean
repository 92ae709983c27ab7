/-
  Numbers of eight words in blocks of their own: what a long walk keeps of them; states of a drawn region that come together. Of no program.
-/
import Derived.Test.YtpniinolkflfjaaJoae
namespace Go.Proofs.En
open Go.RowKit
open Go.Proofs.Nt
open Go.Proofs.Nu (nmA)
def Cell (t : TypeId) (u : World) (g x : Nat) : Prop := u.heap[g]? = some (.cells (nmA (lb x)) t (0, 0))
theorem Cell.new (t : TypeId) (w : World) (x : Nat) : Cell t (w.alloc (.cells (nmA (lb x)) t)) w.heap.size x := heap_alloc_last _ _
theorem Cell.lt {t : TypeId} {u : World} {g x : Nat} (h : Cell t u g x) : g < u.heap.size := (Array.getElem?_eq_some_iff.1 h).1
theorem Cell.on {t : TypeId} {u v : World} {g x : Nat} (h : Cell t u g x) (hb : Below u.heap.size u v) : Cell t v g x := (hb.block g h.lt).trans h
theorem Cell.alloc {t : TypeId} {u : World} {g x : Nat} (h : Cell t u g x) (ob : Obj) : Cell t (u.alloc ob) g x := h.on ((Below.refl _ _).alloc (Nat.le_refl _) ob)
theorem Cell.put {t : TypeId} {u : World} {g x : Nat} (h : Cell t u g x) (y : Nat) : Cell t (u.setRow g (nmA (lb y))) g y := setRow_heap _ _ _ _ _ _ h
theorem setRow_far {u : World} {g k : Nat} (A : Array Value) (hk : k ≠ g) : (u.setRow g A).heap[k]? = u.heap[k]? := by
  unfold World.setRow
  simp only [Array.getElem?_modify]
  split
  · omega
  · rfl
theorem setRow_size (u : World) (g : Nat) (A : Array Value) : (u.setRow g A).heap.size = u.heap.size := by unfold World.setRow; simp
theorem Cell.far {t : TypeId} {u : World} {g k x : Nat} (h : Cell t u k x) (A : Array Value) (hk : k ≠ g) : Cell t (u.setRow g A) k x := (setRow_far A hk).trans h
/-- Numbers in blocks behind those of w, all below n. -/
structure Env (t : TypeId) (w u : World) (n : Nat) (bs : List (Nat × Nat)) : Prop where
  below : Below w.heap.size w u
  size : n ≤ u.heap.size
  base : w.heap.size ≤ n
  have_ : ∀ k g x : Nat, bs[k]? = some (g, x) → w.heap.size ≤ g ∧ g < n ∧ Cell t u g x
  apart : ∀ j k g x y : Nat, bs[j]? = some (g, x) → bs[k]? = some (g, y) → j = k
section
variable {t : TypeId} {w u v : World} {n : Nat} {bs : List (Nat × Nat)}
theorem Env.start (t : TypeId) (w : World) : Env t w w w.heap.size [] := ⟨Below.refl _ _, Nat.le_refl _, Nat.le_refl _, fun k g x h => by simp at h, fun j k g x y h => by simp at h⟩
theorem Env.get (h : Env t w u n bs) (k : Nat) {g x : Nat} (e : bs[k]? = some (g, x)) : u.heap[g]? = some (.cells (nmA (lb x)) t (0, 0)) := (h.have_ k g x e).2.2
theorem Env.on (h : Env t w u n bs) (hb : Below u.heap.size u v) : Env t w v n bs :=
  ⟨h.below.trans (hb.mono h.below.size), Nat.le_trans h.size hb.size, h.base, fun k g x e => ⟨(h.have_ k g x e).1, (h.have_ k g x e).2.1, (h.have_ k g x e).2.2.on hb⟩, h.apart⟩
theorem Env.drew (h : Env t w u n bs) : Env t w u.drew n bs := h.on (Below.refl _ _).drew
theorem Env.alloc (h : Env t w u n bs) (ob : Obj) : Env t w (u.alloc ob) n bs := h.on ((Below.refl _ _).alloc (Nat.le_refl _) ob)
theorem Env.far (h : Env t w u n bs) {g : Nat} (A : Array Value) (hg : n ≤ g) : Env t w (u.setRow g A) n bs :=
  ⟨below_setRow h.below (Nat.le_trans h.base hg) A, by rw [setRow_size]; exact h.size, h.base, fun k g' x e => ⟨(h.have_ k g' x e).1, (h.have_ k g' x e).2.1, (h.have_ k g' x e).2.2.far A (by have := (h.have_ k g' x e).2.1; omega)⟩, h.apart⟩
theorem Env.grow (h : Env t w u n bs) {m : Nat} (h1 : n ≤ m) (h2 : m ≤ u.heap.size) : Env t w u m bs :=
  ⟨h.below, h2, Nat.le_trans h.base h1, fun k g x e => ⟨(h.have_ k g x e).1, Nat.lt_of_lt_of_le (h.have_ k g x e).2.1 h1, (h.have_ k g x e).2.2⟩, h.apart⟩
theorem Env.cons (h : Env t w u n bs) {g x : Nat} (h1 : n ≤ g) (c : Cell t u g x) : Env t w u (g + 1) ((g, x) :: bs) := by
  refine ⟨h.below, c.lt, by have := h.base; omega, fun k g' x' e => ?_, fun j k g' x' y e1 e2 => ?_⟩
  · cases k with
    | zero =>
      simp only [List.getElem?_cons_zero, Option.some.injEq, Prod.mk.injEq] at e
      obtain ⟨rfl, rfl⟩ := e
      exact ⟨by have := h.base; omega, Nat.lt_succ_self _, c⟩
    | succ k =>
      rw [List.getElem?_cons_succ] at e
      have := h.have_ k g' x' e
      exact ⟨this.1, by omega, this.2.2⟩
  · cases j with
    | zero =>
      cases k with
      | zero => rfl
      | succ k =>
        simp only [List.getElem?_cons_zero, List.getElem?_cons_succ, Option.some.injEq, Prod.mk.injEq] at e1 e2
        have := (h.have_ k g' y e2).2.1
        omega
    | succ j =>
      cases k with
      | zero =>
        simp only [List.getElem?_cons_zero, List.getElem?_cons_succ, Option.some.injEq, Prod.mk.injEq] at e1 e2
        have := (h.have_ j g' x' e1).2.1
        omega
      | succ k =>
        rw [List.getElem?_cons_succ] at e1 e2
        rw [h.apart j k g' x' y e1 e2]
theorem Env.swap {p q : Nat × Nat} (h : Env t w u n (p :: q :: bs)) : Env t w u n (q :: p :: bs) := by
  have key : ∀ k, (q :: p :: bs)[k]? = (p :: q :: bs)[if k = 0 then 1 else if k = 1 then 0 else k]? := fun k => by
    match k with
    | 0 => rfl
    | 1 => rfl
    | k + 2 => rw [if_neg (by omega), if_neg (by omega)]; rfl
  refine ⟨h.below, h.size, h.base, fun k g x e => by rw [key] at e; exact h.have_ _ g x e, fun j k g x y e1 e2 => ?_⟩
  rw [key] at e1 e2
  have := h.apart _ _ g x y e1 e2
  split at this <;> split at this <;> (try split at this) <;> (try split at this) <;> omega
/-- Two new ones, in whatever order they came. -/
theorem Env.two (h : Env t w u n bs) {p q x y : Nat} (h1 : n ≤ p) (h2 : n ≤ q) (h3 : p ≠ q) (c : Cell t u p x) (d : Cell t u q y) : Env t w u u.heap.size ((p, x) :: (q, y) :: bs) := by
  rcases Nat.lt_or_ge p q with hl | hl
  · exact ((h.cons h1 c).cons hl d).swap.grow (by have := d.lt; omega) (Nat.le_refl _)
  · exact ((h.cons h2 d).cons (by omega) c).grow (by have := c.lt; omega) (Nat.le_refl _)
theorem Env.one (h : Env t w u n bs) {p x : Nat} (h1 : n ≤ p) (c : Cell t u p x) : Env t w u u.heap.size ((p, x) :: bs) := (h.cons h1 c).grow c.lt (Nat.le_refl _)
theorem Env.add (h : Env t w u n bs) {p x : Nat} (h1 : w.heap.size ≤ p) (hf : ∀ k y : Nat, ¬ bs[k]? = some (p, y)) (c : Cell t u p x) : Env t w u u.heap.size ((p, x) :: bs) := by
  refine ⟨h.below, Nat.le_refl _, Nat.le_trans h.base h.size, fun k g' x' e => ?_, fun j k g' x' y e1 e2 => ?_⟩
  · cases k with
    | zero =>
      simp only [List.getElem?_cons_zero, Option.some.injEq, Prod.mk.injEq] at e
      obtain ⟨rfl, rfl⟩ := e
      exact ⟨h1, c.lt, c⟩
    | succ k =>
      rw [List.getElem?_cons_succ] at e
      have := h.have_ k g' x' e
      exact ⟨this.1, this.2.2.lt, this.2.2⟩
  · cases j with
    | zero =>
      cases k with
      | zero => rfl
      | succ k =>
        simp only [List.getElem?_cons_zero, List.getElem?_cons_succ, Option.some.injEq, Prod.mk.injEq] at e1 e2
        obtain ⟨rfl, rfl⟩ := e1
        exact absurd e2 (hf k y)
    | succ j =>
      cases k with
      | zero =>
        simp only [List.getElem?_cons_zero, List.getElem?_cons_succ, Option.some.injEq, Prod.mk.injEq] at e1 e2
        obtain ⟨rfl, rfl⟩ := e2
        exact absurd e1 (hf j x')
      | succ k =>
        rw [List.getElem?_cons_succ] at e1 e2
        rw [h.apart j k g' x' y e1 e2]
theorem Env.old (h : Env t w u n bs) {p : Nat} (hp : n ≤ p) : ∀ k y : Nat, ¬ bs[k]? = some (p, y) := fun k y e => by have := (h.have_ k p y e).2.1; omega
theorem new_cons {p q x : Nat} (h : ∀ k y : Nat, ¬ bs[k]? = some (p, y)) (hq : ¬ p = q) : ∀ k y : Nat, ¬ ((q, x) :: bs)[k]? = some (p, y) := fun k y e => by
  cases k with
  | zero =>
    simp only [List.getElem?_cons_zero, Option.some.injEq, Prod.mk.injEq] at e
    exact hq e.1.symm
  | succ k =>
    rw [List.getElem?_cons_succ] at e
    exact h k y e
/-- A number stored over another one. -/
theorem Env.put (h : Env t w u n bs) (k : Nat) {g x : Nat} (e : bs[k]? = some (g, x)) (y : Nat) : Env t w (u.setRow g (nmA (lb y))) n (bs.set k (g, y)) := by
  have h0 := h.have_ k g x e
  have hk : k < bs.length := (List.getElem?_eq_some_iff.1 e).1
  refine ⟨below_setRow h.below h0.1 _, by rw [setRow_size]; exact h.size, h.base, fun j g' x' e' => ?_, fun i j g' x' y' e1 e2 => ?_⟩
  · by_cases hj : j = k
    · subst hj
      rw [List.getElem?_set_self hk] at e'
      simp only [Option.some.injEq, Prod.mk.injEq] at e'
      obtain ⟨rfl, rfl⟩ := e'
      exact ⟨h0.1, h0.2.1, h0.2.2.put y⟩
    · rw [List.getElem?_set_ne (Ne.symm hj)] at e'
      have h1 := h.have_ j g' x' e'
      refine ⟨h1.1, h1.2.1, h1.2.2.far _ fun c => hj ?_⟩
      subst c
      exact h.apart j k g' x' x e' e
  · have key : ∀ i z, (bs.set k (g, y))[i]? = some (g', z) → ∃ z', bs[i]? = some (g', z') := fun i z ei => by
      by_cases hi : i = k
      · subst hi
        rw [List.getElem?_set_self hk] at ei
        simp only [Option.some.injEq, Prod.mk.injEq] at ei
        obtain ⟨rfl, _⟩ := ei
        exact ⟨x, e⟩
      · rw [List.getElem?_set_ne (Ne.symm hi)] at ei
        exact ⟨z, ei⟩
    obtain ⟨z1, f1⟩ := key i x' e1
    obtain ⟨z2, f2⟩ := key j y' e2
    exact h.apart i j g' z1 z2 f1 f2
/-- The newest ones left behind. -/
theorem Env.drop (h : Env t w u n bs) (k : Nat) : Env t w u n (bs.drop k) :=
  ⟨h.below, h.size, h.base, fun j g x e => by rw [List.getElem?_drop] at e; exact h.have_ _ g x e, fun i j g x y e1 e2 => by
    rw [List.getElem?_drop] at e1 e2
    have := h.apart _ _ g x y e1 e2
    omega⟩
end
/-- Several ways through a held region that come together, the frame told by what is laid upon the one at hand. -/
theorem meetH {P : Program} {md : Region.Mode} {ops : Array Oper} {Q : Exit → Act → World → Prop} {S : World → Prop} {n : Nat} {listed : Array Bool} {a : Act} {w : World} {α : Type}
    (F : α → Act → Act) (L : Array Bool) (f : Nat) (C : α → World → Prop) (key : ∀ x W, C x W → wpAnyH P md ops Q S f L (F x a) W)
    (h : (∀ x W, C x W → wpAnyH P md ops Q S f L (F x a) W) → wpAnyH P md ops Q S n listed a w) : wpAnyH P md ops Q S n listed a w := h key
end Go.Proofs.En
