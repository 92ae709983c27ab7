/-
  Rows of any kind in blocks of their own: what a long walk keeps of them. Of no program.
-/
import Derived.Test.YtpniinolkflfjaaJoaf
import Derived.Deep.MidRow
namespace Go.Proofs.Eo
open Go.RowKit
open Go.Proofs.En (setRow_far setRow_size)
/-- A block's type and cells. -/
abbrev Row := TypeId × Array Value
def Cell (u : World) (g : Nat) (x : Row) : Prop := u.heap[g]? = some (.cells x.2 x.1 (0, 0))
theorem Cell.new (t : TypeId) (w : World) (A : Array Value) : Cell (w.alloc (.cells A t)) w.heap.size (t, A) := heap_alloc_last _ _
theorem Cell.lt {u : World} {g : Nat} {x : Row} (h : Cell u g x) : g < u.heap.size := (Array.getElem?_eq_some_iff.1 h).1
theorem Cell.on {u v : World} {g : Nat} {x : Row} (h : Cell u g x) (hb : Below u.heap.size u v) : Cell v g x := (hb.block g h.lt).trans h
theorem Cell.alloc {u : World} {g : Nat} {x : Row} (h : Cell u g x) (ob : Obj) : Cell (u.alloc ob) g x := h.on ((Below.refl _ _).alloc (Nat.le_refl _) ob)
theorem Cell.put {t : TypeId} {u : World} {g : Nat} {A : Array Value} (h : Cell u g (t, A)) (B : Array Value) : Cell (u.setRow g B) g (t, B) := setRow_heap _ _ _ _ _ _ h
theorem Cell.far {u : World} {g k : Nat} {x : Row} (h : Cell u k x) (A : Array Value) (hk : k ≠ g) : Cell (u.setRow g A) k x := (setRow_far A hk).trans h
/-- Numbers in blocks behind those of w, all below n. -/
structure Env (w u : World) (n : Nat) (bs : List (Nat × Row)) : Prop where
  below : Below w.heap.size w u
  size : n ≤ u.heap.size
  base : w.heap.size ≤ n
  have_ : ∀ (k g : Nat) (x : Row), bs[k]? = some (g, x) → w.heap.size ≤ g ∧ g < n ∧ Cell u g x
  apart : ∀ (j k g : Nat) (x y : Row), bs[j]? = some (g, x) → bs[k]? = some (g, y) → j = k
section
variable {w u v : World} {n : Nat} {bs : List (Nat × Row)}
theorem Env.start (w : World) : Env w w w.heap.size [] := ⟨Below.refl _ _, Nat.le_refl _, Nat.le_refl _, fun k g x h => by simp at h, fun j k g x y h => by simp at h⟩
theorem Env.get (h : Env w u n bs) (k : Nat) {g : Nat} {t : TypeId} {A : Array Value} (e : bs[k]? = some (g, (t, A))) : u.heap[g]? = some (.cells A t (0, 0)) := (h.have_ k g _ e).2.2
theorem Env.on (h : Env w u n bs) (hb : Below u.heap.size u v) : Env w v n bs :=
  ⟨h.below.trans (hb.mono h.below.size), Nat.le_trans h.size hb.size, h.base, fun k g x e => ⟨(h.have_ k g x e).1, (h.have_ k g x e).2.1, (h.have_ k g x e).2.2.on hb⟩, h.apart⟩
theorem Env.drew (h : Env w u n bs) : Env w u.drew n bs := h.on (Below.refl _ _).drew
theorem Env.alloc (h : Env w u n bs) (ob : Obj) : Env w (u.alloc ob) n bs := h.on ((Below.refl _ _).alloc (Nat.le_refl _) ob)
theorem Env.far (h : Env w u n bs) {g : Nat} (A : Array Value) (hg : n ≤ g) : Env w (u.setRow g A) n bs :=
  ⟨below_setRow h.below (Nat.le_trans h.base hg) A, by rw [setRow_size]; exact h.size, h.base, fun k g' x e => ⟨(h.have_ k g' x e).1, (h.have_ k g' x e).2.1, (h.have_ k g' x e).2.2.far A (by have := (h.have_ k g' x e).2.1; omega)⟩, h.apart⟩
theorem Env.grow (h : Env w u n bs) {m : Nat} (h1 : n ≤ m) (h2 : m ≤ u.heap.size) : Env w u m bs :=
  ⟨h.below, h2, Nat.le_trans h.base h1, fun k g x e => ⟨(h.have_ k g x e).1, Nat.lt_of_lt_of_le (h.have_ k g x e).2.1 h1, (h.have_ k g x e).2.2⟩, h.apart⟩
theorem Env.cons (h : Env w u n bs) {g : Nat} {x : Row} (h1 : n ≤ g) (c : Cell u g x) : Env w u (g + 1) ((g, x) :: bs) := by
  refine ⟨h.below, c.lt, by have := h.base; omega, fun k g' x' e => ?_, fun j k g' x' y e1 e2 => ?_⟩
  · cases k with
    | zero =>
      simp only [List.getElem?_cons_zero, Option.some.injEq, Prod.mk.injEq] at e
      obtain ⟨rfl, rfl⟩ := e
      exact ⟨by have := h.base; omega, Nat.lt_succ_self _, c⟩
    | succ k =>
      rw [List.getElem?_cons_succ] at e
      have := h.have_ k g' x' e
      exact ⟨this.1, by omega, this.2.2⟩
  · cases j with
    | zero =>
      cases k with
      | zero => rfl
      | succ k =>
        simp only [List.getElem?_cons_zero, List.getElem?_cons_succ, Option.some.injEq, Prod.mk.injEq] at e1 e2
        have := (h.have_ k g' y e2).2.1
        omega
    | succ j =>
      cases k with
      | zero =>
        simp only [List.getElem?_cons_zero, List.getElem?_cons_succ, Option.some.injEq, Prod.mk.injEq] at e1 e2
        have := (h.have_ j g' x' e1).2.1
        omega
      | succ k =>
        rw [List.getElem?_cons_succ] at e1 e2
        rw [h.apart j k g' x' y e1 e2]
theorem Env.swap {p q : Nat × Row} (h : Env w u n (p :: q :: bs)) : Env w u n (q :: p :: bs) := by
  have key : ∀ k, (q :: p :: bs)[k]? = (p :: q :: bs)[if k = 0 then 1 else if k = 1 then 0 else k]? := fun k => by
    match k with
    | 0 => rfl
    | 1 => rfl
    | k + 2 => rw [if_neg (by omega), if_neg (by omega)]; rfl
  refine ⟨h.below, h.size, h.base, fun k g x e => by rw [key] at e; exact h.have_ _ g x e, fun j k g x y e1 e2 => ?_⟩
  rw [key] at e1 e2
  have := h.apart _ _ g x y e1 e2
  split at this <;> split at this <;> (try split at this) <;> (try split at this) <;> omega
/-- Two new ones, in whatever order they came. -/
theorem Env.two (h : Env w u n bs) {p q : Nat} {x y : Row} (h1 : n ≤ p) (h2 : n ≤ q) (h3 : p ≠ q) (c : Cell u p x) (d : Cell u q y) : Env w u u.heap.size ((p, x) :: (q, y) :: bs) := by
  rcases Nat.lt_or_ge p q with hl | hl
  · exact ((h.cons h1 c).cons hl d).swap.grow (by have := d.lt; omega) (Nat.le_refl _)
  · exact ((h.cons h2 d).cons (by omega) c).grow (by have := c.lt; omega) (Nat.le_refl _)
theorem Env.one (h : Env w u n bs) {p : Nat} {x : Row} (h1 : n ≤ p) (c : Cell u p x) : Env w u u.heap.size ((p, x) :: bs) := (h.cons h1 c).grow c.lt (Nat.le_refl _)
theorem Env.add (h : Env w u n bs) {p : Nat} {x : Row} (h1 : w.heap.size ≤ p) (hf : ∀ (k : Nat) (y : Row), ¬ bs[k]? = some (p, y)) (c : Cell u p x) : Env w u u.heap.size ((p, x) :: bs) := by
  refine ⟨h.below, Nat.le_refl _, Nat.le_trans h.base h.size, fun k g' x' e => ?_, fun j k g' x' y e1 e2 => ?_⟩
  · cases k with
    | zero =>
      simp only [List.getElem?_cons_zero, Option.some.injEq, Prod.mk.injEq] at e
      obtain ⟨rfl, rfl⟩ := e
      exact ⟨h1, c.lt, c⟩
    | succ k =>
      rw [List.getElem?_cons_succ] at e
      have := h.have_ k g' x' e
      exact ⟨this.1, this.2.2.lt, this.2.2⟩
  · cases j with
    | zero =>
      cases k with
      | zero => rfl
      | succ k =>
        simp only [List.getElem?_cons_zero, List.getElem?_cons_succ, Option.some.injEq, Prod.mk.injEq] at e1 e2
        obtain ⟨rfl, rfl⟩ := e1
        exact absurd e2 (hf k y)
    | succ j =>
      cases k with
      | zero =>
        simp only [List.getElem?_cons_zero, List.getElem?_cons_succ, Option.some.injEq, Prod.mk.injEq] at e1 e2
        obtain ⟨rfl, rfl⟩ := e2
        exact absurd e1 (hf j x')
      | succ k =>
        rw [List.getElem?_cons_succ] at e1 e2
        rw [h.apart j k g' x' y e1 e2]
theorem Env.old (h : Env w u n bs) {p : Nat} (hp : n ≤ p) : ∀ (k : Nat) (y : Row), ¬ bs[k]? = some (p, y) := fun k y e => by have := (h.have_ k p y e).2.1; omega
theorem new_cons {p q : Nat} {x : Row} (h : ∀ (k : Nat) (y : Row), ¬ bs[k]? = some (p, y)) (hq : ¬ p = q) : ∀ (k : Nat) (y : Row), ¬ ((q, x) :: bs)[k]? = some (p, y) := fun k y e => by
  cases k with
  | zero =>
    simp only [List.getElem?_cons_zero, Option.some.injEq, Prod.mk.injEq] at e
    exact hq e.1.symm
  | succ k =>
    rw [List.getElem?_cons_succ] at e
    exact h k y e
theorem Env.new (h : Env w u n bs) (hn : u.heap.size = n) (t : TypeId) (A : Array Value) : Env w (u.alloc (.cells A t)) (n + 1) ((n, (t, A)) :: bs) := by
  subst hn
  exact (h.alloc (.cells A t)).cons (Nat.le_refl _) (Cell.new t u A)
/-- The same blocks with other rows. -/
theorem Env.chg (h : Env w u n bs) (bs' : List (Nat × Row)) (hl : ∀ (k g : Nat) (x : Row), bs'[k]? = some (g, x) → ∃ y, bs[k]? = some (g, y)) (hb : Below w.heap.size u v) (hs : u.heap.size ≤ v.heap.size)
    (hc : ∀ (k g : Nat) (x : Row), bs'[k]? = some (g, x) → Cell v g x) : Env w v n bs' :=
  ⟨h.below.trans hb, Nat.le_trans h.size hs, h.base, fun k g x e => by
    obtain ⟨y, ey⟩ := hl k g x e
    exact ⟨(h.have_ k g y ey).1, (h.have_ k g y ey).2.1, hc k g x e⟩, fun j k g x y e1 e2 => by
    obtain ⟨x', f1⟩ := hl j g x e1
    obtain ⟨y', f2⟩ := hl k g y e2
    exact h.apart j k g x' y' f1 f2⟩
theorem set_old (bs : List (Nat × Row)) (k g : Nat) (x y : Row) (e : bs[k]? = some (g, x)) (i g' : Nat) (z : Row) (ei : (bs.set k (g, y))[i]? = some (g', z)) : ∃ z', bs[i]? = some (g', z') := by
  have hk : k < bs.length := (List.getElem?_eq_some_iff.1 e).1
  by_cases hi : i = k
  · subst hi
    rw [List.getElem?_set_self hk] at ei
    simp only [Option.some.injEq, Prod.mk.injEq] at ei
    obtain ⟨rfl, _⟩ := ei
    exact ⟨x, e⟩
  · rw [List.getElem?_set_ne (Ne.symm hi)] at ei
    exact ⟨z, ei⟩
/-- A row stored over another one. -/
theorem Env.put (h : Env w u n bs) (k : Nat) {g : Nat} {t : TypeId} {A : Array Value} (e : bs[k]? = some (g, (t, A))) (B : Array Value) : Env w (u.setRow g B) n (bs.set k (g, (t, B))) := by
  have h0 := h.have_ k g _ e
  have hk : k < bs.length := (List.getElem?_eq_some_iff.1 e).1
  refine h.chg _ (fun i g' z ei => set_old bs k g _ _ e i g' z ei) (below_setRow ((Below.refl _ _).mono h.below.size) h0.1 _) (by rw [setRow_size]; exact Nat.le_refl _) fun j g' x' e' => ?_
  by_cases hj : j = k
  · subst hj
    rw [List.getElem?_set_self hk] at e'
    simp only [Option.some.injEq, Prod.mk.injEq] at e'
    obtain ⟨rfl, rfl⟩ := e'
    exact h0.2.2.put B
  · rw [List.getElem?_set_ne (Ne.symm hj)] at e'
    have h1 := h.have_ j g' x' e'
    refine h1.2.2.far _ fun c => hj ?_
    subst c
    exact h.apart j k g' x' _ e' e
/-- Two blocks, and no other one, that are turned. -/
theorem Env.both {p q : Nat} {x y x' y' : Row} (h : Env w u n ((p, x) :: (q, y) :: bs)) (hos : v.os = u.os) (htape : v.tape = u.tape) (hout : v.output = u.output) (hs : u.heap.size ≤ v.heap.size)
    (hb : ∀ k, k < u.heap.size → k ≠ p → k ≠ q → v.heap[k]? = u.heap[k]?) (hx : Cell v p x') (hy : Cell v q y') : Env w v n ((p, x') :: (q, y') :: bs) := by
  have hp := h.have_ 0 p x rfl
  have hq := h.have_ 1 q y rfl
  refine h.chg _ (fun i g' z ei => ?_) ⟨hos, htape, hout, hs, fun k hk => hb k (by have := h.below.size; omega) (by omega) (by omega)⟩ hs fun j g' z e' => ?_
  · match i, ei with
    | 0, ei => simp only [List.getElem?_cons_zero, Option.some.injEq, Prod.mk.injEq] at ei; obtain ⟨rfl, _⟩ := ei; exact ⟨x, rfl⟩
    | 1, ei => simp only [List.getElem?_cons_zero, List.getElem?_cons_succ, Option.some.injEq, Prod.mk.injEq] at ei; obtain ⟨rfl, _⟩ := ei; exact ⟨y, rfl⟩
    | i + 2, ei => exact ⟨z, ei⟩
  · match j, e' with
    | 0, e' => simp only [List.getElem?_cons_zero, Option.some.injEq, Prod.mk.injEq] at e'; obtain ⟨rfl, rfl⟩ := e'; exact hx
    | 1, e' => simp only [List.getElem?_cons_zero, List.getElem?_cons_succ, Option.some.injEq, Prod.mk.injEq] at e'; obtain ⟨rfl, rfl⟩ := e'; exact hy
    | j + 2, e' =>
      have h1 := h.have_ (j + 2) g' z e'
      refine (hb g' h1.2.2.lt (fun c => ?_) fun c => ?_).trans h1.2.2
      · subst c; exact absurd (h.apart (j + 2) 0 g' z x e' rfl) (by omega)
      · subst c; exact absurd (h.apart (j + 2) 1 g' z y e' rfl) (by omega)
/-- Two of them lie apart. -/
theorem Env.ne (h : Env w u n bs) (j k : Nat) {p q : Nat} {x y : Row} (e1 : bs[j]? = some (p, x)) (e2 : bs[k]? = some (q, y)) (hjk : ¬ j = k) : ¬ p = q := fun c => by
  subst c
  exact hjk (h.apart j k p x y e1 e2)
/-- The newest ones left behind. -/
theorem Env.drop (h : Env w u n bs) (k : Nat) : Env w u n (bs.drop k) :=
  ⟨h.below, h.size, h.base, fun j g x e => by rw [List.getElem?_drop] at e; exact h.have_ _ g x e, fun i j g x y e1 e2 => by
    rw [List.getElem?_drop] at e1 e2
    have := h.apart _ _ g x y e1 e2
    omega⟩
theorem Env.range (h : Env w u n bs) (k : Nat) {g : Nat} {t : TypeId} {A : Array Value} (e : bs[k]? = some (g, (t, A))) (o l : Nat) : u.rangeAt g o (A.extract o (o + l)).toList := World.rangeAt_of_block (h.get k e) o l
end
section
variable {P : Program} {S : World → Prop} {a : Act} {o : Oper}
/-- A row loaded out of the middle of a block. -/
theorem load_mid (ty : TypeId) (x : Operand) (ho : o.op = .load ty x) (g k : Nat) (hx : a.eval x = .pointer (some ⟨g, k, none⟩)) (cs : Array Value) (d : TypeDesc)
    (hu : P.underlying ty = some d) (hd : d.isRow = true) (hi : (P.info? ty).map (·.size) = some cs.size) (hg : ∀ w, S w → w.rangeAt g k cs.toList) : ∀ w, S w → (execOp a.eval o).run P w = .ok (.value (.agg cs)) w := fun w hw => by
  have h := run_loadVar_mid w g k ty cs.toList d (hg w hw) hu hd (by rw [hi, Array.length_toList])
  rw [Array.toArray_toList] at h
  unfold execOp
  simp only [ho, hx, Instr.loadAt, Instr.sureAddr, Sem.run_bind, Sem.run_pure, Result.andThen_ok, h]
end
theorem results_row_row {P : Program} {fn : Func} {p q : Tmp} {ty ty2 : TypeId} (h : fn.results = #[.cell p ty, .cell q ty2]) (tmps : Array Value) (w : World) (g g2 : Nat) (t t2 : TypeId) (cs cs2 : Array Value) (fr fr2 : Nat × Nat) (d d2 : TypeDesc)
    (hp : tmps.getD p undef = .pointer (some ⟨g, 0, none⟩)) (hq : tmps.getD q undef = .pointer (some ⟨g2, 0, none⟩)) (hg : w.heap[g]? = some (.cells cs t fr)) (hg2 : w.heap[g2]? = some (.cells cs2 t2 fr2))
    (hu : P.underlying ty = some d) (hd : (match d with | .struct _ | .array _ _ => true | _ => false) = true) (hi : (P.info? ty).map (·.size) = some cs.size)
    (hu2 : P.underlying ty2 = some d2) (hd2 : (match d2 with | .struct _ | .array _ _ => true | _ => false) = true) (hi2 : (P.info? ty2).map (·.size) = some cs2.size) :
    (results fn tmps).run P w = .ok (.tuple #[.agg cs, .agg cs2]) w := by
  have hp' : tmps[p]?.getD undef = .pointer (some ⟨g, 0, none⟩) := by simpa using hp
  have hq' : tmps[q]?.getD undef = .pointer (some ⟨g2, 0, none⟩) := by simpa using hq
  simp [results, h, hp', hq', asAddr, run_loadVar_row w g t ty cs fr d hg hu hd hi, run_loadVar_row w g2 t2 ty2 cs2 fr2 d2 hg2 hu2 hd2 hi2]
end Go.Proofs.Eo
