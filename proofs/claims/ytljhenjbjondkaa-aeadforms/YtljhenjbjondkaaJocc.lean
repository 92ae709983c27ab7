/-
  The three suites: forms for AeadForms: which calls are answered.
-/
import Derived.Test.YtljhenjbjondkaaJocb
namespace Go.Proofs.Ew
open Go.RowKit
open Go.Proofs.Ad
/-- A call of the right form: sealed; twenty bytes opened, or told to be wrong and left alone; twenty bytes sealed. -/
theorem forms_fine (z : Int) (K N : ByteArray) (h0 : sizE z = 0) (h1 : (K.size : Int) = sizK z) (hn : N.size = 12) :
    s8E z K N ⟨#[]⟩ ⟨#[97]⟩ = 0 ∧ (∀ A : ByteArray, A.size = 20 → o8E z K N ⟨#[]⟩ A = 0 ∨ (o8E z K N ⟨#[]⟩ A = 801 ∧ o8X z K N ⟨#[]⟩ A = A)) ∧ (∀ A : ByteArray, A.size = 20 → i8E z K N ⟨#[]⟩ A = 0) := by
  have e0 : (⟨#[]⟩ : ByteArray).size ≤ 65536 := by decide
  have e1 : (⟨#[97]⟩ : ByteArray).size ≤ 65536 := by decide
  refine ⟨?_, fun A hA => ?_, fun A hA => ?_⟩
  · unfold s8E
    rw [(s8_iff z K N ⟨#[]⟩ ⟨#[97]⟩).2 ⟨⟨⟨h0, h1⟩, hn, e0⟩, e1⟩]; rfl
  · have f := (o8_iff z K N ⟨#[]⟩ A).2 ⟨⟨⟨h0, h1⟩, hn, e0⟩, by omega⟩
    unfold o8E o8X
    rw [f]
    cases o8B z K N ⟨#[]⟩ A
    · exact .inr ⟨rfl, rfl⟩
    · exact .inl rfl
  · have f : s8Ok z K N ⟨#[]⟩ (A.extract 0 (A.size - 16)) = true := (s8_iff z K N ⟨#[]⟩ _).2 ⟨⟨⟨h0, h1⟩, hn, e0⟩, by rw [ByteArray.size_extract]; omega⟩
    unfold i8E i8Ok
    rw [f, decide_eq_true (by omega)]; rfl
/-- Any other call. -/
theorem forms_no (z : Int) (K N : ByteArray) (h : ¬ (sizE z = 0 ∧ (K.size : Int) = sizK z ∧ N.size = 12)) :
    s8E z K N ⟨#[]⟩ ⟨#[97]⟩ = 800 ∧ (∀ A : ByteArray, o8E z K N ⟨#[]⟩ A = 800 ∧ o8X z K N ⟨#[]⟩ A = A) ∧ (∀ A : ByteArray, i8E z K N ⟨#[]⟩ A = 800) := by
  have f : f8 z K N ⟨#[]⟩ = false := by
    cases hf : f8 z K N ⟨#[]⟩
    · rfl
    · obtain ⟨⟨h0, h1⟩, h2, _⟩ := (f8_iff z K N ⟨#[]⟩).1 hf
      exact absurd ⟨h0, h1, h2⟩ h
  refine ⟨?_, fun A => ⟨?_, ?_⟩, fun A => ?_⟩
  · unfold s8E s8Ok; rw [f]; rfl
  · unfold o8E o8F; rw [f]; rfl
  · unfold o8X o8F; rw [f]; rfl
  · unfold i8E i8Ok s8Ok; rw [f, Bool.false_and, Bool.and_false]; rfl
theorem there_iff (z : Int) : sizE z = 0 ↔ 4865 ≤ z ∧ z ≤ 4867 := by
  constructor
  · intro h; rcases siz_ok h with rfl | rfl | rfl <;> decide
  · intro h
    rcases (show z = 4865 ∨ z = 4866 ∨ z = 4867 by omega) with rfl | rfl | rfl <;> rfl
theorem there_no {z : Int} (h : ¬ (4865 ≤ z ∧ z ≤ 4867)) : sizE z = 800 := (siz_none (fun e => h (by omega)) (fun e => h (by omega)) (fun e => h (by omega))).2.2
theorem seg_conv {D W : World} {gx : Nat} {Y : Nat → Nat} {V : ByteArray} (h : Seg D gx 0 20 Y) (hv : Lw.pieceS Y 0 20 = V) (hb : Below D.heap.size D W) : (Go.convert 27 9 (.slice (some ⟨gx, 0, none⟩) 20 20)).run Try.prog W = .ok (.string V) W := by
  have := (h.on hb).text 20
  rw [hv] at this
  exact this
theorem maskN7 (z : Int) : ∃ n : Nat, n ≤ 7 ∧ bits .and .i64 z 7 = (n : Int) := ⟨_, Nat.and_le_right, Lw.and_of z 7 (by omega)⟩
/-- All ways through AeadForms: what four calls answer, and what twenty noughts are turned to. -/
theorem forms_ways (z : Int) (K N Z : ByteArray) (hZ : Z.size = 20) :
    ((4865 ≤ z ∧ z ≤ 4867) ∧ (K.size : Int) = sizK z ∧ N.size = 12 ∧ 0 = sizE z ∧ 0 = s8E z K N ⟨#[]⟩ ⟨#[97]⟩ ∧ 0 = o8E z K N ⟨#[]⟩ Z ∧ 0 = i8E z K N ⟨#[]⟩ (o8X z K N ⟨#[]⟩ Z)) ∨
    ((4865 ≤ z ∧ z ≤ 4867) ∧ (K.size : Int) = sizK z ∧ N.size = 12 ∧ 0 = sizE z ∧ 0 = s8E z K N ⟨#[]⟩ ⟨#[97]⟩ ∧ (801 = o8E z K N ⟨#[]⟩ Z ∧ o8X z K N ⟨#[]⟩ Z = Z) ∧ 0 = i8E z K N ⟨#[]⟩ (o8X z K N ⟨#[]⟩ Z)) ∨
    ((4865 ≤ z ∧ z ≤ 4867) ∧ ¬ (K.size : Int) = sizK z ∧ 0 = sizE z ∧ 800 = s8E z K N ⟨#[]⟩ ⟨#[97]⟩ ∧ (800 = o8E z K N ⟨#[]⟩ Z ∧ o8X z K N ⟨#[]⟩ Z = Z) ∧ 800 = i8E z K N ⟨#[]⟩ (o8X z K N ⟨#[]⟩ Z)) ∨
    ((4865 ≤ z ∧ z ≤ 4867) ∧ (K.size : Int) = sizK z ∧ ¬ N.size = 12 ∧ 0 = sizE z ∧ 800 = s8E z K N ⟨#[]⟩ ⟨#[97]⟩ ∧ (800 = o8E z K N ⟨#[]⟩ Z ∧ o8X z K N ⟨#[]⟩ Z = Z) ∧ 800 = i8E z K N ⟨#[]⟩ (o8X z K N ⟨#[]⟩ Z)) ∨
    (¬ (4865 ≤ z ∧ z ≤ 4867) ∧ 800 = sizE z ∧ 800 = s8E z K N ⟨#[]⟩ ⟨#[97]⟩ ∧ (800 = o8E z K N ⟨#[]⟩ Z ∧ o8X z K N ⟨#[]⟩ Z = Z) ∧ 800 = i8E z K N ⟨#[]⟩ (o8X z K N ⟨#[]⟩ Z)) := by
  by_cases hz : 4865 ≤ z ∧ z ≤ 4867
  · have h0 := (there_iff z).2 hz
    by_cases hk : (K.size : Int) = sizK z
    · by_cases hn : N.size = 12
      · obtain ⟨f1, f2, f3⟩ := forms_fine z K N h0 hk hn
        have hx : (o8X z K N ⟨#[]⟩ Z).size = 20 := by
          rcases o8_cases z K N ⟨#[]⟩ Z with ⟨_, e, e2⟩ | ⟨_, e, _⟩
          · rw [e, ByteArray.size_append, ByteArray.size_extract]; omega
          · rw [e]; exact hZ
        rcases f2 Z hZ with g | ⟨g, g2⟩
        · exact .inl ⟨hz, hk, hn, h0.symm, f1.symm, g.symm, (f3 _ hx).symm⟩
        · exact .inr (.inl ⟨hz, hk, hn, h0.symm, f1.symm, ⟨g.symm, g2⟩, (f3 _ hx).symm⟩)
      · obtain ⟨f1, f2, f3⟩ := forms_no z K N (fun h => hn h.2.2)
        exact .inr (.inr (.inr (.inl ⟨hz, hk, hn, h0.symm, f1.symm, ⟨(f2 Z).1.symm, (f2 Z).2⟩, (f3 _).symm⟩)))
    · obtain ⟨f1, f2, f3⟩ := forms_no z K N (fun h => hk h.2.1)
      exact .inr (.inr (.inl ⟨hz, hk, h0.symm, f1.symm, ⟨(f2 Z).1.symm, (f2 Z).2⟩, (f3 _).symm⟩))
  · obtain ⟨f1, f2, f3⟩ := forms_no z K N (fun h => hz ((there_iff z).1 h.1))
    exact .inr (.inr (.inr (.inr ⟨hz, (there_no hz).symm, f1.symm, ⟨(f2 Z).1.symm, (f2 Z).2⟩, (f3 _).symm⟩)))
end Go.Proofs.Ew
namespace Go.Proofs.Ew
open Go.RowKit
section
variable {P : Program} {md : Region.Mode} {ops : Array Oper} {Q : Exit → Act → World → Prop} {fuel i : Nat} {listed : Array Bool} {a : Act} {w : World} {o : Oper} {rs : List Nat}
/-- A call whose guard lets it be made, as a step of a region that draws. -/
theorem ready_callG (di : Option Tmp) (ho : ops[i]? = some o) (hw : Region.wanted o (yielded ops a.tmps) = true) (hdi : o.dst = di) (f : FuncId) (xs : Array Operand) (ats : Array TypeId) (hop : o.op = .call { callee := .value (.func f), args := xs, argTypes := ats })
    (hr : ∀ args w, (callFunc f args).run P w = .ok (.enter f args) w) (args : Array Value) (ha : xs.map a.eval = args)
    (h : Calls P f args w fun e u => ∃ v, e = .returned v ∧ wpAny P md ops Q fuel (listed.setIfInBounds i true) (a.put di v) u)
    (hs : AllReady P md ops Q fuel listed a w rs) : AllReady P md ops Q fuel listed a w (i :: rs) := by
  subst hdi
  refine AllReady.cons ho (fun K hK => ?_) hs
  rw [if_pos hw]
  subst ha
  have e1 : execOp a.eval o = callFunc f (xs.map a.eval) := by
    have ef : a.eval (.func f) = .func (.func f) #[] #[] := rfl
    unfold execOp
    simp [hop, resolve, Deferred.ofValue, invoke, ef]
  unfold Oper.wp
  rw [e1, hr]
  refine h.mono ?_
  rintro e u ⟨v, rfl, hv⟩
  exact hK _ _ hv
end
end Go.Proofs.Ew
