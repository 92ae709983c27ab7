/-
  Two operations that only read, ready at once in a region that draws: one way for both orders. Of no program.
-/
import Derived.Test.YtbkfpaodicfmhaaImR
namespace Go.Proofs.Im
open Go.RowKit
section
variable {P : Program} {md : Region.Mode} {ops : Array Oper} {Q : Exit → Act → World → Prop} {fuel i j : Nat} {listed : Array Bool} {a : Act} {w : World} {o oi oj : Oper} {rs : List Nat}
theorem ready_one (ho : ops[i]? = some o) (hg : o.guard = none) (v : Value) (w' : World) (hr : (execOp a.eval o).run P w = .ok (.value v) w')
    (h : wpAny P md ops Q fuel (listed.setIfInBounds i true) (a.put o.dst v) w')
    (hs : AllReady P md ops Q fuel listed a w rs) : AllReady P md ops Q fuel listed a w (i :: rs) :=
  ready_plain ho hg (fun _ hK => by unfold Oper.wp; rw [hr]; exact hK _ _ h) hs
theorem ready_call2 (di : Option Tmp) (ho : ops[i]? = some o) (hg : o.guard = none) (hdi : o.dst = di) (f : FuncId) (xs : Array Operand) (ats : Array TypeId) (hop : o.op = .call { callee := .value (.func f), args := xs, argTypes := ats })
    (hr : ∀ args w, (callFunc f args).run P w = .ok (.enter f args) w) (args : Array Value) (ha : xs.map a.eval = args)
    (h : Calls P f args w fun e u => ∃ v, e = .returned v ∧ wpAny P md ops Q fuel (listed.setIfInBounds i true) (a.put di v) u)
    (hs : AllReady P md ops Q fuel listed a w rs) : AllReady P md ops Q fuel listed a w (i :: rs) := by
  subst hdi
  exact ready_call ho hg f xs ats hop hr args ha h hs
theorem ready_one2 (di : Option Tmp) (ho : ops[i]? = some o) (hg : o.guard = none) (hdi : o.dst = di) (v : Value) (w' : World) (hr : (execOp a.eval o).run P w = .ok (.value v) w')
    (h : wpAny P md ops Q fuel (listed.setIfInBounds i true) (a.put di v) w')
    (hs : AllReady P md ops Q fuel listed a w rs) : AllReady P md ops Q fuel listed a w (i :: rs) := by
  subst hdi
  exact ready_one ho hg v w' hr h hs
theorem ready_skip (ho : ops[i]? = some o) (hg : o.guard = none) (hdi : o.dst = none) (w' : World) (hr : (execOp a.eval o).run P w = .ok .skip w')
    (h : wpAny P md ops Q fuel (listed.setIfInBounds i true) a w')
    (hs : AllReady P md ops Q fuel listed a w rs) : AllReady P md ops Q fuel listed a w (i :: rs) :=
  ready_plain ho hg (fun _ hK => by unfold Oper.wp; rw [hr]; exact hK _ _ (by rw [hdi]; exact h)) hs
theorem wpAny_two (di dj : Option Tmp) (v1 v2 : Value) (hr : Region.ready md ops listed = [i, j]) (h1 : Region.ready md ops (listed.setIfInBounds i true) = [j]) (h2 : Region.ready md ops (listed.setIfInBounds j true) = [i])
    (hi : ops[i]? = some oi) (hj : ops[j]? = some oj) (gi : oi.guard = none) (gj : oj.guard = none) (hdi : oi.dst = di) (hdj : oj.dst = dj)
    (hp : (a.put dj v2).put di v1 = (a.put di v1).put dj v2) (hl : (listed.setIfInBounds j true).setIfInBounds i true = (listed.setIfInBounds i true).setIfInBounds j true)
    (e1 : (execOp a.eval oi).run P w = .ok (.value v1) w) (e2 : (execOp (a.put di v1).eval oj).run P w = .ok (.value v2) w)
    (e3 : (execOp a.eval oj).run P w = .ok (.value v2) w) (e4 : (execOp (a.put dj v2).eval oi).run P w = .ok (.value v1) w)
    (h : wpAny P md ops Q fuel ((listed.setIfInBounds i true).setIfInBounds j true) ((a.put di v1).put dj v2) w) : wpAny P md ops Q (fuel + 2) listed a w := by
  subst hdi hdj
  refine wpAny_ready (rs := [i, j]) hr (by simp) ?_
  refine ready_one hi gi v1 w e1 ?_ (ready_one hj gj v2 w e3 ?_ AllReady.nil)
  · exact wpAny_ready (rs := [j]) h1 (by simp) (ready_one hj gj v2 w e2 h AllReady.nil)
  · refine wpAny_ready (rs := [i]) h2 (by simp) (ready_one hi gi v1 w e4 ?_ AllReady.nil)
    rw [hp, hl]; exact h
end
end Go.Proofs.Im
