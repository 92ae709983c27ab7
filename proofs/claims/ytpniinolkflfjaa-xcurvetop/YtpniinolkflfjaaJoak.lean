/-
  A region that draws its order, whose operations only read, call what only reads and draws, and whose last operation waits for all the others: one walk in the order of the text serves every order, and behind it the last operation. Of no program.
-/
import Derived.RegionTactic
import Derived.StillTail
import Derived.BigQuiet
import Derived.Deep.QuietTactic
import Derived.Test.YtpniinolkflfjaaJoaa
namespace Go.Proofs.Im
open Go.RowKit
section
variable {P : Program} {md : Region.Mode} {hd : List Oper} {o : Oper} {C : World → Prop} {Q : Act → Prop} {Q' : Exit → Act → World → Prop}
theorem push_lt (l : Array Bool) (i : Nat) (d : Bool) (h : i < l.size) : (l.push false).getD i d = l.getD i d := by
  simp [Array.getElem?_push, Nat.ne_of_lt h]
theorem push_last (l : Array Bool) (d : Bool) : (l.push false).getD l.size d = false := by simp
theorem push_set (l : Array Bool) (i : Nat) (h : i < l.size) : (l.push false).setIfInBounds i true = (l.setIfInBounds i true).push false := by
  apply Array.ext_getElem?
  intro j
  simp only [Array.getElem?_setIfInBounds, Array.getElem?_push, Array.size_push, Array.size_setIfInBounds]
  by_cases h1 : i = j
  · subst h1
    rw [if_pos rfl, if_pos (by omega), if_neg (by omega), if_pos rfl, if_pos h]
  · rw [if_neg h1, if_neg h1]
theorem get_head {i : Nat} (h : i < hd.length) : (hd ++ [o]).toArray[i]? = hd.toArray[i]? := by
  simp [List.getElem?_append_left h]
theorem get_last : (hd ++ [o]).toArray[hd.length]? = some o := by simp
/-- Every operation waits for earlier ones alone. -/
def Early (md : Region.Mode) (l : List Oper) : Prop := ∀ (i : Nat) (oi : Oper), l.toArray[i]? = some oi → ∀ e ∈ oi.after, Region.binds md e = true → e.on < i
/-- Each one but the last is waited for. -/
def Sunk (md : Region.Mode) (l : List Oper) (n : Nat) : Prop := ∀ i, i < n → ∃ j oj, i < j ∧ j ≤ n ∧ l.toArray[j]? = some oj ∧ ∃ e ∈ oj.after, Region.binds md e = true ∧ e.on = i
theorem unlisted {l : Array Bool} {i : Nat} (hi : i < l.size) (h : ¬ l.getD i false = true) : l.getD i true = false := by
  simp [hi] at h ⊢; exact h
theorem listed_of_none {listed : Array Bool} (hE : Early md hd) (hn : listed.size = hd.length) (h : Region.ready md hd.toArray listed = []) : ∀ i, i < hd.length → listed.getD i false = true := by
  intro i
  induction i using Nat.strongRecOn with
  | _ i ih =>
    intro hi
    by_cases hl : listed.getD i false = true
    · exact hl
    · have hoi : hd.toArray[i]? = some hd[i] := by simp [hi]
      have : i ∈ Region.ready md hd.toArray listed := mem_ready.2 ⟨unlisted (by omega) hl, _, hoi, fun e he hb => ih e.on (hE i _ hoi e he hb) (Nat.lt_trans (hE i _ hoi e he hb) hi)⟩
      rw [h] at this; cases this
theorem tail_only {listed : Array Bool} (hE : Early md (hd ++ [o])) (hn : listed.size = hd.length) (hl : ∀ i, i < hd.length → listed.getD i false = true)
    {a : Act} {w : World} (h : wpOp P (hd ++ [o]).toArray Q' hd.length (fun a w => Q' .normal a w) a w) : ∀ k, wpAny P md (hd ++ [o]).toArray Q' (k + 1) (listed.push false) a w := by
  intro k
  have hr : ∀ i, i ∈ Region.ready md (hd ++ [o]).toArray (listed.push false) → i = hd.length := fun i hi => by
    obtain ⟨h0, oi, hoi, _⟩ := mem_ready.1 hi
    have hlt : i < hd.length + 1 := by have := (Array.getElem?_eq_some_iff.1 hoi).1; simpa using this
    by_cases hih : i < hd.length
    · rw [push_lt _ _ _ (by omega)] at h0
      have := hl i hih
      simp [show i < listed.size by omega] at h0 this
      rw [h0] at this; cases this
    · omega
  have hin : hd.length ∈ Region.ready md (hd ++ [o]).toArray (listed.push false) :=
    mem_ready.2 ⟨by rw [← hn]; exact push_last _ _, o, get_last, fun e he hb => by
      have := hE hd.length o get_last e he hb
      rw [push_lt _ _ _ (by omega)]; exact hl _ this⟩
  have hdone : Region.ready md (hd ++ [o]).toArray ((listed.push false).setIfInBounds hd.length true) = [] := by
    apply List.eq_nil_iff_forall_not_mem.2
    intro i hi
    obtain ⟨h0, oi, hoi, _⟩ := mem_ready.1 hi
    have hlt : i < hd.length + 1 := by have := (Array.getElem?_eq_some_iff.1 hoi).1; simpa using this
    by_cases hih : i < hd.length
    · rw [getD_set_ne true (by omega), push_lt _ _ _ (by omega)] at h0
      have := hl i hih
      simp [show i < listed.size by omega] at h0 this
      rw [h0] at this; cases this
    · obtain rfl : i = hd.length := by omega
      simp [hn] at h0
  refine ⟨fun h0 => (by rw [h0] at hin; cases hin), fun i hi => ?_⟩
  obtain rfl := hr i hi
  refine wpOp_mono (fun a' w' h' => ?_) h
  cases k with
  | zero => exact ⟨hdone, h'⟩
  | succ k => exact ⟨fun _ => h', fun j hj => (by rw [hdone] at hj; cases hj)⟩
theorem quiet_tail (hE : Early md (hd ++ [o])) (hS : Sunk md (hd ++ [o]) hd.length) (hg : ∀ x ∈ hd, x.guard = none)
    (hT : ∀ a w, C w → Q a → wpOp P (hd ++ [o]).toArray Q' hd.length (fun a w => Q' .normal a w) a w) :
    ∀ (f : Nat) (listed : Array Bool) (a : Act) (w : World), listed.size = hd.length →
      (∀ j oj, hd.toArray[j]? = some oj → listed.getD j false = true → ∀ e ∈ oj.after, Region.binds md e = true → listed.getD e.on false = true) →
      C w → wpAnyQ P md hd.toArray C Q f listed a → wpAny P md (hd ++ [o]).toArray Q' (f + 1) (listed.push false) a w := by
  have hE' : Early md hd := fun i oi hi => by
    have hlt : i < hd.length := by have := (Array.getElem?_eq_some_iff.1 hi).1; simpa using this
    exact hE i oi (by rw [get_head hlt]; exact hi)
  intro f
  induction f with
  | zero =>
    intro listed a w hn _ hC h
    exact tail_only hE hn (listed_of_none hE' hn h.1) (hT a w hC h.2) 0
  | succ f ih =>
    intro listed a w hn hcl hC h
    by_cases h0 : Region.ready md hd.toArray listed = []
    · exact tail_only hE hn (listed_of_none hE' hn h0) (hT a w hC (h.1 h0)) (f + 1)
    · have hup : ∀ i, i ∈ Region.ready md hd.toArray listed → i ∈ Region.ready md (hd ++ [o]).toArray (listed.push false) := fun i hi => by
        obtain ⟨h1, oi, hoi, h2⟩ := mem_ready.1 hi
        have hlt : i < hd.length := by have := (Array.getElem?_eq_some_iff.1 hoi).1; simpa using this
        refine mem_ready.2 ⟨by rw [push_lt _ _ _ (by omega)]; exact h1, oi, by rw [get_head hlt]; exact hoi, fun e he hb => ?_⟩
        have := hE' i oi hoi e he hb
        rw [push_lt _ _ _ (by omega)]; exact h2 e he hb
      refine ⟨fun h1 => ?_, fun i hi => ?_⟩
      · obtain ⟨i, hi⟩ := List.exists_mem_of_ne_nil _ h0
        have := hup i hi
        rw [h1] at this; cases this
      · obtain ⟨h1, oi, hoi, h2⟩ := mem_ready.1 hi
        have hle : i < hd.length + 1 := by have := (Array.getElem?_eq_some_iff.1 hoi).1; simpa using this
        by_cases hlt : i < hd.length
        · have hoi' : hd.toArray[i]? = some oi := by rw [← get_head (o := o) hlt]; exact hoi
          have hdeps : ∀ e ∈ oi.after, Region.binds md e = true → listed.getD e.on false = true := fun e he hb => by
            have := hE' i oi hoi' e he hb
            rw [← push_lt listed e.on false (by omega)]; exact h2 e he hb
          have hi' : i ∈ Region.ready md hd.toArray listed := mem_ready.2 ⟨by rw [← push_lt listed i true (by omega)]; exact h1, oi, hoi', hdeps⟩
          have hq := h.2 i hi'
          have hgd : oi.guard = none := hg oi (by have := Array.mem_of_getElem? hoi'; simpa using this)
          have hw : ∀ y, Region.wanted oi y = true := fun y => by simp [Region.wanted, hgd]
          unfold qOp at hq
          simp only [hoi', hw, if_true] at hq
          unfold wpOp
          simp only [hoi, hw, if_true]
          refine Or.inl (Oper.wp_of_quiet hC (fun a' w' hC' hK => ?_) hq)
          rw [push_set _ _ (by omega)]
          refine ih _ a' w' (by simpa using hn) (fun j oj hj hl e he hb => ?_) hC' hK
          by_cases hij : i = j
          · subst hij
            obtain rfl : oj = oi := Option.some.inj (hj.symm.trans hoi')
            exact getD_set_true (hdeps e he hb)
          · rw [getD_set_ne false hij] at hl
            exact getD_set_true (hcl j oj hj hl e he hb)
        · obtain rfl : i = hd.length := by omega
          have hall : ∀ d k, hd.length - k = d → k < hd.length → listed.getD k false = true := by
            intro d
            induction d using Nat.strongRecOn with
            | _ d ihd =>
              intro k hk hkl
              obtain ⟨j, oj, hkj, hjn, hoj, e, he, hb, hon⟩ := hS k hkl
              by_cases hje : j = hd.length
              · subst hje
                obtain rfl : oj = oi := Option.some.inj (hoj.symm.trans hoi)
                have := h2 e he hb
                rw [hon, push_lt _ _ _ (by omega)] at this; exact this
              · have hjl : j < hd.length := by omega
                have := hcl j oj (by rw [← get_head (o := o) hjl]; exact hoj) (ihd (hd.length - j) (by omega) j rfl hjl) e he hb
                rwa [hon] at this
          exfalso
          apply h0
          apply List.eq_nil_iff_forall_not_mem.2
          intro i hi
          obtain ⟨h3, oi', hoi', _⟩ := mem_ready.1 hi
          have hlt' : i < hd.length := by have := (Array.getElem?_eq_some_iff.1 hoi').1; simpa using this
          have := hall _ i rfl hlt'
          simp [show i < listed.size by omega] at h3 this
          rw [h3] at this; cases this
/-- What is asked of the region's form: a Bool that the kernel reckons. -/
def tailB (l : List Oper) (n : Nat) : Bool :=
  decide (l.length = n + 1) && Region.lexB .any (l.take n).toArray && (l.take n).all (fun x => x.guard.isNone)
    && (List.range l.length).all (fun i => ((l[i]?).map fun x => x.after.all fun e => !Region.binds .any e || decide (e.on < i)).getD false)
    && (List.range n).all (fun i => (List.range (n + 1)).any fun j => decide (i < j) && ((l[j]?).map fun x => x.after.any fun e => Region.binds .any e && e.on == i).getD false)
theorem wp_region_quiet_tail {id : Nat} {Q : Exit → Act → World → Prop} {a : Act} {w : World} {l : List Oper} (n : Nat) (hm : P.follows .mixedOrders = true) (hB : tailB l n = true)
    (h : wpQuiet P (l.take n).toArray (fun w' => ∃ k, w' = w.drewN k) (fun a' => ∀ k, wpList P l.toArray Q (l.drop n) a' (w.drewN k)) (l.take n) a) : (Code.region id l.toArray true).wp P Q a w := by
  unfold tailB at hB
  simp only [Bool.and_eq_true, decide_eq_true_eq] at hB
  obtain ⟨⟨⟨⟨hlen, hlex⟩, hgd⟩, hE⟩, hS⟩ := hB
  have hlast : ∃ o, l.drop n = [o] := by
    have : (l.drop n).length = 1 := by simp; omega
    exact List.length_eq_one_iff.1 this
  obtain ⟨o, ho⟩ := hlast
  have hl : l = l.take n ++ [o] := by rw [← ho]; exact (List.take_append_drop n l).symm
  have hhd : (l.take n).length = n := by simp; omega
  have hEarly : Early .any l := fun i oi hi e he hb => by
    have hi2 : l[i]? = some oi := by simpa using hi
    have hlt : i < l.length := (List.getElem?_eq_some_iff.1 hi2).1
    have h1 := List.all_eq_true.1 hE i (List.mem_range.2 hlt)
    rw [hi2] at h1
    simp only [Option.map_some, Option.getD_some] at h1
    have h2 := Array.all_eq_true_iff_forall_mem.1 h1 e he
    simpa [hb] using h2
  have hSunk : Sunk .any l n := fun i hi => by
    obtain ⟨j, hj, hj2⟩ := List.any_eq_true.1 (List.all_eq_true.1 hS i (List.mem_range.2 hi))
    simp only [Bool.and_eq_true, decide_eq_true_eq] at hj2
    obtain ⟨hij, hx⟩ := hj2
    cases hlj : l[j]? with
    | none => rw [hlj] at hx; cases hx
    | some oj =>
      rw [hlj] at hx
      simp only [Option.map_some, Option.getD_some] at hx
      obtain ⟨e, he, hb⟩ := Array.any_eq_true'.1 hx
      simp only [Bool.and_eq_true, beq_iff_eq] at hb
      exact ⟨j, oj, hij, by have := List.mem_range.1 hj; omega, by simpa using hlj, e, he, hb.1, hb.2⟩
  simp only [Region.lexB, Bool.and_eq_true] at hlex
  refine wp_region_any hm ?_
  have hq := wpAnyQ_lex (C := fun w' => ∃ k, w' = w.drewN k) (md := .any) hlex.1 (l.take n) 0 (Array.replicate (l.take n).toArray.size false) a (by simp) (by simpa using hlex.2) h
  have key := quiet_tail (md := .any) (hd := l.take n) (o := o) (C := fun w' => ∃ k, w' = w.drewN k) (Q := fun a' => ∀ k, wpList P l.toArray Q (l.drop n) a' (w.drewN k)) (Q' := Q)
    (by rw [← hl]; exact hEarly) (by rw [← hl, hhd]; exact hSunk) (fun x hx => by have := List.all_eq_true.1 hgd x hx; simpa using this)
    (fun a' w' hC hq => by
      obtain ⟨k, rfl⟩ := hC
      have h1 := hq k
      rw [ho] at h1
      unfold wpOp
      rw [get_last]
      rw [← hl]
      exact h1)
    (l.take n).length (Array.replicate (l.take n).toArray.size false) a { w with drawn := w.drawn + 1 } (by simp) (fun j oj _ hj => (by rw [getD_replicate_false] at hj; cases hj)) ⟨1, rfl⟩ hq
  rw [← hl, hhd, show (l.take n).toArray.size = n by simpa using hhd, ← Array.replicate_succ] at key
  rw [show l.toArray.size = n + 1 by simpa using hlen]
  exact key
end
end Go.Proofs.Im
/-
  Laws for a region that draws its order: a load, a call, a store with the destination written out. Of no program.
-/
namespace Go.Proofs.Rt
open Go.RowKit
open Go.Proofs.Im (ready_load ready_call ready_store)
section
variable {P : Program} {md : Region.Mode} {ops : Array Oper} {Q : Exit → Act → World → Prop} {fuel i : Nat} {listed : Array Bool} {a : Act} {w : World} {o : Oper} {rs : List Nat}
theorem ready_loadTo (di : Option Tmp) (ho : ops[i]? = some o) (hdi : o.dst = di) (hg : o.guard = none) (ty : TypeId) (x : Operand) (hop : o.op = .load ty x) (b off : Nat) (hx : a.eval x = .pointer (some ⟨b, off, none⟩)) (cs : List Value) (d : TypeDesc) (hc : w.rangeAt b off cs)
    (hu : P.underlying ty = some d) (hd : d.isRow = true) (hi : (P.info? ty).map (·.size) = some cs.length)
    (h : wpAny P md ops Q fuel (listed.setIfInBounds i true) (a.put di (.agg cs.toArray)) w)
    (hs : AllReady P md ops Q fuel listed a w rs) : AllReady P md ops Q fuel listed a w (i :: rs) := by
  subst hdi; exact ready_load ho hg ty x hop b off hx cs d hc hu hd hi h hs
theorem ready_callTo (di : Option Tmp) (ho : ops[i]? = some o) (hdi : o.dst = di) (hg : o.guard = none) (f : FuncId) (xs : Array Operand) (ats : Array TypeId) (hop : o.op = .call { callee := .value (.func f), args := xs, argTypes := ats })
    (hr : ∀ args w, (callFunc f args).run P w = .ok (.enter f args) w) (args : Array Value) (ha : xs.map a.eval = args)
    (h : Calls P f args w fun e u => ∃ v, e = .returned v ∧ wpAny P md ops Q fuel (listed.setIfInBounds i true) (a.put di v) u)
    (hs : AllReady P md ops Q fuel listed a w rs) : AllReady P md ops Q fuel listed a w (i :: rs) := by
  subst hdi; exact ready_call ho hg f xs ats hop hr args ha h hs
theorem ready_storeTo (ho : ops[i]? = some o) (hdi : o.dst = none) (hg : o.guard = none) (ty : TypeId) (x y : Operand) (hop : o.op = .store ty x y) (b off : Nat) (cells : Array Value) (hx : a.eval x = .pointer (some ⟨b, off, none⟩)) (hy : a.eval y = .agg cells)
    (ht : w.there b off cells.size) (hi : (P.info? ty).map (·.size) = some cells.size) (h1 : cells.all (·.oneCell') = true)
    (h : wpAny P md ops Q fuel (listed.setIfInBounds i true) (a.put none undef) (w.setCells b off cells.toList))
    (hs : AllReady P md ops Q fuel listed a w rs) : AllReady P md ops Q fuel listed a w (i :: rs) := ready_store ho hg ty x y hop b off cells hx hy ht hi h1 (by rw [hdi]; exact h) hs
end
end Go.Proofs.Rt
