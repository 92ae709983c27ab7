/-
  The document's own answer for layer 9: numbers of eight words: compared, added, taken away.
-/
import Derived.Test.YtpniinolkflfjaaProg
import Derived.Test.YtpniinolkflfjaaJoab
import Derived.Test.YtpniinolkflfjaaJoaa
import Derived.Test.YtpniinolkflfjaaJoad
import Derived.Deep.OwnRows
import Derived.Deep.DeepCutAuto
import Derived.Deep.WholeRow
import Derived.Laws.Tables
import Derived.Laws.CopyOwn
import Derived.Laws.BitsAllLaws
import Derived.WalkSmall
import Derived.BigQuiet
import Derived.Deep.QuietTactic
import Derived.Deep.RegionHeld
import Derived.Laws.Rows
namespace Go.Proofs.Nu
open Go.RowKit
open Go.Proofs.Im (wpList_box_to words_heap words_one run_index_row)
open Go.Proofs.Sha (wordCells wordCells_get wordCells_size rowIs_of wpList_alloc_to)
open Go.Proofs.Nt
/-- Eight words as a value. -/
def nmL (d : Nat → Nat) : List Nat := [d 0, d 1, d 2, d 3, d 4, d 5, d 6, d 7]
def nmA (d : Nat → Nat) : Array Value := wordCells .u32 (nmL d)
theorem lt8 {P : Nat → Prop} (h0 : P 0) (h1 : P 1) (h2 : P 2) (h3 : P 3) (h4 : P 4) (h5 : P 5) (h6 : P 6) (h7 : P 7) (i : Nat) (hi : i < 8) : P i := by
  match i, hi with
  | 0, _ => exact h0
  | 1, _ => exact h1
  | 2, _ => exact h2
  | 3, _ => exact h3
  | 4, _ => exact h4
  | 5, _ => exact h5
  | 6, _ => exact h6
  | 7, _ => exact h7
theorem nmA_get (d : Nat → Nat) (i : Nat) (hi : i < 8) : (nmA d)[i]? = some (.int .u32 (d i : Nat)) := lt8 (P := fun i => (nmA d)[i]? = some (.int .u32 (d i : Nat))) rfl rfl rfl rfl rfl rfl rfl rfl i hi
theorem nmA_congr {d e : Nat → Nat} (h : ∀ i, i < 8 → d i = e i) : nmA d = nmA e := by
  unfold nmA nmL; rw [h 0 (by decide), h 1 (by decide), h 2 (by decide), h 3 (by decide), h 4 (by decide), h 5 (by decide), h 6 (by decide), h 7 (by decide)]
theorem nmA_one (d : Nat → Nat) : (nmA d).all (·.oneCell') = true := words_one _ _
theorem nmA_size (d : Nat → Nat) : (nmA d).size = 8 := rfl
/-- Eight words in memory. -/
def RN (w : World) (g : Nat) (d : Nat → Nat) : Prop := w.rowIs g 50 8 (fun i => .int .u32 (d i : Nat))
theorem RN.set {w : World} {g : Nat} {d : Nat → Nat} (h : RN w g d) (j v : Nat) : RN (w.setCell ⟨g, j, none⟩ (.int .u32 v)) g (fun i => if i = j then v else d i) :=
  World.rowIs.congr (World.rowIs.set h j (.int .u32 v)) fun i _ => by simp only []; split <;> rfl
theorem RN.congr {w : World} {g : Nat} {d e : Nat → Nat} (h : RN w g d) (he : ∀ i, i < 8 → d i = e i) : RN w g e := World.rowIs.congr h fun i hi => by rw [he i hi]
theorem RN.heap {w : World} {g : Nat} {d : Nat → Nat} (h : RN w g d) : w.heap[g]? = some (.cells (nmA d) 50 (0, 0)) := words_heap h (nmL d) rfl (lt8 rfl rfl rfl rfl rfl rfl rfl rfl)
theorem RN.new (w : World) (d : Nat → Nat) : RN (w.alloc (.cells (nmA d) 50)) w.heap.size d := rowIs_of w (nmA d) 50 8 _ rfl (nmA_get d)
theorem RN.at_ {w : World} {g : Nat} {d : Nat → Nat} (h : RN w g d) (i v : Nat) (hi : i < 8) (e : d i = v) : w.cell? ⟨g, i, none⟩ = some (.int .u32 (v : Nat)) := by rw [World.rowIs.cell h hi, e]
theorem RN.other {w : World} {g : Nat} {d : Nat → Nat} (h : RN w g d) {a : Addr} (ha : g ≠ a.block) (v : Value) : RN (w.setCell a v) g d := World.rowIs.setOther h ha v
theorem RN.drewN {w : World} {g : Nat} {d : Nat → Nat} (h : RN w g d) (q : Nat) : RN (w.drewN q) g d := h
theorem RN.on {u v : World} {g : Nat} {d : Nat → Nat} (r : RN u g d) (hb : Below u.heap.size u v) : RN v g d := World.rowIs.of_block r (hb.block g (World.rowIs.lt r))
theorem alloc8 (w : World) : (Instr.alloc 50 true (.tuple #[])).run Try.prog w = .ok (.pointer (some ⟨w.heap.size, 0, none⟩)) (w.alloc (.cells (nmA fun _ => 0) 50)) := by kernel_rfl
theorem results_row_slot {P : Program} {fn : Func} {p q : Tmp} {ty : TypeId} (h : fn.results = #[.cell p ty, .tmp q]) (tmps : Array Value) (w : World) (g : Nat) (t : TypeId) (cs : Array Value) (fr : Nat × Nat) (d : TypeDesc) (v : Value)
    (hp : tmps.getD p undef = .pointer (some ⟨g, 0, none⟩)) (hq : tmps.getD q undef = v) (hg : w.heap[g]? = some (.cells cs t fr))
    (hu : P.underlying ty = some d) (hd : (match d with | .struct _ | .array _ _ => true | _ => false) = true) (hi : (P.info? ty).map (·.size) = some cs.size) :
    (results fn tmps).run P w = .ok (.tuple #[.agg cs, v]) w := by
  have hp' : tmps[p]?.getD undef = .pointer (some ⟨g, 0, none⟩) := by simpa using hp
  have hq' : tmps[q]?.getD undef = v := by simpa using hq
  simp [results, h, hp', hq', asAddr, run_loadVar_row w g t ty cs fr d hg hu hd hi]
/-- A number as a value. -/
def nmV (x : Nat) : Value := .agg (nmA (lb x))
/-- Two boxed numbers. -/
def Two (w u : World) (d e : Nat → Nat) : Prop := RN u w.heap.size d ∧ RN u (w.heap.size + 1) e ∧ Below w.heap.size w u
theorem two_new (w : World) (d e : Nat → Nat) : Two w ((w.alloc (.cells (nmA d) 50)).alloc (.cells (nmA e) 50)) d e := by
  have h := RN.new (w.alloc (.cells (nmA d) 50)) e
  rw [show (w.alloc (.cells (nmA d) 50)).heap.size = w.heap.size + 1 by simp] at h
  exact ⟨World.rowIs.alloc (RN.new w d) _, h, ((Below.refl _ _).alloc (Nat.le_refl _) _).alloc (by simp) _⟩
theorem Two.drewN {w u : World} {d e : Nat → Nat} (m : Two w u d e) (q : Nat) : Two w (u.drewN q) d e := ⟨m.1, m.2.1, Lw.below_drewN m.2.2 q⟩
set_option maxHeartbeats 2000000 in
theorem less_limbs (d e : Nat → Nat) (w : World) (hd : ∀ i, d i < 4294967296) (he : ∀ i, e i < 4294967296) :
    Calls Try.prog 21 #[.agg (nmA d), .agg (nmA e)] w fun x w' => x = .returned (.bool (decide (nv d 8 < nv e 8))) ∧ Below w.heap.size w w' := by
  have HD := Lib.hid hd
  have HE := Lib.hid he
  clear hd he
  obtain ⟨A, hA⟩ : ∃ A, decide (nv d 8 < nv e 8) = A := ⟨_, rfl⟩
  rw [hA]
  have HA := Lib.hid hA
  clear hA
  go_enter Try.func21, Try.ntmps21
  go_upto_region 0 with (fail)
  apply wp_region_lit
  refine wpList_box_to rfl 50 _ rfl (nmA d) (by kernel_rfl) w.heap.size rfl ?_
  refine wpList_box_to rfl 50 _ rfl (nmA e) (by kernel_rfl) (w.heap.size + 1) (by simp) ?_
  have HM := Lib.hid (two_new w d e)
  generalize (w.alloc (.cells (nmA d) 50)).alloc (.cells (nmA e) 50) = w1 at HM ⊢
  generalize nmA d = Ad
  generalize nmA e = Ae
  go_wp2_with (fail)
  go_loopw [5] (fun v wx => ∃ j : Nat, Hid (j ≤ 8) ∧ v = .int .i64 ((j : Int) - 1) ∧ Hid (∀ k, j ≤ k → k < 8 → d k = e k) ∧ Hid (Two w wx d e)) (fun v _ => (intOf v + 1).toNat)
  case atStart => exact ⟨8, Nat.le_refl _, rfl, fun k h1 h2 => absurd h2 (by omega), HM⟩
  case round =>
    clear HM
    obtain ⟨j, hj, rfl, HK, HM⟩ := hrel
    rcases Nat.eq_zero_or_pos j with rfl | hpos
    · have hA : A = false := by
        rw [← HA.out, nv_congr 8 (fun i hi => HK.out i (Nat.zero_le _) hi)]
        exact decide_eq_false (Nat.lt_irrefl _)
      go_wp2_with (fail)
      go_ret
      rw [hA]
      exact ⟨rfl, HM.out.2.2⟩
    · obtain ⟨i, rfl⟩ : ∃ i, j = i + 1 := ⟨j - 1, by omega⟩
      rw [show ((i + 1 : Nat) : Int) - 1 = (i : Int) by omega]
      have HI : Hid (i < 8) := hj
      have i0 : ((0 : Int) ≤ (i : Int)) = True := eq_true (by omega)
      have i8 : (i : Int) < 8 := by have := HI.out; omega
      have x1 := HM.out.1.at_ i (d i) HI.out rfl
      have x2 := HM.out.2.1.at_ i (e i) HI.out rfl
      have l1 := HD.out i
      have l2 := HE.out i
      clear hj hpos
      by_cases hE : d i = e i
      · rw [← hE] at x2
        have HQ : Hid (∀ k, i ≤ k → k < 8 → d k = e k) := fun k h1 h2 => by
          by_cases h : k = i
          · rw [h]; exact hE
          · exact HK.out k (by omega) h2
        clear HK l2 hE
        generalize d i = x at x1 x2 l1
        go_wp2_with (fail)
        go_quiet (fail)
        have HM := Lib.hid (HM.out.drewN nq)
        clear x1 x2
        generalize wr.drewN nq = w2 at HM ⊢
        go_wp2_with (fail)
        exact ⟨⟨i, by have := HI.out; show i ≤ 8; omega, rfl, HQ, HM⟩, by simp [intOf]⟩
      · have HQ : Hid (decide (d i < e i) = A) := by
          show _ = _
          rw [← HA.out]
          rcases Nat.lt_or_ge (d i) (e i) with h | h
          · rw [decide_eq_true h, decide_eq_true (nv_less (fun k _ => HD.out k) h 8 HI.out fun k h1 h2 => HK.out k h1 h2)]
          · have h3 := nv_less (d := e) (e := d) (fun k _ => HE.out k) (i := i) (by omega) 8 HI.out fun k h1 h2 => (HK.out k h1 h2).symm
            rw [decide_eq_false (by omega), decide_eq_false (by omega)]
        have n1 : ((d i : Int) == (e i : Int)) = false := by rw [beq_eq_false_iff_ne]; omega
        clear HK hE
        generalize d i = x at x1 l1 n1 HQ
        generalize e i = y at x2 l2 n1 HQ
        go_wp2_with (fail)
        go_quiet (fail)
        have HM := Lib.hid (HM.out.drewN nq)
        have y1 : (wr.drewN nq).cell? ⟨w.heap.size, i, none⟩ = some (.int .u32 (x : Nat)) := x1
        have y2 : (wr.drewN nq).cell? ⟨w.heap.size + 1, i, none⟩ = some (.int .u32 (y : Nat)) := x2
        clear x1 x2
        generalize wr.drewN nq = w2 at HM y1 y2 ⊢
        go_wp2_with (fail)
        go_quiet (fail)
        have HM := Lib.hid (HM.out.drewN nq)
        clear y1 y2
        generalize w2.drewN nq = w3 at HM ⊢
        go_wp2_with (fail)
        go_ret
        rw [← HQ.out]
        exact ⟨rfl, HM.out.2.2⟩
end Go.Proofs.Nu
/-
  Laws for a region that draws its order, a condition on the worlds held through it: whole rows loaded first, a call, a store, a new block. Of no program.
-/
namespace Go.Proofs.He
section
variable {P : Program} {md : Region.Mode} {ops : Array Oper} {Q : Exit → Act → World → Prop} {S : World → Prop} {fuel i : Nat} {listed : Array Bool} {a : Act} {w : World} {o oi : Oper} {rs : List Nat}
/-- An operation that yields the same in every world at hand, taken first. -/
theorem takeH (di : Option Tmp) (v : Value) (hi : ops[i]? = some oi) (hdi : oi.dst = di) (hg : oi.guard = none)
    (hs : Region.noSelect ops = true) (hf : Region.free md ops listed i = true) (hr : (Region.ready md ops listed).contains i = true)
    (hQ : ∀ c a w, Q (.panic c) (a.put di v) w → Q (.panic c) a w) (hy : ∀ w, S w → (execOp a.eval oi).run P w = .ok (.value v) w) (hS : S w)
    (h : wpAnyH P md ops Q S fuel (listed.setIfInBounds i true) (a.put di v) w) : wpAnyH P md ops Q S (fuel + 1) listed a w := by
  subst hdi
  exact wpAnyH_take hi hs hf hr hQ (.inl ⟨by simp [Region.wanted, hg], hy⟩) hS h
/-- A whole row loaded. -/
theorem load_row (ty : TypeId) (x : Operand) (ho : o.op = .load ty x) (g : Nat) (hx : a.eval x = .pointer (some ⟨g, 0, none⟩)) (t : TypeId) (cs : Array Value) (fr : Nat × Nat) (d : TypeDesc)
    (hu : P.underlying ty = some d) (hd : (match d with | .struct _ | .array _ _ => true | _ => false) = true) (hi : (P.info? ty).map (·.size) = some cs.size)
    (hg : ∀ w, S w → w.heap[g]? = some (.cells cs t fr)) : ∀ w, S w → (execOp a.eval o).run P w = .ok (.value (.agg cs)) w := fun w hw => by
  unfold execOp
  simp only [ho, hx, Instr.loadAt, Instr.sureAddr, Sem.run_bind, Sem.run_pure, Result.andThen_ok, run_loadVar_row w g t ty cs fr d (hg w hw) hu hd hi]
theorem plainH (ho : ops[i]? = some o) (hg : o.guard = none)
    (h : ∀ K' : Act → World → Prop, (∀ a w, S w → wpAnyH P md ops Q S fuel (listed.setIfInBounds i true) a w → K' a w) → Oper.wp P o a w K' Q)
    (hs : AllReadyH P md ops Q S fuel listed a w rs) : AllReadyH P md ops Q S fuel listed a w (i :: rs) :=
  AllReadyH.cons ho (fun K hK => by
    rw [if_pos (show Region.wanted o (yielded ops a.tmps) = true by simp [Region.wanted, hg])]
    exact h K fun a w h1 h2 => hK.out a w h1 fun _ => h2) hs
theorem callH (di : Option Tmp) (ho : ops[i]? = some o) (hdi : o.dst = di) (hg : o.guard = none) (f : FuncId) (xs : Array Operand) (ats : Array TypeId) (hop : o.op = .call { callee := .value (.func f), args := xs, argTypes := ats })
    (hr : ∀ args w, (callFunc f args).run P w = .ok (.enter f args) w) (args : Array Value) (ha : xs.map a.eval = args)
    (h : Calls P f args w fun e u => ∃ v, e = .returned v ∧ S u ∧ wpAnyH P md ops Q S fuel (listed.setIfInBounds i true) (a.put di v) u)
    (hs : AllReadyH P md ops Q S fuel listed a w rs) : AllReadyH P md ops Q S fuel listed a w (i :: rs) := by
  subst hdi
  refine plainH ho hg (fun K hK => ?_) hs
  subst ha
  have e1 : execOp a.eval o = callFunc f (xs.map a.eval) := by
    have ef : a.eval (.func f) = .func (.func f) #[] #[] := rfl
    unfold execOp
    simp [hop, resolve, Deferred.ofValue, invoke, ef]
  unfold Oper.wp
  rw [e1, hr]
  refine h.mono ?_
  rintro e u ⟨v, rfl, h1, h2⟩
  exact hK _ _ h1 h2
theorem allocH (di : Option Tmp) (ho : ops[i]? = some o) (hdi : o.dst = di) (hg : o.guard = none) (t : TypeId) (hop : o.op = .alloc t) (cells : Array Value)
    (hr : ∀ w : World, (Instr.alloc t true (.tuple #[])).run P w = .ok (.pointer (some ⟨w.heap.size, 0, none⟩)) (w.alloc (.cells cells t)))
    (h1 : S (w.alloc (.cells cells t))) (h : wpAnyH P md ops Q S fuel (listed.setIfInBounds i true) (a.put di (.pointer (some ⟨w.heap.size, 0, none⟩))) (w.alloc (.cells cells t)))
    (hs : AllReadyH P md ops Q S fuel listed a w rs) : AllReadyH P md ops Q S fuel listed a w (i :: rs) := by
  subst hdi
  refine plainH ho hg (fun K hK => ?_) hs
  unfold Oper.wp execOp
  simp only [hop, Sem.run_bind, hr, Result.andThen_ok]
  exact hK _ _ h1 h
theorem storeH (ho : ops[i]? = some o) (hdi : o.dst = none) (hg : o.guard = none) (ty : TypeId) (x y : Operand) (hop : o.op = .store ty x y) (g : Nat) (cells : Array Value) (hx : a.eval x = .pointer (some ⟨g, 0, none⟩)) (hy : a.eval y = .agg cells)
    (t : TypeId) (old : Array Value) (hw : w.heap[g]? = some (.cells old t (0, 0))) (hi : (P.info? ty).map (·.size) = some cells.size)
    (hold : old.size = cells.size) (h1 : cells.all (·.oneCell') = true) (h2 : S (w.setRow g cells))
    (h : wpAnyH P md ops Q S fuel (listed.setIfInBounds i true) (a.put none undef) (w.setRow g cells))
    (hs : AllReadyH P md ops Q S fuel listed a w rs) : AllReadyH P md ops Q S fuel listed a w (i :: rs) :=
  plainH ho hg (fun K hK => wp_store_row ty x y hop g cells hx hy t old hw hi hold h1 (by rw [hdi]; exact hK _ _ h2 h)) hs
end
end Go.Proofs.He
