/-
  The developers' aes: one block enciphered.
-/
import Derived.Test.YtljhenjbjondkaaJoaw
import Derived.Test.YtljhenjbjondkaaJoay
import Derived.Deep.RegionHeld3
namespace Go.Proofs.Ae
open Go.RowKit
open Go.Proofs.Aes
open Go.Proofs.Im (wpList_box_to words_heap words_one run_index_row wp_region_quiet_tail)
open Go.Proofs.Sha (wordCells wordCells_get wordCells_size rowIs_of wpList_alloc_to)
section
variable {P : Program} {w : World} {ops : Array Oper} {rest : List Oper} {o : Oper} {a : Act} {Q : Exit → Act → World → Prop}
/-- A call of a function that the text names, its destination written out. -/
theorem wpList_callTo (d : Option Tmp) (hg : o.guard = none) (hd : o.dst = d) (f : FuncId) (xs : Array Operand) (ats : Array TypeId) (hop : o.op = .call { callee := .value (.func f), args := xs, argTypes := ats })
    (hr : ∀ args w, (callFunc f args).run P w = .ok (.enter f args) w) (args : Array Value) (ha : xs.map a.eval = args)
    (h : Calls P f args w fun e u => ∃ v, e = .returned v ∧ wpList P ops Q rest (a.put d v) u) : wpList P ops Q (o :: rest) a w :=
  wpList_plain hg fun K hK => by
    subst ha hd
    have e1 : execOp a.eval o = callFunc f (xs.map a.eval) := by
      have ef : a.eval (.func f) = .func (.func f) #[] #[] := rfl
      unfold execOp
      simp [hop, resolve, Deferred.ofValue, invoke, ef]
    unfold Oper.wp
    rw [e1, hr]
    refine h.mono ?_
    rintro e u ⟨v, rfl, hv⟩
    exact hK _ _ hv
end
/-- A cipher whose keys are those of a schedule. -/
def CiphK (w : World) (g n : Nat) (wk : Nat → Nat) : Prop := ∃ K, Ciph w g K n ∧ (∀ i, K i < 4294967296) ∧ (∀ i, i < 4 * (n + 1) → K i = wd wk i) ∧ (∀ t, wk t < 256)
theorem CiphK.lt {w : World} {g n : Nat} {wk : Nat → Nat} (h : CiphK w g n wk) : g < w.heap.size := by obtain ⟨K, h, _⟩ := h; exact h.lt
theorem CiphK.below {w u : World} {g n B : Nat} {wk : Nat → Nat} (h : CiphK w g n wk) (hb : Below B w u) (hB : g < B) : CiphK u g n wk := by
  obtain ⟨K, h, r⟩ := h; exact ⟨K, h.below hb hB, r⟩
theorem CiphK.on {w u : World} {g n : Nat} {wk : Nat → Nat} (h : CiphK w g n wk) (hb : Below w.heap.size w u) : CiphK u g n wk := h.below hb h.lt
theorem CiphK.rounds {w : World} {g n : Nat} {wk : Nat → Nat} (h : CiphK w g n wk) : w.cell? ⟨g, 316, none⟩ = some (.int .i64 (n : Nat)) := by obtain ⟨K, h, _⟩ := h; exact h.rounds
theorem CiphK.wk_lt {w : World} {g n : Nat} {wk : Nat → Nat} (h : CiphK w g n wk) : ∀ t, wk t < 256 := by obtain ⟨K, _, _, _, h⟩ := h; exact h
theorem withKeys_wd (wk y : Nat → Nat) (g n r : Nat) (w : World) (h : CiphK w g n wk) (hn : n ≤ 14) (hr : r ≤ n) (hy : ∀ t, y t < 256) :
    Calls Try.prog 69 #[.pointer (some ⟨g, 0, none⟩), .agg (stA (wd y)), .int .i64 r] w fun e w' => e = .returned (.agg (stA (wd (addS wk r y)))) ∧ Below w.heap.size w w' := by
  obtain ⟨K, hC, hl, hK, hw⟩ := h
  have := withKeys_any (wd y) K g n r w hC (by omega) (wd_lt hy) hl
  rwa [stA_congr (X := keyN K (wd y) r) (Y := wd (addS wk r y)) fun i hi => by unfold keyN; rw [hK _ (by omega), wd_add hw hy]] at this
theorem mixed_wd (y : Nat → Nat) (w : World) (hy : ∀ t, y t < 256) :
    Calls Try.prog 70 #[.agg (stA (wd y))] w fun e w' => e = .returned (.agg (stA (wd (mixS y)))) ∧ Below w.heap.size w w' := by
  have := mixed_any (wd y) w (wd_lt hy)
  rwa [stA_congr (X := mixW (wd y)) (Y := wd (mixS y)) fun i _ => wd_mix hy i] at this
theorem shifted_wd (wk y : Nat → Nat) (g n : Nat) (w : World) (h : CiphK w g n wk) (hy : ∀ t, y t < 256) :
    Calls Try.prog 71 #[.pointer (some ⟨g, 0, none⟩), .agg (stA (wd y))] w fun e w' => e = .returned (.agg (stA (wd (subS y)))) ∧ Below w.heap.size w w' := by
  obtain ⟨K, hC, _⟩ := h
  have := shifted_any (wd y) K g n w hC (wd_lt hy)
  rwa [stA_congr (X := subW (wd y)) (Y := wd (subS y)) fun i hi => wd_sub hy i _ _ _ hi rfl rfl rfl] at this
/-- The state in its place, the cipher, and what was there stays. -/
def EncAt (w u : World) (g n : Nat) (wk y : Nat → Nat) : Prop := RS u w.heap.size (wd y) ∧ CiphK u g n wk ∧ Below w.heap.size w u
theorem EncAt.on {w u v : World} {g n : Nat} {wk y : Nat → Nat} (h : EncAt w u g n wk y) (hb : Below u.heap.size u v) : EncAt w v g n wk y :=
  ⟨World.rowIs.of_block h.1 (hb.block _ (World.rowIs.lt h.1)), h.2.1.on hb, h.2.2.trans (hb.mono h.2.2.size)⟩
theorem EncAt.drew {w u : World} {g n : Nat} {wk y : Nat → Nat} (h : EncAt w u g n wk y) : EncAt w u.drew g n wk y := by
  obtain ⟨h1, ⟨K, h2, h3⟩, h4⟩ := h
  exact ⟨h1.drew, ⟨K, h2.drew, h3⟩, h4.drew⟩
theorem RS.setRow {w : World} {g : Nat} {X : Nat → Nat} (Y : Nat → Nat) (h : RS w g X) : RS (w.setRow g (stA Y)) g Y := ⟨_, setRow_heap _ _ _ _ _ _ h.heap, rfl, stA_get Y⟩
theorem EncAt.setRow {w u : World} {g n : Nat} {wk y : Nat → Nat} (z : Nat → Nat) (h : EncAt w u g n wk y) (hg : g < w.heap.size) : EncAt w (u.setRow w.heap.size (stA (wd z))) g n wk z :=
  ⟨h.1.setRow (wd z), h.2.1.below (B := w.heap.size) (below_setRow (Below.refl _ u) (Nat.le_refl _) _) hg, below_setRow h.2.2 (Nat.le_refl _) _⟩
theorem stA_size (X : Nat → Nat) : (stA X).size = 4 := rfl
theorem rnd0 (wk x : Nat → Nat) (n : Nat) : addS wk 0 x = rndS wk n x 0 := by
  funext i; show x i ^^^ wk (16 * 0 + i) = x i ^^^ wk i; rw [show 16 * 0 + i = i by omega]
theorem rndMid (wk x : Nat → Nat) (n r : Nat) (h : r + 1 < n) : addS wk (r + 1) (mixS (subS (rndS wk n x r))) = rndS wk n x (r + 1) := by
  show _ = addS wk (r + 1) (if r + 1 < n then mixS (subS (rndS wk n x r)) else subS (rndS wk n x r)); rw [if_pos h]
theorem rndLast (wk x : Nat → Nat) (r : Nat) : addS wk (r + 1) (subS (rndS wk (r + 1) x r)) = rndS wk (r + 1) x (r + 1) := by
  show _ = addS wk (r + 1) (if r + 1 < r + 1 then mixS (subS (rndS wk (r + 1) x r)) else subS (rndS wk (r + 1) x r)); rw [if_neg (by omega)]
theorem meas2 (K j : Nat) (h : j < K) : K + 1 - (intOf (.int .i64 ((j : Int) + 1 + 1))).toNat < K + 1 - (intOf (.int .i64 ((j : Int) + 1))).toNat := by
  show K + 1 - ((j : Int) + 1 + 1).toNat < K + 1 - ((j : Int) + 1).toNat
  omega
/-- What the last line reads, and all that stays. -/
def HeldE (w u : World) (g n : Nat) (wk X : Nat → Nat) : Prop :=
  u.cell? ⟨w.heap.size, 0, none⟩ = some (.int .u32 (wd X 0 : Nat)) ∧ u.cell? ⟨w.heap.size, 1, none⟩ = some (.int .u32 (wd X 1 : Nat)) ∧ u.cell? ⟨w.heap.size, 2, none⟩ = some (.int .u32 (wd X 2 : Nat)) ∧ u.cell? ⟨w.heap.size, 3, none⟩ = some (.int .u32 (wd X 3 : Nat)) ∧ u.cell? ⟨g, 316, none⟩ = some (.int .i64 ((n : Int) + 1)) ∧ EncAt w u g (n + 1) wk X
theorem heldE {w u : World} {g n : Nat} {wk X : Nat → Nat} (h : EncAt w u g (n + 1) wk X) : HeldE w u g n wk X :=
  ⟨World.rowIs.cell h.1 (i := 0) (by decide), World.rowIs.cell h.1 (i := 1) (by decide), World.rowIs.cell h.1 (i := 2) (by decide), World.rowIs.cell h.1 (i := 3) (by decide), h.2.1.rounds, h⟩
theorem HeldE.e {w u : World} {g n : Nat} {wk X : Nat → Nat} (h : HeldE w u g n wk X) : EncAt w u g (n + 1) wk X := h.2.2.2.2.2
theorem shifted_held {w u : World} {g n : Nat} {wk X : Nat → Nat} (h : HeldE w u g n wk X) (hX : ∀ t, X t < 256) :
    Calls Try.prog 71 #[.pointer (some ⟨g, 0, none⟩), .agg #[.int .u32 (wd X 0 : Nat), .int .u32 (wd X 1 : Nat), .int .u32 (wd X 2 : Nat), .int .u32 (wd X 3 : Nat)]] u fun e u' => e = .returned (.agg (stA (wd (subS X)))) ∧ HeldE w u' g n wk X :=
  (shifted_wd wk X g (n + 1) u h.e.2.1 hX).mono fun _ _ ⟨h1, h2⟩ => ⟨h1, heldE (h.e.on h2)⟩
theorem withKeys_held {w u : World} {g n : Nat} {wk X Y : Nat → Nat} (h : HeldE w u g n wk X) (hY : ∀ t, Y t < 256) (hn : n + 1 ≤ 14) :
    Calls Try.prog 69 #[.pointer (some ⟨g, 0, none⟩), .agg (stA (wd Y)), .int .i64 ((n : Int) + 1)] u fun e u' => e = .returned (.agg (stA (wd (addS wk (n + 1) Y)))) ∧ HeldE w u' g n wk X :=
  (withKeys_wd wk Y g (n + 1) (n + 1) u h.e.2.1 hn (Nat.le_refl _) hY).mono fun _ _ ⟨h1, h2⟩ => ⟨h1, heldE (h.e.on h2)⟩
theorem text_held {w u : World} {g n : Nat} {wk X Y : Nat → Nat} (h : HeldE w u g n wk X) (hY : ∀ t, Y t < 256) :
    Calls Try.prog 72 #[.agg (stA (wd Y))] u fun e u' => e = .returned (.string (outS Y)) ∧ HeldE w u' g n wk X :=
  (text_any Y u hY).mono fun _ _ ⟨h1, h2⟩ => ⟨h1, heldE (h.e.on h2)⟩
set_option maxHeartbeats 4000000 in
theorem encrypt_any (wk : Nat → Nat) (g n : Nat) (s : ByteArray) (w : World) (h : CiphK w g (n + 1) wk) (hn : n + 1 ≤ 14) (hs : s.size = 16) :
    Calls Try.prog 47 #[.pointer (some ⟨g, 0, none⟩), .string s] w fun e w' => e = .returned (.string (ciphS wk (n + 1) s)) ∧ Below w.heap.size w w' := by
  have HC0 := Lib.hid h
  have HN := Lib.hid hn
  have HS := Lib.hid hs
  have HG := Lib.hid h.lt
  have HW := Lib.hid h.wk_lt
  clear h hn hs
  go_enter Try.func47, Try.ntmps47
  go_upto_region 1 with (fail)
  apply wp_region_lit
  refine wpList_alloc_to rfl 103 rfl (stA fun _ => 0) w.heap.size rfl alloc4 ?_
  have HR : Hid (RS (w.alloc (.cells (stA fun _ => 0) 103)) w.heap.size (fun _ => 0)) := RS.new w _
  have HB : Hid (Below w.heap.size w (w.alloc (.cells (stA fun _ => 0) 103))) := (Below.refl _ _).alloc (Nat.le_refl _) _
  generalize w.alloc (.cells (stA fun _ => 0) 103) = w1 at HR HB ⊢
  go_wp2_with (fail)
  go_loopw [8] (fun i wx => ∃ j : Nat, Hid (j ≤ 4) ∧ i = .int .i64 j ∧ Hid (RS wx w.heap.size (upTo (fun _ => 0) (wd (byt s)) j)) ∧ Hid (Below w.heap.size w wx)) (fun i _ => 4 - (intOf i).toNat)
  case atStart => exact ⟨0, Nat.zero_le 4, rfl, HR.out.congr fun i _ => upTo_zero (fun _ => 0) _ i, HB⟩
  case round =>
    clear HR HB
    obtain ⟨j, hj, rfl, HR, HB⟩ := hrel
    by_cases hlt : j < 4
    · have jl : ((j : Int) < 4) = True := eq_true (by omega)
      have jl' : (j : Int) < 4 := by omega
      have HJ := Lib.hid hlt
      clear hlt
      have xc := HR.out.at_ j 0 HJ.out (upTo_at _ _ _)
      have xf := World.rowIs.frozen HR.out j
      go_wp2_with (go_at_call 65; refine (word_any s j _ (by have := HS.out; have := HJ.out; omega) (by have := HS.out; omega)).mono ?_; rintro e v ⟨rfl, nq, rfl⟩; have HR := Lib.hid (HR.out.drewN nq); have HB := Lib.hid (below_drewN HB.out nq); have xc : (wr.drewN nq).cell? ⟨w.heap.size, j, none⟩ = some (.int .u32 (0 : Nat)) := xc; have xf : (wr.drewN nq).frozen? ⟨w.heap.size, j, none⟩ = false := xf; generalize wr.drewN nq = w2 at HR HB xc xf ⊢)
      exact ⟨⟨j + 1, HJ.out, by go_num, (HR.out.set j _).congr fun i _ => upTo_succ _ _ j i, HB.out.setCell (Nat.le_refl _) _⟩, meas 4 j HJ.out⟩
    · have jl : ((j : Int) < 4) = False := eq_false (by omega)
      obtain rfl : j = 4 := by have := hj.out; omega
      have HE : Hid (EncAt w wr g (n + 1) wk (byt s)) := ⟨HR.out.congr fun i hi => upTo_all _ _ i hi, HC0.out.below HB.out HG.out, HB.out⟩
      rw [show ((4 : Nat) : Int) = 4 from rfl]
      clear hlt jl hj HR HB
      have HH := Lib.hid HE.out.1.heap
      generalize hA : stA (wd (byt s)) = A at HH
      go_upto_region 7 with (fail)
      apply wp_region_lit
      refine wpList_val rfl (.pointer (some ⟨g, 0, none⟩)) wr (by go_simp) ?_
      refine wpList_load_row rfl 103 _ rfl w.heap.size (by kernel_rfl) 103 A (0, 0) _ HH.out Try.underlying103 rfl (by rw [← hA]; kernel_rfl) ?_
      refine wpList_callTo (some 19) rfl rfl 69 _ _ rfl (fun _ _ => by go_simp) #[.pointer (some ⟨g, 0, none⟩), .agg A, .int .i64 0] (by kernel_rfl) ?_
      have hWK := withKeys_wd wk (byt s) g (n + 1) 0 wr HE.out.2.1 HN.out (Nat.zero_le _) (byt_lt s)
      rw [hA] at hWK
      refine hWK.mono ?_
      rintro e v ⟨rfl, hbv⟩
      refine ⟨_, rfl, ?_⟩
      have HE := Lib.hid (HE.out.on hbv)
      have HH := Lib.hid HE.out.1.heap
      clear hbv
      generalize hA1 : stA (wd (addS wk 0 (byt s))) = A1
      refine wpList_store_row rfl 103 _ _ rfl w.heap.size A1 (by kernel_rfl) (by kernel_rfl) 103 _ HH.out (by rw [← hA1]; kernel_rfl) (by rw [← hA1, stA_size, stA_size]) (by rw [← hA1]; exact stA_one _) ?_
      have HE : Hid (EncAt w (v.setRow w.heap.size A1) g (n + 1) wk (rndS wk (n + 1) (byt s) 0)) := by
        rw [← rnd0, ← hA1]; exact HE.out.setRow _ HG.out
      simp only [Act.put, List.setIfInBounds_toArray, List.set_cons_zero, List.set_cons_succ]
      generalize v.setRow w.heap.size A1 = w3 at HE ⊢
      clear HH hA hA1
      go_wp2_with (fail)
      go_loopw [7] (fun v wx => ∃ r : Nat, Hid (r ≤ n) ∧ v = .int .i64 ((r : Int) + 1) ∧ Hid (EncAt w wx g (n + 1) wk (rndS wk (n + 1) (byt s) r))) (fun v _ => n + 1 - (intOf v).toNat)
      case atStart => exact ⟨0, Nat.zero_le n, rfl, HE⟩
      case round =>
        clear HE
        obtain ⟨r, hr, rfl, HE⟩ := hrel
        have rd := HE.out.2.1.rounds
        have HXl : Hid (∀ i, rndS wk (n + 1) (byt s) r i < 256) := rndS_lt HW.out (byt_lt s) (n + 1) r
        by_cases hlt : r < n
        · have rl : ((r : Int) + 1 < (n : Int) + 1) = True := eq_true (by omega)
          have rl2 : ((r : Int) < (n : Int)) = True := eq_true (by omega)
          have HR := Lib.hid hlt
          have HMid : Hid (addS wk (r + 1) (mixS (subS (rndS wk (n + 1) (byt s) r))) = rndS wk (n + 1) (byt s) (r + 1)) := rndMid wk (byt s) (n + 1) r (by omega)
          clear hlt
          generalize rndS wk (n + 1) (byt s) r = X at HE HXl HMid
          have HH := Lib.hid HE.out.1.heap
          generalize hA : stA (wd X) = B at HH
          go_upto_region 11 with (fail)
          apply wp_region_lit
          refine wpList_val rfl (.pointer (some ⟨g, 0, none⟩)) wr (by go_simp) ?_
          refine wpList_val rfl (.pointer (some ⟨g, 0, none⟩)) wr (by go_simp) ?_
          refine wpList_load_row rfl 103 _ rfl w.heap.size (by kernel_rfl) 103 B (0, 0) _ HH.out Try.underlying103 rfl (by rw [← hA]; kernel_rfl) ?_
          refine wpList_callTo (some 31) rfl rfl 71 _ _ rfl (fun _ _ => by go_simp) #[.pointer (some ⟨g, 0, none⟩), .agg B] (by kernel_rfl) ?_
          have hC1 := shifted_wd wk X g (n + 1) wr HE.out.2.1 HXl.out
          rw [hA] at hC1
          refine hC1.mono ?_
          clear hC1 HH
          rintro e v1 ⟨rfl, hb1⟩
          refine ⟨_, rfl, ?_⟩
          have HE := Lib.hid (HE.out.on hb1)
          clear hb1
          generalize hA2 : stA (wd (subS X)) = B2
          refine wpList_callTo (some 32) rfl rfl 70 _ _ rfl (fun _ _ => by go_simp) #[.agg B2] (by kernel_rfl) ?_
          have hC2 := mixed_wd (subS X) v1 (subS_lt HXl.out)
          rw [hA2] at hC2
          refine hC2.mono ?_
          clear hC2
          rintro e v2 ⟨rfl, hb2⟩
          refine ⟨_, rfl, ?_⟩
          have HE := Lib.hid (HE.out.on hb2)
          clear hb2
          generalize hA3 : stA (wd (mixS (subS X))) = B3
          refine wpList_val rfl (.int .i64 ((r : Int) + 1)) v2 (by go_simp) ?_
          refine wpList_callTo (some 34) rfl rfl 69 _ _ rfl (fun _ _ => by go_simp) #[.pointer (some ⟨g, 0, none⟩), .agg B3, .int .i64 ((r : Int) + 1)] (by kernel_rfl) ?_
          have hC3 := withKeys_wd wk (mixS (subS X)) g (n + 1) (r + 1) v2 HE.out.2.1 HN.out (by have := HR.out; omega) (mixS_lt (subS_lt HXl.out))
          rw [hA3, show ((r + 1 : Nat) : Int) = (r : Int) + 1 by omega] at hC3
          refine hC3.mono ?_
          clear hC3
          rintro e v3 ⟨rfl, hb3⟩
          refine ⟨_, rfl, ?_⟩
          have HE := Lib.hid (HE.out.on hb3)
          have HH := Lib.hid HE.out.1.heap
          clear hb3
          rw [HMid.out]
          generalize hA4 : stA (wd (rndS wk (n + 1) (byt s) (r + 1))) = B4
          refine wpList_store_row rfl 103 _ _ rfl w.heap.size B4 (by kernel_rfl) (by kernel_rfl) 103 _ HH.out (by rw [← hA4]; kernel_rfl) (by rw [← hA4, stA_size, stA_size]) (by rw [← hA4]; exact stA_one _) ?_
          have HE : Hid (EncAt w (v3.setRow w.heap.size B4) g (n + 1) wk (rndS wk (n + 1) (byt s) (r + 1))) := by
            rw [← hA4]; exact HE.out.setRow _ HG.out
          simp only [Act.put, List.setIfInBounds_toArray, List.set_cons_zero, List.set_cons_succ]
          generalize v3.setRow w.heap.size B4 = w4 at HE ⊢
          clear HH hA hA2 hA3 hA4
          have r2 : wrap64 ((r : Int) + 1 + 1) = (r : Int) + 1 + 1 := IntWalk.wrap64_in _ (by have := HN.out; have := HR.out; omega)
          go_wp2_with (fail)
          rw [r2]
          exact ⟨⟨r + 1, HR.out, by rw [show ((r + 1 : Nat) : Int) = (r : Int) + 1 by omega], HE⟩, meas2 n r HR.out⟩
        · have rl : ((r : Int) + 1 < (n : Int) + 1) = False := eq_false (by omega)
          have rl2 : ((r : Int) < (n : Int)) = False := eq_false (by omega)
          obtain rfl : r = n := by have := hr.out; omega
          have HLast := Lib.hid (rndLast wk (byt s) r)
          clear hlt hr
          generalize hXe : rndS wk (r + 1) (byt s) r = X at HE HXl HLast
          clear hXe
          go_wp2_with (fail)
          clear rl rl2
          have hS0 : HeldE w wr g r wk X := heldE HE.out
          have hSd : HeldE w wr.drew g r wk X := heldE HE.out.drew
          go_region_held3 (fun w' => w'.cell? ⟨w.heap.size, 0, none⟩ = some (.int .u32 (wd X 0 : Nat)) ∧ w'.cell? ⟨w.heap.size, 1, none⟩ = some (.int .u32 (wd X 1 : Nat)) ∧ w'.cell? ⟨w.heap.size, 2, none⟩ = some (.int .u32 (wd X 2 : Nat)) ∧ w'.cell? ⟨w.heap.size, 3, none⟩ = some (.int .u32 (wd X 3 : Nat)) ∧ w'.cell? ⟨g, 316, none⟩ = some (.int .i64 ((r : Int) + 1)) ∧ EncAt w w' g (r + 1) wk X)
            (first | exact hS3 | exact hS2 | exact hS1 | exact hSd | exact hS0)
            (first
              | (go_at_call 71; refine (shifted_held hSd HXl.out).mono ?_; rintro e u1 ⟨rfl, hS1⟩)
              | (go_at_call 69; refine (withKeys_held hS1 (subS_lt HXl.out) HN.out).mono ?_; rintro e u2 ⟨rfl, hS2⟩)
              | (go_at_call 72; refine (text_held hS2 (addS_lt hS2.e.2.1.wk_lt (subS_lt HXl.out) _)).mono ?_; rintro e u3 ⟨rfl, hS3⟩))
          go_wp2_with (fail)
          go_ret
          refine ⟨?_, hS3.e.2.2⟩
          rw [HLast.out]
          rfl
end Go.Proofs.Ae
