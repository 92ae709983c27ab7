/-
  The developers' gcm: a tag.
-/
import Derived.Test.YtljhenjbjondkaaJoba
namespace Go.Proofs.Gd
open Go.RowKit Go.Proofs.Gcm
open Go.Proofs.Aes (byt byt_lt get_byt ciphS encS encS_size)
open Go.Proofs.Be (beS beS_size)
open Go.Proofs.Im (wpList_box_to ready_load ready_call)
theorem CiR.but {w u : World} {g c : Nat} {key nonce : ByteArray} {K : Nat × Nat} (h : CiR w c key nonce K) (hb : But g w u) (hg : c < g) : CiR u c key nonce K := (hb.block c h.lt (Nat.ne_of_lt hg)).trans h
section
variable {P : Program} {md : Region.Mode} {ops : Array Oper} {Q : Exit → Act → World → Prop} {fuel i : Nat} {listed : Array Bool} {a : Act} {w : World} {o : Oper} {rs : List Nat}
/-- The same with the destination written out. -/
theorem ready_loadTo (di : Option Tmp) (ho : ops[i]? = some o) (hdi : o.dst = di) (hg : o.guard = none) (ty : TypeId) (x : Operand) (hop : o.op = .load ty x) (b off : Nat) (hx : a.eval x = .pointer (some ⟨b, off, none⟩)) (cs : List Value) (d : TypeDesc) (hc : w.rangeAt b off cs)
    (hu : P.underlying ty = some d) (hd : d.isRow = true) (hi : (P.info? ty).map (·.size) = some cs.length)
    (h : wpAny P md ops Q fuel (listed.setIfInBounds i true) (a.put di (.agg cs.toArray)) w)
    (hs : AllReady P md ops Q fuel listed a w rs) : AllReady P md ops Q fuel listed a w (i :: rs) := by
  subst hdi; exact ready_load ho hg ty x hop b off hx cs d hc hu hd hi h hs
theorem ready_callTo (di : Option Tmp) (ho : ops[i]? = some o) (hdi : o.dst = di) (hg : o.guard = none) (f : FuncId) (xs : Array Operand) (ats : Array TypeId) (hop : o.op = .call { callee := .value (.func f), args := xs, argTypes := ats })
    (hr : ∀ args w, (callFunc f args).run P w = .ok (.enter f args) w) (args : Array Value) (ha : xs.map a.eval = args)
    (h : Calls P f args w fun e u => ∃ v, e = .returned v ∧ wpAny P md ops Q fuel (listed.setIfInBounds i true) (a.put di v) u)
    (hs : AllReady P md ops Q fuel listed a w rs) : AllReady P md ops Q fuel listed a w (i :: rs) := by
  subst hdi; exact ready_call ho hg f xs ats hop hr args ha h hs
end
def cL (key nonce : ByteArray) (K : Nat × Nat) : List Value := [.string key, .string nonce, .int .u64 (K.1 : Nat), .int .u64 (K.2 : Nat)]
theorem CiR.range {w : World} {g : Nat} {key nonce : ByteArray} {K : Nat × Nat} (h : CiR w g key nonce K) : w.rangeAt g 0 (cL key nonce K) := fun j v hv => by
  rw [Nat.zero_add, h.cell j]
  show (cL key nonce K).toArray[j]? = _
  rw [List.getElem?_toArray]; exact hv
theorem CiR.hashKey {w : World} {g : Nat} {key nonce : ByteArray} {K : Nat × Nat} (h : CiR w g key nonce K) : w.rangeAt g 2 (elL K) := range_of (h.cell 2) (h.cell 3)
theorem keyedHash_at (K : Nat × Nat) (w : World) (hK : Ok K) :
    Calls Try.prog 34 #[.agg (elA K)] w fun e w' => ∃ g, e = .returned (.pointer (some ⟨g, 0, none⟩)) ∧ w.heap.size ≤ g ∧ Below w.heap.size w w' ∧ Ha w' g K (0, 0) :=
  (keyedHash_any K w hK).mono fun _ _ ⟨h1, h2, h3⟩ => ⟨_, h1, Nat.le_succ _, h2, h3⟩
/-- The tag that the document asks. -/
theorem tag_same (key nonce aad c : ByteArray) (K : Nat × Nat) (hK : K = (nv (encS key (zS 16)) 0 8, nv (encS key (zS 16)) 8 8)) (ha : aad.size ≤ 100000) (hc : c.size ≤ 100000) (S X : Nat × Nat)
    (hS : S = addS K (wrS K (wrS K (0, 0) aad) c) (8 * aad.size, 8 * c.size)) (hX : X = (nv (encS key (nonce ++ beS 1 4)) 0 8, nv (encS key (nonce ++ beS 1 4)) 8 8)) :
    wholeS (pl S X).1 (pl S X).2 = tagS (wkS key) (nR key) nonce aad c := by
  have hk : Ok K := by rw [hK]; exact nv_ok _ _ _
  rw [auth_sum K aad c hk ha hc] at hS
  unfold tagS ghS pl
  rw [← encS_wk, ← tag_whole, ← encS_wk, hX, hS, hK]
set_option maxHeartbeats 4000000 in
theorem tag_any (key nonce aad c : ByteArray) (K : Nat × Nat) (w : World) (hk : keyOk key = true) (hno : nonce.size = 12) (hK : K = (nv (encS key (zS 16)) 0 8, nv (encS key (zS 16)) 8 8)) (ha : aad.size ≤ 100000) (hc : c.size ≤ 100000) :
    Calls Try.prog 23 #[.agg (cA key nonce K), .string aad, .string c] w fun e w' => e = .returned (.string (tagS (wkS key) (nR key) nonce aad c)) ∧ Below w.heap.size w w' := by
  have HK := Lib.hid hk
  have HNo := Lib.hid hno
  have HOk : Hid (Ok K) := by show Ok K; rw [hK]; exact nv_ok _ _ _
  have HA := Lib.hid ha
  have HCl := Lib.hid hc
  obtain ⟨x, hx⟩ : ∃ x, 8 * aad.size = x := ⟨_, rfl⟩
  obtain ⟨y, hy⟩ : ∃ y, 8 * c.size = y := ⟨_, rfl⟩
  have HTg := Lib.hid (tag_same key nonce aad c K hK ha hc _ _ rfl rfl)
  rw [hx, hy] at HTg
  have x1 : 8 * (aad.size : Int) = (x : Int) := by omega
  have y1 : 8 * (c.size : Int) = (y : Int) := by omega
  have HXY : Hid (Ok (x, y)) := ⟨by show x < _; omega, by show y < _; omega⟩
  have xl : (x : Int) < 18446744073709551616 := by omega
  have yl : (y : Int) < 18446744073709551616 := by omega
  generalize tagS (wkS key) (nR key) nonce aad c = TG at HTg ⊢
  clear hk hno hK ha hc hx hy
  go_enter Try.func23, Try.ntmps23
  go_upto_region 0 with (fail)
  apply wp_region_lit
  refine wpList_box_to rfl 48 _ rfl (cA key nonce K) rfl w.heap.size rfl ?_
  have HC := Lib.hid (CiR.new w key nonce K)
  have HB : Hid (Below w.heap.size w (w.alloc (.cells (cA key nonce K) 48))) := (Below.refl _ _).alloc (Nat.le_refl _) _
  generalize w.alloc (.cells (cA key nonce K) 48) = w1 at HC HB ⊢
  go_upto_region 1 with (fail)
  apply wp_region_lit
  refine Lw.wpList_val rfl (.pointer (some ⟨w.heap.size, 2, none⟩)) w1 (by go_simp) ?_
  simp only [Act.put, List.setIfInBounds_toArray, List.set_cons_zero, List.set_cons_succ]
  refine wpList_load_mid rfl 46 _ rfl w.heap.size 2 rfl (elL K) _ HC.out.hashKey Try.underlying46 rfl (by kernel_rfl) ?_
  simp only [Act.put, List.setIfInBounds_toArray, List.set_cons_zero, List.set_cons_succ]
  refine Lw.wpList_callTo (some 10) rfl rfl 34 _ _ rfl (fun _ _ => by go_simp) #[.agg (elA K)] (by kernel_rfl) ?_
  refine (keyedHash_at K _ HOk.out).mono ?_
  rintro e u ⟨g, rfl, hg, hb, hh⟩
  refine ⟨_, rfl, ?_⟩
  simp only [Act.put, List.setIfInBounds_toArray, List.set_cons_zero, List.set_cons_succ]
  have HG : Hid (w.heap.size < g) := Nat.lt_of_lt_of_le HC.out.lt hg
  have HB := Lib.hid (Lw.go_on HB.out hb)
  have HC := Lib.hid (HC.out.on hb)
  have HH := Lib.hid hh
  clear hg hb hh
  go_wp2_with (go_at_call 35; fail)
  refine (write_any K (0, 0) aad g _ HH.out (Nat.le_trans HA.out (by decide))).mono ?_
  rintro e u2 ⟨rfl, hb, hh⟩
  have HB := Lib.hid (hb.below HB.out (Nat.le_of_lt HG.out) HB.out.size)
  have HC := Lib.hid (HC.out.but hb HG.out)
  have HH := Lib.hid hh
  clear hb hh
  go_wp2_with (go_at_call 35; fail)
  refine (write_any K _ c g _ HH.out (Nat.le_trans HCl.out (by decide))).mono ?_
  rintro e u3 ⟨rfl, hb, hh⟩
  have HB := Lib.hid (hb.below HB.out (Nat.le_of_lt HG.out) HB.out.size)
  have HC := Lib.hid (HC.out.but hb HG.out)
  have HH := Lib.hid hh
  clear hb hh
  go_wp2_with (go_at_call 36; fail)
  refine (add_any (x, y) K _ g _ HH.out HXY.out).mono ?_
  rintro e u4 ⟨rfl, hb, hh⟩
  have HB : Hid (Below w.heap.size w u4.drew) := (hb.below HB.out (Nat.le_of_lt HG.out) HB.out.size).drew
  have HC : Hid (CiR u4.drew w.heap.size key nonce K) := (HC.out.but hb HG.out : CiR u4 w.heap.size key nonce K)
  have HS0 : Hid (Ha u4.drew g K _) := hh.drew
  generalize addS K (wrS K (wrS K (0, 0) aad) c) (x, y) = S at HS0 HTg
  clear hb hh HH x1 y1 xl yl
  go_upto_region 5 with (fail)
  refine wp_region_any (by kernel_rfl) ?_
  change wpAny _ _ _ _ _ _ _ u4.drew
  generalize u4.drew = v0 at HB HC HS0 ⊢
  refine Lw.take_to (i := 0) (some 28) (.pointer (some ⟨g, 0, none⟩)) rfl rfl (by kernel_rfl) (by kernel_rfl) (by kernel_rfl) (fun _ _ _ h => h) (Or.inl ⟨by rfl, fun w => by go_simp⟩) ?_
  refine Lw.take_to (i := 1) (some 29) (.pointer (some ⟨g, 0, none⟩)) rfl rfl (by kernel_rfl) (by kernel_rfl) (by kernel_rfl) (fun _ _ _ h => h) (Or.inl ⟨by rfl, fun w => by go_simp⟩) ?_
  refine Lw.take_to (i := 2) (some 30) (.pointer (some ⟨g, 32, none⟩)) rfl rfl (by kernel_rfl) (by kernel_rfl) (by kernel_rfl) (fun _ _ _ h => h) (Or.inl ⟨by rfl, fun w => by go_simp⟩) ?_
  simp only [Act.put, List.setIfInBounds_toArray, List.set_cons_zero, List.set_cons_succ]
  refine wpAny_ready (rs := [3, 4]) (by kernel_rfl) (by simp) ?_
  refine ready_loadTo (some 31) rfl rfl rfl 46 _ rfl g 32 (by kernel_rfl) (elL S) _ HS0.out.1.sum Try.underlying46 rfl (by kernel_rfl) ?_ (ready_loadTo (some 32) rfl rfl rfl 48 _ rfl w.heap.size 0 (by kernel_rfl) (cL key nonce K) _ HC.out.range Try.underlying48 rfl (by kernel_rfl) ?_ AllReady.nil)
  · simp only [Act.put, List.setIfInBounds_toArray, List.set_cons_zero, List.set_cons_succ]
    refine wpAny_ready (rs := [4]) (by kernel_rfl) (by simp) ?_
    refine ready_loadTo (some 32) rfl rfl rfl 48 _ rfl w.heap.size 0 (by kernel_rfl) (cL key nonce K) _ HC.out.range Try.underlying48 rfl (by kernel_rfl) ?_ AllReady.nil
    simp only [Act.put, List.setIfInBounds_toArray, List.set_cons_zero, List.set_cons_succ]
    refine wpAny_ready (rs := [5]) (by kernel_rfl) (by simp) ?_
    refine ready_callTo (some 33) rfl rfl rfl 33 _ _ rfl (fun _ _ => by go_simp) #[.agg (cA key nonce K), .int .i64 ((1 : Nat) : Int)] (by kernel_rfl) ?_ AllReady.nil
    refine (mask_any key nonce K 1 _ HK.out HNo.out (by decide)).mono ?_
    rintro e v1 ⟨rfl, hb⟩
    refine ⟨_, rfl, ?_⟩
    simp only [Act.put, List.setIfInBounds_toArray, List.set_cons_zero, List.set_cons_succ]
    have HS1 := Lib.hid (HS0.out.on hb)
    have HB1 := Lib.hid (Lw.go_on HB.out hb)
    clear hb
    have HX := Lib.hid (encS_size key (nonce ++ beS 1 4))
    generalize encS key (nonce ++ beS 1 4) = X at HX HTg ⊢
    refine wpAny_ready (rs := [6]) (by kernel_rfl) (by simp) ?_
    refine ready_callTo (some 34) rfl rfl rfl 32 _ _ rfl (fun _ _ => by go_simp) #[.string X] (by kernel_rfl) ?_ AllReady.nil
    refine (read_any X _ HX.out).mono ?_
    rintro e v2 ⟨rfl, hb⟩
    refine ⟨_, rfl, ?_⟩
    simp only [Act.put, List.setIfInBounds_toArray, List.set_cons_zero, List.set_cons_succ]
    have HS2 := Lib.hid (HS1.out.on hb)
    have HB2 := Lib.hid (Lw.go_on HB1.out hb)
    clear hb
    refine wpAny_ready (rs := [7]) (by kernel_rfl) (by simp) ?_
    refine ready_callTo (some 35) rfl rfl rfl 37 _ _ rfl (fun _ _ => by go_simp) #[.agg (elA S), .agg (elA (nv X 0 8, nv X 8 8))] (by kernel_rfl) ?_ AllReady.nil
    refine (plus_any S (nv X 0 8, nv X 8 8) _ HS0.out.2.2 (nv_ok X 0 8)).mono ?_
    rintro e v3 ⟨rfl, hb⟩
    refine ⟨_, rfl, ?_⟩
    simp only [Act.put, List.setIfInBounds_toArray, List.set_cons_zero, List.set_cons_succ]
    have HB3 := Lib.hid (Lw.go_on HB2.out hb)
    clear hb
    refine wpAny_ready (rs := [8]) (by kernel_rfl) (by simp) ?_
    refine ready_callTo (some 36) rfl rfl rfl 38 _ _ rfl (fun _ _ => by go_simp) #[.agg (elA (pl S (nv X 0 8, nv X 8 8)))] (by kernel_rfl) ?_ AllReady.nil
    have ht := text_any (pl S (nv X 0 8, nv X 8 8)).1 (pl S (nv X 0 8, nv X 8 8)).2 v3
    rw [HTg.out] at ht
    refine ht.mono ?_
    rintro e v4 ⟨rfl, hb⟩
    refine ⟨_, rfl, ?_⟩
    simp only [Act.put, List.setIfInBounds_toArray, List.set_cons_zero, List.set_cons_succ]
    have HB4 := Lib.hid (Lw.go_on HB3.out hb)
    clear hb ht
    refine Lw.take_to (i := 9) (some 6) (.string TG) rfl rfl (by kernel_rfl) (by kernel_rfl) (by kernel_rfl) (fun _ _ _ h => h) (Or.inl ⟨by rfl, fun w => by go_simp⟩) ?_
    simp only [Act.put, List.setIfInBounds_toArray, List.set_cons_zero, List.set_cons_succ]
    refine wpAny_done (by kernel_rfl) ?_ _
    go_wp2_with (fail)
    go_ret
    exact ⟨rfl, HB4.out⟩
  · simp only [Act.put, List.setIfInBounds_toArray, List.set_cons_zero, List.set_cons_succ]
    refine wpAny_ready (rs := [3, 5]) (by kernel_rfl) (by simp) ?_
    refine ready_loadTo (some 31) rfl rfl rfl 46 _ rfl g 32 (by kernel_rfl) (elL S) _ HS0.out.1.sum Try.underlying46 rfl (by kernel_rfl) ?_ (ready_callTo (some 33) rfl rfl rfl 33 _ _ rfl (fun _ _ => by go_simp) #[.agg (cA key nonce K), .int .i64 ((1 : Nat) : Int)] (by kernel_rfl) ?_ AllReady.nil)
    · simp only [Act.put, List.setIfInBounds_toArray, List.set_cons_zero, List.set_cons_succ]
      refine wpAny_ready (rs := [5]) (by kernel_rfl) (by simp) ?_
      refine ready_callTo (some 33) rfl rfl rfl 33 _ _ rfl (fun _ _ => by go_simp) #[.agg (cA key nonce K), .int .i64 ((1 : Nat) : Int)] (by kernel_rfl) ?_ AllReady.nil
      refine (mask_any key nonce K 1 _ HK.out HNo.out (by decide)).mono ?_
      rintro e v1 ⟨rfl, hb⟩
      refine ⟨_, rfl, ?_⟩
      simp only [Act.put, List.setIfInBounds_toArray, List.set_cons_zero, List.set_cons_succ]
      have HS1 := Lib.hid (HS0.out.on hb)
      have HB1 := Lib.hid (Lw.go_on HB.out hb)
      clear hb
      have HX := Lib.hid (encS_size key (nonce ++ beS 1 4))
      generalize encS key (nonce ++ beS 1 4) = X at HX HTg ⊢
      refine wpAny_ready (rs := [6]) (by kernel_rfl) (by simp) ?_
      refine ready_callTo (some 34) rfl rfl rfl 32 _ _ rfl (fun _ _ => by go_simp) #[.string X] (by kernel_rfl) ?_ AllReady.nil
      refine (read_any X _ HX.out).mono ?_
      rintro e v2 ⟨rfl, hb⟩
      refine ⟨_, rfl, ?_⟩
      simp only [Act.put, List.setIfInBounds_toArray, List.set_cons_zero, List.set_cons_succ]
      have HS2 := Lib.hid (HS1.out.on hb)
      have HB2 := Lib.hid (Lw.go_on HB1.out hb)
      clear hb
      refine wpAny_ready (rs := [7]) (by kernel_rfl) (by simp) ?_
      refine ready_callTo (some 35) rfl rfl rfl 37 _ _ rfl (fun _ _ => by go_simp) #[.agg (elA S), .agg (elA (nv X 0 8, nv X 8 8))] (by kernel_rfl) ?_ AllReady.nil
      refine (plus_any S (nv X 0 8, nv X 8 8) _ HS0.out.2.2 (nv_ok X 0 8)).mono ?_
      rintro e v3 ⟨rfl, hb⟩
      refine ⟨_, rfl, ?_⟩
      simp only [Act.put, List.setIfInBounds_toArray, List.set_cons_zero, List.set_cons_succ]
      have HB3 := Lib.hid (Lw.go_on HB2.out hb)
      clear hb
      refine wpAny_ready (rs := [8]) (by kernel_rfl) (by simp) ?_
      refine ready_callTo (some 36) rfl rfl rfl 38 _ _ rfl (fun _ _ => by go_simp) #[.agg (elA (pl S (nv X 0 8, nv X 8 8)))] (by kernel_rfl) ?_ AllReady.nil
      have ht := text_any (pl S (nv X 0 8, nv X 8 8)).1 (pl S (nv X 0 8, nv X 8 8)).2 v3
      rw [HTg.out] at ht
      refine ht.mono ?_
      rintro e v4 ⟨rfl, hb⟩
      refine ⟨_, rfl, ?_⟩
      simp only [Act.put, List.setIfInBounds_toArray, List.set_cons_zero, List.set_cons_succ]
      have HB4 := Lib.hid (Lw.go_on HB3.out hb)
      clear hb ht
      refine Lw.take_to (i := 9) (some 6) (.string TG) rfl rfl (by kernel_rfl) (by kernel_rfl) (by kernel_rfl) (fun _ _ _ h => h) (Or.inl ⟨by rfl, fun w => by go_simp⟩) ?_
      simp only [Act.put, List.setIfInBounds_toArray, List.set_cons_zero, List.set_cons_succ]
      refine wpAny_done (by kernel_rfl) ?_ _
      go_wp2_with (fail)
      go_ret
      exact ⟨rfl, HB4.out⟩
    · refine (mask_any key nonce K 1 _ HK.out HNo.out (by decide)).mono ?_
      rintro e v1 ⟨rfl, hb⟩
      refine ⟨_, rfl, ?_⟩
      simp only [Act.put, List.setIfInBounds_toArray, List.set_cons_zero, List.set_cons_succ]
      have HS1 := Lib.hid (HS0.out.on hb)
      have HB1 := Lib.hid (Lw.go_on HB.out hb)
      clear hb
      have HX := Lib.hid (encS_size key (nonce ++ beS 1 4))
      generalize encS key (nonce ++ beS 1 4) = X at HX HTg ⊢
      refine wpAny_ready (rs := [3, 6]) (by kernel_rfl) (by simp) ?_
      refine ready_loadTo (some 31) rfl rfl rfl 46 _ rfl g 32 (by kernel_rfl) (elL S) _ HS1.out.1.sum Try.underlying46 rfl (by kernel_rfl) ?_ (ready_callTo (some 34) rfl rfl rfl 32 _ _ rfl (fun _ _ => by go_simp) #[.string X] (by kernel_rfl) ?_ AllReady.nil)
      · simp only [Act.put, List.setIfInBounds_toArray, List.set_cons_zero, List.set_cons_succ]
        refine wpAny_ready (rs := [6]) (by kernel_rfl) (by simp) ?_
        refine ready_callTo (some 34) rfl rfl rfl 32 _ _ rfl (fun _ _ => by go_simp) #[.string X] (by kernel_rfl) ?_ AllReady.nil
        refine (read_any X _ HX.out).mono ?_
        rintro e v2 ⟨rfl, hb⟩
        refine ⟨_, rfl, ?_⟩
        simp only [Act.put, List.setIfInBounds_toArray, List.set_cons_zero, List.set_cons_succ]
        have HS2 := Lib.hid (HS1.out.on hb)
        have HB2 := Lib.hid (Lw.go_on HB1.out hb)
        clear hb
        refine wpAny_ready (rs := [7]) (by kernel_rfl) (by simp) ?_
        refine ready_callTo (some 35) rfl rfl rfl 37 _ _ rfl (fun _ _ => by go_simp) #[.agg (elA S), .agg (elA (nv X 0 8, nv X 8 8))] (by kernel_rfl) ?_ AllReady.nil
        refine (plus_any S (nv X 0 8, nv X 8 8) _ HS0.out.2.2 (nv_ok X 0 8)).mono ?_
        rintro e v3 ⟨rfl, hb⟩
        refine ⟨_, rfl, ?_⟩
        simp only [Act.put, List.setIfInBounds_toArray, List.set_cons_zero, List.set_cons_succ]
        have HB3 := Lib.hid (Lw.go_on HB2.out hb)
        clear hb
        refine wpAny_ready (rs := [8]) (by kernel_rfl) (by simp) ?_
        refine ready_callTo (some 36) rfl rfl rfl 38 _ _ rfl (fun _ _ => by go_simp) #[.agg (elA (pl S (nv X 0 8, nv X 8 8)))] (by kernel_rfl) ?_ AllReady.nil
        have ht := text_any (pl S (nv X 0 8, nv X 8 8)).1 (pl S (nv X 0 8, nv X 8 8)).2 v3
        rw [HTg.out] at ht
        refine ht.mono ?_
        rintro e v4 ⟨rfl, hb⟩
        refine ⟨_, rfl, ?_⟩
        simp only [Act.put, List.setIfInBounds_toArray, List.set_cons_zero, List.set_cons_succ]
        have HB4 := Lib.hid (Lw.go_on HB3.out hb)
        clear hb ht
        refine Lw.take_to (i := 9) (some 6) (.string TG) rfl rfl (by kernel_rfl) (by kernel_rfl) (by kernel_rfl) (fun _ _ _ h => h) (Or.inl ⟨by rfl, fun w => by go_simp⟩) ?_
        simp only [Act.put, List.setIfInBounds_toArray, List.set_cons_zero, List.set_cons_succ]
        refine wpAny_done (by kernel_rfl) ?_ _
        go_wp2_with (fail)
        go_ret
        exact ⟨rfl, HB4.out⟩
      · refine (read_any X _ HX.out).mono ?_
        rintro e v2 ⟨rfl, hb⟩
        refine ⟨_, rfl, ?_⟩
        simp only [Act.put, List.setIfInBounds_toArray, List.set_cons_zero, List.set_cons_succ]
        have HS2 := Lib.hid (HS1.out.on hb)
        have HB2 := Lib.hid (Lw.go_on HB1.out hb)
        clear hb
        refine wpAny_ready (rs := [3]) (by kernel_rfl) (by simp) ?_
        refine ready_loadTo (some 31) rfl rfl rfl 46 _ rfl g 32 (by kernel_rfl) (elL S) _ HS2.out.1.sum Try.underlying46 rfl (by kernel_rfl) ?_ AllReady.nil
        simp only [Act.put, List.setIfInBounds_toArray, List.set_cons_zero, List.set_cons_succ]
        refine wpAny_ready (rs := [7]) (by kernel_rfl) (by simp) ?_
        refine ready_callTo (some 35) rfl rfl rfl 37 _ _ rfl (fun _ _ => by go_simp) #[.agg (elA S), .agg (elA (nv X 0 8, nv X 8 8))] (by kernel_rfl) ?_ AllReady.nil
        refine (plus_any S (nv X 0 8, nv X 8 8) _ HS0.out.2.2 (nv_ok X 0 8)).mono ?_
        rintro e v3 ⟨rfl, hb⟩
        refine ⟨_, rfl, ?_⟩
        simp only [Act.put, List.setIfInBounds_toArray, List.set_cons_zero, List.set_cons_succ]
        have HB3 := Lib.hid (Lw.go_on HB2.out hb)
        clear hb
        refine wpAny_ready (rs := [8]) (by kernel_rfl) (by simp) ?_
        refine ready_callTo (some 36) rfl rfl rfl 38 _ _ rfl (fun _ _ => by go_simp) #[.agg (elA (pl S (nv X 0 8, nv X 8 8)))] (by kernel_rfl) ?_ AllReady.nil
        have ht := text_any (pl S (nv X 0 8, nv X 8 8)).1 (pl S (nv X 0 8, nv X 8 8)).2 v3
        rw [HTg.out] at ht
        refine ht.mono ?_
        rintro e v4 ⟨rfl, hb⟩
        refine ⟨_, rfl, ?_⟩
        simp only [Act.put, List.setIfInBounds_toArray, List.set_cons_zero, List.set_cons_succ]
        have HB4 := Lib.hid (Lw.go_on HB3.out hb)
        clear hb ht
        refine Lw.take_to (i := 9) (some 6) (.string TG) rfl rfl (by kernel_rfl) (by kernel_rfl) (by kernel_rfl) (fun _ _ _ h => h) (Or.inl ⟨by rfl, fun w => by go_simp⟩) ?_
        simp only [Act.put, List.setIfInBounds_toArray, List.set_cons_zero, List.set_cons_succ]
        refine wpAny_done (by kernel_rfl) ?_ _
        go_wp2_with (fail)
        go_ret
        exact ⟨rfl, HB4.out⟩
end Go.Proofs.Gd
