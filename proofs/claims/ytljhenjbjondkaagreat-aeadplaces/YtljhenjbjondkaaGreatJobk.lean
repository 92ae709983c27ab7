/-
  The developers' gcm: a key and a nonce as a cipher.
-/
import Derived.Test.YtljhenjbjondkaaGreatJobj
namespace Go.Proofs.Gd
open Go.RowKit Go.Proofs.Gcm
open Go.Proofs.Aes (byt byt_lt get_byt ciphS encS encS_size aesS aesE aesOk)
open Go.Proofs.Im (wpList_box_to)
open Go.Proofs.Sha (wpList_alloc_to)
/-- A row and a number as results. -/
theorem results_row_slot {P : Program} {fn : Func} {p q : Tmp} {ty : TypeId} (h : fn.results = #[.cell p ty, .tmp q]) (tmps : Array Value) (w : World) (g : Nat) (t : TypeId) (cs : Array Value) (fr : Nat × Nat) (d : TypeDesc) (v : Value)
    (hp : tmps.getD p undef = .pointer (some ⟨g, 0, none⟩)) (hq : tmps.getD q undef = v) (hg : w.heap[g]? = some (.cells cs t fr))
    (hu : P.underlying ty = some d) (hd : (match d with | .struct _ | .array _ _ => true | _ => false) = true) (hi : (P.info? ty).map (·.size) = some cs.size) :
    (results fn tmps).run P w = .ok (.tuple #[.agg cs, v]) w := by
  have hp' : tmps[p]?.getD undef = .pointer (some ⟨g, 0, none⟩) := by simpa using hp
  have hq' : tmps[q]?.getD undef = v := by simpa using hq
  simp [results, h, hp', hq', asAddr, run_loadVar_row w g t ty cs fr d hg hu hd hi]
/-- No cipher. -/
def noC : Array Value := cA ⟨#[]⟩ ⟨#[]⟩ (0, 0)
theorem allocC (w : World) : (Instr.alloc 52 true (.tuple #[])).run Tryz.prog w = .ok (.pointer (some ⟨w.heap.size, 0, none⟩)) (w.alloc (.cells noC 52)) := by kernel_rfl
/-- The key of a cipher's hash. -/
def hK (key : ByteArray) : Nat × Nat := (nv (encS key (zS 16)) 0 8, nv (encS key (zS 16)) 8 8)
def ResC (w u : World) : Prop := CiR u w.heap.size ⟨#[]⟩ ⟨#[]⟩ (0, 0) ∧ Below w.heap.size w u
theorem ResC.on {w u v : World} (h : ResC w u) (hb : Below u.heap.size u v) : ResC w v := ⟨h.1.on hb, Lw.go_on h.2 hb⟩
set_option maxHeartbeats 2000000 in
theorem keyed_ok (key nonce : ByteArray) (w : World) (hk : keyOk key = true) (hno : nonce.size = 12) :
    Calls Tryz.prog 27 #[.string key, .string nonce] w fun e w' => e = .returned (.tuple #[.agg (cA key nonce (hK key)), .int .i64 0]) ∧ Below w.heap.size w w' := by
  have HBk := Lib.hid fun W => block_fine key (zS 16) W hk (zS_size 16)
  have HZ := Lib.hid (encS_size key (zS 16))
  unfold hK
  generalize encS key (zS 16) = H at HBk HZ ⊢
  obtain ⟨M, _, hMc, hmk0⟩ := zeros 16 (by decide)
  have hmk : ∀ W : World, (Instr.makeSlice 35 (.int .i64 16) (.int .i64 16)).run Tryz.prog W = .ok (.slice (some ⟨W.heap.size, 0, none⟩) 16 16) (W.alloc (.cells M 5)) := hmk0
  have hcv := fun W => conv_new W M 16 hMc
  clear hmk0 hMc hk
  go_enter Tryz.func27, Tryz.ntmps27
  go_upto_region 0 with (fail)
  apply wp_region_lit
  refine wpList_alloc_to rfl 52 rfl noC w.heap.size rfl allocC ?_
  have HR : Hid (ResC w (w.alloc (.cells noC 52))) := ⟨CiR.new w _ _ _, (Below.refl _ _).alloc (Nat.le_refl _) _⟩
  generalize w.alloc (.cells noC 52) = w1 at HR ⊢
  have HR : Hid (ResC w (w1.alloc (.cells M 5))) := HR.out.on ((Below.refl _ _).alloc (Nat.le_refl _) _)
  go_wp2_with (go_at_call 42; fail)
  clear hmk hcv
  generalize w1.alloc (.cells M 5) = w2 at HR ⊢
  refine (HBk.out _).mono ?_
  rintro e u ⟨rfl, hb⟩
  have HR := Lib.hid (HR.out.on hb)
  clear hb
  go_upto_region 4 with (fail)
  apply wp_region_lit
  refine Lw.wpList_val rfl (.string key) u (by go_simp) ?_
  refine Lw.wpList_val rfl (.string nonce) u (by go_simp) ?_
  refine Lw.wpList_val rfl (.string H) u (by go_simp) ?_
  simp only [Act.put, List.setIfInBounds_toArray, List.set_cons_zero, List.set_cons_succ]
  refine Lw.wpList_callTo (some 26) rfl rfl 43 _ _ rfl (fun _ _ => by go_simp) #[.string H] (by kernel_rfl) ?_
  refine (read_any H _ HZ.out).mono ?_
  rintro e v ⟨rfl, hb⟩
  refine ⟨_, rfl, ?_⟩
  simp only [Act.put, List.setIfInBounds_toArray, List.set_cons_zero, List.set_cons_succ]
  have HR := Lib.hid (HR.out.on hb)
  clear hb
  refine Lw.wpList_val rfl (.agg (cA key nonce (nv H 0 8, nv H 8 8))) v (by kernel_rfl) ?_
  simp only [Act.put, List.setIfInBounds_toArray, List.set_cons_zero, List.set_cons_succ]
  refine wpList_store_row rfl 52 _ _ rfl w.heap.size (cA key nonce (nv H 0 8, nv H 8 8)) rfl rfl 52 _ HR.out.1 (by kernel_rfl) rfl (cA_one _ _ _) ?_
  go_wp2_with (fail)
  refine bodyPost_ret (v := .tuple #[.agg (cA key nonce (nv H 0 8, nv H 8 8)), .int .i64 0]) ?_ rfl ?_
  · exact results_row_slot (fn := Tryz.f27) Tryz.results27 _ _ w.heap.size 52 _ (0, 0) _ _ rfl rfl (setRow_heap _ _ _ _ _ _ HR.out.1) Tryz.underlying52 rfl (by kernel_rfl)
  · exact ⟨rfl, below_setRow HR.out.2 (Nat.le_refl _) _⟩
theorem keyed_no (key nonce : ByteArray) (w : World) (h : ¬ (keyOk key = true ∧ nonce.size = 12)) :
    Calls Tryz.prog 27 #[.string key, .string nonce] w fun e w' => e = .returned (.tuple #[.agg noC, .int .i64 500]) ∧ Below w.heap.size w w' := by
  obtain ⟨M, _, hMc, hmk0⟩ := zeros 16 (by decide)
  have hmk : ∀ W : World, (Instr.makeSlice 35 (.int .i64 16) (.int .i64 16)).run Tryz.prog W = .ok (.slice (some ⟨W.heap.size, 0, none⟩) 16 16) (W.alloc (.cells M 5)) := hmk0
  have hcv := fun W => conv_new W M 16 hMc
  clear hmk0 hMc
  have ok : (∃ A : ByteArray, ∀ W, Calls Tryz.prog 42 #[.string key, .string (zS 16)] W fun e w' => e = .returned (.tuple #[.string A, .int .i64 400]) ∧ Below W.heap.size W w') ∨ ((∃ A : ByteArray, ∀ W, Calls Tryz.prog 42 #[.string key, .string (zS 16)] W fun e w' => e = .returned (.tuple #[.string A, .int .i64 0]) ∧ Below W.heap.size W w') ∧ ¬ nonce.size = 12) := by
    cases hk : keyOk key with
    | true => exact Or.inr ⟨⟨_, fun W => block_fine key (zS 16) W hk (zS_size 16)⟩, fun hn => h ⟨hk, hn⟩⟩
    | false =>
      refine Or.inl ⟨aesS key (zS 16), fun W => ?_⟩
      have hb := Ae.block_any key (zS 16) W
      have e : aesE key (zS 16) = 400 := by
        have o : aesOk key (zS 16) = false := by
          show (keyOk key && _) = false
          rw [hk]; rfl
        unfold aesE; rw [o]; rfl
      rwa [e] at hb
  clear h
  go_enter Tryz.func27, Tryz.ntmps27
  go_upto_region 0 with (fail)
  apply wp_region_lit
  refine wpList_alloc_to rfl 52 rfl noC w.heap.size rfl allocC ?_
  have HR : Hid (ResC w (w.alloc (.cells noC 52))) := ⟨CiR.new w _ _ _, (Below.refl _ _).alloc (Nat.le_refl _) _⟩
  generalize w.alloc (.cells noC 52) = w1 at HR ⊢
  have HR : Hid (ResC w (w1.alloc (.cells M 5))) := HR.out.on ((Below.refl _ _).alloc (Nat.le_refl _) _)
  go_wp2_with (go_at_call 42; fail)
  clear hmk hcv
  generalize w1.alloc (.cells M 5) = w2 at HR ⊢
  rcases ok with ⟨A, hA⟩ | ⟨⟨A, hA⟩, hn⟩
  · refine (hA _).mono ?_
    rintro e u ⟨rfl, hb⟩
    have HR := Lib.hid (HR.out.on hb)
    clear hb hA
    go_upto_region 3 with (fail)
    apply wp_region_lit
    refine Lw.wpList_val rfl (.agg noC) u (by kernel_rfl) ?_
    simp only [Act.put, List.setIfInBounds_toArray, List.set_cons_zero, List.set_cons_succ]
    refine wpList_store_row rfl 52 _ _ rfl w.heap.size noC rfl rfl 52 _ HR.out.1 (by kernel_rfl) rfl (cA_one _ _ _) ?_
    go_wp2_with (fail)
    refine bodyPost_ret (v := .tuple #[.agg noC, .int .i64 500]) ?_ rfl ?_
    · exact results_row_slot (fn := Tryz.f27) Tryz.results27 _ _ w.heap.size 52 _ (0, 0) _ _ rfl rfl (setRow_heap _ _ _ _ _ _ HR.out.1) Tryz.underlying52 rfl (by kernel_rfl)
    · exact ⟨rfl, below_setRow HR.out.2 (Nat.le_refl _) _⟩
  · have n1 : ((nonce.size : Int) != 12) = true := by simp; omega
    have n2 : ((nonce.size : Int) == 12) = false := by simp; omega
    refine (hA _).mono ?_
    rintro e u ⟨rfl, hb⟩
    have HR := Lib.hid (HR.out.on hb)
    clear hb hA
    go_upto_region 3 with (fail)
    apply wp_region_lit
    refine Lw.wpList_val rfl (.agg noC) u (by kernel_rfl) ?_
    simp only [Act.put, List.setIfInBounds_toArray, List.set_cons_zero, List.set_cons_succ]
    refine wpList_store_row rfl 52 _ _ rfl w.heap.size noC rfl rfl 52 _ HR.out.1 (by kernel_rfl) rfl (cA_one _ _ _) ?_
    go_wp2_with (fail)
    refine bodyPost_ret (v := .tuple #[.agg noC, .int .i64 500]) ?_ rfl ?_
    · exact results_row_slot (fn := Tryz.f27) Tryz.results27 _ _ w.heap.size 52 _ (0, 0) _ _ rfl rfl (setRow_heap _ _ _ _ _ _ HR.out.1) Tryz.underlying52 rfl (by kernel_rfl)
    · exact ⟨rfl, below_setRow HR.out.2 (Nat.le_refl _) _⟩
end Go.Proofs.Gd
/-
  The developers' gcm: Seal at every input.
-/
namespace Go.Proofs.Gs
open Go.RowKit Go.Proofs.Gcm Go.Proofs.Gd
open Go.Proofs.Aes (byt byt_lt get_byt ciphS encS encS_size)
open Go.Proofs.Sha (wpList_alloc_to)
set_option maxHeartbeats 2000000 in
theorem seal_key (key nonce aad s : ByteArray) (w : World) (h : ¬ (keyOk key = true ∧ nonce.size = 12)) :
    Calls Tryz.prog 16 #[.string key, .string nonce, .string aad, .string s] w fun e w' => e = .returned (.tuple #[.string ⟨#[]⟩, .int .i64 500]) ∧ Below w.heap.size w w' := by
  have HNk := Lib.hid h
  clear h
  go_enter Tryz.func16, Tryz.ntmps16
  go_upto_region 1 with (fail)
  apply wp_region_lit
  refine Lw.wpList_val rfl (.string key) w (by go_simp) ?_
  refine Lw.wpList_val rfl (.string nonce) w (by go_simp) ?_
  simp only [Act.put, List.setIfInBounds_toArray, List.set_cons_zero, List.set_cons_succ]
  refine Lw.wpList_callTo (some 16) rfl rfl 27 _ _ rfl (fun _ _ => by go_simp) #[.string key, .string nonce] (by kernel_rfl) ?_
  refine (keyed_no key nonce _ HNk.out).mono ?_
  rintro e u ⟨rfl, hb⟩
  refine ⟨_, rfl, ?_⟩
  simp only [Act.put, List.setIfInBounds_toArray, List.set_cons_zero, List.set_cons_succ]
  refine Lw.wpList_val rfl (.tuple #[.agg noC, .int .i64 500]) u (by go_simp) ?_
  simp only [Act.put, List.setIfInBounds_toArray, List.set_cons_zero, List.set_cons_succ]
  refine Lw.wpList_val rfl (.agg noC) u (by go_simp) ?_
  simp only [Act.put, List.setIfInBounds_toArray, List.set_cons_zero, List.set_cons_succ]
  refine Lw.wpList_val rfl (.int .i64 500) u (by go_simp) ?_
  simp only [Act.put, List.setIfInBounds_toArray, List.set_cons_zero, List.set_cons_succ]
  refine wpList_alloc_to rfl 52 rfl noC u.heap.size rfl allocC ?_
  simp only [Act.put, List.setIfInBounds_toArray, List.set_cons_zero, List.set_cons_succ]
  refine wpList_store_row rfl 52 _ _ rfl u.heap.size noC rfl rfl 52 _ (CiR.new u _ _ _) (by kernel_rfl) rfl (cA_one _ _ _) ?_
  have HB : Hid (Below w.heap.size w ((u.alloc (.cells noC 52)).setRow u.heap.size noC)) := below_setRow (hb.alloc hb.size _) hb.size _
  generalize (u.alloc (.cells noC 52)).setRow u.heap.size noC = v at HB ⊢
  generalize u.heap.size = c
  clear hb
  simp only [Act.put]
  go_wp2_with (fail)
  go_ret2
  exact ⟨rfl, HB.out⟩
set_option maxHeartbeats 2000000 in
theorem seal_aad (key nonce aad s : ByteArray) (w : World) (hk : keyOk key = true) (hno : nonce.size = 12) (ha : ¬ aad.size ≤ 65536) :
    Calls Tryz.prog 16 #[.string key, .string nonce, .string aad, .string s] w fun e w' => e = .returned (.tuple #[.string ⟨#[]⟩, .int .i64 500]) ∧ Below w.heap.size w w' := by
  have HK := Lib.hid hk
  have HNo := Lib.hid hno
  clear hk hno
  have a1 : ((65536 : Int) < (aad.size : Int)) = True := eq_true (by omega)
  have a2 : (65536 < aad.size) = True := eq_true (by omega)
  clear ha
  go_enter Tryz.func16, Tryz.ntmps16
  go_upto_region 1 with (fail)
  apply wp_region_lit
  refine Lw.wpList_val rfl (.string key) w (by go_simp) ?_
  refine Lw.wpList_val rfl (.string nonce) w (by go_simp) ?_
  simp only [Act.put, List.setIfInBounds_toArray, List.set_cons_zero, List.set_cons_succ]
  refine Lw.wpList_callTo (some 16) rfl rfl 27 _ _ rfl (fun _ _ => by go_simp) #[.string key, .string nonce] (by kernel_rfl) ?_
  refine (keyed_ok key nonce _ HK.out HNo.out).mono ?_
  rintro e u ⟨rfl, hb⟩
  refine ⟨_, rfl, ?_⟩
  simp only [Act.put, List.setIfInBounds_toArray, List.set_cons_zero, List.set_cons_succ]
  refine Lw.wpList_val rfl (.tuple #[.agg (cA key nonce (hK key)), .int .i64 0]) u (by go_simp) ?_
  simp only [Act.put, List.setIfInBounds_toArray, List.set_cons_zero, List.set_cons_succ]
  refine Lw.wpList_val rfl (.agg (cA key nonce (hK key))) u (by go_simp) ?_
  simp only [Act.put, List.setIfInBounds_toArray, List.set_cons_zero, List.set_cons_succ]
  refine Lw.wpList_val rfl (.int .i64 0) u (by go_simp) ?_
  simp only [Act.put, List.setIfInBounds_toArray, List.set_cons_zero, List.set_cons_succ]
  refine wpList_alloc_to rfl 52 rfl noC u.heap.size rfl allocC ?_
  simp only [Act.put, List.setIfInBounds_toArray, List.set_cons_zero, List.set_cons_succ]
  refine wpList_store_row rfl 52 _ _ rfl u.heap.size (cA key nonce (hK key)) rfl rfl 52 _ (CiR.new u _ _ _) (by kernel_rfl) rfl (cA_one _ _ _) ?_
  have HC : Hid (CiR ((u.alloc (.cells noC 52)).setRow u.heap.size (cA key nonce (hK key))) u.heap.size key nonce (hK key)) := setRow_heap _ _ _ _ _ _ (CiR.new u _ _ _)
  have HB : Hid (Below w.heap.size w ((u.alloc (.cells noC 52)).setRow u.heap.size (cA key nonce (hK key)))) := below_setRow (hb.alloc hb.size _) hb.size _
  generalize (u.alloc (.cells noC 52)).setRow u.heap.size (cA key nonce (hK key)) = v at HC HB ⊢
  generalize u.heap.size = c at HC ⊢
  clear hb
  simp only [Act.put]
  clear HC
  go_wp2_with (fail)
  go_ret2
  exact ⟨rfl, HB.out⟩
set_option maxHeartbeats 2000000 in
theorem seal_s (key nonce aad s : ByteArray) (w : World) (hk : keyOk key = true) (hno : nonce.size = 12) (ha : aad.size ≤ 65536) (hs : ¬ s.size ≤ 65536) :
    Calls Tryz.prog 16 #[.string key, .string nonce, .string aad, .string s] w fun e w' => e = .returned (.tuple #[.string ⟨#[]⟩, .int .i64 500]) ∧ Below w.heap.size w w' := by
  have HK := Lib.hid hk
  have HNo := Lib.hid hno
  clear hk hno
  have a1 : ((65536 : Int) < (aad.size : Int)) = False := eq_false (by omega)
  have a2 : (65536 < aad.size) = False := eq_false (by omega)
  have s1 : ((65536 : Int) < (s.size : Int)) = True := eq_true (by omega)
  have s2 : (65536 < s.size) = True := eq_true (by omega)
  clear ha hs
  go_enter Tryz.func16, Tryz.ntmps16
  go_upto_region 1 with (fail)
  apply wp_region_lit
  refine Lw.wpList_val rfl (.string key) w (by go_simp) ?_
  refine Lw.wpList_val rfl (.string nonce) w (by go_simp) ?_
  simp only [Act.put, List.setIfInBounds_toArray, List.set_cons_zero, List.set_cons_succ]
  refine Lw.wpList_callTo (some 16) rfl rfl 27 _ _ rfl (fun _ _ => by go_simp) #[.string key, .string nonce] (by kernel_rfl) ?_
  refine (keyed_ok key nonce _ HK.out HNo.out).mono ?_
  rintro e u ⟨rfl, hb⟩
  refine ⟨_, rfl, ?_⟩
  simp only [Act.put, List.setIfInBounds_toArray, List.set_cons_zero, List.set_cons_succ]
  refine Lw.wpList_val rfl (.tuple #[.agg (cA key nonce (hK key)), .int .i64 0]) u (by go_simp) ?_
  simp only [Act.put, List.setIfInBounds_toArray, List.set_cons_zero, List.set_cons_succ]
  refine Lw.wpList_val rfl (.agg (cA key nonce (hK key))) u (by go_simp) ?_
  simp only [Act.put, List.setIfInBounds_toArray, List.set_cons_zero, List.set_cons_succ]
  refine Lw.wpList_val rfl (.int .i64 0) u (by go_simp) ?_
  simp only [Act.put, List.setIfInBounds_toArray, List.set_cons_zero, List.set_cons_succ]
  refine wpList_alloc_to rfl 52 rfl noC u.heap.size rfl allocC ?_
  simp only [Act.put, List.setIfInBounds_toArray, List.set_cons_zero, List.set_cons_succ]
  refine wpList_store_row rfl 52 _ _ rfl u.heap.size (cA key nonce (hK key)) rfl rfl 52 _ (CiR.new u _ _ _) (by kernel_rfl) rfl (cA_one _ _ _) ?_
  have HC : Hid (CiR ((u.alloc (.cells noC 52)).setRow u.heap.size (cA key nonce (hK key))) u.heap.size key nonce (hK key)) := setRow_heap _ _ _ _ _ _ (CiR.new u _ _ _)
  have HB : Hid (Below w.heap.size w ((u.alloc (.cells noC 52)).setRow u.heap.size (cA key nonce (hK key)))) := below_setRow (hb.alloc hb.size _) hb.size _
  generalize (u.alloc (.cells noC 52)).setRow u.heap.size (cA key nonce (hK key)) = v at HC HB ⊢
  generalize u.heap.size = c at HC ⊢
  clear hb
  simp only [Act.put]
  clear HC
  go_wp2_with (fail)
  go_ret2
  exact ⟨rfl, HB.out⟩
set_option maxHeartbeats 2000000 in
theorem seal_yes (key nonce aad s : ByteArray) (w : World) (hk : keyOk key = true) (hno : nonce.size = 12) (ha : aad.size ≤ 65536) (hs : s.size ≤ 65536) :
    Calls Tryz.prog 16 #[.string key, .string nonce, .string aad, .string s] w fun e w' => e = .returned (.tuple #[.string (sealS key nonce aad s), .int .i64 0]) ∧ Below w.heap.size w w' := by
  have HK := Lib.hid hk
  have HNo := Lib.hid hno
  have HA := Lib.hid ha
  have HS := Lib.hid hs
  have a1 : ((65536 : Int) < (aad.size : Int)) = False := eq_false (by omega)
  have a2 : (65536 < aad.size) = False := eq_false (by omega)
  have s1 : ((65536 : Int) < (s.size : Int)) = False := eq_false (by omega)
  have s2 : (65536 < s.size) = False := eq_false (by omega)
  have HMk := Lib.hid fun W => masked_any key nonce s (hK key) W hk hno (Nat.le_trans hs (by decide))
  have z1 := ctrS_size (wkS key) (nR key) nonce 2 s
  have HTg := Lib.hid fun W => tag_any key nonce aad (ctrS (wkS key) (nR key) nonce 2 s) (hK key) W hk hno rfl (Nat.le_trans ha (by decide)) (by rw [z1]; exact Nat.le_trans hs (by decide))
  have z2 := tagS_size (wkS key) (nR key) nonce aad (ctrS (wkS key) (nR key) nonce 2 s)
  unfold sealS
  generalize tagS (wkS key) (nR key) nonce aad (ctrS (wkS key) (nR key) nonce 2 s) = T at HTg z2 ⊢
  generalize ctrS (wkS key) (nR key) nonce 2 s = D at HMk HTg z1 ⊢
  have q1 : ¬ 9223372036854775807 < s.size + 16 := by omega
  clear hk hno ha hs
  go_enter Tryz.func16, Tryz.ntmps16
  go_upto_region 1 with (fail)
  apply wp_region_lit
  refine Lw.wpList_val rfl (.string key) w (by go_simp) ?_
  refine Lw.wpList_val rfl (.string nonce) w (by go_simp) ?_
  simp only [Act.put, List.setIfInBounds_toArray, List.set_cons_zero, List.set_cons_succ]
  refine Lw.wpList_callTo (some 16) rfl rfl 27 _ _ rfl (fun _ _ => by go_simp) #[.string key, .string nonce] (by kernel_rfl) ?_
  refine (keyed_ok key nonce _ HK.out HNo.out).mono ?_
  rintro e u ⟨rfl, hb⟩
  refine ⟨_, rfl, ?_⟩
  simp only [Act.put, List.setIfInBounds_toArray, List.set_cons_zero, List.set_cons_succ]
  refine Lw.wpList_val rfl (.tuple #[.agg (cA key nonce (hK key)), .int .i64 0]) u (by go_simp) ?_
  simp only [Act.put, List.setIfInBounds_toArray, List.set_cons_zero, List.set_cons_succ]
  refine Lw.wpList_val rfl (.agg (cA key nonce (hK key))) u (by go_simp) ?_
  simp only [Act.put, List.setIfInBounds_toArray, List.set_cons_zero, List.set_cons_succ]
  refine Lw.wpList_val rfl (.int .i64 0) u (by go_simp) ?_
  simp only [Act.put, List.setIfInBounds_toArray, List.set_cons_zero, List.set_cons_succ]
  refine wpList_alloc_to rfl 52 rfl noC u.heap.size rfl allocC ?_
  simp only [Act.put, List.setIfInBounds_toArray, List.set_cons_zero, List.set_cons_succ]
  refine wpList_store_row rfl 52 _ _ rfl u.heap.size (cA key nonce (hK key)) rfl rfl 52 _ (CiR.new u _ _ _) (by kernel_rfl) rfl (cA_one _ _ _) ?_
  have HC : Hid (CiR ((u.alloc (.cells noC 52)).setRow u.heap.size (cA key nonce (hK key))) u.heap.size key nonce (hK key)) := setRow_heap _ _ _ _ _ _ (CiR.new u _ _ _)
  have HB : Hid (Below w.heap.size w ((u.alloc (.cells noC 52)).setRow u.heap.size (cA key nonce (hK key)))) := below_setRow (hb.alloc hb.size _) hb.size _
  generalize (u.alloc (.cells noC 52)).setRow u.heap.size (cA key nonce (hK key)) = v at HC HB ⊢
  generalize u.heap.size = c at HC ⊢
  clear hb
  simp only [Act.put]
  go_upto_region 4 with (fail)
  apply wp_region_lit
  refine wpList_load_row rfl 52 _ rfl c rfl 52 (cA key nonce (hK key)) (0, 0) _ HC.out Tryz.underlying52 rfl (by kernel_rfl) ?_
  simp only [Act.put, List.setIfInBounds_toArray, List.set_cons_zero, List.set_cons_succ]
  refine Lw.wpList_val rfl (.string s) v (by go_simp) ?_
  simp only [Act.put, List.setIfInBounds_toArray, List.set_cons_zero, List.set_cons_succ]
  refine Lw.wpList_callTo (some 33) rfl rfl 28 _ _ rfl (fun _ _ => by go_simp) #[.agg (cA key nonce (hK key)), .string s] (by kernel_rfl) ?_
  refine (HMk.out _).mono ?_
  rintro e u2 ⟨rfl, hb⟩
  refine ⟨_, rfl, ?_⟩
  simp only [Act.put, List.setIfInBounds_toArray, List.set_cons_zero, List.set_cons_succ]
  have HC := Lib.hid (HC.out.on hb)
  have HB := Lib.hid (Lw.go_on HB.out hb)
  clear hb
  go_upto_region 5 with (fail)
  apply wp_region_lit
  refine Lw.wpList_val rfl (.string D) u2 (by go_simp) ?_
  simp only [Act.put, List.setIfInBounds_toArray, List.set_cons_zero, List.set_cons_succ]
  refine wpList_load_row rfl 52 _ rfl c rfl 52 (cA key nonce (hK key)) (0, 0) _ HC.out Tryz.underlying52 rfl (by kernel_rfl) ?_
  simp only [Act.put, List.setIfInBounds_toArray, List.set_cons_zero, List.set_cons_succ]
  refine Lw.wpList_val rfl (.string aad) u2 (by go_simp) ?_
  simp only [Act.put, List.setIfInBounds_toArray, List.set_cons_zero, List.set_cons_succ]
  refine Lw.wpList_val rfl (.string D) u2 (by go_simp) ?_
  simp only [Act.put, List.setIfInBounds_toArray, List.set_cons_zero, List.set_cons_succ]
  refine Lw.wpList_callTo (some 38) rfl rfl 29 _ _ rfl (fun _ _ => by go_simp) #[.agg (cA key nonce (hK key)), .string aad, .string D] (by kernel_rfl) ?_
  refine (HTg.out _).mono ?_
  rintro e u3 ⟨rfl, hb⟩
  refine ⟨_, rfl, ?_⟩
  simp only [Act.put, List.setIfInBounds_toArray, List.set_cons_zero, List.set_cons_succ]
  have HB := Lib.hid (Lw.go_on HB.out hb)
  clear hb
  go_wp2_with (fail)
  go_ret2
  exact ⟨rfl, HB.out⟩
theorem seal_any (key nonce aad s : ByteArray) (w : World) :
    Calls Tryz.prog 16 #[.string key, .string nonce, .string aad, .string s] w fun e w' => e = .returned (.tuple #[.string (gcmS key nonce aad s), .int .i64 (gcmE key nonce aad s)]) ∧ Below w.heap.size w w' := by
  by_cases h : keyOk key = true ∧ nonce.size = 12
  · by_cases ha : aad.size ≤ 65536
    · by_cases hs : s.size ≤ 65536
      · have o := gcm_ok (gcmOk_of (more := 0) (keyOk_or h.1) h.2 ha hs)
        rw [o.1, o.2]; exact seal_yes key nonce aad s w h.1 h.2 ha hs
      · have o := gcm_no (key := key) (nonce := nonce) (aad := aad) (s := s) (by unfold gcmOk; rw [h.1, decide_eq_false (show ¬ s.size ≤ 65536 + 0 by omega)]; simp)
        rw [o.1, o.2]; exact seal_s key nonce aad s w h.1 h.2 ha hs
    · have o := gcm_no (key := key) (nonce := nonce) (aad := aad) (s := s) (by unfold gcmOk; rw [decide_eq_false ha]; simp)
      rw [o.1, o.2]; exact seal_aad key nonce aad s w h.1 h.2 ha
  · have o := gcm_no (key := key) (nonce := nonce) (aad := aad) (s := s) (by
      cases hk : keyOk key with
      | true => unfold gcmOk; rw [decide_eq_false (show ¬ nonce.size = 12 from fun hn => h ⟨hk, hn⟩)]; simp
      | false => unfold gcmOk; rw [hk]; rfl)
    rw [o.1, o.2]; exact seal_key key nonce aad s w h
end Go.Proofs.Gs
