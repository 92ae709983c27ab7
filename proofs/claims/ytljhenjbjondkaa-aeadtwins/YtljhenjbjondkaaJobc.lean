/-
  The developers' gcm: a key and a nonce as a cipher.
-/
import Derived.Test.YtljhenjbjondkaaJobb
namespace Go.Proofs.Gd
open Go.RowKit Go.Proofs.Gcm
open Go.Proofs.Aes (byt byt_lt get_byt ciphS encS encS_size aesS aesE aesOk)
open Go.Proofs.Im (wpList_box_to)
open Go.Proofs.Sha (wpList_alloc_to)
/-- A row and a number as results. -/
theorem results_row_slot {P : Program} {fn : Func} {p q : Tmp} {ty : TypeId} (h : fn.results = #[.cell p ty, .tmp q]) (tmps : Array Value) (w : World) (g : Nat) (t : TypeId) (cs : Array Value) (fr : Nat × Nat) (d : TypeDesc) (v : Value)
    (hp : tmps.getD p undef = .pointer (some ⟨g, 0, none⟩)) (hq : tmps.getD q undef = v) (hg : w.heap[g]? = some (.cells cs t fr))
    (hu : P.underlying ty = some d) (hd : (match d with | .struct _ | .array _ _ => true | _ => false) = true) (hi : (P.info? ty).map (·.size) = some cs.size) :
    (results fn tmps).run P w = .ok (.tuple #[.agg cs, v]) w := by
  have hp' : tmps[p]?.getD undef = .pointer (some ⟨g, 0, none⟩) := by simpa using hp
  have hq' : tmps[q]?.getD undef = v := by simpa using hq
  simp [results, h, hp', hq', asAddr, run_loadVar_row w g t ty cs fr d hg hu hd hi]
/-- No cipher. -/
def noC : Array Value := cA ⟨#[]⟩ ⟨#[]⟩ (0, 0)
theorem allocC (w : World) : (Instr.alloc 48 true (.tuple #[])).run Try.prog w = .ok (.pointer (some ⟨w.heap.size, 0, none⟩)) (w.alloc (.cells noC 48)) := by kernel_rfl
/-- The key of a cipher's hash. -/
def hK (key : ByteArray) : Nat × Nat := (nv (encS key (zS 16)) 0 8, nv (encS key (zS 16)) 8 8)
def ResC (w u : World) : Prop := CiR u w.heap.size ⟨#[]⟩ ⟨#[]⟩ (0, 0) ∧ Below w.heap.size w u
theorem ResC.on {w u v : World} (h : ResC w u) (hb : Below u.heap.size u v) : ResC w v := ⟨h.1.on hb, Lw.go_on h.2 hb⟩
set_option maxHeartbeats 2000000 in
theorem keyed_ok (key nonce : ByteArray) (w : World) (hk : keyOk key = true) (hno : nonce.size = 12) :
    Calls Try.prog 21 #[.string key, .string nonce] w fun e w' => e = .returned (.tuple #[.agg (cA key nonce (hK key)), .int .i64 0]) ∧ Below w.heap.size w w' := by
  have HBk := Lib.hid fun W => block_fine key (zS 16) W hk (zS_size 16)
  have HZ := Lib.hid (encS_size key (zS 16))
  unfold hK
  generalize encS key (zS 16) = H at HBk HZ ⊢
  obtain ⟨M, _, hMc, hmk0⟩ := zeros 16 (by decide)
  have hmk : ∀ W : World, (Instr.makeSlice 27 (.int .i64 16) (.int .i64 16)).run Try.prog W = .ok (.slice (some ⟨W.heap.size, 0, none⟩) 16 16) (W.alloc (.cells M 5)) := hmk0
  have hcv := fun W => conv_new W M 16 hMc
  clear hmk0 hMc hk
  go_enter Try.func21, Try.ntmps21
  go_upto_region 0 with (fail)
  apply wp_region_lit
  refine wpList_alloc_to rfl 48 rfl noC w.heap.size rfl allocC ?_
  have HR : Hid (ResC w (w.alloc (.cells noC 48))) := ⟨CiR.new w _ _ _, (Below.refl _ _).alloc (Nat.le_refl _) _⟩
  generalize w.alloc (.cells noC 48) = w1 at HR ⊢
  have HR : Hid (ResC w (w1.alloc (.cells M 5))) := HR.out.on ((Below.refl _ _).alloc (Nat.le_refl _) _)
  go_wp2_with (go_at_call 31; fail)
  clear hmk hcv
  generalize w1.alloc (.cells M 5) = w2 at HR ⊢
  refine (HBk.out _).mono ?_
  rintro e u ⟨rfl, hb⟩
  have HR := Lib.hid (HR.out.on hb)
  clear hb
  go_upto_region 4 with (fail)
  apply wp_region_lit
  refine Lw.wpList_val rfl (.string key) u (by go_simp) ?_
  refine Lw.wpList_val rfl (.string nonce) u (by go_simp) ?_
  refine Lw.wpList_val rfl (.string H) u (by go_simp) ?_
  simp only [Act.put, List.setIfInBounds_toArray, List.set_cons_zero, List.set_cons_succ]
  refine Lw.wpList_callTo (some 26) rfl rfl 32 _ _ rfl (fun _ _ => by go_simp) #[.string H] (by kernel_rfl) ?_
  refine (read_any H _ HZ.out).mono ?_
  rintro e v ⟨rfl, hb⟩
  refine ⟨_, rfl, ?_⟩
  simp only [Act.put, List.setIfInBounds_toArray, List.set_cons_zero, List.set_cons_succ]
  have HR := Lib.hid (HR.out.on hb)
  clear hb
  refine Lw.wpList_val rfl (.agg (cA key nonce (nv H 0 8, nv H 8 8))) v (by kernel_rfl) ?_
  simp only [Act.put, List.setIfInBounds_toArray, List.set_cons_zero, List.set_cons_succ]
  refine wpList_store_row rfl 48 _ _ rfl w.heap.size (cA key nonce (nv H 0 8, nv H 8 8)) rfl rfl 48 _ HR.out.1 (by kernel_rfl) rfl (cA_one _ _ _) ?_
  go_wp2_with (fail)
  refine bodyPost_ret (v := .tuple #[.agg (cA key nonce (nv H 0 8, nv H 8 8)), .int .i64 0]) ?_ rfl ?_
  · exact results_row_slot (fn := Try.f21) Try.results21 _ _ w.heap.size 48 _ (0, 0) _ _ rfl rfl (setRow_heap _ _ _ _ _ _ HR.out.1) Try.underlying48 rfl (by kernel_rfl)
  · exact ⟨rfl, below_setRow HR.out.2 (Nat.le_refl _) _⟩
theorem keyed_no (key nonce : ByteArray) (w : World) (h : ¬ (keyOk key = true ∧ nonce.size = 12)) :
    Calls Try.prog 21 #[.string key, .string nonce] w fun e w' => e = .returned (.tuple #[.agg noC, .int .i64 500]) ∧ Below w.heap.size w w' := by
  obtain ⟨M, _, hMc, hmk0⟩ := zeros 16 (by decide)
  have hmk : ∀ W : World, (Instr.makeSlice 27 (.int .i64 16) (.int .i64 16)).run Try.prog W = .ok (.slice (some ⟨W.heap.size, 0, none⟩) 16 16) (W.alloc (.cells M 5)) := hmk0
  have hcv := fun W => conv_new W M 16 hMc
  clear hmk0 hMc
  have ok : (∃ A : ByteArray, ∀ W, Calls Try.prog 31 #[.string key, .string (zS 16)] W fun e w' => e = .returned (.tuple #[.string A, .int .i64 400]) ∧ Below W.heap.size W w') ∨ ((∃ A : ByteArray, ∀ W, Calls Try.prog 31 #[.string key, .string (zS 16)] W fun e w' => e = .returned (.tuple #[.string A, .int .i64 0]) ∧ Below W.heap.size W w') ∧ ¬ nonce.size = 12) := by
    cases hk : keyOk key with
    | true => exact Or.inr ⟨⟨_, fun W => block_fine key (zS 16) W hk (zS_size 16)⟩, fun hn => h ⟨hk, hn⟩⟩
    | false =>
      refine Or.inl ⟨aesS key (zS 16), fun W => ?_⟩
      have hb := Ae.block_any key (zS 16) W
      have e : aesE key (zS 16) = 400 := by
        have o : aesOk key (zS 16) = false := by
          show (keyOk key && _) = false
          rw [hk]; rfl
        unfold aesE; rw [o]; rfl
      rwa [e] at hb
  clear h
  go_enter Try.func21, Try.ntmps21
  go_upto_region 0 with (fail)
  apply wp_region_lit
  refine wpList_alloc_to rfl 48 rfl noC w.heap.size rfl allocC ?_
  have HR : Hid (ResC w (w.alloc (.cells noC 48))) := ⟨CiR.new w _ _ _, (Below.refl _ _).alloc (Nat.le_refl _) _⟩
  generalize w.alloc (.cells noC 48) = w1 at HR ⊢
  have HR : Hid (ResC w (w1.alloc (.cells M 5))) := HR.out.on ((Below.refl _ _).alloc (Nat.le_refl _) _)
  go_wp2_with (go_at_call 31; fail)
  clear hmk hcv
  generalize w1.alloc (.cells M 5) = w2 at HR ⊢
  rcases ok with ⟨A, hA⟩ | ⟨⟨A, hA⟩, hn⟩
  · refine (hA _).mono ?_
    rintro e u ⟨rfl, hb⟩
    have HR := Lib.hid (HR.out.on hb)
    clear hb hA
    go_upto_region 3 with (fail)
    apply wp_region_lit
    refine Lw.wpList_val rfl (.agg noC) u (by kernel_rfl) ?_
    simp only [Act.put, List.setIfInBounds_toArray, List.set_cons_zero, List.set_cons_succ]
    refine wpList_store_row rfl 48 _ _ rfl w.heap.size noC rfl rfl 48 _ HR.out.1 (by kernel_rfl) rfl (cA_one _ _ _) ?_
    go_wp2_with (fail)
    refine bodyPost_ret (v := .tuple #[.agg noC, .int .i64 500]) ?_ rfl ?_
    · exact results_row_slot (fn := Try.f21) Try.results21 _ _ w.heap.size 48 _ (0, 0) _ _ rfl rfl (setRow_heap _ _ _ _ _ _ HR.out.1) Try.underlying48 rfl (by kernel_rfl)
    · exact ⟨rfl, below_setRow HR.out.2 (Nat.le_refl _) _⟩
  · have n1 : ((nonce.size : Int) != 12) = true := by simp; omega
    have n2 : ((nonce.size : Int) == 12) = false := by simp; omega
    refine (hA _).mono ?_
    rintro e u ⟨rfl, hb⟩
    have HR := Lib.hid (HR.out.on hb)
    clear hb hA
    go_upto_region 3 with (fail)
    apply wp_region_lit
    refine Lw.wpList_val rfl (.agg noC) u (by kernel_rfl) ?_
    simp only [Act.put, List.setIfInBounds_toArray, List.set_cons_zero, List.set_cons_succ]
    refine wpList_store_row rfl 48 _ _ rfl w.heap.size noC rfl rfl 48 _ HR.out.1 (by kernel_rfl) rfl (cA_one _ _ _) ?_
    go_wp2_with (fail)
    refine bodyPost_ret (v := .tuple #[.agg noC, .int .i64 500]) ?_ rfl ?_
    · exact results_row_slot (fn := Try.f21) Try.results21 _ _ w.heap.size 48 _ (0, 0) _ _ rfl rfl (setRow_heap _ _ _ _ _ _ HR.out.1) Try.underlying48 rfl (by kernel_rfl)
    · exact ⟨rfl, below_setRow HR.out.2 (Nat.le_refl _) _⟩
end Go.Proofs.Gd
