/-
  The developers' aes: Block at every input; what halberdlaw4's awake answers.
-/
import Derived.Test.YtljhenjbjondkaaJoax
import Derived.Test.YtljhenjbjondkaaJoaz
import Derived.Test.YtljhenjbjondkaaJoam
import Derived.Test.YtljhenjbjondkaaJoat
namespace Go.Proofs.Ae
open Go.RowKit
open Go.Proofs.Aes
theorem ciphK (w : World) (g n r N : Nat) (key : ByteArray) (hN : N = 4 * (r + 1)) (h : Ciph w g (kS n key N) r) : CiphK w g r (exS n key (N - n)) :=
  ⟨_, h, kS_lt n key N, fun i hi => kS_in n key N i (by omega), exS_lt n key (N - n)⟩
set_option maxHeartbeats 1000000 in
theorem block_16 (key s : ByteArray) (w : World) (hk : key.size = 16) (hs : s.size = 16) :
    Calls Try.prog 31 #[.string key, .string s] w fun e w' => e = .returned (.tuple #[.string (encS key s), .int .i64 0]) ∧ Below w.heap.size w w' := by
  rw [encS_16 key s hk]
  have HK := Lib.hid hk
  have HS := Lib.hid hs
  go_enter Try.func31, Try.ntmps31
  go_wp2_with (first
    | (go_at_call 46; refine (keyed_16 key _ HK.out).mono ?_; rintro e u ⟨g, rfl, _, hb, hC⟩; have HB := Lib.hid hb; have HC := Lib.hid (ciphK u g 4 10 44 key rfl hC); clear hb hC)
    | (go_at_call 47; refine (encrypt_any (exS 4 key 40) g 9 s _ HC.out (by decide) HS.out).mono ?_; rintro e v ⟨rfl, hv⟩))
  go_ret2
  exact ⟨rfl, HB.out.trans (hv.mono HB.out.size)⟩
set_option maxHeartbeats 1000000 in
theorem block_32 (key s : ByteArray) (w : World) (hk : key.size = 32) (hs : s.size = 16) :
    Calls Try.prog 31 #[.string key, .string s] w fun e w' => e = .returned (.tuple #[.string (encS key s), .int .i64 0]) ∧ Below w.heap.size w w' := by
  rw [encS_32 key s hk]
  have HK := Lib.hid hk
  have HS := Lib.hid hs
  go_enter Try.func31, Try.ntmps31
  go_wp2_with (first
    | (go_at_call 46; refine (keyed_32 key _ HK.out).mono ?_; rintro e u ⟨g, rfl, _, hb, hC⟩; have HB := Lib.hid hb; have HC := Lib.hid (ciphK u g 8 14 60 key rfl hC); clear hb hC)
    | (go_at_call 47; refine (encrypt_any (exS 8 key 52) g 13 s _ HC.out (by decide) HS.out).mono ?_; rintro e v ⟨rfl, hv⟩))
  go_ret2
  exact ⟨rfl, HB.out.trans (hv.mono HB.out.size)⟩
set_option maxHeartbeats 1000000 in
theorem block_key (key s : ByteArray) (w : World) (h : ¬ key.size = 16) (h' : ¬ key.size = 32) :
    Calls Try.prog 31 #[.string key, .string s] w fun e w' => e = .returned (.tuple #[.string ⟨#[]⟩, .int .i64 400]) ∧ Below w.heap.size w w' := by
  have e1 : ((key.size : Int) == 16) = false := by simp; omega
  have e2 : ((key.size : Int) == 32) = false := by simp; omega
  have n1 : ((key.size : Int) != 16) = true := by simp; omega
  have n2 : ((key.size : Int) != 32) = true := by simp; omega
  clear h h'
  go_enter Try.func31, Try.ntmps31
  go_wp2_with (fail)
  go_ret2
  exact ⟨rfl, Below.refl _ _⟩
set_option maxHeartbeats 1000000 in
theorem block_s (key s : ByteArray) (w : World) (h : ¬ s.size = 16) :
    Calls Try.prog 31 #[.string key, .string s] w fun e w' => e = .returned (.tuple #[.string ⟨#[]⟩, .int .i64 400]) ∧ Below w.heap.size w w' := by
  have e1 : ((s.size : Int) == 16) = false := by simp; omega
  have n1 : ((s.size : Int) != 16) = true := by simp; omega
  by_cases h1 : key.size = 16
  · clear h
    go_enter Try.func31, Try.ntmps31
    go_wp2_with (fail)
    go_ret2
    exact ⟨rfl, Below.refl _ _⟩
  · by_cases h2 : key.size = 32
    · clear h h1
      go_enter Try.func31, Try.ntmps31
      go_wp2_with (fail)
      go_ret2
      exact ⟨rfl, Below.refl _ _⟩
    · exact block_key key s w h1 h2
theorem block_any (key s : ByteArray) (w : World) :
    Calls Try.prog 31 #[.string key, .string s] w fun e w' => e = .returned (.tuple #[.string (aesS key s), .int .i64 (aesE key s)]) ∧ Below w.heap.size w w' := by
  by_cases hs : s.size = 16
  · by_cases h1 : key.size = 16
    · have ok : aesOk key s = true := by simp [aesOk, h1, hs]
      rw [show aesS key s = encS key s by unfold aesS; rw [ok]; rfl, show aesE key s = 0 by unfold aesE; rw [ok]; rfl]
      exact block_16 key s w h1 hs
    · by_cases h2 : key.size = 32
      · have ok : aesOk key s = true := by simp [aesOk, h2, hs]
        rw [show aesS key s = encS key s by unfold aesS; rw [ok]; rfl, show aesE key s = 0 by unfold aesE; rw [ok]; rfl]
        exact block_32 key s w h2 hs
      · have ok : aesOk key s = false := by simp [aesOk, h1, h2]
        rw [show aesS key s = ⟨#[]⟩ by unfold aesS; rw [ok]; rfl, show aesE key s = 400 by unfold aesE; rw [ok]; rfl]
        exact block_key key s w h1 h2
  · have ok : aesOk key s = false := by simp [aesOk, hs]
    rw [show aesS key s = ⟨#[]⟩ by unfold aesS; rw [ok]; rfl, show aesE key s = 400 by unfold aesE; rw [ok]; rfl]
    exact block_s key s w hs
end Go.Proofs.Ae
/-
  The developers' gcm: a cipher in memory, the counter's blocks, a text under them.
-/
namespace Go.Proofs.Gd
open Go.RowKit Go.Proofs.Gcm
open Go.Proofs.Aes (byt byt_lt get_byt ciphS encS encS_size aesS aesE aesOk)
open Go.Proofs.Be (beS beS_size)
open Go.Proofs.Im (wpList_box_to)
/-- A cipher as a value. -/
def cA (key nonce : ByteArray) (K : Nat × Nat) : Array Value := #[.string key, .string nonce, .int .u64 (K.1 : Nat), .int .u64 (K.2 : Nat)]
/-- A cipher in memory. -/
def CiR (w : World) (g : Nat) (key nonce : ByteArray) (K : Nat × Nat) : Prop := w.heap[g]? = some (.cells (cA key nonce K) 48 (0, 0))
theorem CiR.new (w : World) (key nonce : ByteArray) (K : Nat × Nat) : CiR (w.alloc (.cells (cA key nonce K) 48)) w.heap.size key nonce K := heap_alloc_last w _
theorem CiR.cell {w : World} {g : Nat} {key nonce : ByteArray} {K : Nat × Nat} (h : CiR w g key nonce K) (j : Nat) : w.cell? ⟨g, j, none⟩ = (cA key nonce K)[j]? := by
  unfold CiR at h
  simp [World.cell?, h]
theorem CiR.lt {w : World} {g : Nat} {key nonce : ByteArray} {K : Nat × Nat} (h : CiR w g key nonce K) : g < w.heap.size := (Array.getElem?_eq_some_iff.1 h).1
theorem CiR.on {w u : World} {g : Nat} {key nonce : ByteArray} {K : Nat × Nat} (h : CiR w g key nonce K) (hb : Below w.heap.size w u) : CiR u g key nonce K := (hb.block g h.lt).trans h
theorem cA_one (key nonce : ByteArray) (K : Nat × Nat) : (cA key nonce K).all (·.oneCell') = true := by simp [cA, Value.oneCell']
theorem block_fine (key s : ByteArray) (w : World) (hk : keyOk key = true) (hs : s.size = 16) :
    Calls Try.prog 31 #[.string key, .string s] w fun e w' => e = .returned (.tuple #[.string (encS key s), .int .i64 0]) ∧ Below w.heap.size w w' := by
  have h := Ae.block_any key s w
  have ok : aesOk key s = true := by
    rcases keyOk_or hk with h1 | h1 <;> simp [aesOk, h1, hs]
  rwa [show aesS key s = encS key s by unfold aesS; rw [ok]; rfl, show aesE key s = 0 by unfold aesE; rw [ok]; rfl] at h
set_option maxHeartbeats 1000000 in
theorem mask_any (key nonce : ByteArray) (K : Nat × Nat) (n : Nat) (w : World) (hk : keyOk key = true) (hno : nonce.size = 12) (hn : n < 4294967296) :
    Calls Try.prog 33 #[.agg (cA key nonce K), .int .i64 n] w fun e w' => e = .returned (.string (encS key (nonce ++ beS n 4))) ∧ Below w.heap.size w w' := by
  have HK := Lib.hid hk
  have HNo := Lib.hid hno
  have HN := Lib.hid hn
  have z4 := beS_size n 4
  have HZ : Hid ((nonce ++ beS n 4).size = 16) := by show (nonce ++ beS n 4).size = 16; rw [ByteArray.size_append, z4, hno]
  clear hk hn
  go_enter Try.func33, Try.ntmps33
  go_upto_region 0 with (fail)
  apply wp_region_lit
  refine wpList_box_to rfl 48 _ rfl (cA key nonce K) rfl w.heap.size rfl ?_
  have HC := Lib.hid (CiR.new w key nonce K)
  have HB : Hid (Below w.heap.size w (w.alloc (.cells (cA key nonce K) 48))) := (Below.refl _ _).alloc (Nat.le_refl _) _
  generalize w.alloc (.cells (cA key nonce K) 48) = w1 at HC HB ⊢
  go_wp2_with (go_at_call 49; refine (Wp.put_4 n _ HN.out).mono ?_; rintro e u ⟨rfl, hbu⟩; have HB := Lib.hid (Lw.go_on HB.out hbu); have HC := Lib.hid (HC.out.on hbu); clear hbu; have c0 := HC.out.cell 0; have c1 := HC.out.cell 1; simp only [cA] at c0 c1)
  clear c0 c1 z4 hno
  go_wp2_with (fail)
  refine (block_fine key (nonce ++ beS n 4) _ HK.out HZ.out).mono ?_
  rintro e v ⟨rfl, hbv⟩
  have HB := Lib.hid (Lw.go_on HB.out hbv)
  clear hbv
  go_wp2_with (fail)
  go_ret
  exact ⟨rfl, HB.out⟩
end Go.Proofs.Gd
/-
  The developers' gcm: a text under the counter's blocks.
-/
namespace Go.Proofs.Gd
open Go.RowKit Go.Proofs.Gcm
open Go.Proofs.Aes (byt byt_lt get_byt ciphS encS encS_size)
open Go.Proofs.Be (beS beS_size)
open Go.Proofs.Im (wpList_box_to)
set_option maxRecDepth 20000 in
set_option maxHeartbeats 4000000 in
theorem masked_any (key nonce s : ByteArray) (K : Nat × Nat) (w : World) (hk : keyOk key = true) (hno : nonce.size = 12) (hs : s.size ≤ 100000) :
    Calls Try.prog 22 #[.agg (cA key nonce K), .string s] w fun e w' => e = .returned (.string (ctrS (wkS key) (nR key) nonce 2 s)) ∧ Below w.heap.size w w' := by
  have HK := Lib.hid hk
  have HNo := Lib.hid hno
  have HS := Lib.hid hs
  obtain ⟨M, hM, hMc, hmk⟩ := Lw.zeros s.size (by omega)
  clear hk hno hs
  go_enter Try.func22, Try.ntmps22
  go_upto_region 0 with (fail)
  apply wp_region_lit
  refine wpList_box_to rfl 48 _ rfl (cA key nonce K) rfl w.heap.size rfl ?_
  have HC := Lib.hid (CiR.new w key nonce K)
  have HB : Hid (Below w.heap.size w (w.alloc (.cells (cA key nonce K) 48))) := (Below.refl _ _).alloc (Nat.le_refl _) _
  generalize w.alloc (.cells (cA key nonce K) 48) = w1 at HC HB ⊢
  have R0 := Lib.hid (Lw.rowB_new w1 M s.size hM hMc)
  have C0 := Lib.hid (HC.out.on ((Below.refl _ _).alloc (Nat.le_refl _) (.cells M 5)))
  have B0 := Lib.hid (HB.out.alloc HB.out.size (.cells M 5))
  have HW1 := Lib.hid HC.out.lt
  clear hM hMc HC HB
  go_wp2_with (fail)
  clear hmk
  go_loopw [6, 13] (fun vm vi wx => ∃ (i : Nat) (C : ByteArray) (X : Nat → Nat), Hid (i ≤ s.size) ∧ vi = .int .i64 i ∧ vm = .string C ∧ Hid (i % 16 ≠ 0 → C = encS key (nonce ++ beS (2 + i / 16) 4)) ∧ Hid (∀ t, t < i → X t = ctrB (wkS key) (nR key) nonce 2 s t) ∧ Hid (Lw.RowB wx w1.heap.size s.size X) ∧ Hid (CiR wx w.heap.size key nonce K) ∧ Hid (Below w.heap.size w wx)) (fun _ i _ => s.size - (intOf i).toNat)
  case atStart => exact ⟨0, ⟨#[]⟩, fun _ => 0, Nat.zero_le _, rfl, rfl, fun h => absurd rfl h, fun t ht => absurd ht (Nat.not_lt_zero t), R0, C0, B0⟩
  case round =>
    clear R0 C0 B0
    obtain ⟨i, C, X, hi, rfl, rfl, hC, hX, HR, HC, HB⟩ := hrel
    by_cases hlt : i < s.size
    · have il : ((i : Int) < (s.size : Int)) = True := eq_true (by omega)
      have il2 : (i < s.size) = True := eq_true hlt
      have HI := Lib.hid hlt
      obtain ⟨j, hj⟩ : ∃ j, i % 16 = j := ⟨_, rfl⟩
      obtain ⟨x, hm⟩ : ∃ x, 2 + i / 16 = x := ⟨_, rfl⟩
      have q1 : (i : Int) % 16 = (j : Int) := by omega
      have q2 : wrap64 ((i : Int) / 16) = (i : Int) / 16 := by have := HS.out; unfold wrap64; omega
      have q3 : wrap64 (2 + (i : Int) / 16) = (x : Int) := by have := HS.out; unfold wrap64; omega
      have HJ : Hid (j < 16) := by show j < 16; omega
      have HM : Hid (x < 4294967296) := by have := HS.out; show x < 4294967296; omega
      have HCt : Hid (ctrB (wkS key) (nR key) nonce 2 s i = byt s i ^^^ byt (encS key (nonce ++ beS x 4)) j) := by
        show _ = _
        unfold ctrB
        rw [hj, hm, encS_wk]
      rw [hj, hm] at hC
      have q4 : (i : Int).tmod 16 = (j : Int) := by rw [Int.tmod_eq_emod_of_nonneg (by omega)]; exact q1
      have q5 : wrap64 ((i : Int) + 1) = (i : Int) + 1 := by have := HS.out; unfold wrap64; omega
      have HJe := Lib.hid hj
      have HXe := Lib.hid hm
      clear hlt hj hm hi
      by_cases h0 : j = 0
      · subst h0
        clear hC
        go_upto_region 7 with (fail)
        apply wp_region_lit
        refine wpList_load_row rfl 48 _ rfl w.heap.size rfl 48 (cA key nonce K) (0, 0) _ HC.out Try.underlying48 rfl (by kernel_rfl) ?_
        simp only [Act.put, List.setIfInBounds_toArray, List.set_cons_zero, List.set_cons_succ]
        go_wp2_with (go_at_call 33; fail)
        refine (mask_any key nonce K x _ HK.out HNo.out HM.out).mono ?_
        rintro e u ⟨rfl, hbu⟩
        have HR := Lib.hid (HR.out.on hbu)
        have HC := Lib.hid (HC.out.on hbu)
        have HB := Lib.hid (Lw.go_on HB.out hbu)
        clear hbu
        rw [show ((0 : Nat) : Int) = 0 from rfl] at q1 q4
        have cz := encS_size key (nonce ++ beS x 4)
        generalize hE : encS key (nonce ++ beS x 4) = E at cz HCt ⊢
        have HE := Lib.hid hE
        clear hE
        have ii : (i : Int) < (s.size : Int) := by have := HI.out; omega
        have ec : (0 : Int) < (E.size : Int) := by have := HJ.out; omega
        have cc := World.rowIs.cell HR.out (i := i) HI.out
        have cf := World.rowIs.frozen HR.out i
        have vs : ∀ h : i < s.size, (s[i]'h).toNat = byt s i := fun h => get_byt s _ h
        have vc : ∀ h : 0 < E.size, (E[0]'h).toNat = byt E 0 := fun h => get_byt E _ h
        go_wp2_with (fail)
        refine wp_region_still_tail 11 (by kernel_rfl) (by kernel_rfl) ?_
        simp only [List.take_succ_cons, List.take_zero, List.drop_succ_cons, List.drop_zero]
        repeat still_step
        try refine wpStill_nil ?_
        change wpList _ _ _ _ _ u.drew
        clear vs vc ii ec
        go_wp2_with (fail)
        rw [Aes.u8_xor _ _ (byt_lt s i) (byt_lt E 0)]
        refine ⟨⟨i + 1, E, fun t => if t = i then byt s i ^^^ byt E 0 else X t, HI.out, by go_num, rfl, ?_, fun t ht => ?_, (HR.out.set i _).drew, ?_, (HB.out.setCell (Nat.le_of_lt HW1.out) _).drew⟩, by rw [q5]; exact Lw.meas s.size i HI.out⟩
        · intro hne
          rw [← HE.out, show 2 + (i + 1) / 16 = x by have := HXe.out; have := HJe.out; omega]
        · show (if t = i then _ else X t) = _
          by_cases e : t = i
          · rw [if_pos e, e]; exact HCt.out.symm
          · rw [if_neg e]; exact hX.out t (by omega)
        · exact (Below.heap_setCell _ ⟨w1.heap.size, i, none⟩ _ w.heap.size (Nat.ne_of_lt HW1.out)).trans HC.out
      · have j0 : ((j : Int) == 0) = false := by simp; omega
        have jn : ((j : Int) = 0) = False := eq_false (by omega)
        obtain rfl := hC.out h0
        have jl : (j : Int) < 16 := by have := HJ.out; omega
        have jl2 : ((j : Int) < 16) = True := eq_true jl
        clear hC h0
        have cz := encS_size key (nonce ++ beS x 4)
        generalize hE : encS key (nonce ++ beS x 4) = E at cz HCt ⊢
        have HE := Lib.hid hE
        clear hE
        have ii : (i : Int) < (s.size : Int) := by have := HI.out; omega
        have ec : (j : Int) < (E.size : Int) := by have := HJ.out; omega
        have cc := World.rowIs.cell HR.out (i := i) HI.out
        have cf := World.rowIs.frozen HR.out i
        have vs : ∀ h : i < s.size, (s[i]'h).toNat = byt s i := fun h => get_byt s _ h
        have vc : ∀ h : j < E.size, (E[j]'h).toNat = byt E j := fun h => get_byt E _ h
        go_wp2_with (fail)
        refine wp_region_still_tail 11 (by kernel_rfl) (by kernel_rfl) ?_
        simp only [List.take_succ_cons, List.take_zero, List.drop_succ_cons, List.drop_zero]
        repeat still_step
        try refine wpStill_nil ?_
        change wpList _ _ _ _ _ wr.drew
        clear vs vc ii ec
        go_wp2_with (fail)
        rw [Aes.u8_xor _ _ (byt_lt s i) (byt_lt E j)]
        refine ⟨⟨i + 1, E, fun t => if t = i then byt s i ^^^ byt E j else X t, HI.out, by go_num, rfl, ?_, fun t ht => ?_, (HR.out.set i _).drew, ?_, (HB.out.setCell (Nat.le_of_lt HW1.out) _).drew⟩, by rw [q5]; exact Lw.meas s.size i HI.out⟩
        · intro hne
          rw [← HE.out, show 2 + (i + 1) / 16 = x by have := HXe.out; have := HJe.out; omega]
        · show (if t = i then _ else X t) = _
          by_cases e : t = i
          · rw [if_pos e, e]; exact HCt.out.symm
          · rw [if_neg e]; exact hX.out t (by omega)
        · exact (Below.heap_setCell _ ⟨w1.heap.size, i, none⟩ _ w.heap.size (Nat.ne_of_lt HW1.out)).trans HC.out
    · have il : ((i : Int) < (s.size : Int)) = False := eq_false (by omega)
      have il2 : (i < s.size) = False := eq_false hlt
      obtain rfl : i = s.size := by have := hi.out; omega
      have hcv := HR.out.text 0 s.size s.size (by omega)
      have HE : Hid (Lw.pieceS X 0 s.size = ctrS (wkS key) (nR key) nonce 2 s) := by
        show strOfNums _ = strOfNums _
        congr 1
        apply List.map_congr_left
        intro t ht
        rw [Nat.zero_add, hX.out t (List.mem_range.1 ht)]
      rw [HE.out] at hcv
      clear hlt hi hX HE
      go_wp2_with (fail)
      go_ret
      exact ⟨rfl, HB.out⟩
end Go.Proofs.Gd
