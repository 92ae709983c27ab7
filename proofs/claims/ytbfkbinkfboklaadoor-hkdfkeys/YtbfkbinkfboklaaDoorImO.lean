/-
  The developers' Hash: Sum, Fork.
-/
import Derived.Test.YtbfkbinkfboklaaDoorImN
import Derived.Deep.WholeRow
namespace Go.Proofs.Im
open Go.RowKit Go.Proofs.Sha Go.Proofs.Be
section
variable {P : Program} {w : World} {ops : Array Oper} {rest : List Oper} {o : Oper} {a : Act} {Q : Exit → Act → World → Prop}
/-- An operation that yields a value. -/
theorem wpList_val (hg : o.guard = none) (v : Value) (w' : World) (hr : (execOp a.eval o).run P w = .ok (.value v) w') (h : wpList P ops Q rest (a.put o.dst v) w') : wpList P ops Q (o :: rest) a w :=
  wpList_plain hg fun _ hK => by unfold Oper.wp; rw [hr]; exact hK _ _ h
end
def Z138 : Array Value := (Value.int .i64 0 :: (List.replicate 8 (Value.int .u64 0) ++ List.replicate 128 (Value.int .u8 0) ++ [Value.int .u64 0])).toArray
theorem alloc138 (w : World) : (Instr.alloc 73 true (.tuple #[])).run Tryd.prog w = .ok (.pointer (some ⟨w.heap.size, 0, none⟩)) (w.alloc (.cells Z138 73)) := by kernel_rfl
theorem hCell_one (bits : Int) (st buf : Nat → Nat) (len i : Nat) : (hCell bits st buf len i).oneCell' = true := by
  unfold hCell; split; rfl; split; rfl; split; rfl; rfl
theorem cells_one {c : Array Value} {n : Nat} {f : Nat → Value} (hn : c.size = n) (hc : ∀ i, i < n → c[i]? = some (f i)) (hf : ∀ i, (f i).oneCell' = true) : c.all (·.oneCell') = true := by
  rw [Array.all_eq_true]
  intro i hi
  have := hc i (by omega)
  rw [Array.getElem?_eq_getElem hi] at this
  rw [Option.some.inj this]; exact hf i
theorem isH_new (w : World) (C : Array Value) {bits : Int} {st buf : Nat → Nat} {len : Nat} (hn : C.size = 138) (hc : ∀ i, i < 138 → C[i]? = some (hCell bits st buf len i)) : IsH (w.alloc (.cells C 73)) w.heap.size bits st buf len :=
  rowIs_of w C 73 138 _ hn hc
set_option maxHeartbeats 1000000 in
theorem hfork_any (wide : Bool) (g : Nat) (s : ByteArray) (w : World) (h : Wrote w g wide s) :
    Calls Tryd.prog 41 #[.pointer (some ⟨g, 0, none⟩)] w fun e w' => e = .returned (.pointer (some ⟨w.heap.size, 0, none⟩)) ∧ Below w.heap.size w w' ∧ Wrote w' w.heap.size wide s := by
  obtain ⟨st, buf, hI, hH⟩ := h
  obtain ⟨C, hC, hCn, hCc⟩ := hI
  have HN : Hid (IsH (w.alloc (.cells C 73)) w.heap.size (bitsK wide) st buf s.size) := isH_new w C hCn hCc
  have HC := Lib.hid hC
  have HCn := Lib.hid hCn
  have HO := Lib.hid (cells_one hCn hCc (hCell_one _ _ _ _))
  clear hC hCn hCc
  go_enter Tryd.func41, Tryd.ntmps41
  go_upto_region 3 with (fail)
  apply wp_region_lit
  refine wpList_val rfl (.pointer (some ⟨g, 0, none⟩)) w (by go_simp) ?_
  refine wpList_val rfl (.pointer (some ⟨g, 0, none⟩)) w (by go_simp) ?_
  refine wpList_load_row rfl 73 _ rfl g (by kernel_rfl) 73 C (0, 0) _ HC.out Tryd.underlying73 rfl (by rw [HCn.out]; kernel_rfl) ?_
  refine wpList_alloc_to rfl 73 rfl Z138 w.heap.size rfl alloc138 ?_
  refine wpList_store_row rfl 73 _ _ rfl w.heap.size C (by kernel_rfl) (by kernel_rfl) 73 Z138 (heap_alloc_last w _) (by rw [HCn.out]; kernel_rfl) (by rw [HCn.out]; rfl) HO.out ?_
  rw [World.setRow_alloc_new]
  simp only [Act.put, List.setIfInBounds_toArray, List.set_cons_zero, List.set_cons_succ]
  go_wp2_with (fail)
  go_ret
  exact ⟨rfl, (Below.refl _ _).alloc (Nat.le_refl _) _, st, buf, HN.out, hH⟩
theorem stL_take8 (st : Nat → Nat) : (stL st).take 8 = stL st := rfl
theorem endK_false (s : ByteArray) : endK false s = st256 s := (Sha.st256_tail s).symm
theorem endK_true (s : ByteArray) : endK true s = Sha5.st384 s := (Sha5.st384_tail s).symm
theorem dig_false (s : ByteArray) (st : Nat → Nat) (h : stL st = endK false s) : wordsS ((stL st).take 8) 4 = digS (bitsK false) s := by
  rw [stL_take8, h, endK_false]; rfl
theorem dig_true (s : ByteArray) (st : Nat → Nat) (h : stL st = endK true s) : wordsS ((stL st).take 6) 8 = digS (bitsK true) s := by
  rw [h, endK_true]
  show (⟨(((Sha5.st384 s).take 6).flatMap fun x => beL x 8).toArray⟩ : ByteArray) = ⟨(((Sha5.st384 s).take 6).flatMap fun x => beL (x / 4294967296) 4 ++ beL (x % 4294967296) 4).toArray⟩
  rw [show (fun x => beL x 8) = fun x => beL (x / 4294967296) 4 ++ beL (x % 4294967296) 4 from funext beL8]
theorem hendK (wide : Bool) (g : Nat) (s : ByteArray) (st buf : Nat → Nat) (w : World) (h : IsH w g (bitsK wide) st buf s.size) (H : Holds wide s st buf) (hg : 0 < g) (hT : Tab w) (hs : s.size ≤ 288230376151711744) :
    Calls Tryd.prog 43 #[.pointer (some ⟨g, 0, none⟩)] w fun e w' => e = .returned (.tuple #[]) ∧ But g w w' ∧ ∃ st' buf', IsH w' g (bitsK wide) st' buf' s.size ∧ stL st' = endK wide s ∧ ∀ i, i < 8 → st' i < limK wide := by
  cases wide
  · exact hend_256 g s st buf w h H hg hT hs
  · exact hend_384 g s st buf w h H hg hT hs
theorem hdigestK (wide : Bool) (g : Nat) (s : ByteArray) (st buf : Nat → Nat) (len : Nat) (w : World) (h : IsH w g (bitsK wide) st buf len) (hl : ∀ i, i < 8 → st i < limK wide) (he : stL st = endK wide s) :
    Calls Tryd.prog 44 #[.pointer (some ⟨g, 0, none⟩)] w fun e w' => e = .returned (.string (digS (bitsK wide) s)) ∧ Below w.heap.size w w' := by
  cases wide
  · have := hdigest_256 g len st buf w h hl; rw [dig_false s st he] at this; exact this
  · have := hdigest_384 g len st buf w h hl; rw [dig_true s st he] at this; exact this
set_option maxHeartbeats 1000000 in
theorem hsum_any (wide : Bool) (g : Nat) (s : ByteArray) (w : World) (h : Wrote w g wide s) (hT : Tab w) (hs : s.size ≤ 288230376151711744) :
    Calls Tryd.prog 31 #[.pointer (some ⟨g, 0, none⟩)] w fun e w' => e = .returned (.string (digS (bitsK wide) s)) ∧ Below w.heap.size w w' := by
  obtain ⟨st, buf, hI, hH⟩ := h
  obtain ⟨C, hC, hCn, hCc⟩ := hI
  have HI : Hid (IsH (w.alloc (.cells C 73)) w.heap.size (bitsK wide) st buf s.size) := isH_new w C hCn hCc
  have HC := Lib.hid hC
  have HCn := Lib.hid hCn
  have HO := Lib.hid (cells_one hCn hCc (hCell_one _ _ _ _))
  have HT := Lib.hid hT
  have HS := Lib.hid hs
  have HB : Hid (Below w.heap.size w (w.alloc (.cells C 73))) := (Below.refl _ _).alloc (Nat.le_refl _) _
  clear hC hCn hCc hT hs
  go_enter Tryd.func31, Tryd.ntmps31
  go_upto_region 3 with (fail)
  apply wp_region_lit
  refine wpList_val rfl (.pointer (some ⟨g, 0, none⟩)) w (by go_simp) ?_
  refine wpList_val rfl (.pointer (some ⟨g, 0, none⟩)) w (by go_simp) ?_
  refine wpList_load_row rfl 73 _ rfl g (by kernel_rfl) 73 C (0, 0) _ HC.out Tryd.underlying73 rfl (by rw [HCn.out]; kernel_rfl) ?_
  refine wpList_alloc_to rfl 73 rfl Z138 w.heap.size rfl alloc138 ?_
  refine wpList_store_row rfl 73 _ _ rfl w.heap.size C (by kernel_rfl) (by kernel_rfl) 73 Z138 (heap_alloc_last w _) (by rw [HCn.out]; kernel_rfl) (by rw [HCn.out]; rfl) HO.out ?_
  rw [World.setRow_alloc_new]
  simp only [Act.put, List.setIfInBounds_toArray, List.set_cons_zero, List.set_cons_succ]
  generalize w.alloc (.cells C 73) = w1 at HI HB ⊢
  have HT1 : Hid (Tab w1) := HT.out.below HB.out HT.out.pos
  go_wp2_with (first
    | (go_at_call 43; refine (hendK wide w.heap.size s st buf w1 HI.out hH HT.out.pos HT1.out HS.out).mono ?_; rintro e u ⟨rfl, hBu, st', buf', hI', hE, hL⟩)
    | (go_at_call 44; refine (hdigestK wide w.heap.size s st' buf' s.size u hI' hL hE).mono ?_; rintro e v ⟨rfl, hBv⟩))
  go_ret
  have hb : Below w.heap.size w u := hBu.below HB.out (Nat.le_refl _) HB.out.size
  exact ⟨rfl, hb.trans (hBv.mono hb.size)⟩
end Go.Proofs.Im
