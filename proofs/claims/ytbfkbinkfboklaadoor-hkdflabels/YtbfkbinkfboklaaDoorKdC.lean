/-
  The developers' hkdf: keyed.
-/
import Derived.Test.YtbfkbinkfboklaaDoorKdB
namespace Go.Proofs.Kd
open Go.RowKit Go.Proofs.Be Go.Proofs.Sha Go.Proofs.Hk Go.Proofs.Im
theorem Wrote.alloc {w : World} {g : Nat} {wide : Bool} {s : ByteArray} (h : Wrote w g wide s) (o : Obj) : Wrote (w.alloc o) g wide s := h.below ((Below.refl _ w).alloc (Nat.le_refl _) o) h.lt
theorem Tab.alloc {w : World} (h : Tab w) (o : Obj) : Tab (w.alloc o) := tab_of h ((Below.refl _ w).alloc (Nat.le_refl _) o)
theorem after_one (wide : Bool) (g : Nat) (s p : ByteArray) (u : World) (h : Wrote u g wide s) (hT : Tab u) (hs : s.size + p.size ≤ 288230376151711744) :
    Calls Tryd.prog 30 #[.pointer (some ⟨g, 0, none⟩), .slice (some ⟨u.heap.size, 0, none⟩) 1 1] (u.alloc (.cells #[.string p] 9)) fun e u' => ∃ g', e = .returned (.pointer (some ⟨g', 0, none⟩)) ∧ Hid (u.heap.size ≤ g') ∧ Below u.heap.size u u' ∧ Hid (Wrote u' g' wide (s ++ p)) :=
  (after_list wide g s [p] u.heap.size 1 (u.alloc (.cells #[.string p] 9)) (Wrote.alloc h _) (Strs.one u p) (Tab.alloc hT _) (by rw [joinS_one]; exact hs) (by decide)).mono fun _ _ ⟨g', h1, h2, h3, h4⟩ => by
    rw [joinS_one] at h4
    have hb : Below u.heap.size u (u.alloc (.cells #[.string p] 9)) := (Below.refl _ u).alloc (Nat.le_refl _) _
    exact ⟨g', h1, Nat.le_trans hb.size h2, go_on hb h3, h4⟩
/-- The place of the result lies behind the old blocks, and those stay. -/
def ResAt (w w' : World) : Prop := w'.rowIs w.heap.size 43 2 (fun _ => .pointer none) ∧ Below w.heap.size w w'
theorem ResAt.on {w u v : World} (h : ResAt w u) (hb : Below u.heap.size u v) : ResAt w v := ⟨World.rowIs.of_block h.1 (hb.block _ h.1.lt), go_on h.2 hb⟩
def Keyed (w : World) (wide : Bool) (key : ByteArray) (e : Ending) (w' : World) : Prop :=
  ∃ gi go, e = .returned (.tuple #[.agg #[.pointer (some ⟨gi, 0, none⟩), .pointer (some ⟨go, 0, none⟩)], .int .i64 0]) ∧ Below w.heap.size w w' ∧ Mac w' wide gi go key
theorem resAt_new (w : World) : ResAt w (w.alloc (.cells #[.pointer none, .pointer none] 43)) :=
  ⟨rowIs_of w #[.pointer none, .pointer none] 43 2 _ rfl fun i hi => by
    match i, hi with
    | 0, _ => rfl
    | 1, _ => rfl, (Below.refl _ _).alloc (Nat.le_refl _) _⟩
theorem set_res {w u : World} (h : ResAt w u) (x y : Value) : Below w.heap.size w ((u.setCell ⟨w.heap.size, 0, none⟩ x).setCell ⟨w.heap.size, 1, none⟩ y) ∧ But w.heap.size u ((u.setCell ⟨w.heap.size, 0, none⟩ x).setCell ⟨w.heap.size, 1, none⟩ y) :=
  ⟨(h.2.setCell (Nat.le_refl _) _).setCell (Nat.le_refl _) _, ((But.refl _ _).setCell 0 x).setCell 1 y⟩
set_option maxHeartbeats 2000000 in
theorem keyed_short (wide : Bool) (key : ByteArray) (w : World) (hT : Tab w) (hk : key.size ≤ sizeK wide) :
    Calls Tryd.prog 18 #[.int .i64 (bitsK wide), .string key] w (Keyed w wide key) := by
  have HT := Lib.hid hT
  have HK := Lib.hid hk
  have HE : Hid (keyS (bitsK wide) key = key) := by show keyS (bitsK wide) key = key; unfold keyS; rw [bS_bitsK, if_neg (by omega)]
  have hl1 : ¬ (sizeK wide : Int) < key.size := by omega
  have hl2 : ¬ sizeK wide < key.size := by omega
  have HZ := Lib.hid (sizeK_le wide)
  clear hT hk
  go_enter Tryd.func18, Tryd.ntmps18
  go_wp2_with (fail)
  have HS0 := Lib.hid (resAt_new w)
  generalize w.alloc (.cells #[.pointer none, .pointer none] 43) = w1 at HS0 ⊢
  refine (newK2 wide _).mono ?_
  rintro e u0 ⟨g0, rfl, hg0, hb0, hW0⟩
  have HS1 := Lib.hid (HS0.out.on hb0)
  clear hb0 hg0
  go_wp2_with (fail)
  refine (kblockSize_any wide _).mono ?_
  rintro e u ⟨rfl, rfl⟩
  go_wp2_with (fail)
  refine (padded_any key (sizeK wide) 54 _ (by decide) HK.out (by have := HZ.out; omega)).mono ?_
  rintro e u1 ⟨rfl, hb1⟩
  have HS2 := Lib.hid (HS1.out.on hb1)
  have HW1 : Hid (Wrote u1 g0 wide ⟨#[]⟩) := hW0.out.below hb1 hW0.out.lt
  clear hb1 hW0
  go_wp2_with (fail)
  refine (after_one wide g0 ⟨#[]⟩ (xorS key 54 (sizeK wide)) _ HW1.out (tab_of HT.out HS2.out.2) (by rw [xorS_size]; have := HZ.out; have : (⟨#[]⟩ : ByteArray).size = 0 := rfl; omega)).mono ?_
  rw [emp_app]
  rintro e u2 ⟨gi, rfl, hgi, hb2, hWi⟩
  have HS3 := Lib.hid (HS2.out.on hb2)
  have HW2 : Hid (Wrote u2 g0 wide ⟨#[]⟩) := HW1.out.below hb2 HW1.out.lt
  have HNi : Hid (gi ≠ w.heap.size) := by have h1 := hgi.out; have h2 := HS2.out.1.lt; show gi ≠ w.heap.size; omega
  clear hb2 hgi
  go_wp2_with (fail)
  refine (padded_any key (sizeK wide) 92 _ (by decide) HK.out (by have := HZ.out; omega)).mono ?_
  rintro e u3 ⟨rfl, hb3⟩
  have HS4 := Lib.hid (HS3.out.on hb3)
  have HW3 : Hid (Wrote u3 g0 wide ⟨#[]⟩) := HW2.out.below hb3 HW2.out.lt
  have HWi3 : Hid (Wrote u3 gi wide (xorS key 54 (sizeK wide))) := hWi.out.below hb3 hWi.out.lt
  clear hb3
  go_wp2_with (fail)
  refine (after_one wide g0 ⟨#[]⟩ (xorS key 92 (sizeK wide)) _ HW3.out (tab_of HT.out HS4.out.2) (by rw [xorS_size]; have := HZ.out; have : (⟨#[]⟩ : ByteArray).size = 0 := rfl; omega)).mono ?_
  rw [emp_app]
  rintro e u4 ⟨go, rfl, hgo, hb4, hWo⟩
  have HS5 := Lib.hid (HS4.out.on hb4)
  have HWi4 : Hid (Wrote u4 gi wide (xorS key 54 (sizeK wide))) := HWi3.out.below hb4 HWi3.out.lt
  have HNo : Hid (go ≠ w.heap.size) := by have h1 := hgo.out; have h2 := HS4.out.1.lt; show go ≠ w.heap.size; omega
  clear hb4 hgo HWi3
  have hc0 := World.rowIs.cell HS5.out.1 (i := 0) (by decide)
  have hc1 := World.rowIs.cell HS5.out.1 (i := 1) (by decide)
  have hf0 := World.rowIs.frozen HS5.out.1 0
  have hf1 := World.rowIs.frozen HS5.out.1 1
  go_wp2_with (fail)
  have hs := set_res HS5.out (.pointer (some ⟨gi, 0, none⟩)) (.pointer (some ⟨go, 0, none⟩))
  refine bodyPost_ret (v := .tuple #[.agg #[.pointer (some ⟨gi, 0, none⟩), .pointer (some ⟨go, 0, none⟩)], .int .i64 0]) (by simp [results, Tryd.results18, go_sem, hc0, hc1]) rfl ⟨gi, go, rfl, hs.1, ?_, ?_⟩
  · rw [HE.out]; exact HWi4.out.but hs.2 HNi.out
  · rw [HE.out]; exact hWo.out.but hs.2 HNo.out
set_option maxHeartbeats 2000000 in
theorem keyed_long (wide : Bool) (key : ByteArray) (w : World) (hT : Tab w) (hk : sizeK wide < key.size) (hz : key.size ≤ 288230376151711744) :
    Calls Tryd.prog 18 #[.int .i64 (bitsK wide), .string key] w (Keyed w wide key) := by
  have HT := Lib.hid hT
  have HE : Hid (keyS (bitsK wide) key = digS (bitsK wide) key) := by show keyS (bitsK wide) key = digS (bitsK wide) key; unfold keyS; rw [bS_bitsK, if_pos hk]
  have HK : Hid ((digS (bitsK wide) key).size ≤ sizeK wide) := by
    have h1 := digS_le (bitsK wide) key
    have h2 : 64 ≤ sizeK wide := by cases wide <;> decide
    show (digS (bitsK wide) key).size ≤ sizeK wide
    omega
  have hl1 : (sizeK wide : Int) < key.size := by omega
  have hl2 := hk
  have HZ := Lib.hid (sizeK_le wide)
  have HZk := Lib.hid hz
  clear hT hk hz
  go_enter Tryd.func18, Tryd.ntmps18
  go_wp2_with (fail)
  have HS0 := Lib.hid (resAt_new w)
  generalize w.alloc (.cells #[.pointer none, .pointer none] 43) = w1 at HS0 ⊢
  refine (newK2 wide _).mono ?_
  rintro e u0 ⟨g0, rfl, hg0, hb0, hW0⟩
  have HS1 := Lib.hid (HS0.out.on hb0)
  clear hb0 hg0
  go_wp2_with (fail)
  refine (kblockSize_any wide _).mono ?_
  rintro e u ⟨rfl, rfl⟩
  go_wp2_with (fail)
  refine (after_one wide g0 ⟨#[]⟩ key _ hW0.out (tab_of HT.out HS1.out.2) (by have := HZk.out; have : (⟨#[]⟩ : ByteArray).size = 0 := rfl; omega)).mono ?_
  rw [emp_app]
  rintro e x0 ⟨gk, rfl, hgk, hbk, hWk⟩
  have HS1' := Lib.hid (HS1.out.on hbk)
  have hW0' : Hid (Wrote x0 g0 wide ⟨#[]⟩) := hW0.out.below hbk hW0.out.lt
  clear hbk hgk hW0 HS1
  go_wp2_with (fail)
  refine (hsum_any wide gk key _ hWk.out (tab_of HT.out HS1'.out.2) HZk.out).mono ?_
  rintro e x1 ⟨rfl, hbs⟩
  have HS1 := Lib.hid (HS1'.out.on hbs)
  have hW0 : Hid (Wrote x1 g0 wide ⟨#[]⟩) := hW0'.out.below hbs hW0'.out.lt
  clear hbs hW0' hWk HS1'
  generalize digS (bitsK wide) key = dk at HE HK ⊢
  go_wp2_with (fail)
  refine (padded_any dk (sizeK wide) 54 _ (by decide) HK.out (by have := HZ.out; omega)).mono ?_
  rintro e u1 ⟨rfl, hb1⟩
  have HS2 := Lib.hid (HS1.out.on hb1)
  have HW1 : Hid (Wrote u1 g0 wide ⟨#[]⟩) := hW0.out.below hb1 hW0.out.lt
  clear hb1 hW0
  go_wp2_with (fail)
  refine (after_one wide g0 ⟨#[]⟩ (xorS dk 54 (sizeK wide)) _ HW1.out (tab_of HT.out HS2.out.2) (by rw [xorS_size]; have := HZ.out; have : (⟨#[]⟩ : ByteArray).size = 0 := rfl; omega)).mono ?_
  rw [emp_app]
  rintro e u2 ⟨gi, rfl, hgi, hb2, hWi⟩
  have HS3 := Lib.hid (HS2.out.on hb2)
  have HW2 : Hid (Wrote u2 g0 wide ⟨#[]⟩) := HW1.out.below hb2 HW1.out.lt
  have HNi : Hid (gi ≠ w.heap.size) := by have h1 := hgi.out; have h2 := HS2.out.1.lt; show gi ≠ w.heap.size; omega
  clear hb2 hgi
  go_wp2_with (fail)
  refine (padded_any dk (sizeK wide) 92 _ (by decide) HK.out (by have := HZ.out; omega)).mono ?_
  rintro e u3 ⟨rfl, hb3⟩
  have HS4 := Lib.hid (HS3.out.on hb3)
  have HW3 : Hid (Wrote u3 g0 wide ⟨#[]⟩) := HW2.out.below hb3 HW2.out.lt
  have HWi3 : Hid (Wrote u3 gi wide (xorS dk 54 (sizeK wide))) := hWi.out.below hb3 hWi.out.lt
  clear hb3
  go_wp2_with (fail)
  refine (after_one wide g0 ⟨#[]⟩ (xorS dk 92 (sizeK wide)) _ HW3.out (tab_of HT.out HS4.out.2) (by rw [xorS_size]; have := HZ.out; have : (⟨#[]⟩ : ByteArray).size = 0 := rfl; omega)).mono ?_
  rw [emp_app]
  rintro e u4 ⟨go, rfl, hgo, hb4, hWo⟩
  have HS5 := Lib.hid (HS4.out.on hb4)
  have HWi4 : Hid (Wrote u4 gi wide (xorS dk 54 (sizeK wide))) := HWi3.out.below hb4 HWi3.out.lt
  have HNo : Hid (go ≠ w.heap.size) := by have h1 := hgo.out; have h2 := HS4.out.1.lt; show go ≠ w.heap.size; omega
  clear hb4 hgo HWi3
  have hc0 := World.rowIs.cell HS5.out.1 (i := 0) (by decide)
  have hc1 := World.rowIs.cell HS5.out.1 (i := 1) (by decide)
  have hf0 := World.rowIs.frozen HS5.out.1 0
  have hf1 := World.rowIs.frozen HS5.out.1 1
  go_wp2_with (fail)
  have hs := set_res HS5.out (.pointer (some ⟨gi, 0, none⟩)) (.pointer (some ⟨go, 0, none⟩))
  refine bodyPost_ret (v := .tuple #[.agg #[.pointer (some ⟨gi, 0, none⟩), .pointer (some ⟨go, 0, none⟩)], .int .i64 0]) (by simp [results, Tryd.results18, go_sem, hc0, hc1]) rfl ⟨gi, go, rfl, hs.1, ?_, ?_⟩
  · rw [HE.out]; exact HWi4.out.but hs.2 HNi.out
  · rw [HE.out]; exact hWo.out.but hs.2 HNo.out
set_option maxHeartbeats 400000 in
theorem keyed_none (bits : Int) (key : ByteArray) (w : World) (h : ¬ bits = 256) (h' : ¬ bits = 384) :
    Calls Tryd.prog 18 #[.int .i64 bits, .string key] w fun e w' => e = .returned (.tuple #[.agg #[.pointer none, .pointer none], .int .i64 300]) ∧ Below w.heap.size w w' := by
  go_enter Tryd.func18, Tryd.ntmps18
  go_wp2_with (fail)
  have HS0 := Lib.hid (resAt_new w)
  generalize w.alloc (.cells #[.pointer none, .pointer none] 43) = w1 at HS0 ⊢
  refine (new_none bits _ h h').mono ?_
  rintro e u ⟨rfl, rfl⟩
  have hc0 := World.rowIs.cell HS0.out.1 (i := 0) (by decide)
  have hc1 := World.rowIs.cell HS0.out.1 (i := 1) (by decide)
  have hf0 := World.rowIs.frozen HS0.out.1 0
  have hf1 := World.rowIs.frozen HS0.out.1 1
  go_wp2_with (fail)
  have hs := set_res HS0.out (.pointer none) (.pointer none)
  exact bodyPost_ret (v := .tuple #[.agg #[.pointer none, .pointer none], .int .i64 300]) (by simp [results, Tryd.results18, go_sem, hc0, hc1]) rfl ⟨rfl, hs.1⟩
theorem keyed_any (wide : Bool) (key : ByteArray) (w : World) (hT : Tab w) (hz : key.size ≤ 288230376151711744) :
    Calls Tryd.prog 18 #[.int .i64 (bitsK wide), .string key] w (Keyed w wide key) := by
  by_cases h : sizeK wide < key.size
  · exact keyed_long wide key w hT h hz
  · exact keyed_short wide key w hT (by omega)
end Go.Proofs.Kd
