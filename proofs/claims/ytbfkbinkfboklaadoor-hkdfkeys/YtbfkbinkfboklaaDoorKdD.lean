/-
  The developers' hkdf: (mac).stream.
-/
import Derived.Test.YtbfkbinkfboklaaDoorKdC
import Derived.Test.YtbfkbinkfboklaaDoorHkD
import Derived.Lib.AppendStr
namespace Go.Proofs.Kd
open Go.RowKit Go.Proofs.Be Go.Proofs.Sha Go.Proofs.Hk Go.Proofs.Im
/-- A digest's size. -/
def dK (wide : Bool) : Nat := bif wide then 48 else 32
theorem dK_eq (wide : Bool) : (bitsK wide / 8).toNat = dK wide := by cases wide <;> rfl
theorem dK_pos (wide : Bool) : 0 < dK wide := by cases wide <;> decide
theorem dK_le (wide : Bool) : dK wide ≤ 48 := by cases wide <;> decide
theorem may_bitsK (wide : Bool) : may (bitsK wide) = true := by cases wide <;> rfl
theorem joinS_three (a b c : ByteArray) : joinS [a, b, c] = a ++ b ++ c := by
  show a ++ (b ++ (c ++ ⟨#[]⟩)) = _
  rw [app_emp, ByteArray.append_assoc]
theorem BoxAt.grown {w u v : World} {gi go : Nat} {row : Option Nat} (h : BoxAt w u gi go) (hg : u.grownBy v row) (hr : ∀ k, row = some k → w.heap.size + 1 ≤ k) : BoxAt w v gi go := by
  have hb : v.heap[w.heap.size]? = u.heap[w.heap.size]? := hg.block _ h.2.2.2 (fun e => by have := hr _ e.symm; omega)
  exact ⟨(World.cell?_of_block (a := ⟨w.heap.size, 0, none⟩) hb).trans h.1, (World.cell?_of_block (a := ⟨w.heap.size, 1, none⟩) hb).trans h.2.1, h.2.2.1.grown hg (Nat.le_of_lt h.2.2.2) (fun k hk => by have := hr k hk; omega), Nat.lt_of_lt_of_le h.2.2.2 hg.size⟩
/-- The bytes told so far, in a row of the call's own. -/
def Out (w wx : World) (A : Option Addr) (c : Nat) (O : ByteArray) : Prop := wx.ownsRow (w.heap.size + 1) 5 1 (.slice A O.size c) O.size (Lib.strCells O)
theorem Out.form {w wx : World} {v : Value} {O : ByteArray} (h : wx.ownsRow (w.heap.size + 1) 5 1 v O.size (Lib.strCells O)) : ∃ A c, v = .slice A O.size c ∧ Out w wx A c O := by
  rcases h.2 with ⟨hv, hn⟩ | ⟨g, cap, cur, hv, hr⟩
  · have e : v = .slice none O.size 0 := by rw [hn]; exact hv
    rw [e] at h; exact ⟨none, 0, e, h⟩
  · rw [hv] at h; exact ⟨_, _, hv, h⟩
theorem strCells_app (a b : ByteArray) : Lib.strCells (a ++ b) = Lib.strCells a ++ Lib.strCells b := by
  unfold Lib.strCells; rw [show (a ++ b).data.toList = a.data.toList ++ b.data.toList by simp, List.map_append]
theorem Out.on {w u v : World} {A : Option Addr} {c : Nat} {O : ByteArray} (h : Out w u A c O) (hb : Below u.heap.size u v) : Out w v A c O := by
  unfold Out at h ⊢
  refine h.kept (row := none) ⟨hb.os, hb.tape, hb.output, hb.size, fun k hk _ => hb.block k hk⟩ ?_
  cases hv : (Value.slice A O.size c).ownBlock <;> simp
theorem bytes_take (O : ByteArray) (z : Nat) (h : z ≤ O.size) : strOfNums ((List.range z).map fun t => (byt O t : Int)) = O.extract 0 z := by
  apply ByteArray.ext
  apply Array.ext'
  rw [strOfNums_data, show (O.extract 0 z).data.toList = O.data.toList.take z by simp]
  apply List.ext_getElem?
  intro i
  by_cases hi : i < z
  · have h' : i < O.data.toList.length := by simpa using Nat.lt_of_lt_of_le hi h
    rw [List.getElem?_take, if_pos hi, List.map_map, List.getElem?_map, List.getElem?_range hi, List.getElem?_eq_getElem h']
    simp only [Option.map_some, Function.comp, Int.toNat_natCast, byt, List.getD_eq_getElem?_getD, List.getElem?_eq_getElem h', Option.getD_some, UInt8.ofNat_toNat]
  · rw [List.getElem?_take, if_neg hi, List.getElem?_eq_none (by simp; omega)]
theorem strCells_get (O : ByteArray) (i : Nat) (h : i < O.size) : (Lib.strCells O)[i]? = some (.int .u8 (byt O i : Nat)) := bytesC_get O i h
theorem Out.cell {w wx : World} {g c : Nat} {O : ByteArray} (h : Out w wx (some ⟨g, 0, none⟩) c O) (i : Nat) (hi : i < O.size) : wx.cell? ⟨g, i, none⟩ = some (.int .u8 (byt O i : Nat)) := by
  rw [World.ownsRow.cellAt h i (by omega), strCells_get O i hi]
/-- Mac and box, together. -/
def MacAt (w wx : World) (wide : Bool) (gi go : Nat) (key : ByteArray) : Prop := BoxAt w wx gi go ∧ Mac wx wide gi go key ∧ Tab wx
theorem MacAt.of {w wx : World} {wide : Bool} {gi go : Nat} {key : ByteArray} (hM : Mac w wide gi go key) (hT : Tab w) (hB : BoxAt w wx gi go) : MacAt w wx wide gi go key :=
  ⟨hB, hM.below hB.2.2.1 hM.1.lt hM.2.lt, tab_of hT hB.2.2.1⟩
set_option maxHeartbeats 2000000 in
theorem stream_any (wide : Bool) (gi go : Nat) (key info : ByteArray) (z : Nat) (w : World) (h : Mac w wide gi go key) (hT : Tab w) (hz : z ≤ 255 * dK wide) (hi : info.size ≤ 72057594037927936) :
    Calls Tryd.prog 23 #[.agg #[.pointer (some ⟨gi, 0, none⟩), .pointer (some ⟨go, 0, none⟩)], .string info, .int .i64 z] w fun e w' => e = .returned (.string ((outS (bitsK wide) key info (upTo (dK wide) z)).extract 0 z)) ∧ Below w.heap.size w w' := by
  obtain ⟨i0, hi0, hz0, hz1, hz2⟩ := info_parts (P := Tryd.prog) (e := 5) (z := .int .u8 0) (size := 1) (bytes := 1) (by kernel_rfl)
  have HJ0 := Lib.hid hi0
  have HJ1 := Lib.hid hz0
  have HJ2 := Lib.hid hz1
  have HJ3 := Lib.hid hz2
  have HM := Lib.hid h
  have HT := Lib.hid hT
  have HI := Lib.hid hi
  have HQ : Hid (∀ s, (macS (bitsK wide) key s).size = dK wide) := fun s => by rw [macS_size _ _ _ (may_bitsK wide), dK_eq]
  have d1 := dK_pos wide
  have d2 := dK_le wide
  generalize dK wide = D at hz HQ d1 d2 ⊢
  clear h hT hi hi0 hz0 hz1 hz2
  go_enter Tryd.func23, Tryd.ntmps23
  go_wp2_with (fail)
  have HS0 : Hid (BoxAt w (w.alloc (.cells #[.pointer (some ⟨gi, 0, none⟩), .pointer (some ⟨go, 0, none⟩)] 43)) gi go) :=
    ⟨by rw [World.cell?_alloc_at _ _ _ _ rfl]; rfl, by rw [World.cell?_alloc_at _ _ _ _ rfl]; rfl, (Below.refl _ _).alloc (Nat.le_refl _) _, by simp⟩
  generalize w.alloc (.cells #[.pointer (some ⟨gi, 0, none⟩), .pointer (some ⟨go, 0, none⟩)] 43) = w1 at HS0 ⊢
  go_loopw [7, 8, 9] (fun out last i wx => ∃ (n : Nat) (O L : ByteArray) (A : Option Addr) (c : Nat), (n = 0 ∨ D * n < z + D) ∧ i = .int .i64 ((n : Int) + 1) ∧ last = .string L ∧ out = .slice A O.size c ∧ Hid (Out w wx A c O) ∧ Hid (O = outS (bitsK wide) key info n) ∧ Hid (L = lastS (bitsK wide) key info n) ∧ O.size = D * n ∧ L.size ≤ 48 ∧ Hid (BoxAt w wx gi go)) (fun _ _ i _ => z + 1 - (intOf i).toNat)
  case atStart => exact ⟨0, ⟨#[]⟩, ⟨#[]⟩, none, 0, Or.inl rfl, rfl, rfl, rfl, World.ownsRow_nil _ _ _ _, rfl, rfl, rfl, by decide, HS0⟩
  case round =>
    obtain ⟨n, O, L, A, c, hn, rfl, rfl, rfl, HOut, HO, HL, hO, hL, HS⟩ := hrel
    by_cases hlt : D * n < z
    · have n1 : n ≤ 254 := by
        apply Nat.le_of_lt_succ
        apply Nat.lt_of_mul_lt_mul_left (a := D)
        rw [Nat.mul_comm D 255]; omega
      have hO' := Lib.hid hO
      have o1 : ((O.size : Nat) : Int) < z := by omega
      have o2 : O.size < z := by omega
      clear hO
      have c0 := HS.out.1
      have c1 := HS.out.2.1
      go_wp2_with (fail)
      rw [conv1]
      go_wp2_with (fail)
      have HS1 : Hid (BoxAt w (wr.alloc (.cells #[.int .u8 ((n : Int) + 1)] 5)) gi go) := HS.out.alloc _
      have HO1 : Hid (Out w (wr.alloc (.cells #[.int .u8 ((n : Int) + 1)] 5)) A c O) := HOut.out.on ((Below.refl _ _).alloc (Nat.le_refl _) _)
      have HU : Hid ((wr.alloc (.cells #[.int .u8 ((n : Int) + 1)] 5)).heap.size = wr.heap.size + 1) := by show (wr.alloc _).heap.size = _; simp
      clear HS HOut c0 c1
      generalize wr.alloc (.cells #[.int .u8 ((n : Int) + 1)] 5) = u at HS1 HO1 HU ⊢
      have q1 : (strOfNums [(n : Int) + 1]).size = 1 := by simp [strOfNums_size]
      have HMu := Lib.hid (MacAt.of HM.out HT.out (HS1.out.alloc (.cells #[.string L, .string info, .string (strOfNums [(n : Int) + 1])] 9)))
      have HSt : Hid (Strs (u.alloc (.cells #[.string L, .string info, .string (strOfNums [(n : Int) + 1])] 9)) (wr.heap.size + 1) 3 [L, info, strOfNums [(n : Int) + 1]]) := by
        have := Strs.three u L info (strOfNums [(n : Int) + 1])
        rwa [HU.out] at this
      refine (ksum_any wide gi go key [L, info, strOfNums [(n : Int) + 1]] (wr.heap.size + 1) 3 _ HMu.out.2.1 HSt.out HMu.out.2.2 (by rw [joinS_three, ByteArray.size_append, ByteArray.size_append, q1]; have := HI.out; omega) (by decide)).mono ?_
      rw [joinS_three]
      rintro e u1 ⟨rfl, hb1⟩
      have q3 := HQ.out (L ++ info ++ strOfNums [(n : Int) + 1])
      have HT1 : Hid (macS (bitsK wide) key (L ++ info ++ strOfNums [(n : Int) + 1]) = lastS (bitsK wide) key info (n + 1)) := by rw [HL.out]; rfl
      generalize macS (bitsK wide) key (L ++ info ++ strOfNums [(n : Int) + 1]) = T at q3 HT1 ⊢
      have HS2 : Hid (BoxAt w u1 gi go) := (HS1.out.alloc _).on hb1
      have HO2 : Hid (Out w u1 A c O) := (HO1.out.on ((Below.refl _ _).alloc (Nat.le_refl _) _)).on hb1
      have HQ3 := Lib.hid q3
      clear hb1 HMu HS1 HO1 HU HSt q1 q3
      go_wp2_with (at_builtin; refine Lib.wpList_append_own_string _ rfl _ _ 35 9 rfl (w.heap.size + 1) 5 i0 Tryd.underlying35 Tryd.underlying9 HJ0.out HJ1.out HJ2.out HJ3.out _ _ _ rfl HO2.out T rfl ?c3 ?c4 ?c5 ?_)
      case c3 => have := HQ3.out; unfold maxLen; omega
      case c4 => have := HQ3.out; omega
      case c5 => exact HS2.out.2.2.2
      intro v' w2 hown hgrow _
      have HS3 : Hid (BoxAt w w2 gi go) := HS2.out.grown hgrow (fun k hk => (World.ownsRow.lt HO2.out k hk).1)
      rw [← strCells_app, ← ByteArray.size_append] at hown
      obtain ⟨A', c', rfl, hO3⟩ := Out.form hown
      have HO3 := Lib.hid hO3
      have HP3 : Hid (O ++ T = outS (bitsK wide) key info (n + 1)) := by
        show O ++ T = outS (bitsK wide) key info n ++ lastS (bitsK wide) key info (n + 1)
        rw [HO.out, HT1.out]
      have HZ3 : Hid ((O ++ T).size = D * (n + 1)) := by show (O ++ T).size = D * (n + 1); rw [ByteArray.size_append, HQ3.out, hO'.out, Nat.mul_add, Nat.mul_one]
      clear hown hgrow hO3
      generalize O ++ T = O' at HO3 HP3 HZ3 ⊢
      go_wp2_with (fail)
      go_roundw
      case rel => exact ⟨n + 1, O', T, A', c', Or.inr (by rw [Nat.mul_add, Nat.mul_one]; omega), by go_num, rfl, rfl, HO3, HP3, HT1, HZ3.out, by have := HQ3.out; omega, HS3⟩
      case measure =>
        have : n < z := Nat.lt_of_le_of_lt (Nat.le_mul_of_pos_left n d1) hlt
        simp [intOf]; omega
    · have hzO : z ≤ O.size := by omega
      have HN : Hid (upTo D z = n) := by
        show (z + D - 1) / D = n
        rcases hn with hn | hn
        · subst hn
          rw [Nat.mul_zero] at hlt
          exact Nat.div_eq_of_lt (by omega)
        · have hlt' : z ≤ D * n := by omega
          apply Nat.div_eq_of_lt_le
          · rw [Nat.mul_comm]; omega
          · rw [Nat.mul_comm, Nat.mul_add, Nat.mul_one]; omega
      have o1 : ¬ ((O.size : Nat) : Int) < z := by omega
      have o2 : ¬ O.size < z := by omega
      have hO' := Lib.hid hO
      clear hO
      rcases HOut.out.2 with ⟨hv, hn0⟩ | ⟨g, cap, cur, hv, _, _, hle, hcm, _, _⟩
      · injection hv with hA _ hc
        subst hA hc
        obtain rfl : z = 0 := by omega
        have HEO : Hid (O = ⟨#[]⟩) := ByteArray.size_eq_zero_iff.1 hn0
        rw [hn0] at o1 o2 ⊢
        clear hn0 hzO hlt hn
        go_wp2_with (fail)
        rw [run_convert_bytes_nil (P := Tryd.prog) _ 35 5 Tryd.underlying35 Tryd.underlying5 0 0 9 Tryd.underlying9]
        go_wp2_with (fail)
        go_ret
        refine ⟨?_, HS.out.2.2.1⟩
        rw [HN.out, ← HO.out, HEO.out]
        rfl
      · injection hv with hA _ hc
        subst hA hc
        have hz1 : (z : Int) ≤ c := by omega
        have hz2 : z ≤ c := by omega
        unfold maxLen at hcm
        go_wp2_with (fail)
        rw [run_convert_bytes_arg (P := Tryd.prog) _ 35 5 Tryd.underlying35 Tryd.underlying5 g 0 z c ((List.range z).map fun t => (byt O t : Int)) (by simp) (fun i hi => by
          rw [Nat.zero_add, Out.cell HOut.out i (by omega)]
          simp [List.getD_eq_getElem?_getD, List.getElem?_range hi]) 9 Tryd.underlying9]
        go_wp2_with (fail)
        go_ret
        refine ⟨?_, HS.out.2.2.1⟩
        rw [HN.out, ← HO.out, ← bytes_take O z hzO]
        rfl
end Go.Proofs.Kd
