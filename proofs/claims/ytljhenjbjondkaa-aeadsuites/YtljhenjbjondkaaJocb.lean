/-
  The three suites: forms for AeadSuites.
-/
import Derived.Test.YtljhenjbjondkaaJoca
import Derived.Test.YtljhenjbjondkaaJobd
import Derived.Test.YtljhenjbjondkaaJobw
import Derived.Lib.BufferWrite
namespace Go.Proofs.Ew
open Go.RowKit
open Go.Proofs.Ad
open Go.Proofs.Pol (sealT openOk poS poE)
theorem s8_of {z : Int} {K N A s : ByteArray} (h0 : sizE z = 0) (h1 : (K.size : Int) = sizK z) (hn : N.size = 12) (ha : A.size ≤ 65536) (hs : s.size ≤ 65536) : s8S z K N A s = s8T z K N A s ∧ s8E z K N A s = 0 := by
  have ok := (s8_iff z K N A s).2 ⟨⟨⟨h0, h1⟩, hn, ha⟩, hs⟩
  exact ⟨by unfold s8S; rw [ok]; rfl, by unfold s8E; rw [ok]; rfl⟩
theorem seal8_fine (z : Int) (K N A s : ByteArray) (w : World) (h0 : sizE z = 0) (h1 : (K.size : Int) = sizK z) (hn : N.size = 12) (ha : A.size ≤ 65536) (hs : s.size ≤ 65536) :
    Calls Try.prog 10 #[.int .i64 z, .string K, .string N, .string A, .string s] w fun e w' => e = .returned (.tuple #[.string (s8T z K N A s), .int .i64 0]) ∧ Below w.heap.size w w' := by
  have h := Ed.seal_any z K N A s w
  have e := s8_of h0 h1 hn ha hs
  rw [e.1, e.2] at h
  exact h
theorem gseal_fine (K N A s : ByteArray) (w : World) (hk : Gcm.keyOk K = true) (hn : N.size = 12) (ha : A.size ≤ 65536) (hs : s.size ≤ 65536) :
    Calls Try.prog 13 #[.string K, .string N, .string A, .string s] w fun e w' => e = .returned (.tuple #[.string (Gcm.sealS K N A s), .int .i64 0]) ∧ Below w.heap.size w w' := by
  have h := Gs.seal_any K N A s w
  have ok := gcmOk_of (more := 0) hk hn ha hs
  rw [show Gcm.gcmS K N A s = Gcm.sealS K N A s by unfold Gcm.gcmS; rw [ok]; rfl, show Gcm.gcmE K N A s = 0 by unfold Gcm.gcmE; rw [ok]; rfl] at h
  exact h
theorem open8_three (K N A t : ByteArray) (hk : K.size = 32) (hn : N.size = 12) (ha : A.size ≤ 65536) (ht : t.size ≤ 65552) :
    (o8S 4867 K N A t = poS K N A t) ∧ (o8E 4867 K N A t = 0 ∧ poE K N A t = 0 ∨ o8E 4867 K N A t = 801 ∧ poE K N A t = 700) := by
  have f : o8F 4867 K N A t = true := (o8_iff 4867 K N A t).2 ⟨⟨⟨siz_three.2.2, by rw [siz_three.1]; omega⟩, hn, ha⟩, ht⟩
  have eb : o8B 4867 K N A t = openOk K N A t := by unfold o8B; rw [if_pos rfl]
  have et : o8T 4867 K N A t = poS K N A t := by unfold o8T; rw [if_pos rfl]
  unfold o8S o8E
  rw [f, eb, et]
  cases hb : openOk K N A t
  · exact ⟨by unfold poS; rw [hb]; rfl, .inr ⟨rfl, by unfold poE; rw [hb]; rfl⟩⟩
  · exact ⟨rfl, .inl ⟨rfl, by unfold poE; rw [hb]; rfl⟩⟩
end Go.Proofs.Ew
/-
  The three suites: forms for AeadPlaces, AeadBack and AeadTwins.
-/
namespace Go.Proofs.Ew
open Go.RowKit
open Go.Proofs.Ad
open Go.Proofs.Pol (sealT sealT_size openOk poS poE open_seal)
/-- Where a row of n bytes is cut. -/
theorem cut_of (z : Int) (n : Nat) : ∃ k : Nat, k ≤ n ∧ (IntKind.u64.wrap z).tmod ((n : Int) + 1) = (k : Int) ∧ (IntKind.u64.wrap z) % ((n : Int) + 1) = (k : Int) := by
  have h0 : 0 ≤ IntKind.u64.wrap z := by show 0 ≤ z % 18446744073709551616; omega
  have h1 := Int.emod_nonneg (IntKind.u64.wrap z) (show ((n : Int) + 1) ≠ 0 by omega)
  have h2 := Int.emod_lt_of_pos (IntKind.u64.wrap z) (show (0 : Int) < (n : Int) + 1 by omega)
  refine ⟨(IntKind.u64.wrap z % ((n : Int) + 1)).toNat, by omega, ?_, by omega⟩
  rw [Int.tmod_eq_emod_of_nonneg h0]
  omega
/-- Behind OpenIn. -/
theorem o8_cases (z : Int) (key nonce aad s : ByteArray) :
    (o8E z key nonce aad s = 0 ∧ o8X z key nonce aad s = o8S z key nonce aad s ++ s.extract (o8S z key nonce aad s).size s.size ∧ (o8S z key nonce aad s).size + 16 = s.size) ∨
    ((o8E z key nonce aad s = 800 ∨ o8E z key nonce aad s = 801) ∧ o8X z key nonce aad s = s ∧ o8S z key nonce aad s = ⟨#[]⟩) := by
  have hs := o8T_size z key nonce aad s
  unfold o8E o8X o8S
  cases hf : o8F z key nonce aad s
  · exact .inr ⟨.inl rfl, rfl, rfl⟩
  · cases hb : o8B z key nonce aad s
    · exact .inr ⟨.inr rfl, rfl, rfl⟩
    · exact .inl ⟨rfl, rfl, hs hb⟩
/-- Behind SealIn. -/
theorem i8_short (z : Int) (key nonce aad s : ByteArray) (h : s.size < 16) : i8E z key nonce aad s = 800 ∧ i8X z key nonce aad s = s := by
  have e : i8Ok z key nonce aad s = false := by unfold i8Ok; rw [decide_eq_false (by omega)]; rfl
  unfold i8E i8X
  rw [e]
  exact ⟨rfl, rfl⟩
theorem i8_long (z : Int) (key nonce aad s : ByteArray) (h : 16 ≤ s.size) :
    (i8E z key nonce aad s = 0 ∧ s8E z key nonce aad (s.extract 0 (s.size - 16)) = 0 ∧ i8X z key nonce aad s = s8S z key nonce aad (s.extract 0 (s.size - 16))) ∨
    (i8E z key nonce aad s = 800 ∧ s8E z key nonce aad (s.extract 0 (s.size - 16)) = 800 ∧ i8X z key nonce aad s = s) := by
  unfold i8E i8X s8E s8S i8Ok
  rw [decide_eq_true h]
  cases s8Ok z key nonce aad (s.extract 0 (s.size - 16))
  · exact .inr ⟨rfl, rfl, rfl⟩
  · exact .inl ⟨rfl, rfl, rfl⟩
end Go.Proofs.Ew
/-
  The three suites: forms for AeadBack and AeadTwins: a suite out of any number, a text laid into a new row, there and back.
-/
namespace Go.Proofs.Ew
open Go.RowKit
open Go.Proofs.Ad
open Go.Proofs.Aes (byt byt_lt get_byt)
open Go.Proofs.Cha (byt_left byt_right byt_cut text_ext)
open Go.Proofs.Pol (sealT sealT_size openOk poS poE sealOk sealOk_iff zS zS_size zS_byt)
/-- A suite out of any number. -/
theorem suite_of (x : Int) : ∃ (q : Nat) (z : Int) (kk : Nat) (B : Int), (IntKind.u64.wrap x).tmod 3 = (q : Int) ∧ (IntKind.u64.wrap x) % 3 = (q : Int) ∧ q ≤ 2 ∧ 4865 + (q : Int) = z ∧ sizE z = 0 ∧ sizK z = (kk : Int) ∧ sizB z = B ∧ (kk = 16 ∨ kk = 32) ∧ (z = 4867 → kk = 32) := by
  have h0 : 0 ≤ IntKind.u64.wrap x := by show 0 ≤ x % 18446744073709551616; omega
  have ht : (IntKind.u64.wrap x).tmod 3 = IntKind.u64.wrap x % 3 := Int.tmod_eq_emod_of_nonneg h0
  have hm : IntKind.u64.wrap x % 3 = 0 ∨ IntKind.u64.wrap x % 3 = 1 ∨ IntKind.u64.wrap x % 3 = 2 := by omega
  rcases hm with h | h | h
  · exact ⟨0, 4865, 16, 256, by rw [ht, h]; rfl, by rw [h]; rfl, by decide, rfl, siz_one.2.2, siz_one.1, siz_one.2.1, .inl rfl, fun c => absurd c (by decide)⟩
  · exact ⟨1, 4866, 32, 384, by rw [ht, h]; rfl, by rw [h]; rfl, by decide, rfl, siz_two.2.2, siz_two.1, siz_two.2.1, .inr rfl, fun c => absurd c (by decide)⟩
  · exact ⟨2, 4867, 32, 256, by rw [ht, h]; rfl, by rw [h]; rfl, by decide, rfl, siz_three.2.2, siz_three.1, siz_three.2.1, .inr rfl, fun _ => rfl⟩
/-- A text laid into a new row of noughts. -/
theorem copy_new (u : World) (M : Array Value) (s : ByteArray) (n m : Nat) (hM : M.size = m) (hMc : ∀ i, i < m → M[i]? = some (.int .u8 0)) (hn : s.size = n) (hs : n ≤ m) :
    ∃ W' : World, (Builtin.copy_ #[27, 9] 3 #[.slice (some ⟨u.heap.size, 0, none⟩) m m, .string s]).run Try.prog (u.alloc (.cells M 5)) = .ok (goInt n) W' ∧ Below u.heap.size u W' ∧ Seg W' u.heap.size 0 m (fun i => if i < n then byt s i else 0) := by
  subst hn
  have h := Lib.run_copy_row_string (P := Try.prog) (u.alloc (.cells M 5)) 27 9 3 5 u.heap.size 0 m m s M 5 Try.underlying27 (by kernel_rfl) (heap_alloc_last _ _) hs (by omega)
  refine ⟨_, h, below_setRow ((Below.refl _ _).alloc (Nat.le_refl _) _) (Nat.le_refl _) _, ?_⟩
  have hl : (Lib.byteCells s.data.toList).length = s.size := by rw [Lib.byteCells_length, ← Lib.size_eq]
  rw [List.take_zero, List.nil_append, Nat.zero_add]
  have hh := setRow_heap (u.alloc (.cells M 5)) u.heap.size M (Lib.byteCells s.data.toList ++ M.toList.drop s.size).toArray 5 (0, 0) (heap_alloc_last _ _)
  have hr : Lw.RowB ((u.alloc (.cells M 5)).setRow u.heap.size (Lib.byteCells s.data.toList ++ M.toList.drop s.size).toArray) u.heap.size m (fun i => if i < s.size then byt s i else 0) := by
    refine ⟨_, hh, ?_, fun i hi => ?_⟩
    · simp [hl, hM]; omega
    · rw [List.getElem?_toArray]
      by_cases h1 : i < s.size
      · rw [List.getElem?_append_left (by omega)]
        show _ = some (Value.int .u8 ((if i < s.size then byt s i else 0 : Nat) : Int))
        rw [if_pos h1]
        simp only [Lib.byteCells, List.getElem?_map]
        rw [Array.getElem?_toList, Array.getElem?_eq_getElem (show i < s.data.size from h1), ← get_byt s i h1]
        rfl
      · rw [List.getElem?_append_right (by omega), hl, List.getElem?_drop, show s.size + (i - s.size) = i by omega, Array.getElem?_toList, hMc i hi]
        show _ = some (Value.int .u8 ((if i < s.size then byt s i else 0 : Nat) : Int))
        rw [if_neg h1]; rfl
  exact (Seg.of_row hr 0 m (by omega)).congr fun i _ => by rw [Nat.zero_add]
theorem new_text (s : ByteArray) (n : Nat) (hn : s.size = n) : Lw.pieceS (fun i => if i < n then byt s i else 0) 0 (n + 16) = s ++ zS 16 := by
  refine text_ext (by rw [Lw.pieceS_size, ByteArray.size_append, zS_size, hn]) fun t ht => ?_
  rw [Lw.pieceS_size] at ht
  rw [Lw.byt_piece _ 0 (n + 16) t ht (fun i => by split; exact byt_lt _ _; decide), Nat.zero_add]
  by_cases h : t < n
  · rw [if_pos h, byt_left _ _ _ (by omega)]
  · rw [if_neg h, byt_right _ _ _ (by omega) (by rw [zS_size]; omega), zS_byt _ _ (by omega)]
/-- SealIn over a text and sixteen noughts. -/
theorem in_new (z : Int) (K N A s : ByteArray) (h : s8Ok z K N A s = true) : i8E z K N A (s ++ zS 16) = 0 ∧ i8X z K N A (s ++ zS 16) = s8T z K N A s ∧ s8S z K N A s = s8T z K N A s ∧ s8E z K N A s = 0 := by
  have e : (s ++ zS 16).extract 0 ((s ++ zS 16).size - 16) = s := by
    rw [ByteArray.size_append, zS_size, show s.size + 16 - 16 = s.size by omega]
    exact ByteArray.extract_append_eq_left rfl
  have ok : i8Ok z K N A (s ++ zS 16) = true := by unfold i8Ok; rw [e, h, decide_eq_true (by rw [ByteArray.size_append, zS_size]; omega)]; rfl
  exact ⟨by unfold i8E; rw [ok]; rfl, by unfold i8X; rw [ok, e]; rfl, by unfold s8S; rw [h]; rfl, by unfold s8E; rw [h]; rfl⟩
/-- What was sealed is opened. -/
theorem back8 (z : Int) (K N A s : ByteArray) (h : s8Ok z K N A s = true) : o8S z K N A (s8T z K N A s) = s ∧ o8E z K N A (s8T z K N A s) = 0 ∧ o8X z K N A (s8T z K N A s) = s ++ (s8T z K N A s).extract s.size (s.size + 16) := by
  obtain ⟨⟨⟨h0, h1⟩, h2, h3⟩, h4⟩ := (s8_iff z K N A s).1 h
  have zt := s8T_size z K N A s
  have f : o8F z K N A (s8T z K N A s) = true := (o8_iff z K N A _).2 ⟨⟨⟨h0, h1⟩, h2, h3⟩, by omega⟩
  have bt : o8B z K N A (s8T z K N A s) = true ∧ o8T z K N A (s8T z K N A s) = s := by
    unfold o8B o8T s8T
    by_cases hz : z = 4867
    · rw [if_pos hz, if_pos hz, if_pos hz]
      have so : sealOk K N A s = true := (sealOk_iff K N A s).2 ⟨⟨by rw [hz, siz_three.1] at h1; omega, h2, h3⟩, h4⟩
      have ho := Pol.open_seal K N A s so
      refine ⟨?_, ho.1⟩
      cases hb : openOk K N A (sealT K N A s)
      · have := ho.2
        unfold poE at this
        rw [hb] at this
        exact absurd this (by decide)
      · rfl
    · rw [if_neg hz, if_neg hz, if_neg hz]
      have go := Gcm.open_seal K N A s (gcmOk_of (more := 0) (keyOk_of h0 h1) h2 h3 h4)
      refine ⟨?_, go.1⟩
      cases hb : Gcm.openB K N A (Gcm.sealS K N A s)
      · have := go.2
        unfold Gcm.openE at this
        rw [hb] at this
        cases hg : Gcm.gcmOk K N A (Gcm.sealS K N A s) 16 <;> rw [hg] at this <;> exact absurd this (by decide)
      · rfl
  have e1 : o8S z K N A (s8T z K N A s) = s := by unfold o8S; rw [f, bt.1, bt.2]; rfl
  refine ⟨e1, by unfold o8E; rw [f, bt.1]; rfl, ?_⟩
  unfold o8X
  rw [f, bt.1, bt.2, zt]
  rfl
end Go.Proofs.Ew
/-
  The three suites: forms for AeadTwins: a byte set anew, what two parts hold.
-/
namespace Go.Proofs.Ew
open Go.RowKit
open Go.Proofs.Aes (byt byt_lt get_byt)
open Go.Proofs.Cha (byt_nums text_ext)
open Go.Proofs.Ad
theorem Seg.set {w : World} {g n : Nat} {X : Nat → Nat} (h : Seg w g 0 n X) (j x : Nat) (hj : j < n) : Seg (w.setCell ⟨g, j, none⟩ (.int .u8 (x : Nat))) g 0 n (fun i => if i = j then x else X i) := by
  refine ⟨Nat.lt_of_lt_of_le h.1 (by simp [World.setCell]), fun i hi => ⟨?_, by rw [World.frozen?_setCell]; exact (h.2 i hi).2⟩⟩
  have hc := (h.2 i hi).1
  rw [Nat.zero_add] at hc ⊢
  by_cases e : i = j
  · subst e
    rw [World.cell?_setCell_same w _ _ hc]; simp
  · rw [World.cell?_setCell_other w _ _ _ (fun q => e (by injection q with _ q _; exact q.symm)), hc]; simp [e]
/-- Behind OpenIn: what the parts hold. -/
theorem parts_of (Y : Nat → Nat) (P A : ByteArray) (p n : Nat) (hp : P.size = p) (hn : A.size = n) (hpn : p ≤ n) (h : Lw.pieceS Y 0 n = P ++ A.extract p n) : Lw.pieceS Y 0 p = P ∧ Lw.pieceS Y p (n - p) = A.extract p n := by
  have h1 := part_of Y n 0 p hpn (Nat.zero_le _)
  have h2 := part_of Y n p n (Nat.le_refl _) hpn
  rw [h] at h1 h2
  rw [Nat.sub_zero] at h1
  subst hp
  constructor
  · rw [h1]; simp [ByteArray.extract_append]
  · rw [h2]; exact ByteArray.extract_append_eq_right rfl (by rw [ByteArray.size_extract]; omega)
theorem Seg.parts {w : World} {g n p : Nat} {Y : Nat → Nat} {P A : ByteArray} (h : Seg w g 0 n Y) (hp : P.size = p) (hn : A.size = n) (hpn : p ≤ n) (e : Lw.pieceS Y 0 n = P ++ A.extract p n) (c1 c2 : Nat) :
    (Go.convert 27 9 (.slice (some ⟨g, 0, none⟩) p c1)).run Try.prog w = .ok (.string P) w ∧ (Go.convert 27 9 (.slice (some ⟨g, p, none⟩) (n - p) c2)).run Try.prog w = .ok (.string (A.extract p n)) w := by
  have hh := parts_of Y P A p n hp hn hpn e
  have h1 : Seg w g 0 p Y := ⟨h.1, fun i hi => h.2 i (by omega)⟩
  have h2 := h.cut p (n - p) (by omega)
  rw [Nat.zero_add] at h2
  refine ⟨by rw [h1.text c1, hh.1], ?_⟩
  rw [h2.text c2, ← hh.2]
  unfold Lw.pieceS
  simp only [Nat.zero_add]
/-- The place to spoil. -/
theorem spot_of (z : Int) (n : Nat) (hn : 0 < n) : ∃ i : Nat, i < n ∧ (IntKind.u64.wrap ((IntKind.u64.wrap z).tdiv 4)).tmod (n : Int) = (i : Int) ∧ (IntKind.u64.wrap z / 4) % (n : Int) = (i : Int) := by
  have h0 : 0 ≤ IntKind.u64.wrap z := by show 0 ≤ z % 18446744073709551616; omega
  have hl : IntKind.u64.wrap z < 18446744073709551616 := by show z % 18446744073709551616 < 18446744073709551616; omega
  have hd : (IntKind.u64.wrap z).tdiv 4 = IntKind.u64.wrap z / 4 := Int.tdiv_eq_ediv_of_nonneg h0
  generalize IntKind.u64.wrap z = v at h0 hl hd ⊢
  rw [hd]
  have hw : IntKind.u64.wrap (v / 4) = v / 4 := by show (v / 4) % 18446744073709551616 = v / 4; omega
  rw [hw]
  have h1 := Int.emod_nonneg (v / 4) (show (n : Int) ≠ 0 by omega)
  have h2 := Int.emod_lt_of_pos (v / 4) (show (0 : Int) < (n : Int) by omega)
  refine ⟨((v / 4) % (n : Int)).toNat, by omega, ?_, by omega⟩
  rw [Int.tmod_eq_emod_of_nonneg (by omega)]
  omega
end Go.Proofs.Ew
