/-
  The developers' aead: what lies in memory while two pieces are walked over.
-/
import Derived.Test.YtljhenjbjondkaaJobx
namespace Go.Proofs.Ed
open Go.RowKit Go.Proofs.Ad
open Go.Proofs.Ew (Seg)
open Go.Proofs.Pd (But)
open Go.Proofs.Aes (byt byt_lt get_byt)
theorem Seg.there {w : World} {g o n : Nat} {X : Nat → Nat} (h : Seg w g o n X) (i L : Nat) (hi : i + L ≤ n) : w.there g (o + i) L := fun j hj => by
  rw [Nat.add_assoc]
  exact ⟨by rw [(h.2 (i + j) (by omega)).1]; rfl, (h.2 (i + j) (by omega)).2⟩
theorem setCells_size (b : Nat) : ∀ (vs : List Value) (o : Nat) (w : World), (w.setCells b o vs).heap.size = w.heap.size
  | [], _, _ => rfl
  | v :: r, o, w => (setCells_size b r (o + 1) _).trans (by simp [World.setCell])
theorem Seg.write {w : World} {g o n : Nat} {X : Nat → Nat} (h : Seg w g o n X) (i L : Nat) (V : Nat → Nat) (hi : i + L ≤ n) : Seg (w.setCells g (o + i) (bv V L)) g o n (fun t => if i ≤ t ∧ t < i + L then V (t - i) else X t) := by
  refine ⟨by rw [setCells_size]; exact h.1, fun t ht => ⟨?_, by rw [World.frozen?_setCells]; exact (h.2 t ht).2⟩⟩
  by_cases hc : i ≤ t ∧ t < i + L
  · have e := World.cell?_setCells_in g (bv V L) (o + i) w (fun j hj => by rw [bv_len] at hj; rw [Nat.add_assoc, (h.2 (i + j) (by omega)).1]; rfl) (t - i) (by rw [bv_len]; omega)
    rw [show o + i + (t - i) = o + t by omega] at e
    rw [e]
    show _ = some (Value.int .u8 (((if i ≤ t ∧ t < i + L then V (t - i) else X t : Nat)) : Int))
    rw [if_pos hc, ← bv_get V L (t - i) (by omega)]
    exact (List.getElem?_eq_getElem (by rw [bv_len]; omega)).symm
  · rw [World.cell?_setCells_out g (bv V L) (o + i) w ⟨g, o + t, none⟩ (fun _ _ => by rw [bv_len]; show o + t < o + i ∨ o + i + L ≤ o + t; omega)]
    show _ = some (Value.int .u8 (((if i ≤ t ∧ t < i + L then V (t - i) else X t : Nat)) : Int))
    rw [if_neg hc]
    exact (h.2 t ht).1
theorem But.setCells {g : Nat} {a : World} : ∀ (vs : List Value) (o : Nat) (w : World), But g a w → But g a (w.setCells g o vs)
  | [], _, _, h => h
  | v :: r, o, _, h => But.setCells r (o + 1) _ (h.setCell o v)
/-- While a text is gathered: the first i bytes stand in row G1, which the variable at G2 holds. -/
structure Tx (w u : World) (G1 G2 n i : Nat) (X : Nat → Nat) : Prop where
  below : Below w.heap.size w u
  var : u.cell? ⟨G2, 0, none⟩ = some (.slice (some ⟨G1, 0, none⟩) n n)
  row : Seg u G1 0 n (fun t => if t < i then X t else 0)
  le : w.heap.size ≤ G1
  le2 : w.heap.size ≤ G2
  ne : G2 ≠ G1
  lt : G2 < u.heap.size
theorem Tx.on {w u v : World} {G1 G2 n i : Nat} {X : Nat → Nat} (h : Tx w u G1 G2 n i X) (hb : Below u.heap.size u v) : Tx w v G1 G2 n i X :=
  ⟨Lw.go_on h.below hb, (hb.cell (p := ⟨G2, 0, none⟩) h.lt).trans h.var, h.row.on hb, h.le, h.le2, h.ne, Nat.lt_of_lt_of_le h.lt hb.size⟩
theorem Tx.set {w u : World} {G1 G2 n i : Nat} {X : Nat → Nat} (h : Tx w u G1 G2 n i X) (L : Nat) (hi : i + L ≤ n) : Tx w (u.setCells G1 i (bv (fun j => X (i + j)) L)) G1 G2 n (i + L) X := by
  have hw := Seg.write h.row i L (fun j => X (i + j)) hi
  rw [Nat.zero_add] at hw
  refine ⟨below_setCells h.le _ _ _ h.below, ?_, hw.congr fun t ht => ?_, h.le, h.le2, h.ne, by rw [setCells_size]; exact h.lt⟩
  · rw [World.cell?_setCells_out G1 _ i u ⟨G2, 0, none⟩ (fun c _ => absurd c h.ne)]
    exact h.var
  · by_cases hc : i ≤ t ∧ t < i + L
    · rw [if_pos hc, if_pos hc.2, show i + (t - i) = t by omega]
    · rw [if_neg hc]
      by_cases h1 : t < i
      · rw [if_pos h1, if_pos (by omega)]
      · rw [if_neg h1, if_neg (by omega)]
set_option maxHeartbeats 1000000 in
theorem Tx.step {w u : World} {G1 G2 n i N g o : Nat} {X : Nat → Nat} (h : Tx w u G1 G2 n i X) (hS : Seg w g o N X) (L c : Nat) (p : Option Addr) (hi : i + L ≤ n) (hN : i + L ≤ N) (hn : n ≤ 1000000) (hp : L = 0 ∨ p = some ⟨g, o + i, none⟩) :
    Calls Try.prog 29 #[.int .i64 (i : Nat), .slice p L c, .pointer (some ⟨G2, 0, none⟩)] u fun e u' => e = .returned (.tuple #[]) ∧ Tx w u' G1 G2 n (i + L) X := by
  have hSu := hS.on h.below
  have ht := Seg.there h.row i L hi
  rw [Nat.zero_add] at ht
  refine (text1_any G1 G2 i n L c p (fun j => X (i + j)) u h.var hi hn (hp.imp id fun e => ⟨_, e, fun j hj => ?_⟩) ht).mono fun e u' ⟨h1, h2⟩ => ⟨h1, by rw [h2]; exact h.set L hi⟩
  have := (hSu.2 (i + j) (by omega)).1
  rw [← Nat.add_assoc] at this
  rw [← this]
  cases j <;> simp [Addr.add]
/-- While a text is put: its first i bytes stand over what was there; block Gs holds it. -/
structure Px (w u : World) (g o n Gs i : Nat) (s : ByteArray) (X : Nat → Nat) : Prop where
  but : But g w u
  var : u.cell? ⟨Gs, 0, none⟩ = some (.string s)
  row : Seg u g o n (fun t => if t < i then byt s t else X t)
  ne : Gs ≠ g
  lt : Gs < u.heap.size
theorem Px.on {w u v : World} {g o n Gs i : Nat} {s : ByteArray} {X : Nat → Nat} (h : Px w u g o n Gs i s X) (hb : Below u.heap.size u v) : Px w v g o n Gs i s X :=
  ⟨h.but.on hb, (hb.cell (p := ⟨Gs, 0, none⟩) h.lt).trans h.var, h.row.on hb, h.ne, Nat.lt_of_lt_of_le h.lt hb.size⟩
theorem Px.set {w u : World} {g o n Gs i : Nat} {s : ByteArray} {X : Nat → Nat} (h : Px w u g o n Gs i s X) (L : Nat) (hi : i + L ≤ n) : Px w (u.setCells g (o + i) (bv (fun j => byt s (i + j)) L)) g o n Gs (i + L) s X := by
  refine ⟨But.setCells _ _ _ h.but, ?_, (Seg.write h.row i L (fun j => byt s (i + j)) hi).congr fun t ht => ?_, h.ne, by rw [setCells_size]; exact h.lt⟩
  · rw [World.cell?_setCells_out g _ (o + i) u ⟨Gs, 0, none⟩ (fun c _ => absurd c h.ne)]
    exact h.var
  · by_cases hc : i ≤ t ∧ t < i + L
    · rw [if_pos hc, if_pos hc.2, show i + (t - i) = t by omega]
    · rw [if_neg hc]
      by_cases h1 : t < i
      · rw [if_pos h1, if_pos (by omega)]
      · rw [if_neg h1, if_neg (by omega)]
theorem Px.step {w u : World} {g o n Gs i : Nat} {s : ByteArray} {X : Nat → Nat} (h : Px w u g o n Gs i s X) (L c : Nat) (p : Option Addr) (hi : i + L ≤ n) (hs : i + L ≤ s.size) (hp : L = 0 ∨ p = some ⟨g, o + i, none⟩) :
    Calls Try.prog 30 #[.int .i64 (i : Nat), .slice p L c, .pointer (some ⟨Gs, 0, none⟩)] u fun e u' => e = .returned (.tuple #[]) ∧ Px w u' g o n Gs (i + L) s X :=
  (put1_any g (o + i) Gs i L c s p u h.var hs hp (Seg.there h.row i L hi)).mono fun e u' ⟨h1, h2⟩ => ⟨h1, by rw [h2]; exact h.set L hi⟩
end Go.Proofs.Ed
/-
  The developers' aead: two pieces' text; a text put over them.
-/
namespace Go.Proofs.Ed
open Go.RowKit Go.Proofs.Ad
open Go.Proofs.Ew (Seg)
open Go.Proofs.Pd (But)
open Go.Proofs.Lw (pieceS)
open Go.Proofs.Aes (byt byt_lt get_byt)
theorem tx_new (w : World) (A : Obj) (M : Array Value) (N : Nat) (X : Nat → Nat) (hM : M.size = N) (hMc : ∀ i, i < N → M[i]? = some (.int .u8 0)) :
    Tx w (((w.alloc A).alloc (.cells M 5)).alloc (.cells #[.slice (some ⟨w.heap.size + 1, 0, none⟩) N N] 27)) (w.heap.size + 1) (w.heap.size + 1 + 1) N 0 X := by
  have b1 : Below w.heap.size w (w.alloc A) := (Below.refl _ _).alloc (Nat.le_refl _) _
  have e1 : (w.alloc A).heap.size = w.heap.size + 1 := by simp
  have e2 : ((w.alloc A).alloc (.cells M 5)).heap.size = w.heap.size + 1 + 1 := by simp
  have b2 : Below w.heap.size w ((w.alloc A).alloc (.cells M 5)) := b1.alloc b1.size _
  have hr := Lw.rowB_new (w.alloc A) M N hM hMc
  rw [e1] at hr
  have hs := Ew.Seg.of_row hr 0 N (by omega)
  have bb : Below ((w.alloc A).alloc (.cells M 5)).heap.size ((w.alloc A).alloc (.cells M 5)) (((w.alloc A).alloc (.cells M 5)).alloc (.cells #[.slice (some ⟨w.heap.size + 1, 0, none⟩) N N] 27)) := (Below.refl _ _).alloc (Nat.le_refl _) _
  refine ⟨b2.alloc b2.size _, ?_, (hs.on bb).congr fun t _ => by simp, by omega, by omega, by omega, by simp⟩
  rw [World.cell?_alloc_at _ _ _ _ (by simp)]
  rfl
set_option maxHeartbeats 2000000 in
set_option maxRecDepth 20000 in
theorem ptext_any (g o k m n c1 c2 N : Nat) (p1 p2 : Option Addr) (X : Nat → Nat) (w : World) (h : Seg w g o n X) (h1 : k = 0 ∨ p1 = some ⟨g, o, none⟩) (h2 : m = 0 ∨ p2 = some ⟨g, o + k, none⟩) (hk : k + m = n) (hc1 : k ≤ c1) (hc2 : m ≤ c2) (hN : N ≤ n) (hN2 : N ≤ 1000000) (hn : n ≤ 9223372036854775807) :
    Calls Try.prog 19 #[.agg #[.slice p1 k c1, .slice p2 m c2], .int .i64 (N : Nat)] w fun e w' => e = .returned (.string (pieceS X 0 N)) ∧ Below w.heap.size w w' := by
  obtain ⟨M, hM, hMc, hmk⟩ := Lw.zeros N hN2
  have hmf : ∀ (fn : Fn) (first cap : Array Value) (w : World), (Instr.makeFunc fn first cap).run Try.prog w = .ok (.func fn first cap) w := fun _ _ _ _ => rfl
  have HT := Lib.hid (tx_new w (.cells #[.slice p1 k c1, .slice p2 m c2] 40) M N X hM hMc)
  obtain ⟨x, hx⟩ : ∃ x, min k N = x := ⟨_, rfl⟩
  obtain ⟨y, hy⟩ : ∃ y, N - x = y := ⟨_, rfl⟩
  have HW := Lib.hid fun (W : World) (hW : Tx w W (w.heap.size + 1) (w.heap.size + 1 + 1) N 0 X) =>
    walk_text (.pointer (some ⟨w.heap.size + 1 + 1, 0, none⟩)) p1 p2 k m c1 c2 N x y W (fun u => Tx w u (w.heap.size + 1) (w.heap.size + 1 + 1) N 0 X) (fun u => Tx w u (w.heap.size + 1) (w.heap.size + 1 + 1) N x X) (fun u => Tx w u (w.heap.size + 1) (w.heap.size + 1 + 1) N N X)
      hc1 hc2 (by omega) (by omega) hx hy (fun u hb => hW.on hb)
      (fun u hu => by
        have := hu.step h x c1 p1 (by omega) (by omega) hN2 (h1.imp (fun e => by omega) id)
        rw [Nat.zero_add] at this
        exact this)
      (fun u hu => by
        have := hu.step h y c2 p2 (by omega) (by omega) hN2 (by rcases h2 with e | e; exact .inl (by omega); rcases Nat.eq_zero_or_pos y with e0 | e0; exact .inl e0; exact .inr (by rw [e, show x = k by omega]))
        rw [show x + y = N by omega] at this
        exact this)
  clear h h1 h2 hk hc1 hc2 hN hN2 hn hM hMc hx hy
  go_enter Try.func19, Try.ntmps19
  go_wp2_with (go_at_call 28; fail)
  refine (HW.out _ HT.out).mono ?_
  clear HW HT hmk hmf
  rintro e u ⟨rfl, hu⟩
  have hv := hu.var
  have hcv := (hu.row.congr (Y := X) fun t ht => if_pos ht).text N
  have HB := Lib.hid hu.below
  clear hu
  go_wp2_with (fail)
  go_ret
  exact ⟨rfl, HB.out⟩
theorem px_new (w : World) (A : Obj) (g o n : Nat) (s : ByteArray) (X : Nat → Nat) (h : Seg w g o n X) : Px w ((w.alloc A).alloc (.cells #[.string s] 9)) g o n (w.heap.size + 1) 0 s X := by
  have b1 : Below w.heap.size w (w.alloc A) := (Below.refl _ _).alloc (Nat.le_refl _) _
  have b2 : Below w.heap.size w ((w.alloc A).alloc (.cells #[.string s] 9)) := b1.alloc b1.size _
  have hg := h.lt
  refine ⟨But.of_below b2, ?_, (h.on b2).congr fun t _ => by simp, by omega, by simp⟩
  rw [World.cell?_alloc_at _ _ _ _ (by simp)]
  rfl
set_option maxHeartbeats 2000000 in
set_option maxRecDepth 20000 in
theorem pput_any (g o k m n c1 c2 : Nat) (s : ByteArray) (p1 p2 : Option Addr) (X : Nat → Nat) (w : World) (h : Seg w g o n X) (h1 : k = 0 ∨ p1 = some ⟨g, o, none⟩) (h2 : m = 0 ∨ p2 = some ⟨g, o + k, none⟩) (hk : k + m = n) (hc1 : k ≤ c1) (hc2 : m ≤ c2) (hN : s.size ≤ n) (hn : n ≤ 9223372036854775807) :
    Calls Try.prog 20 #[.agg #[.slice p1 k c1, .slice p2 m c2], .string s] w fun e w' => e = .returned (.tuple #[]) ∧ But g w w' ∧ Seg w' g o n (fun t => if t < s.size then byt s t else X t) := by
  have hmf : ∀ (fn : Fn) (first cap : Array Value) (w : World), (Instr.makeFunc fn first cap).run Try.prog w = .ok (.func fn first cap) w := fun _ _ _ _ => rfl
  have HT := Lib.hid (px_new w (.cells #[.slice p1 k c1, .slice p2 m c2] 40) g o n s X h)
  obtain ⟨N, hNs⟩ : ∃ N, s.size = N := ⟨_, rfl⟩
  obtain ⟨x, hx⟩ : ∃ x, min k N = x := ⟨_, rfl⟩
  obtain ⟨y, hy⟩ : ∃ y, N - x = y := ⟨_, rfl⟩
  have HW := Lib.hid fun (W : World) (hW : Px w W g o n (w.heap.size + 1) 0 s X) =>
    walk_put (.pointer (some ⟨w.heap.size + 1, 0, none⟩)) p1 p2 k m c1 c2 N x y W (fun u => Px w u g o n (w.heap.size + 1) 0 s X) (fun u => Px w u g o n (w.heap.size + 1) x s X) (fun u => Px w u g o n (w.heap.size + 1) N s X)
      hc1 hc2 (by omega) (by omega) hx hy (fun u hb => hW.on hb)
      (fun u hu => by
        have := hu.step x c1 p1 (by omega) (by omega) (h1.imp (fun e => by omega) id)
        rw [Nat.zero_add] at this
        exact this)
      (fun u hu => by
        have := hu.step y c2 p2 (by omega) (by omega) (by rcases h2 with e | e; exact .inl (by omega); rcases Nat.eq_zero_or_pos y with e0 | e0; exact .inl e0; exact .inr (by rw [e, show x = k by omega]))
        rw [show x + y = N by omega] at this
        exact this)
  have HN := Lib.hid hNs
  clear h h1 h2 hk hc1 hc2 hN hn hx hy
  go_enter Try.func20, Try.ntmps20
  go_wp2_with (go_at_call 28; fail)
  refine (HW.out _ HT.out).mono ?_
  clear HW HT hmf
  rintro e u ⟨rfl, hu⟩
  have HB := Lib.hid hu.but
  have HR := Lib.hid hu.row
  clear hu
  go_wp2_with (fail)
  go_end0
  exact ⟨rfl, HB.out, by rw [HN.out]; exact HR.out⟩
end Go.Proofs.Ed
