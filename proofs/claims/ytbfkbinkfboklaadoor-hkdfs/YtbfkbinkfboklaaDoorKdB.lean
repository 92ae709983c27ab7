/-
  The developers' hkdf: after, (mac).sum.
-/
import Derived.Test.YtbfkbinkfboklaaDoorImS
import Derived.Test.YtbfkbinkfboklaaDoorKdA
namespace Go.Proofs.Kd
open Go.RowKit Go.Proofs.Be Go.Proofs.Sha Go.Proofs.Hk Go.Proofs.Im
/-- Texts one behind the other. -/
def joinS : List ByteArray → ByteArray
  | [] => ⟨#[]⟩
  | p :: ps => p ++ joinS ps
theorem emp_app (s : ByteArray) : (⟨#[]⟩ : ByteArray) ++ s = s := ByteArray.empty_append
theorem app_emp (s : ByteArray) : s ++ (⟨#[]⟩ : ByteArray) = s := ByteArray.append_empty
theorem joinS_app (a b : List ByteArray) : joinS (a ++ b) = joinS a ++ joinS b := by
  induction a with
  | nil => exact (emp_app _).symm
  | cons p a ih => show p ++ joinS (a ++ b) = p ++ joinS a ++ joinS b; rw [ih, ByteArray.append_assoc]
theorem joinS_one (p : ByteArray) : joinS [p] = p := app_emp p
theorem joinS_take (ps : List ByteArray) (j : Nat) (h : j < ps.length) : joinS (ps.take (j + 1)) = joinS (ps.take j) ++ ps.getD j ⟨#[]⟩ := by
  rw [List.take_succ_eq_append_getElem h, joinS_app, joinS_one, List.getD_eq_getElem?_getD, List.getElem?_eq_getElem h]; rfl
theorem joinS_take_le (ps : List ByteArray) (j : Nat) : (joinS (ps.take j)).size ≤ (joinS ps).size := by
  have h := joinS_app (ps.take j) (ps.drop j)
  rw [List.take_append_drop] at h
  rw [h, ByteArray.size_append]; omega
/-- Block b holds the texts ps. -/
def Strs (w : World) (b n : Nat) (ps : List ByteArray) : Prop := ps.length = n ∧ w.rowIs b 9 n (fun i => .string (ps.getD i ⟨#[]⟩))
theorem Strs.below {w u : World} {b n B : Nat} {ps : List ByteArray} (h : Strs w b n ps) (hb : Below B w u) (hB : b < B) : Strs u b n ps := ⟨h.1, World.rowIs.of_block h.2 (hb.block b hB)⟩
theorem Strs.one (w : World) (p : ByteArray) : Strs (w.alloc (.cells #[.string p] 9)) w.heap.size 1 [p] :=
  ⟨rfl, rowIs_of w #[.string p] 9 1 _ rfl fun i hi => by
    match i, hi with
    | 0, _ => rfl⟩
theorem Strs.three (w : World) (p q r : ByteArray) : Strs (w.alloc (.cells #[.string p, .string q, .string r] 9)) w.heap.size 3 [p, q, r] :=
  ⟨rfl, rowIs_of w #[.string p, .string q, .string r] 9 3 _ rfl fun i hi => by
    match i, hi with
    | 0, _ => rfl
    | 1, _ => rfl
    | 2, _ => rfl⟩
/-- What 'after' answers. -/
def After (w : World) (wide : Bool) (s : ByteArray) (e : Ending) (w' : World) : Prop := ∃ g', e = .returned (.pointer (some ⟨g', 0, none⟩)) ∧ w.heap.size ≤ g' ∧ Below w.heap.size w w' ∧ Wrote w' g' wide s
set_option maxHeartbeats 1000000 in
theorem after_list (wide : Bool) (g : Nat) (s : ByteArray) (ps : List ByteArray) (b n : Nat) (w : World) (h : Wrote w g wide s) (hp : Strs w b n ps) (hT : Tab w) (hs : s.size + (joinS ps).size ≤ 288230376151711744) (hn : n ≤ 1000) :
    Calls Tryd.prog 30 #[.pointer (some ⟨g, 0, none⟩), .slice (some ⟨b, 0, none⟩) n n] w (After w wide (s ++ joinS ps)) := by
  have H := Lib.hid h
  have HP := Lib.hid hp
  have HT := Lib.hid hT
  have HS := Lib.hid hs
  clear h hp hT hs
  go_enter Tryd.func30, Tryd.ntmps30
  go_wp2_with (go_at_call 41; refine (hfork2 wide g s _ H.out).mono ?_; rintro e u ⟨g', rfl, hg', hbu, hW⟩; have HB := Lib.hid hbu; clear hbu)
  go_loopw [12] (fun i wx => ∃ (j : Nat), j ≤ n ∧ i = .int .i64 j ∧ Hid (Below w.heap.size w wx) ∧ Hid (Wrote wx g' wide (s ++ joinS (ps.take j)))) (fun i _ => n - (intOf i).toNat)
  case atStart => exact ⟨0, Nat.zero_le _, rfl, HB, by show Wrote u g' wide (s ++ ⟨#[]⟩); rw [app_emp]; exact hW.out⟩
  case round =>
    obtain ⟨j, hj, rfl, HBx, HWx⟩ := hrel
    by_cases hlt : j < n
    · have jb' : (j : Int) < n := by omega
      have hPx := HP.out.below HBx.out HP.out.2.lt
      have hc := World.rowIs.cell hPx.2 (i := j) hlt
      have HJ := Lib.hid (joinS_take ps j (by rw [HP.out.1]; exact hlt))
      have HL := Lib.hid (joinS_take_le ps (j + 1))
      clear hPx
      generalize ps.getD j ⟨#[]⟩ = p at hc HJ
      have HZ : Hid ((s ++ joinS (ps.take j)).size + p.size ≤ 288230376151711744) := by
        have h1 := HL.out
        have h2 := HS.out
        rw [HJ.out, ByteArray.size_append] at h1
        show (s ++ joinS (ps.take j)).size + p.size ≤ _
        rw [ByteArray.size_append]; omega
      generalize hq : s ++ joinS (ps.take j) = q at HWx HZ
      have HQ := Lib.hid hq
      clear hq
      go_wp2_with (go_at_call 42; refine (write2 wide g' q p _ HWx.out (Nat.lt_of_lt_of_le HT.out.pos hg'.out) (tab_of HT.out HBx.out) HZ.out).mono ?_; rintro e v ⟨rfl, hBv, hWv⟩; have HBv := Lib.hid hBv; clear hBv)
      go_roundw
      case rel =>
        refine ⟨j + 1, by omega, by go_num, go_but HBx.out hg'.out HBv.out, ?_⟩
        show Wrote v g' wide (s ++ joinS (ps.take (j + 1)))
        rw [HJ.out, ← ByteArray.append_assoc, HQ.out]
        exact hWv.out
      case measure => simp [intOf]; omega
    · go_wp2_with (fail)
      go_ret
      refine ⟨g', rfl, hg'.out, HBx.out, ?_⟩
      have := HWx.out
      rwa [List.take_of_length_le (by rw [HP.out.1]; omega)] at this
/-- The two hashes of a mac. -/
def Mac (w : World) (wide : Bool) (gi go : Nat) (key : ByteArray) : Prop :=
  Wrote w gi wide (xorS (keyS (bitsK wide) key) 54 (sizeK wide)) ∧ Wrote w go wide (xorS (keyS (bitsK wide) key) 92 (sizeK wide))
theorem Mac.below {w u : World} {gi go B : Nat} {wide : Bool} {key : ByteArray} (h : Mac w wide gi go key) (hb : Below B w u) (h1 : gi < B) (h2 : go < B) : Mac u wide gi go key := ⟨h.1.below hb h1, h.2.below hb h2⟩
theorem macS_eq (wide : Bool) (key s : ByteArray) : macS (bitsK wide) key s = digS (bitsK wide) (xorS (keyS (bitsK wide) key) 92 (sizeK wide) ++ digS (bitsK wide) (xorS (keyS (bitsK wide) key) 54 (sizeK wide) ++ s)) := by
  unfold macS; rw [bS_bitsK]
/-- The boxed mac lies behind the old blocks, and those stay. -/
def BoxAt (w w' : World) (gi go : Nat) : Prop := w'.cell? ⟨w.heap.size, 0, none⟩ = some (.pointer (some ⟨gi, 0, none⟩)) ∧ w'.cell? ⟨w.heap.size, 1, none⟩ = some (.pointer (some ⟨go, 0, none⟩)) ∧ Below w.heap.size w w' ∧ w.heap.size < w'.heap.size
theorem BoxAt.on {w u v : World} {gi go : Nat} (h : BoxAt w u gi go) (hb : Below u.heap.size u v) : BoxAt w v gi go :=
  ⟨(hb.cell (p := ⟨w.heap.size, 0, none⟩) h.2.2.2).trans h.1, (hb.cell (p := ⟨w.heap.size, 1, none⟩) h.2.2.2).trans h.2.1, go_on h.2.2.1 hb, Nat.lt_of_lt_of_le h.2.2.2 hb.size⟩
theorem BoxAt.alloc {w u : World} {gi go : Nat} (h : BoxAt w u gi go) (o : Obj) : BoxAt w (u.alloc o) gi go := h.on ((Below.refl _ u).alloc (Nat.le_refl _) o)
theorem after_held {w u : World} {gi go : Nat} (hS : BoxAt w u gi go) (wide : Bool) (g : Nat) (s : ByteArray) (ps : List ByteArray) (b n : Nat) (h : Wrote w g wide s) (hp : Strs u b n ps) (hT : Tab w) (hs : s.size + (joinS ps).size ≤ 288230376151711744) (hn : n ≤ 1000) :
    Calls Tryd.prog 30 #[.pointer (some ⟨g, 0, none⟩), .slice (some ⟨b, 0, none⟩) n n] u fun e u' => ∃ g', e = .returned (.pointer (some ⟨g', 0, none⟩)) ∧ Hid (Wrote u' g' wide (s ++ joinS ps)) ∧ BoxAt w u' gi go :=
  (after_list wide g s ps b n u (h.below hS.2.2.1 h.lt) hp (tab_of hT hS.2.2.1) hs hn).mono fun _ _ ⟨g', h1, _, h3, h4⟩ => ⟨g', h1, h4, hS.on h3⟩
theorem hsum_held {w u : World} {gi go : Nat} (hS : BoxAt w u gi go) (wide : Bool) (g : Nat) (s : ByteArray) (h : Wrote u g wide s) (hT : Tab w) (hs : s.size ≤ 288230376151711744) :
    Calls Tryd.prog 31 #[.pointer (some ⟨g, 0, none⟩)] u fun e u' => e = .returned (.string (digS (bitsK wide) s)) ∧ BoxAt w u' gi go :=
  (hsum_any wide g s u h (tab_of hT hS.2.2.1) hs).mono fun _ _ ⟨h1, h2⟩ => ⟨h1, hS.on h2⟩
set_option maxHeartbeats 2000000 in
theorem ksum_any (wide : Bool) (gi go : Nat) (key : ByteArray) (ps : List ByteArray) (b n : Nat) (w : World) (h : Mac w wide gi go key) (hp : Strs w b n ps) (hT : Tab w) (hs : (joinS ps).size ≤ 144115188075855872) (hn : n ≤ 1000) :
    Calls Tryd.prog 19 #[.agg #[.pointer (some ⟨gi, 0, none⟩), .pointer (some ⟨go, 0, none⟩)], .slice (some ⟨b, 0, none⟩) n n] w fun e w' => e = .returned (.string (macS (bitsK wide) key (joinS ps))) ∧ Below w.heap.size w w' := by
  rw [macS_eq]
  have z1 := xorS_size (keyS (bitsK wide) key) 54 (sizeK wide)
  have z2 := xorS_size (keyS (bitsK wide) key) 92 (sizeK wide)
  have z3 := sizeK_le wide
  unfold Mac at h
  generalize xorS (keyS (bitsK wide) key) 54 (sizeK wide) = i at h z1 ⊢
  generalize xorS (keyS (bitsK wide) key) 92 (sizeK wide) = o at h z2 ⊢
  have HZi : Hid (i.size ≤ 128) := by show i.size ≤ 128; omega
  have HZo : Hid (o.size ≤ 128) := by show o.size ≤ 128; omega
  have HI := Lib.hid h.1
  have HO := Lib.hid h.2
  have HP := Lib.hid hp
  have HT := Lib.hid hT
  have HS := Lib.hid hs
  have HN := Lib.hid hn
  clear h hp hT hs hn z1 z2 z3
  go_enter Tryd.func19, Tryd.ntmps19
  go_wp2_with (fail)
  have hS0 : BoxAt w (w.alloc (.cells #[.pointer (some ⟨gi, 0, none⟩), .pointer (some ⟨go, 0, none⟩)] 43)) gi go :=
    ⟨by rw [World.cell?_alloc_at _ _ _ _ rfl]; rfl, by rw [World.cell?_alloc_at _ _ _ _ rfl]; rfl, (Below.refl _ _).alloc (Nat.le_refl _) _, by simp⟩
  generalize w.alloc (.cells #[.pointer (some ⟨gi, 0, none⟩), .pointer (some ⟨go, 0, none⟩)] 43) = w1 at hS0 ⊢
  have hSd : BoxAt w w1.drew gi go := ⟨by rw [World.cell?_drew]; exact hS0.1, by rw [World.cell?_drew]; exact hS0.2.1, hS0.2.2.1.drew, hS0.2.2.2⟩
  have HP1 : Hid (Strs w1.drew b n ps) := HP.out.below hSd.2.2.1 HP.out.2.lt
  have HD : Hid ((digS (bitsK wide) (i ++ joinS ps)).size ≤ 48) := digS_le _ _
  generalize hd : digS (bitsK wide) (i ++ joinS ps) = d at HD ⊢
  have HE := Lib.hid hd
  clear hd
  go_region_held3 (fun w' => w'.cell? ⟨w.heap.size, 0, none⟩ = some (.pointer (some ⟨gi, 0, none⟩)) ∧ w'.cell? ⟨w.heap.size, 1, none⟩ = some (.pointer (some ⟨go, 0, none⟩)) ∧ Below w.heap.size w w' ∧ w.heap.size < w'.heap.size)
    (first | exact hS4 | exact hS3 | exact hS2.alloc _ | exact hS2 | exact hS1 | exact hSd | exact hS0)
    (first
      | (go_at_call_of 30 (Value.pointer (some (⟨gi, 0, none⟩ : Addr))); refine (after_held hSd wide gi i ps b n HI.out HP1.out HT.out (by have := HZi.out; have := HS.out; omega) HN.out).mono ?_; rintro e u1 ⟨g1, rfl, hW1, hS1⟩)
      | (go_at_call_of 30 (Value.pointer (some (⟨go, 0, none⟩ : Addr))); refine (after_held (hS2.alloc _) wide go o [d] u2.heap.size 1 HO.out (Strs.one u2 d) HT.out (by rw [joinS_one]; have := HZo.out; have := HD.out; omega) (by decide)).mono ?_; rintro e u3 ⟨g3, rfl, hW3, hS3⟩)
      | (go_at_call_of 31 (Value.pointer (some (⟨g1, 0, none⟩ : Addr))); refine (hsum_held hS1 wide g1 (i ++ joinS ps) hW1.out HT.out (by rw [ByteArray.size_append]; have := HZi.out; have := HS.out; omega)).mono ?_; rw [HE.out]; rintro e u2 ⟨rfl, hS2⟩)
      | (go_at_call_of 31 (Value.pointer (some (⟨g3, 0, none⟩ : Addr))); refine (hsum_held hS3 wide g3 (o ++ joinS [d]) hW3.out HT.out (by rw [joinS_one, ByteArray.size_append]; have := HZo.out; have := HD.out; omega)).mono ?_; rw [joinS_one]; rintro e u4 ⟨rfl, hS4⟩))
  go_wp2_with (fail)
  go_ret
  exact ⟨by rw [HE.out]; rfl, hS4.2.2.1⟩
end Go.Proofs.Kd
