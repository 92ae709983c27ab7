/-
  The document's own answer: one block of AES by a schedule.
-/
import Derived.Test.YtljhenjbjondkaaGreatJoao
import Derived.Test.YtljhenjbjondkaaGreatJoaa
namespace Go.Proofs.Aes
open Go.RowKit
open Go.Proofs.Sha (wordCells wordCells_get wordCells_size rowIs_of wpList_alloc_to)
def Z16 : Array Value := wordCells .u8 (List.replicate 16 0)
theorem alloc16 (w : World) : (Instr.alloc 111 true (.tuple #[])).run Tryz.prog w = .ok (.pointer (some ⟨w.heap.size, 0, none⟩)) (w.alloc (.cells Z16 111)) := by kernel_rfl
theorem z16_row (w : World) : (w.alloc (.cells Z16 111)).rowIs w.heap.size 111 16 (fun i => .int .u8 (((fun _ => 0 : Nat → Nat) i : Nat) : Int)) :=
  rowIs_of w Z16 111 16 _ rfl (fun i hi => by
    rw [show Z16 = wordCells .u8 (List.replicate 16 0) from rfl, wordCells_get .u8 _ i (by simpa using hi)]
    rw [show (List.replicate 16 0).getD i 0 = 0 by rw [List.getD_eq_getElem?_getD, List.getElem?_replicate]; split <;> rfl])
/-- A row of sixteen bytes. -/
def R16 (w : World) (g : Nat) (x : Nat → Nat) : Prop := w.rowIs g 111 16 (fun i => .int .u8 (x i : Nat))
theorem R16.set {w : World} {g : Nat} {x : Nat → Nat} (h : R16 w g x) (j v : Nat) : R16 (w.setCell ⟨g, j, none⟩ (.int .u8 v)) g (fun i => if i = j then v else x i) :=
  World.rowIs.congr (World.rowIs.set h j (.int .u8 v)) fun i _ => by simp only []; split <;> rfl
theorem R16.congr {w : World} {g : Nat} {x y : Nat → Nat} (h : R16 w g x) (e : ∀ i, i < 16 → x i = y i) : R16 w g y := World.rowIs.congr h fun i hi => by rw [e i hi]
theorem R16.other {w : World} {g : Nat} {x : Nat → Nat} (h : R16 w g x) {a : Addr} (ha : g ≠ a.block) (v : Value) : R16 (w.setCell a v) g x := World.rowIs.setOther h ha v
theorem R16.drew {w : World} {g : Nat} {x : Nat → Nat} (h : R16 w g x) : R16 w.drew g x := World.rowIs.drew h
def boxS : ByteArray := ⟨#[99, 124, 119, 123, 242, 107, 111, 197, 48, 1, 103, 43, 254, 215, 171, 118, 202, 130, 201, 125, 250, 89, 71, 240, 173, 212, 162, 175, 156, 164, 114, 192, 183, 253, 147, 38, 54, 63, 247, 204, 52, 165, 229, 241, 113, 216, 49, 21, 4, 199, 35, 195, 24, 150, 5, 154, 7, 18, 128, 226, 235, 39, 178, 117, 9, 131, 44, 26, 27, 110, 90, 160, 82, 59, 214, 179, 41, 227, 47, 132, 83, 209, 0, 237, 32, 252, 177, 91, 106, 203, 190, 57, 74, 76, 88, 207, 208, 239, 170, 251, 67, 77, 51, 133, 69, 249, 2, 127, 80, 60, 159, 168, 81, 163, 64, 143, 146, 157, 56, 245, 188, 182, 218, 33, 16, 255, 243, 210, 205, 12, 19, 236, 95, 151, 68, 23, 196, 167, 126, 61, 100, 93, 25, 115, 96, 129, 79, 220, 34, 42, 144, 136, 70, 238, 184, 20, 222, 94, 11, 219, 224, 50, 58, 10, 73, 6, 36, 92, 194, 211, 172, 98, 145, 149, 228, 121, 231, 200, 55, 109, 141, 213, 78, 169, 108, 86, 244, 234, 101, 122, 174, 8, 186, 120, 37, 46, 28, 166, 180, 198, 232, 221, 116, 31, 75, 189, 139, 138, 112, 62, 181, 102, 72, 3, 246, 14, 97, 53, 87, 185, 134, 193, 29, 158, 225, 248, 152, 17, 105, 217, 142, 148, 155, 30, 135, 233, 206, 85, 40, 223, 140, 161, 137, 13, 191, 230, 66, 104, 65, 153, 45, 15, 176, 84, 187, 22]⟩
theorem box_byt (k : Nat) (h : k < 256) : byt boxS k = bx k := by
  have := lt256s (P := fun i => decide (byt boxS i = bx i)) (by decide +kernel) k h
  simpa using this
/-- The schedule's cells. -/
def Keys (w : World) (b len : Nat) (wk : Nat → Nat) : Prop := ∀ i, i < 4 * len → w.cell? ⟨b, i, none⟩ = some (.int .u8 (wk i : Nat))
/-- The first c bytes are mixed. -/
def mixTo (y : Nat → Nat) (c : Nat) : Nat → Nat := fun t => if t < c then mixS y t else y t
theorem mixTo_ge (y : Nat → Nat) (c t : Nat) (h : c ≤ t) : mixTo y c t = y t := by unfold mixTo; rw [if_neg (by omega)]
theorem mixTo_zero (y : Nat → Nat) (t : Nat) : mixTo y 0 t = y t := mixTo_ge y 0 t (Nat.zero_le _)
theorem mixTo_all (y : Nat → Nat) (t : Nat) (h : t < 16) : mixTo y 16 t = mixS y t := by unfold mixTo; rw [if_pos h]
theorem mixTo_succ (y : Nat → Nat) (c t : Nat) : (if t = c then mixS y c else mixTo y c t) = mixTo y (c + 1) t := by
  unfold mixTo
  by_cases h : t = c
  · subst h; rw [if_pos rfl, if_pos (Nat.lt_succ_self _)]
  · rw [if_neg h]
    by_cases h2 : t < c
    · rw [if_pos h2, if_pos (by omega)]
    · rw [if_neg h2, if_neg (by omega)]
/-- The mixed byte at c + i, for c a column's begin. -/
theorem mixS_at (y : Nat → Nat) (c i : Nat) (hc : c % 4 = 0) (hi : i < 3) : mixS y (c + i) = y (c + i) ^^^ allC y c ^^^ dbl (y (c + i) ^^^ y (c + i + 1)) := by
  unfold mixS
  rw [show 4 * ((c + i) / 4) = c by omega, show c + ((c + i) % 4 + 1) % 4 = c + i + 1 by omega]
theorem mixS_last (y : Nat → Nat) (c : Nat) (hc : c % 4 = 0) : mixS y (c + 3) = y (c + 3) ^^^ allC y c ^^^ dbl (y (c + 3) ^^^ y c) := by
  unfold mixS
  rw [show 4 * ((c + 3) / 4) = c by omega, show c + ((c + 3) % 4 + 1) % 4 = c by omega]
theorem R16.drewN {w : World} {g : Nat} {x : Nat → Nat} (h : R16 w g x) (q : Nat) : R16 (w.drewN q) g x := h
theorem below_drewN {B : Nat} {w u : World} (h : Below B w u) (q : Nat) : Below B w (u.drewN q) := ⟨h.os, h.tape, h.output, h.size, h.block⟩
theorem R16.at_ {w : World} {g : Nat} {x : Nat → Nat} (h : R16 w g x) (i v : Nat) (hi : i < 16) (e : x i = v) : w.cell? ⟨g, i, none⟩ = some (.int .u8 (v : Nat)) := by rw [World.rowIs.cell h hi, e]
set_option maxHeartbeats 2000000 in
set_option maxRecDepth 10000 in
theorem cipher_any (wk : Nat → Nat) (b len cap n : Nat) (s : ByteArray) (w : World) (hl : len = 4 * (n + 1)) (hn : 1 ≤ n) (hn2 : n ≤ 14) (hs : s.size = 16) (hb : b < w.heap.size) (hc : Keys w b len wk) (hw : ∀ i, wk i < 256) :
    Calls Tryz.prog 62 #[.slice (some ⟨b, 0, none⟩) len cap, .string s] w fun e w' => e = .returned (.string (ciphS wk n s)) ∧ Below w.heap.size w w' := by
  have HK := Lib.hid hc
  have HW := Lib.hid hw
  have HN := Lib.hid hn2
  have HLn := Lib.hid hl
  have HN1 := Lib.hid hn
  have HBl := Lib.hid hb
  clear hc hw hn2 hb hn hl
  go_enter Tryz.func62, Tryz.ntmps62
  go_upto_region 1 with (fail)
  apply wp_region_lit
  refine wpList_alloc_to rfl 111 rfl Z16 w.heap.size rfl alloc16 ?_
  have HX : Hid (R16 (w.alloc (.cells Z16 111)) w.heap.size (fun _ => 0)) := z16_row w
  have HB : Hid (Below w.heap.size w (w.alloc (.cells Z16 111))) := (Below.refl _ _).alloc (Nat.le_refl _) _
  generalize w.alloc (.cells Z16 111) = w1 at HX HB ⊢
  go_wp2_with (fail)
  go_loopw [6] (fun i wx => ∃ (j : Nat) (x : Nat → Nat), Hid (j ≤ 16) ∧ i = .int .i64 j ∧ Hid (∀ t, t < j → x t = byt s t ^^^ wk t) ∧ Hid (R16 wx w.heap.size x) ∧ Hid (Below w.heap.size w wx)) (fun i _ => 16 - (intOf i).toNat)
  case atStart => exact ⟨0, fun _ => 0, Nat.zero_le 16, rfl, fun t ht => absurd ht (Nat.not_lt_zero t), HX, HB⟩
  case round =>
    clear HX HB
    obtain ⟨j, x, hj, rfl, hx, HX, HB⟩ := hrel
    by_cases hlt : j < 16
    · have jl : ((j : Int) < 16) = True := eq_true (by omega)
      have kc : wr.cell? ⟨b, j / 4 * 4 + j % 4, none⟩ = some (.int .u8 (wk j : Nat)) := by
        rw [HB.out.cell (p := ⟨b, j / 4 * 4 + j % 4, none⟩) HBl.out, show j / 4 * 4 + j % 4 = j by omega]
        exact HK.out j (by have := HLn.out; omega)
      have xc := World.rowIs.cell HX.out (i := j) hlt
      have xf := World.rowIs.frozen HX.out j
      have i0 : (j : Int) / 4 < (len : Int) := by have := HLn.out; have := HN1.out; omega
      have x0 : IntKind.i64.wrap ((j : Int) / 4) = (j : Int) / 4 := IntWalk.i64_in _ (by omega)
      have x1 : IntKind.i64.wrap ((j : Int) % 4) = (j : Int) % 4 := IntWalk.i64_in _ (by omega)
      have t0 : ((j : Int)).tmod 4 = (j : Int) % 4 := Int.tmod_eq_emod_of_nonneg (by omega)
      have i1 : (j : Int) % 4 < 4 := by omega
      have i2 : (0 : Int) ≤ (j : Int) / 4 := by omega
      have i3 : (0 : Int) ≤ (j : Int) % 4 := by omega
      have y0 : ((j : Int) / 4).toNat = j / 4 := by omega
      have y1 : ((j : Int) % 4).toNat = j % 4 := by omega
      have HJ := Lib.hid hlt
      go_wp2_with (fail)
      refine wp_region_still_tail 14 (by kernel_rfl) (by kernel_rfl) ?_
      simp only [List.take_succ_cons, List.take_zero, List.drop_succ_cons, List.drop_zero]
      repeat still_step
      try refine wpStill_nil ?_
      change wpList _ _ _ _ _ wr.drew
      go_wp2_with (fail)
      rw [get_byt, u8_xor _ _ (byt_lt s j) (HW.out j)]
      refine ⟨⟨j + 1, fun i => if i = j then byt s j ^^^ wk j else x i, HJ.out, by go_num, fun t ht => ?_, (HX.out.set j _).drew, (HB.out.setCell (Nat.le_refl _) _).drew⟩, by have := HJ.out; simp [intOf]; omega⟩
      show (if t = j then _ else x t) = _
      split
      · next e => rw [e]
      · exact hx.out t (by omega)
    · have jl : ((j : Int) < 16) = False := eq_false (by omega)
      have HX : Hid (R16 wr w.heap.size (rndS wk n (byt s) 0)) := HX.out.congr fun t ht => hx.out t (by have := hj.out; omega)
      have ql : ((len : Int) / 4) = (n : Int) + 1 := by have := HLn.out; omega
      have wn : wrap64 ((n : Int) + 1) = (n : Int) + 1 := IntWalk.wrap64_in _ (by have := HN.out; omega)
      have wn2 : wrap64 (n : Int) = (n : Int) := IntWalk.wrap64_in _ (by have := HN.out; omega)
      clear hlt hx
      go_wp2_with (fail)
      clear jl
      simp only [wn, wn2]
      go_loopw [8] (fun v wx => ∃ r : Nat, Hid (r ≤ n) ∧ v = .int .i64 ((r : Int) + 1) ∧ Hid (R16 wx w.heap.size (rndS wk n (byt s) r)) ∧ Hid (Below w.heap.size w wx)) (fun v _ => n + 1 - (intOf v).toNat)
      case atStart => exact ⟨0, Nat.zero_le n, rfl, HX, HB⟩
      case round =>
        clear HX HB
        obtain ⟨r, hr, rfl, HX, HB⟩ := hrel
        have HXl : Hid (∀ i, rndS wk n (byt s) r i < 256) := rndS_lt HW.out (byt_lt s) n r
        have HXd : Hid (rndS wk n (byt s) (r + 1) = addS wk (r + 1) (if r + 1 < n then mixS (subS (rndS wk n (byt s) r)) else subS (rndS wk n (byt s) r))) := rfl
        generalize hXe : rndS wk n (byt s) r = X at HX HXl HXd
        have HXe := Lib.hid hXe
        clear hXe
        by_cases hlt : r < n
        · have rl : ((r : Int) + 1 ≤ (n : Int)) = True := eq_true (by omega)
          have HR := Lib.hid hlt
          clear hlt
          go_upto_region 10 with (fail)
          apply wp_region_lit
          refine wpList_alloc_to rfl 111 rfl Z16 wr.heap.size rfl alloc16 ?_
          have HXold := HX
          have HY : Hid (R16 (wr.alloc (.cells Z16 111)) wr.heap.size (fun _ => 0)) := z16_row wr
          have HX : Hid (R16 (wr.alloc (.cells Z16 111)) w.heap.size X) := World.rowIs.alloc HX.out _
          have HB2 : Hid (Below w.heap.size w (wr.alloc (.cells Z16 111))) := HB.out.alloc HB.out.size _
          have hXY : Hid (w.heap.size < wr.heap.size) := World.rowIs.lt (show R16 wr w.heap.size X from HXold.out)
          clear HXold HB
          generalize hgy : wr.heap.size = gy at HY hXY ⊢
          generalize wr.alloc (.cells Z16 111) = w2 at HY HX HB2 ⊢
          clear hgy
          go_wp2_with (fail)
          go_loopw [10] (fun i wx => ∃ (j : Nat) (y : Nat → Nat), Hid (j ≤ 16) ∧ i = .int .i64 j ∧ Hid (∀ t, t < j → y t = subS X t) ∧ Hid (R16 wx gy y) ∧ Hid (R16 wx w.heap.size X) ∧ Hid (Below w.heap.size w wx)) (fun i _ => 16 - (intOf i).toNat)
          case atStart => exact ⟨0, fun _ => 0, Nat.zero_le 16, rfl, fun t ht => absurd ht (Nat.not_lt_zero t), HY, HX, HB2⟩
          case round =>
            clear HY HX HB2
            obtain ⟨j, y, hj, rfl, hy, HY, HX, HB2⟩ := hrel
            by_cases hlt : j < 16
            · have jl : ((j : Int) < 16) = True := eq_true (by omega)
              have hk : (j + 4 * (j % 4)) % 16 < 16 := Nat.mod_lt _ (by decide)
              have xc := World.rowIs.cell HX.out (i := (j + 4 * (j % 4)) % 16) hk
              have yf := World.rowIs.frozen HY.out j
              have yc := World.rowIs.cell HY.out (i := j) hlt
              have t0 : ((j : Int)).tmod 4 = ((j % 4 : Nat) : Int) := by rw [Int.tmod_eq_emod_of_nonneg (by omega)]; rfl
              have x1 : IntKind.i64.wrap (((j % 4 : Nat) : Int)) = ((j % 4 : Nat) : Int) := IntWalk.i64_in _ (by omega)
              have hXk := HXl.out ((j + 4 * (j % 4)) % 16)
              have HJ := Lib.hid hlt
              go_wp2_with (fail)
              generalize hV : UInt8.toNat _ = V
              obtain rfl : V = bx (X ((j + 4 * (j % 4)) % 16)) := hV.symm.trans ((get_byt _ _ _).trans (box_byt _ hXk))
              clear hV
              refine ⟨⟨j + 1, fun i => if i = j then bx (X ((j + 4 * (j % 4)) % 16)) else y i, HJ.out, by go_num, fun t ht => ?_, HY.out.set j _, HX.out.other (Nat.ne_of_lt hXY.out) _, HB2.out.setCell (Nat.le_of_lt hXY.out) _⟩, by have := HJ.out; simp [intOf]; omega⟩
              show (if t = j then _ else y t) = _
              split
              · next e => rw [e]; rfl
              · exact hy.out t (by omega)
            · have jl : ((j : Int) < 16) = False := eq_false (by omega)
              have HY : Hid (R16 wr gy (subS X)) := HY.out.congr fun t ht => hy.out t (by have := hj.out; omega)
              clear hy hlt
              by_cases hm : r + 1 < n
              · have ml : ((r : Int) + 1 < (n : Int)) = True := eq_true (by omega)
                have HXd : Hid (rndS wk n (byt s) (r + 1) = addS wk (r + 1) (mixS (subS X))) := by have h := HXd.out; rw [if_pos hm] at h; exact h
                clear hm
                have HYl : Hid (∀ i, subS X i < 256) := subS_lt HXl.out
                go_wp2_with (fail)
                clear hj jl ml
                go_loopw [11] (fun v wx => ∃ c : Nat, Hid (c % 4 = 0 ∧ c ≤ 16) ∧ v = .int .i64 c ∧ Hid (R16 wx gy (mixTo (subS X) c)) ∧ Hid (R16 wx w.heap.size X) ∧ Hid (Below w.heap.size w wx)) (fun v _ => 16 - (intOf v).toNat)
                case atStart => exact ⟨0, ⟨rfl, by decide⟩, rfl, HY.out.congr fun t _ => (mixTo_zero _ t).symm, HX, HB2⟩
                case round =>
                  clear HY HX HB2
                  obtain ⟨c, hc, rfl, HY, HX, HB2⟩ := hrel
                  by_cases hlt : c < 16
                  · have cl : ((c : Int) < 16) = True := eq_true (by omega)
                    have c12 : c ≤ 12 := by have := hc.out; omega
                    have HC4 : Hid (c % 4 = 0) := hc.out.1
                    have y0c := HY.out.at_ c (subS X c) hlt (mixTo_ge _ _ _ (by omega))
                    have y1c := HY.out.at_ (c + 1) (subS X (c + 1)) (by omega) (mixTo_ge _ _ _ (by omega))
                    have y2c := HY.out.at_ (c + 2) (subS X (c + 2)) (by omega) (mixTo_ge _ _ _ (by omega))
                    have y3c := HY.out.at_ (c + 3) (subS X (c + 3)) (by omega) (mixTo_ge _ _ _ (by omega))
                    have v1 : IntKind.i64.wrap ((c : Int) + 1) = (c : Int) + 1 := IntWalk.i64_in _ (by omega)
                    have v2 : IntKind.i64.wrap ((c : Int) + 2) = (c : Int) + 2 := IntWalk.i64_in _ (by omega)
                    have v3 : IntKind.i64.wrap ((c : Int) + 3) = (c : Int) + 3 := IntWalk.i64_in _ (by omega)
                    have p1 : (0 : Int) ≤ (c : Int) + 1 := by omega
                    have p2 : (0 : Int) ≤ (c : Int) + 2 := by omega
                    have p3 : (0 : Int) ≤ (c : Int) + 3 := by omega
                    have s1 : (c : Int) + 1 < 16 := by omega
                    have s2 : (c : Int) + 2 < 16 := by omega
                    have s3 : (c : Int) + 3 < 16 := by omega
                    have t1 : ((c : Int) + 1).toNat = c + 1 := by omega
                    have t2 : ((c : Int) + 2).toNat = c + 2 := by omega
                    have t3 : ((c : Int) + 3).toNat = c + 3 := by omega
                    clear hlt
                    go_wp2_with (fail)
                    go_quiet (fail)
                    rw [u8_xor _ _ (HYl.out c) (HYl.out (c + 1)), u8_xor _ _ (xor8_lt (HYl.out c) (HYl.out (c + 1))) (HYl.out (c + 2)), u8_xor _ _ (xor8_lt (xor8_lt (HYl.out c) (HYl.out (c + 1))) (HYl.out (c + 2))) (HYl.out (c + 3))]
                    have HAl : Hid (subS X c ^^^ subS X (c + 1) ^^^ subS X (c + 2) ^^^ subS X (c + 3) < 256) := allC_lt HYl.out c
                    generalize hal : subS X c ^^^ subS X (c + 1) ^^^ subS X (c + 2) ^^^ subS X (c + 3) = al at HAl ⊢
                    have HAe : Hid (allC (subS X) c = al) := hal
                    clear hal y0c y1c y2c y3c v1 v2 p1 p2 s1 s2 t1 t2
                    have HY3 : Hid (R16 (wr.drewN nq) gy (mixTo (subS X) c)) := HY.out.drewN nq
                    have HX3 : Hid (R16 (wr.drewN nq) w.heap.size X) := HX.out.drewN nq
                    have HB3 : Hid (Below w.heap.size w (wr.drewN nq)) := below_drewN HB2.out nq
                    clear HY HX HB2
                    generalize wr.drewN nq = w3 at HY3 HX3 HB3 ⊢
                    have y0c := HY3.out.at_ c (subS X c) (by omega) (mixTo_ge _ _ _ (by omega))
                    go_wp2_with (fail)
                    clear y0c
                    go_loopw [14] (fun v wx => ∃ i : Nat, Hid (i ≤ 3) ∧ v = .int .i64 i ∧ Hid (R16 wx gy (mixTo (subS X) (c + i))) ∧ Hid (R16 wx w.heap.size X) ∧ Hid (Below w.heap.size w wx)) (fun v _ => 3 - (intOf v).toNat)
                    case atStart => exact ⟨0, Nat.zero_le 3, rfl, HY3, HX3, HB3⟩
                    case round =>
                      clear HY3 HX3 HB3
                      obtain ⟨i, hi, rfl, HY, HX, HB2⟩ := hrel
                      by_cases hlt : i < 3
                      · have il : ((i : Int) < 3) = True := eq_true (by omega)
                        have HI := Lib.hid hlt
                        have ci : c + i < 15 := by omega
                        have y0c := HY.out.at_ (c + i) (subS X (c + i)) (by omega) (mixTo_ge _ _ _ (by omega))
                        have y1c := HY.out.at_ (c + i + 1) (subS X (c + i + 1)) (by omega) (mixTo_ge _ _ _ (by omega))
                        have yf := World.rowIs.frozen HY.out (c + i)
                        have HD : Hid (subS X (c + i) ^^^ subS X (c + i + 1) < 256) := xor8_lt (HYl.out _) (HYl.out _)
                        generalize hd : subS X (c + i) ^^^ subS X (c + i + 1) = d at HD
                        have hx1 : bits .xor .u8 (subS X (c + i) : Int) (subS X (c + i + 1) : Int) = (d : Int) := by rw [u8_xor _ _ (HYl.out _) (HYl.out _), hd]
                        have HDe : Hid (mixS (subS X) (c + i) = subS X (c + i) ^^^ al ^^^ dbl d) := by
                          show mixS (subS X) (c + i) = _
                          rw [mixS_at _ c i HC4.out hlt, HAe.out, hd]
                        have hx2 : bits .xor .u8 (bits .xor .u8 (subS X (c + i) : Int) (al : Int)) (dbl d : Int) = ((subS X (c + i) ^^^ al ^^^ dbl d : Nat) : Int) := by
                          rw [u8_xor _ _ (HYl.out _) HAl.out, u8_xor _ _ (xor8_lt (HYl.out _) HAl.out) (dbl_lt _ HD.out)]
                        have HX2 := Lib.hid hx2
                        have v1 : IntKind.i64.wrap ((c : Int) + (i : Int)) = (c : Int) + i := IntWalk.i64_in _ (by omega)
                        have v2 : IntKind.i64.wrap ((c : Int) + (i : Int) + 1) = (c : Int) + i + 1 := IntWalk.i64_in _ (by omega)
                        have p1 : (0 : Int) ≤ (c : Int) + i := by omega
                        have p2 : (0 : Int) ≤ (c : Int) + i + 1 := by omega
                        have q1 : (c : Int) + i < 16 := by omega
                        have q2 : (c : Int) + i + 1 < 16 := by omega
                        have t1 : ((c : Int) + i).toNat = c + i := by omega
                        have t2 : ((c : Int) + i + 1).toNat = c + i + 1 := by omega
                        clear hd hlt hx2
                        go_wp2_with (fail)
                        refine wp_region_still_tail 25 (by kernel_rfl) (by kernel_rfl) ?_
                        simp only [List.take_succ_cons, List.take_zero, List.drop_succ_cons, List.drop_zero]
                        repeat (first | still_step | still_call (double_any _ _ HD.out))
                        try refine wpStill_nil ?_
                        change wpList _ _ _ _ _ wr.drew
                        clear hx1 v1 v2 p1 p2 q1 q2 t1 t2
                        go_wp2_with (fail)
                        rw [HX2.out]
                        refine ⟨⟨i + 1, HI.out, by go_num, R16.congr (HY.out.set (c + i) _).drew fun t _ => ?_, (HX.out.other (Nat.ne_of_lt hXY.out) _).drew, (HB2.out.setCell (Nat.le_of_lt hXY.out) _).drew⟩, by have := HI.out; simp [intOf]; omega⟩
                        rw [← HDe.out]
                        exact mixTo_succ _ (c + i) t
                      · have il : ((i : Int) < 3) = False := eq_false (by omega)
                        obtain rfl : i = 3 := by have := hi.out; omega
                        have y3c := HY.out.at_ (c + 3) (subS X (c + 3)) (by omega) (mixTo_ge _ _ _ (by omega))
                        have yf := World.rowIs.frozen HY.out (c + 3)
                        have HD : Hid (subS X (c + 3) ^^^ subS X c < 256) := xor8_lt (HYl.out _) (HYl.out _)
                        generalize hd : subS X (c + 3) ^^^ subS X c = d at HD
                        have hx1 : bits .xor .u8 (subS X (c + 3) : Int) (subS X c : Int) = (d : Int) := by rw [u8_xor _ _ (HYl.out _) (HYl.out _), hd]
                        have HDe : Hid (mixS (subS X) (c + 3) = subS X (c + 3) ^^^ al ^^^ dbl d) := by
                          show mixS (subS X) (c + 3) = _
                          rw [mixS_last _ c HC4.out, HAe.out, hd]
                        have hx2 : bits .xor .u8 (bits .xor .u8 (subS X (c + 3) : Int) (al : Int)) (dbl d : Int) = ((subS X (c + 3) ^^^ al ^^^ dbl d : Nat) : Int) := by
                          rw [u8_xor _ _ (HYl.out _) HAl.out, u8_xor _ _ (xor8_lt (HYl.out _) HAl.out) (dbl_lt _ HD.out)]
                        have HX2 := Lib.hid hx2
                        clear hd hlt hx2 hi
                        go_wp2_with (fail)
                        refine wp_region_still_tail 17 (by kernel_rfl) (by kernel_rfl) ?_
                        simp only [List.take_succ_cons, List.take_zero, List.drop_succ_cons, List.drop_zero]
                        repeat (first | still_step | still_call (double_any _ _ HD.out))
                        try refine wpStill_nil ?_
                        change wpList _ _ _ _ _ wr.drew
                        clear hx1 v3 p3 s3 t3 il
                        go_wp2_with (fail)
                        rw [HX2.out]
                        refine ⟨⟨c + 4, ⟨by have := HC4.out; omega, by omega⟩, by go_num, R16.congr (HY.out.set (c + 3) _).drew fun t _ => ?_, (HX.out.other (Nat.ne_of_lt hXY.out) _).drew, (HB2.out.setCell (Nat.le_of_lt hXY.out) _).drew⟩, by simp [intOf]; omega⟩
                        rw [← HDe.out]
                        exact mixTo_succ _ (c + 3) t
                  · have cl : ((c : Int) < 16) = False := eq_false (by omega)
                    have HY : Hid (R16 wr gy (mixS (subS X))) := HY.out.congr fun t ht => by
                      obtain rfl : c = 16 := by have := hc.out; omega
                      exact mixTo_all _ t ht
                    clear hlt hc
                    go_wp2_with (fail)
                    have hj := HB2
                    have jl := cl
                    have ml := cl
                    clear cl
                    clear hj jl ml
                    go_loopw [15] (fun i wx => ∃ (t : Nat) (x : Nat → Nat), Hid (t ≤ 16) ∧ i = .int .i64 t ∧ Hid (∀ k, k < t → x k = addS wk (r + 1) (mixS (subS X)) k) ∧ Hid (R16 wx gy (mixS (subS X))) ∧ Hid (R16 wx w.heap.size x) ∧ Hid (Below w.heap.size w wx)) (fun i _ => 16 - (intOf i).toNat)
                    case atStart => exact ⟨0, X, Nat.zero_le 16, rfl, fun k hk => absurd hk (Nat.not_lt_zero k), HY, HX, HB2⟩
                    case round =>
                      clear HY HX HB2
                      obtain ⟨t, x, ht, rfl, hx, HY, HX, HB2⟩ := hrel
                      by_cases hlt : t < 16
                      · have jl : ((t : Int) < 16) = True := eq_true (by omega)
                        have kc : wr.cell? ⟨b, (4 * (r + 1) + t / 4) * 4 + t % 4, none⟩ = some (.int .u8 (wk (16 * (r + 1) + t) : Nat)) := by
                          rw [HB2.out.cell (p := ⟨b, (4 * (r + 1) + t / 4) * 4 + t % 4, none⟩) HBl.out, show (4 * (r + 1) + t / 4) * 4 + t % 4 = 16 * (r + 1) + t by omega]
                          exact HK.out _ (by have := HLn.out; have := HR.out; omega)
                        have yc := World.rowIs.cell HY.out (i := t) hlt
                        have xc := World.rowIs.cell HX.out (i := t) hlt
                        have xf := World.rowIs.frozen HX.out t
                        have hr14 : (r : Int) < 14 := by have := HR.out; have := HN.out; omega
                        have i0 : 4 * ((r : Int) + 1) + (t : Int) / 4 < (len : Int) := by have := HLn.out; have := HR.out; omega
                        have x0 : IntKind.i64.wrap ((t : Int) / 4) = (t : Int) / 4 := IntWalk.i64_in _ (by omega)
                        have x1 : IntKind.i64.wrap ((t : Int) % 4) = (t : Int) % 4 := IntWalk.i64_in _ (by omega)
                        have x2 : IntKind.i64.wrap (4 * ((r : Int) + 1)) = 4 * ((r : Int) + 1) := IntWalk.i64_in _ (by omega)
                        have x3 : IntKind.i64.wrap (4 * ((r : Int) + 1) + (t : Int) / 4) = 4 * ((r : Int) + 1) + (t : Int) / 4 := IntWalk.i64_in _ (by omega)
                        have t0 : ((t : Int)).tmod 4 = (t : Int) % 4 := Int.tmod_eq_emod_of_nonneg (by omega)
                        have i1 : (t : Int) % 4 < 4 := by omega
                        have i2 : (0 : Int) ≤ 4 * ((r : Int) + 1) + (t : Int) / 4 := by omega
                        have i3 : (0 : Int) ≤ (t : Int) % 4 := by omega
                        have y0 : (4 * ((r : Int) + 1) + (t : Int) / 4).toNat = 4 * (r + 1) + t / 4 := by omega
                        have y1 : ((t : Int) % 4).toNat = t % 4 := by omega
                        have HJ := Lib.hid hlt
                        go_wp2_with (fail)
                        refine wp_region_still_tail 17 (by kernel_rfl) (by kernel_rfl) ?_
                        simp only [List.take_succ_cons, List.take_zero, List.drop_succ_cons, List.drop_zero]
                        repeat still_step
                        try refine wpStill_nil ?_
                        change wpList _ _ _ _ _ wr.drew
                        clear x0 x1 x2 x3 t0 y0 y1 i0 i1 i2 i3
                        go_wp2_with (fail)
                        rw [u8_xor _ _ (mixS_lt (subS_lt HXl.out) t) (HW.out _)]
                        refine ⟨⟨t + 1, fun i => if i = t then (mixS (subS X)) t ^^^ wk (16 * (r + 1) + t) else x i, HJ.out, by go_num, fun k hk => ?_, (HY.out.other (Nat.ne_of_gt hXY.out) _).drew, (HX.out.set t _).drew, (HB2.out.setCell (Nat.le_refl _) _).drew⟩, by have := HJ.out; simp [intOf]; omega⟩
                        show (if k = t then _ else x k) = _
                        split
                        · next e => rw [e]; rfl
                        · exact hx.out k (by omega)
                      · have jl : ((t : Int) < 16) = False := eq_false (by omega)
                        have HX : Hid (R16 wr w.heap.size (rndS wk n (byt s) (r + 1))) := by rw [HXd.out]; exact HX.out.congr fun k hk => hx.out k (by have := ht.out; omega)
                        clear hlt hx
                        have hr14 : (r : Int) < 14 := by have := HR.out; have := HN.out; omega
                        go_wp2_with (fail)
                        exact ⟨⟨r + 1, HR.out, by go_num, HX, HB2⟩, by have := HR.out; simp [intOf]; omega⟩
              · have ml : ((r : Int) + 1 < (n : Int)) = False := eq_false (by omega)
                have HXd : Hid (rndS wk n (byt s) (r + 1) = addS wk (r + 1) (subS X)) := by have h := HXd.out; rw [if_neg hm] at h; exact h
                clear hm
                go_wp2_with (fail)
                clear hj jl ml
                go_loopw [15] (fun i wx => ∃ (t : Nat) (x : Nat → Nat), Hid (t ≤ 16) ∧ i = .int .i64 t ∧ Hid (∀ k, k < t → x k = addS wk (r + 1) (subS X) k) ∧ Hid (R16 wx gy (subS X)) ∧ Hid (R16 wx w.heap.size x) ∧ Hid (Below w.heap.size w wx)) (fun i _ => 16 - (intOf i).toNat)
                case atStart => exact ⟨0, X, Nat.zero_le 16, rfl, fun k hk => absurd hk (Nat.not_lt_zero k), HY, HX, HB2⟩
                case round =>
                  clear HY HX HB2
                  obtain ⟨t, x, ht, rfl, hx, HY, HX, HB2⟩ := hrel
                  by_cases hlt : t < 16
                  · have jl : ((t : Int) < 16) = True := eq_true (by omega)
                    have kc : wr.cell? ⟨b, (4 * (r + 1) + t / 4) * 4 + t % 4, none⟩ = some (.int .u8 (wk (16 * (r + 1) + t) : Nat)) := by
                      rw [HB2.out.cell (p := ⟨b, (4 * (r + 1) + t / 4) * 4 + t % 4, none⟩) HBl.out, show (4 * (r + 1) + t / 4) * 4 + t % 4 = 16 * (r + 1) + t by omega]
                      exact HK.out _ (by have := HLn.out; have := HR.out; omega)
                    have yc := World.rowIs.cell HY.out (i := t) hlt
                    have xc := World.rowIs.cell HX.out (i := t) hlt
                    have xf := World.rowIs.frozen HX.out t
                    have hr14 : (r : Int) < 14 := by have := HR.out; have := HN.out; omega
                    have i0 : 4 * ((r : Int) + 1) + (t : Int) / 4 < (len : Int) := by have := HLn.out; have := HR.out; omega
                    have x0 : IntKind.i64.wrap ((t : Int) / 4) = (t : Int) / 4 := IntWalk.i64_in _ (by omega)
                    have x1 : IntKind.i64.wrap ((t : Int) % 4) = (t : Int) % 4 := IntWalk.i64_in _ (by omega)
                    have x2 : IntKind.i64.wrap (4 * ((r : Int) + 1)) = 4 * ((r : Int) + 1) := IntWalk.i64_in _ (by omega)
                    have x3 : IntKind.i64.wrap (4 * ((r : Int) + 1) + (t : Int) / 4) = 4 * ((r : Int) + 1) + (t : Int) / 4 := IntWalk.i64_in _ (by omega)
                    have t0 : ((t : Int)).tmod 4 = (t : Int) % 4 := Int.tmod_eq_emod_of_nonneg (by omega)
                    have i1 : (t : Int) % 4 < 4 := by omega
                    have i2 : (0 : Int) ≤ 4 * ((r : Int) + 1) + (t : Int) / 4 := by omega
                    have i3 : (0 : Int) ≤ (t : Int) % 4 := by omega
                    have y0 : (4 * ((r : Int) + 1) + (t : Int) / 4).toNat = 4 * (r + 1) + t / 4 := by omega
                    have y1 : ((t : Int) % 4).toNat = t % 4 := by omega
                    have HJ := Lib.hid hlt
                    go_wp2_with (fail)
                    refine wp_region_still_tail 17 (by kernel_rfl) (by kernel_rfl) ?_
                    simp only [List.take_succ_cons, List.take_zero, List.drop_succ_cons, List.drop_zero]
                    repeat still_step
                    try refine wpStill_nil ?_
                    change wpList _ _ _ _ _ wr.drew
                    clear x0 x1 x2 x3 t0 y0 y1 i0 i1 i2 i3
                    go_wp2_with (fail)
                    rw [u8_xor _ _ (subS_lt HXl.out t) (HW.out _)]
                    refine ⟨⟨t + 1, fun i => if i = t then (subS X) t ^^^ wk (16 * (r + 1) + t) else x i, HJ.out, by go_num, fun k hk => ?_, (HY.out.other (Nat.ne_of_gt hXY.out) _).drew, (HX.out.set t _).drew, (HB2.out.setCell (Nat.le_refl _) _).drew⟩, by have := HJ.out; simp [intOf]; omega⟩
                    show (if k = t then _ else x k) = _
                    split
                    · next e => rw [e]; rfl
                    · exact hx.out k (by omega)
                  · have jl : ((t : Int) < 16) = False := eq_false (by omega)
                    have HX : Hid (R16 wr w.heap.size (rndS wk n (byt s) (r + 1))) := by rw [HXd.out]; exact HX.out.congr fun k hk => hx.out k (by have := ht.out; omega)
                    clear hlt hx
                    have hr14 : (r : Int) < 14 := by have := HR.out; have := HN.out; omega
                    go_wp2_with (fail)
                    exact ⟨⟨r + 1, HR.out, by go_num, HX, HB2⟩, by have := HR.out; simp [intOf]; omega⟩
        · have rl : ((r : Int) + 1 ≤ (n : Int)) = False := eq_false (by omega)
          have hcv : (convert 35 9 (.slice (some ⟨w.heap.size, 0, none⟩) 16 16)).run Tryz.prog wr = .ok (.string (strOfNums ((List.range 16).map fun i => (X i : Int)))) wr :=
            run_convert_bytes_arg (P := Tryz.prog) _ 35 5 Tryz.underlying35 Tryz.underlying5 w.heap.size 0 16 16 _ (by simp) (fun i hi => by
              have := World.rowIs.cell HX.out (i := i) hi
              simpa [List.getD_eq_getElem?_getD, hi] using this) 9 Tryz.underlying9
          go_wp2_with (fail)
          go_ret
          obtain rfl : r = n := by have := hr.out; omega
          refine ⟨?_, HB.out⟩
          unfold ciphS
          rw [HXe.out]
          rfl
end Go.Proofs.Aes
