/-
  The document's own answer: a block of ChaCha20, as its text makes it.
-/
import Derived.Test.YtljhenjbjondkaaGreatJoah
namespace Go.Proofs.Cha
open Go.RowKit
open Go.Proofs.Aes (byt byt_lt get_byt)
open Go.Proofs.Sha (rowIs_of wpList_alloc_to wordCells wordCells_get wordCells_size)
open Go.Proofs.Im (words_heap words_one)
/-- Two rows of words: the begin, the state. -/
def Two (w u : World) (g g' : Nat) (X Y : Nat → Nat) : Prop := RW u g X ∧ RW u g' Y ∧ Below w.heap.size w u
theorem Two.on {w u v : World} {g g' : Nat} {X Y : Nat → Nat} (h : Two w u g g' X Y) (hb : Below u.heap.size u v) : Two w v g g' X Y := ⟨h.1.on hb, h.2.1.on hb, Lw.go_on h.2.2 hb⟩
theorem Two.set {w u : World} {g g' : Nat} {X Y : Nat → Nat} (h : Two w u g g' X Y) (hg : g ≠ g') (hw : w.heap.size ≤ g') (C : Array Value) (Z : Nat → Nat) (hC : C.size = 16) (hZ : ∀ i, i < 16 → C[i]? = some (.int .u32 (Z i : Nat))) : Two w (u.setRow g' C) g g' X Z :=
  ⟨h.1.setOther C hg, h.2.1.setRow C Z hC hZ, below_setRow h.2.2 hw C⟩
/-- The bytes so far. -/
def outB (X : Nat → Nat) (n t : Nat) : Nat := if t < n then chaB X t else 0
theorem outB_succ (X : Nat → Nat) (n t : Nat) : (if t = n then chaB X n else outB X n t) = outB X (n + 1) t := by
  unfold outB
  by_cases h : t = n
  · subst h; rw [if_pos rfl, if_pos (Nat.lt_succ_self _)]
  · rw [if_neg h]
    by_cases h2 : t < n
    · rw [if_pos h2, if_pos (by omega)]
    · rw [if_neg h2, if_neg (by omega)]
set_option maxHeartbeats 4000000 in
set_option maxRecDepth 10000 in
theorem chacha_any (key : ByteArray) (cnt : Nat) (nonce : ByteArray) (w : World) (hk : key.size = 32) (hn : nonce.size = 12) (hc : cnt < 4294967296) :
    Calls Tryz.prog 57 #[.string key, .int .u32 cnt, .string nonce] w fun e w' => e = .returned (.string (chaS key cnt nonce)) ∧ Below w.heap.size w w' := by
  have HK := Lib.hid hk
  have HN := Lib.hid hn
  have HC := Lib.hid hc
  clear hk hn hc
  go_enter Tryz.func57, Tryz.ntmps57
  go_upto_region 1 with (fail)
  apply wp_region_lit
  refine Lw.wpList_val rfl (.agg con0) w (by kernel_rfl) ?_
  refine wpList_alloc_to rfl 98 rfl Z16 w.heap.size rfl alloc16 ?_
  refine wpList_store_row rfl 98 _ _ rfl w.heap.size con0 (by kernel_rfl) (by kernel_rfl) 98 Z16 (heap_alloc_last w _) (by kernel_rfl) (by kernel_rfl) (by decide +kernel) ?_
  rw [World.setRow_alloc_new]
  simp only [Act.put, List.setIfInBounds_toArray, List.set_cons_zero, List.set_cons_succ]
  have HX : Hid (RW (w.alloc (.cells con0 98)) w.heap.size (ini1 key 0)) := (show RW _ _ _ from rowIs_of w con0 98 16 _ rfl con0_get).congr fun t _ => by unfold ini1; rw [if_neg (by omega)]
  have HB : Hid (Below w.heap.size w (w.alloc (.cells con0 98))) := (Below.refl _ _).alloc (Nat.le_refl _) _
  generalize con0 = c0 at HX HB ⊢
  generalize w.alloc (.cells c0 98) = w1 at HX HB ⊢
  go_wp2_with (fail)
  go_loopw [8] (fun v wx => ∃ j : Nat, Hid (j ≤ 8) ∧ v = .int .i64 j ∧ Hid (RW wx w.heap.size (ini1 key j)) ∧ Hid (Below w.heap.size w wx)) (fun v _ => 8 - (intOf v).toNat)
  case atStart => exact ⟨0, Nat.zero_le _, rfl, HX, HB⟩
  case round =>
    clear HX HB
    obtain ⟨j, hj, rfl, HX, HB⟩ := hrel
    by_cases hlt : j < 8
    · have jl : ((j : Int) < 8) = True := eq_true (by omega)
      have jl' : (4 : Int) + (j : Int) < 16 := by omega
      have HJ := Lib.hid hlt
      have xc := World.rowIs.cell HX.out (i := 4 + j) (by omega)
      have xf := World.rowIs.frozen HX.out (4 + j)
      generalize ini1 key j (4 + j) = old at xc
      clear hlt
      go_wp2_with (go_at_call 83; refine (le_any key (4 * j) _ (by have := HK.out; have := HJ.out; omega) (by have := HK.out; omega)).mono ?_; rintro e v ⟨rfl, nq, rfl⟩; have HX := Lib.hid (HX.out.drewN nq); have HB := Lib.hid (below_drewN HB.out nq); have xc : (wr.drewN nq).cell? ⟨w.heap.size, 4 + j, none⟩ = some (.int .u32 (old : Nat)) := xc; have xf : (wr.drewN nq).frozen? ⟨w.heap.size, 4 + j, none⟩ = false := xf; generalize wr.drewN nq = w2 at HX HB xc xf ⊢)
      exact ⟨⟨j + 1, HJ.out, by go_num, (HX.out.set (4 + j) (leN key (4 * j))).congr fun t _ => ini1_succ key j t, HB.out.setCell (Nat.le_refl _) _⟩, Lw.meas 8 j HJ.out⟩
    · have jl : ((j : Int) < 8) = False := eq_false (by omega)
      obtain rfl : j = 8 := by have := hj.out; omega
      rw [show ((8 : Nat) : Int) = 8 from rfl]
      clear hlt jl hj
      have xc := World.rowIs.cell HX.out (i := 12) (by decide)
      have xf := World.rowIs.frozen HX.out 12
      generalize ini1 key 8 12 = old at xc
      go_wp2_with (fail)
      have HX : Hid (RW (wr.setCell ⟨w.heap.size, 12, none⟩ (.int .u32 (cnt : Nat))) w.heap.size (ini2 key cnt nonce 0)) := (HX.out.set 12 cnt).congr fun t _ => ini2_zero key cnt nonce t
      have HB : Hid (Below w.heap.size w (wr.setCell ⟨w.heap.size, 12, none⟩ (.int .u32 (cnt : Nat)))) := HB.out.setCell (Nat.le_refl _) _
      clear xc xf
      generalize wr.setCell ⟨w.heap.size, 12, none⟩ (.int .u32 (cnt : Nat)) = w3 at HX HB ⊢
      go_loopw [9] (fun v wx => ∃ j : Nat, Hid (j ≤ 3) ∧ v = .int .i64 j ∧ Hid (RW wx w.heap.size (ini2 key cnt nonce j)) ∧ Hid (Below w.heap.size w wx)) (fun v _ => 3 - (intOf v).toNat)
      case atStart => exact ⟨0, Nat.zero_le _, rfl, HX, HB⟩
      case round =>
        clear HX HB
        obtain ⟨j, hj, rfl, HX, HB⟩ := hrel
        by_cases hlt : j < 3
        · have jl : ((j : Int) < 3) = True := eq_true (by omega)
          have jl' : (13 : Int) + (j : Int) < 16 := by omega
          have HJ := Lib.hid hlt
          have xc := World.rowIs.cell HX.out (i := 13 + j) (by omega)
          have xf := World.rowIs.frozen HX.out (13 + j)
          generalize ini2 key cnt nonce j (13 + j) = old at xc
          clear hlt
          go_wp2_with (go_at_call 83; refine (le_any nonce (4 * j) _ (by have := HN.out; have := HJ.out; omega) (by have := HN.out; omega)).mono ?_; rintro e v ⟨rfl, nq, rfl⟩; have HX := Lib.hid (HX.out.drewN nq); have HB := Lib.hid (below_drewN HB.out nq); have xc : (wr.drewN nq).cell? ⟨w.heap.size, 13 + j, none⟩ = some (.int .u32 (old : Nat)) := xc; have xf : (wr.drewN nq).frozen? ⟨w.heap.size, 13 + j, none⟩ = false := xf; generalize wr.drewN nq = w2 at HX HB xc xf ⊢)
          exact ⟨⟨j + 1, HJ.out, by go_num, (HX.out.set (13 + j) (leN nonce (4 * j))).congr fun t _ => ini2_succ key cnt nonce j t, HB.out.setCell (Nat.le_refl _) _⟩, Lw.meas 3 j HJ.out⟩
        · have jl : ((j : Int) < 3) = False := eq_false (by omega)
          obtain rfl : j = 3 := by have := hj.out; omega
          rw [show ((3 : Nat) : Int) = 3 from rfl]
          clear hlt jl hj
          have HX : Hid (RW wr w.heap.size (ini key cnt nonce)) := HX.out.congr fun t ht => ini2_all key cnt nonce t ht
          have HL : Hid (Lt (ini key cnt nonce)) := ini_lt key cnt nonce HC.out
          have HD : Hid (chaS key cnt nonce = strOfNums ((List.range 64).map fun t => (chaB (ini key cnt nonce) t : Int))) := rfl
          generalize ini key cnt nonce = X at HX HL HD
          obtain ⟨C, hC, hCs, hCc⟩ := HX.out
          have HCh := Lib.hid hC
          have HCs := Lib.hid hCs
          have HCc := Lib.hid hCc
          clear hC hCs hCc
          have HG : Hid (w.heap.size < wr.heap.size) := World.rowIs.lt HX.out
          go_upto_region 11 with (fail)
          apply wp_region_lit
          refine wpList_load_row rfl 98 _ rfl w.heap.size (by kernel_rfl) 98 C (0, 0) _ HCh.out Tryz.underlying98 rfl (by rw [HCs.out]; kernel_rfl) ?_
          refine wpList_alloc_to rfl 98 rfl Z16 wr.heap.size rfl alloc16 ?_
          refine wpList_store_row rfl 98 _ _ rfl wr.heap.size C (by kernel_rfl) (by kernel_rfl) 98 Z16 (heap_alloc_last wr _) (by rw [HCs.out]; kernel_rfl) (by rw [HCs.out]; rfl) (cells_one HCs.out HCc.out fun _ => rfl) ?_
          rw [World.setRow_alloc_new]
          simp only [Act.put, List.setIfInBounds_toArray, List.set_cons_zero, List.set_cons_succ]
          have HT : Hid (Two w (wr.alloc (.cells C 98)) w.heap.size wr.heap.size X (rndR X 0)) := ⟨World.rowIs.alloc HX.out _, rowIs_of wr C 98 16 _ HCs.out HCc.out, HB.out.alloc HB.out.size _⟩
          clear HCh HCs HCc HX HB
          generalize wr.alloc (.cells C 98) = w4 at HT ⊢
          generalize wr.heap.size = gy at HT HG ⊢
          go_wp2_with (fail)
          go_loopw [11] (fun v wx => ∃ r : Nat, Hid (r ≤ 10) ∧ v = .int .i64 r ∧ Hid (Two w wx w.heap.size gy X (rndR X r))) (fun v _ => 10 - (intOf v).toNat)
          case atStart => exact ⟨0, Nat.zero_le _, rfl, HT⟩
          case round =>
            clear HT
            obtain ⟨r, hr, rfl, HT⟩ := hrel
            by_cases hlt : r < 10
            · have rl : ((r : Int) < 10) = True := eq_true (by omega)
              have HR := Lib.hid hlt
              have HNx : Hid (diaR (colR (rndR X r) 4) 4 = rndR X (r + 1)) := rfl
              have HRl : Hid (Lt (rndR X r)) := rndR_lt HL.out r
              clear hlt
              generalize rndR X r = R at HT HNx HRl
              go_wp2_with (fail)
              go_loopw [12] (fun v wx => ∃ j : Nat, Hid (j ≤ 4) ∧ v = .int .i64 j ∧ Hid (Two w wx w.heap.size gy X (colR R j))) (fun v _ => 4 - (intOf v).toNat)
              case atStart => exact ⟨0, Nat.zero_le _, rfl, HT⟩
              case round =>
                clear HT
                obtain ⟨j, hj, rfl, HT⟩ := hrel
                by_cases hlt : j < 4
                case neg =>
                  have jl : ((j : Int) < 4) = False := eq_false (by omega)
                  obtain rfl : j = 4 := by have := hj.out; omega
                  rw [show ((4 : Nat) : Int) = 4 from rfl]
                  clear hlt jl hj
                  have HSl : Hid (Lt (colR R 4)) := colR_lt HRl.out 4
                  generalize colR R 4 = S at HT HNx HSl
                  go_wp2_with (fail)
                  go_loopw [13] (fun v wx => ∃ j : Nat, Hid (j ≤ 4) ∧ v = .int .i64 j ∧ Hid (Two w wx w.heap.size gy X (diaR S j))) (fun v _ => 4 - (intOf v).toNat)
                  case atStart => exact ⟨0, Nat.zero_le _, rfl, HT⟩
                  case round =>
                    clear HT
                    obtain ⟨j, hj, rfl, HT⟩ := hrel
                    by_cases hlt : j < 4
                    case neg =>
                      have jl : ((j : Int) < 4) = False := eq_false (by omega)
                      obtain rfl : j = 4 := by have := hj.out; omega
                      rw [show ((4 : Nat) : Int) = 4 from rfl]
                      clear hlt jl hj
                      have HT : Hid (Two w wr w.heap.size gy X (rndR X (r + 1))) := by rw [← HNx.out]; exact HT.out
                      have rb : (r : Int) < 10 := by have := HR.out; omega
                      go_wp2_with (fail)
                      exact ⟨⟨r + 1, HR.out, by go_num, HT⟩, Lw.meas 10 r HR.out⟩
                    have jl : ((j : Int) < 4) = True := eq_true (by omega)
                    have HJ := Lib.hid hlt
                    have HYl : Hid (Lt (diaR S j)) := diaR_lt HSl.out j
                    have HYs : Hid (quart (diaR S j) j (4 + (j + 1) % 4) (8 + (j + 2) % 4) (12 + (j + 3) % 4) = diaR S (j + 1)) := rfl
                    clear hlt
                    generalize diaR S j = Y at HT HYl HYs
                    obtain ⟨C, hC, hCs, hCc⟩ := HT.out.2.1
                    have HCh := Lib.hid hC
                    have HCs := Lib.hid hCs
                    have HCc := Lib.hid hCc
                    clear hC hCs hCc
                    go_upto_region 22 with (fail)
                    apply wp_region_lit
                    refine wpList_load_row rfl 98 _ rfl gy (by kernel_rfl) 98 C (0, 0) _ HCh.out Tryz.underlying98 rfl (by rw [HCs.out]; kernel_rfl) ?_
                    refine Lw.wpList_val rfl (.int .i64 (j : Int)) wr (by go_simp) ?_
                    refine Lw.wpList_val rfl (.int .i64 (j : Int)) wr (by go_simp) ?_
                    refine Lw.wpList_val rfl (.int .i64 ((j + 1 : Nat) : Int)) wr (by have e : IntKind.i64.wrap ((j : Int) + 1) = ((j + 1 : Nat) : Int) := (by rw [IntWalk.i64_in _ (by have := HJ.out; omega)]; omega); generalize j + 1 = z at e; go_simp) ?_
                    refine Lw.wpList_val rfl (.int .i64 (((j + 1) % 4 : Nat) : Int)) wr (by have e : IntKind.i64.wrap (((j + 1 : Nat) : Int).tmod 4) = (((j + 1) % 4 : Nat) : Int) := (by rw [Int.tmod_eq_emod_of_nonneg (by omega), IntWalk.i64_in _ (by omega)]; omega); have e2 : ((j + 1 : Nat) : Int).tmod 4 = (((j + 1) % 4 : Nat) : Int) := (by rw [Int.tmod_eq_emod_of_nonneg (by omega)]; omega); generalize (j + 1) % 4 = z2 at e e2; generalize j + 1 = z at e e2; go_simp) ?_
                    refine Lw.wpList_val rfl (.int .i64 ((4 + (j + 1) % 4 : Nat) : Int)) wr (by have e : IntKind.i64.wrap (4 + (((j + 1) % 4 : Nat) : Int)) = ((4 + (j + 1) % 4 : Nat) : Int) := (by rw [IntWalk.i64_in _ (by omega)]; omega); generalize ((4 + (j + 1) % 4 : Nat) : Int) = z3 at e; generalize (j + 1) % 4 = z2 at e; go_simp) ?_
                    refine Lw.wpList_val rfl (.int .i64 (j : Int)) wr (by go_simp) ?_
                    refine Lw.wpList_val rfl (.int .i64 ((j + 2 : Nat) : Int)) wr (by have e : IntKind.i64.wrap ((j : Int) + 2) = ((j + 2 : Nat) : Int) := (by rw [IntWalk.i64_in _ (by have := HJ.out; omega)]; omega); generalize j + 2 = z at e; go_simp) ?_
                    refine Lw.wpList_val rfl (.int .i64 (((j + 2) % 4 : Nat) : Int)) wr (by have e : IntKind.i64.wrap (((j + 2 : Nat) : Int).tmod 4) = (((j + 2) % 4 : Nat) : Int) := (by rw [Int.tmod_eq_emod_of_nonneg (by omega), IntWalk.i64_in _ (by omega)]; omega); have e2 : ((j + 2 : Nat) : Int).tmod 4 = (((j + 2) % 4 : Nat) : Int) := (by rw [Int.tmod_eq_emod_of_nonneg (by omega)]; omega); generalize (j + 2) % 4 = z2 at e e2; generalize j + 2 = z at e e2; go_simp) ?_
                    refine Lw.wpList_val rfl (.int .i64 ((8 + (j + 2) % 4 : Nat) : Int)) wr (by have e : IntKind.i64.wrap (8 + (((j + 2) % 4 : Nat) : Int)) = ((8 + (j + 2) % 4 : Nat) : Int) := (by rw [IntWalk.i64_in _ (by omega)]; omega); generalize ((8 + (j + 2) % 4 : Nat) : Int) = z3 at e; generalize (j + 2) % 4 = z2 at e; go_simp) ?_
                    refine Lw.wpList_val rfl (.int .i64 (j : Int)) wr (by go_simp) ?_
                    refine Lw.wpList_val rfl (.int .i64 ((j + 3 : Nat) : Int)) wr (by have e : IntKind.i64.wrap ((j : Int) + 3) = ((j + 3 : Nat) : Int) := (by rw [IntWalk.i64_in _ (by have := HJ.out; omega)]; omega); generalize j + 3 = z at e; go_simp) ?_
                    refine Lw.wpList_val rfl (.int .i64 (((j + 3) % 4 : Nat) : Int)) wr (by have e : IntKind.i64.wrap (((j + 3 : Nat) : Int).tmod 4) = (((j + 3) % 4 : Nat) : Int) := (by rw [Int.tmod_eq_emod_of_nonneg (by omega), IntWalk.i64_in _ (by omega)]; omega); have e2 : ((j + 3 : Nat) : Int).tmod 4 = (((j + 3) % 4 : Nat) : Int) := (by rw [Int.tmod_eq_emod_of_nonneg (by omega)]; omega); generalize (j + 3) % 4 = z2 at e e2; generalize j + 3 = z at e e2; go_simp) ?_
                    refine Lw.wpList_val rfl (.int .i64 ((12 + (j + 3) % 4 : Nat) : Int)) wr (by have e : IntKind.i64.wrap (12 + (((j + 3) % 4 : Nat) : Int)) = ((12 + (j + 3) % 4 : Nat) : Int) := (by rw [IntWalk.i64_in _ (by omega)]; omega); generalize ((12 + (j + 3) % 4 : Nat) : Int) = z3 at e; generalize (j + 3) % 4 = z2 at e; go_simp) ?_
                    refine Lw.wpList_callTo (some 79) rfl rfl 84 _ _ rfl (fun _ _ => by go_simp) #[.agg C, .int .i64 (j : Int), .int .i64 ((4 + (j + 1) % 4 : Nat) : Int), .int .i64 ((8 + (j + 2) % 4 : Nat) : Int), .int .i64 ((12 + (j + 3) % 4 : Nat) : Int)] (by kernel_rfl) ?_
                    refine (quarter_any C Y j (4 + (j + 1) % 4) (8 + (j + 2) % 4) (12 + (j + 3) % 4) wr HCs.out HCc.out HYl.out HJ.out (by omega) (by omega) (by omega) (by omega) (by omega) (by omega)).mono ?_
                    rintro e v ⟨C', rfl, hs', hc', hb⟩
                    refine ⟨_, rfl, ?_⟩
                    have HT := Lib.hid (HT.out.on hb)
                    obtain ⟨cy, hy, hys, _⟩ := HT.out.2.1
                    refine wpList_store_row rfl 98 _ _ rfl gy C' (by kernel_rfl) (by kernel_rfl) 98 cy hy (by rw [hs']; kernel_rfl) (by rw [hs', hys]) (cells_one hs' hc' fun _ => rfl) ?_
                    have HT : Hid (Two w (v.setRow gy C') w.heap.size gy X (quart Y j (4 + (j + 1) % 4) (8 + (j + 2) % 4) (12 + (j + 3) % 4))) := HT.out.set (Nat.ne_of_lt HG.out) (Nat.le_of_lt HG.out) C' _ hs' hc'
                    simp only [Act.put, List.setIfInBounds_toArray, List.set_cons_zero, List.set_cons_succ]
                    clear hy hys hs' hc' hb HCh HCs HCc
                    generalize v.setRow gy C' = w6 at HT ⊢
                    have jb : (j : Int) < 4 := by have := HJ.out; omega
                    go_wp2_with (fail)
                    rw [HYs.out] at HT
                    exact ⟨⟨j + 1, HJ.out, by go_num, HT⟩, Lw.meas 4 j HJ.out⟩
                have jl : ((j : Int) < 4) = True := eq_true (by omega)
                have HJ := Lib.hid hlt
                have HYl : Hid (Lt (colR R j)) := colR_lt HRl.out j
                have HYs : Hid (quart (colR R j) j (4 + j) (8 + j) (12 + j) = colR R (j + 1)) := rfl
                clear hlt
                generalize colR R j = Y at HT HYl HYs
                obtain ⟨C, hC, hCs, hCc⟩ := HT.out.2.1
                have HCh := Lib.hid hC
                have HCs := Lib.hid hCs
                have HCc := Lib.hid hCc
                clear hC hCs hCc
                go_upto_region 18 with (fail)
                apply wp_region_lit
                refine wpList_load_row rfl 98 _ rfl gy (by kernel_rfl) 98 C (0, 0) _ HCh.out Tryz.underlying98 rfl (by rw [HCs.out]; kernel_rfl) ?_
                refine Lw.wpList_val rfl (.int .i64 (j : Int)) wr (by go_simp) ?_
                refine Lw.wpList_val rfl (.int .i64 (j : Int)) wr (by go_simp) ?_
                refine Lw.wpList_val rfl (.int .i64 ((4 + j : Nat) : Int)) wr (by have e : IntKind.i64.wrap (4 + (j : Int)) = ((4 + j : Nat) : Int) := (by rw [IntWalk.i64_in _ (by have := HJ.out; omega)]; omega); generalize 4 + j = z at e; go_simp) ?_
                refine Lw.wpList_val rfl (.int .i64 (j : Int)) wr (by go_simp) ?_
                refine Lw.wpList_val rfl (.int .i64 ((8 + j : Nat) : Int)) wr (by have e : IntKind.i64.wrap (8 + (j : Int)) = ((8 + j : Nat) : Int) := (by rw [IntWalk.i64_in _ (by have := HJ.out; omega)]; omega); generalize 8 + j = z at e; go_simp) ?_
                refine Lw.wpList_val rfl (.int .i64 (j : Int)) wr (by go_simp) ?_
                refine Lw.wpList_val rfl (.int .i64 ((12 + j : Nat) : Int)) wr (by have e : IntKind.i64.wrap (12 + (j : Int)) = ((12 + j : Nat) : Int) := (by rw [IntWalk.i64_in _ (by have := HJ.out; omega)]; omega); generalize 12 + j = z at e; go_simp) ?_
                refine Lw.wpList_callTo (some 60) rfl rfl 84 _ _ rfl (fun _ _ => by go_simp) #[.agg C, .int .i64 (j : Int), .int .i64 ((4 + j : Nat) : Int), .int .i64 ((8 + j : Nat) : Int), .int .i64 ((12 + j : Nat) : Int)] (by kernel_rfl) ?_
                refine (quarter_any C Y j (4 + j) (8 + j) (12 + j) wr HCs.out HCc.out HYl.out HJ.out (by omega) (by have := HJ.out; omega) (by omega) (by have := HJ.out; omega) (by omega) (by have := HJ.out; omega)).mono ?_
                rintro e v ⟨C', rfl, hs', hc', hb⟩
                refine ⟨_, rfl, ?_⟩
                have HT := Lib.hid (HT.out.on hb)
                obtain ⟨cy, hy, hys, _⟩ := HT.out.2.1
                refine wpList_store_row rfl 98 _ _ rfl gy C' (by kernel_rfl) (by kernel_rfl) 98 cy hy (by rw [hs']; kernel_rfl) (by rw [hs', hys]) (cells_one hs' hc' fun _ => rfl) ?_
                have HT : Hid (Two w (v.setRow gy C') w.heap.size gy X (quart Y j (4 + j) (8 + j) (12 + j))) := HT.out.set (Nat.ne_of_lt HG.out) (Nat.le_of_lt HG.out) C' _ hs' hc'
                simp only [Act.put, List.setIfInBounds_toArray, List.set_cons_zero, List.set_cons_succ]
                clear hy hys hs' hc' hb HCh HCs HCc
                generalize v.setRow gy C' = w6 at HT ⊢
                have jb : (j : Int) < 4 := by have := HJ.out; omega
                go_wp2_with (fail)
                rw [HYs.out] at HT
                exact ⟨⟨j + 1, HJ.out, by go_num, HT⟩, Lw.meas 4 j HJ.out⟩
            · have rl : ((r : Int) < 10) = False := eq_false (by omega)
              obtain rfl : r = 10 := by have := hr.out; omega
              rw [show ((10 : Nat) : Int) = 10 from rfl]
              clear hlt rl hr
              obtain ⟨M, hM, hMc, hmk0⟩ := Lw.zeros 64 (by decide)
              have hmk : ∀ W : World, (Instr.makeSlice 35 (.int .i64 64) (.int .i64 64)).run Tryz.prog W = .ok (.slice (some ⟨W.heap.size, 0, none⟩) 64 64) (W.alloc (.cells M 5)) := hmk0
              have HO : Hid (Lw.RowB (wr.alloc (.cells M 5)) wr.heap.size 64 (outB X 0)) := (Lw.rowB_new wr M 64 hM hMc).congr fun t _ => by unfold outB; rw [if_neg (by omega)]
              have HGy : Hid (gy < wr.heap.size) := World.rowIs.lt HT.out.2.1
              have HT2 : Hid (Two w (wr.alloc (.cells M 5)) w.heap.size gy X (rndR X 10)) := ⟨World.rowIs.alloc HT.out.1 _, World.rowIs.alloc HT.out.2.1 _, HT.out.2.2.alloc HT.out.2.2.size _⟩
              have HYl : Hid (Lt (rndR X 10)) := rndR_lt HL.out 10
              have HBd : Hid (∀ t, chaB X t = add32 (X (t / 4)) (rndR X 10 (t / 4)) / 256 ^ (t % 4) % 256) := fun _ => rfl
              generalize rndR X 10 = Y at HT2 HYl HBd
              clear hmk0 hM hMc HT
              go_wp2_with (fail)
              clear hmk
              generalize wr.heap.size = go at HO HGy ⊢
              generalize wr.alloc (.cells M 5) = w7 at HO HT2 ⊢
              go_loopw [15] (fun v wx => ∃ i : Nat, Hid (i ≤ 16) ∧ v = .int .i64 i ∧ Hid (Two w wx w.heap.size gy X Y) ∧ Hid (Lw.RowB wx go 64 (outB X (4 * i)))) (fun v _ => 16 - (intOf v).toNat)
              case atStart => exact ⟨0, Nat.zero_le _, rfl, HT2, HO⟩
              case round =>
                clear HT2 HO
                obtain ⟨i, hi, rfl, HT, HO⟩ := hrel
                by_cases hlt : i < 16
                case neg =>
                  have il : ((i : Int) < 16) = False := eq_false (by omega)
                  obtain rfl : i = 16 := by have := hi.out; omega
                  rw [show ((16 : Nat) : Int) = 16 from rfl]
                  clear hlt il hi
                  have hcv := (HO.out.congr (Y := chaB X) fun t ht => by unfold outB; rw [if_pos (by omega)]).text 0 64 64 (by decide)
                  go_wp2_with (fail)
                  go_ret
                  refine ⟨?_, HT.out.2.2⟩
                  rw [HD.out]
                  unfold Lw.pieceS
                  simp only [Nat.zero_add]
                  rfl
                have il : ((i : Int) < 16) = True := eq_true (by omega)
                have il' : (i : Int) < 16 := by omega
                have HI := Lib.hid hlt
                have c1 := World.rowIs.cell HT.out.1 (i := i) hlt
                have c2 := World.rowIs.cell HT.out.2.1 (i := i) hlt
                have o1 : IntKind.u32.wrap (((X i : Nat) : Int) + ((Y i : Nat) : Int)) = ((add32 (X i) (Y i) : Nat) : Int) := by show _ % 4294967296 = _; unfold add32; omega
                have HZl : Hid (add32 (X i) (Y i) < 4294967296) := Nat.mod_lt _ (by decide)
                have HZb : Hid (∀ j, j < 4 → chaB X (4 * i + j) = add32 (X i) (Y i) / 256 ^ j % 256) := fun j hj => by rw [HBd.out, show (4 * i + j) / 4 = i by omega, show (4 * i + j) % 4 = j by omega]
                clear hlt
                generalize add32 (X i) (Y i) = z at o1 HZl HZb
                go_wp2_with (fail)
                go_quiet (fail)
                clear c1 c2 o1
                have HT : Hid (Two w (wr.drewN nq) w.heap.size gy X Y) := ⟨HT.out.1.drewN nq, HT.out.2.1.drewN nq, below_drewN HT.out.2.2 nq⟩
                have HO := Lib.hid (HO.out.drewN nq)
                generalize wr.drewN nq = w8 at HT HO ⊢
                go_wp2_with (fail)
                go_loopw [17] (fun v wx => ∃ j : Nat, Hid (j ≤ 4) ∧ v = .int .i64 j ∧ Hid (Two w wx w.heap.size gy X Y) ∧ Hid (Lw.RowB wx go 64 (outB X (4 * i + j)))) (fun v _ => 4 - (intOf v).toNat)
                case atStart => exact ⟨0, Nat.zero_le _, rfl, HT, HO⟩
                case round =>
                  clear HT HO
                  obtain ⟨j, hj, rfl, HT, HO⟩ := hrel
                  have ib : (i : Int) < 16 := by have := HI.out; omega
                  by_cases hlt : j < 4
                  case neg =>
                    have jl : ((j : Int) < 4) = False := eq_false (by omega)
                    obtain rfl : j = 4 := by have := hj.out; omega
                    rw [show ((4 : Nat) : Int) = 4 from rfl]
                    clear hlt jl hj
                    go_wp2_with (fail)
                    exact ⟨⟨i + 1, HI.out, by go_num, HT, HO⟩, Lw.meas 16 i HI.out⟩
                  have jl' : 4 * (i : Int) + (j : Int) < 64 := by omega
                  have xc := World.rowIs.cell HO.out (i := 4 * i + j) (by have := HI.out; omega)
                  have xf := World.rowIs.frozen HO.out (4 * i + j)
                  generalize outB X (4 * i + j) (4 * i + j) = old at xc
                  have zl := HZl.out
                  have HV := Lib.hid (HZb.out j hlt)
                  have HJ := Lib.hid hlt
                  have m0 : bits .and .u32 (z : Int) 255 = ((z % 256 : Nat) : Int) := by have h := u32_and_nat z 255 zl (by decide); rw [nat_mask8] at h; exact h
                  have m1 : bits .and .u32 ((z : Int) / 256) 255 = ((z / 256 % 256 : Nat) : Int) := by have h := u32_and_nat (z / 256) 255 (by omega) (by decide); rw [nat_mask8] at h; exact h
                  have m2 : bits .and .u32 ((z : Int) / 65536) 255 = ((z / 65536 % 256 : Nat) : Int) := by have h := u32_and_nat (z / 65536) 255 (by omega) (by decide); rw [nat_mask8] at h; exact h
                  have m3 : bits .and .u32 ((z : Int) / 16777216) 255 = ((z / 16777216 % 256 : Nat) : Int) := by have h := u32_and_nat (z / 16777216) 255 (by omega) (by decide); rw [nat_mask8] at h; exact h
                  have HGo : Hid (w.heap.size < go) := Nat.lt_trans HG.out HGy.out
                  have hj4 : j = 0 ∨ j = 1 ∨ j = 2 ∨ j = 3 := by omega
                  clear hlt
                  rcases hj4 with rfl | rfl | rfl | rfl
                  · rw [show ((0 : Nat) : Int) = 0 from rfl] at *
                    have jl : ((0 : Int) < 4) = True := by decide
                    simp only [Nat.add_zero, Int.add_zero] at xc xf jl'
                    have HW : Hid (chaB X (4 * i) = z % 256) := by have h := HV.out; show chaB X (4 * i) = _; rw [Nat.pow_zero, Nat.div_one] at h; exact h
                    have HWl : Hid (z % 256 < 256) := Nat.mod_lt _ (by decide)
                    generalize z % 256 = b at m0 HW HWl
                    have bl : (b : Int) < 256 := by have := HWl.out; omega
                    clear m1 m2 m3 HV
                    go_wp2_with (fail)
                    refine ⟨⟨0 + 1, (show 0 + 1 ≤ 4 by decide), by go_num, ?_, ?_⟩, by simp [intOf]⟩
                    · exact ⟨World.rowIs.setOther HT.out.1 (Nat.ne_of_lt HGo.out) _, World.rowIs.setOther HT.out.2.1 (Nat.ne_of_lt HGy.out) _, HT.out.2.2.setCell (Nat.le_of_lt HGo.out) _⟩
                    · exact (HO.out.set (4 * i) b).congr fun t _ => by have h := outB_succ X (4 * i) t; rw [HW.out] at h; exact h
                  · rw [show ((1 : Nat) : Int) = 1 from rfl] at *
                    have jl : ((1 : Int) < 4) = True := by decide
                    have HW : Hid (chaB X (4 * i + 1) = z / 256 % 256) := by have h := HV.out; show chaB X (4 * i + 1) = _; rw [show (256 : Nat) ^ 1 = 256 from rfl] at h; exact h
                    have HWl : Hid (z / 256 % 256 < 256) := Nat.mod_lt _ (by decide)
                    generalize z / 256 % 256 = b at m1 HW HWl
                    have bl : (b : Int) < 256 := by have := HWl.out; omega
                    clear m0 m2 m3 HV
                    go_wp2_with (fail)
                    refine ⟨⟨1 + 1, (show 1 + 1 ≤ 4 by decide), by go_num, ?_, ?_⟩, by simp [intOf]⟩
                    · exact ⟨World.rowIs.setOther HT.out.1 (Nat.ne_of_lt HGo.out) _, World.rowIs.setOther HT.out.2.1 (Nat.ne_of_lt HGy.out) _, HT.out.2.2.setCell (Nat.le_of_lt HGo.out) _⟩
                    · exact (HO.out.set (4 * i + 1) b).congr fun t _ => by have h := outB_succ X (4 * i + 1) t; rw [HW.out] at h; exact h
                  · rw [show ((2 : Nat) : Int) = 2 from rfl] at *
                    have jl : ((2 : Int) < 4) = True := by decide
                    have HW : Hid (chaB X (4 * i + 2) = z / 65536 % 256) := by have h := HV.out; show chaB X (4 * i + 2) = _; rw [show (256 : Nat) ^ 2 = 65536 from rfl] at h; exact h
                    have HWl : Hid (z / 65536 % 256 < 256) := Nat.mod_lt _ (by decide)
                    generalize z / 65536 % 256 = b at m2 HW HWl
                    have bl : (b : Int) < 256 := by have := HWl.out; omega
                    clear m0 m1 m3 HV
                    go_wp2_with (fail)
                    refine ⟨⟨2 + 1, (show 2 + 1 ≤ 4 by decide), by go_num, ?_, ?_⟩, by simp [intOf]⟩
                    · exact ⟨World.rowIs.setOther HT.out.1 (Nat.ne_of_lt HGo.out) _, World.rowIs.setOther HT.out.2.1 (Nat.ne_of_lt HGy.out) _, HT.out.2.2.setCell (Nat.le_of_lt HGo.out) _⟩
                    · exact (HO.out.set (4 * i + 2) b).congr fun t _ => by have h := outB_succ X (4 * i + 2) t; rw [HW.out] at h; exact h
                  · rw [show ((3 : Nat) : Int) = 3 from rfl] at *
                    have jl : ((3 : Int) < 4) = True := by decide
                    have HW : Hid (chaB X (4 * i + 3) = z / 16777216 % 256) := by have h := HV.out; show chaB X (4 * i + 3) = _; rw [show (256 : Nat) ^ 3 = 16777216 from rfl] at h; exact h
                    have HWl : Hid (z / 16777216 % 256 < 256) := Nat.mod_lt _ (by decide)
                    generalize z / 16777216 % 256 = b at m3 HW HWl
                    have bl : (b : Int) < 256 := by have := HWl.out; omega
                    clear m0 m1 m2 HV
                    go_wp2_with (fail)
                    refine ⟨⟨3 + 1, (show 3 + 1 ≤ 4 by decide), by go_num, ?_, ?_⟩, by simp [intOf]⟩
                    · exact ⟨World.rowIs.setOther HT.out.1 (Nat.ne_of_lt HGo.out) _, World.rowIs.setOther HT.out.2.1 (Nat.ne_of_lt HGy.out) _, HT.out.2.2.setCell (Nat.le_of_lt HGo.out) _⟩
                    · exact (HO.out.set (4 * i + 3) b).congr fun t _ => by have h := outB_succ X (4 * i + 3) t; rw [HW.out] at h; exact h
end Go.Proofs.Cha
