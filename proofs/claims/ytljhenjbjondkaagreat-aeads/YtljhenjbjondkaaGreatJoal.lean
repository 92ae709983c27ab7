/-
  The document's own answer: a Poly1305 tag.
-/
import Derived.Test.YtljhenjbjondkaaGreatJoak
import Derived.Test.YtljhenjbjondkaaGreatJoaf
import Derived.BigQuiet
import Derived.Deep.QuietTactic
namespace Go.Proofs.Pol
open Go.RowKit
open Go.Proofs.Aes (byt byt_lt get_byt)
open Go.Proofs.Im (wp_region_quiet_tail words_one)
open Go.Proofs.Rt (ready_loadTo ready_callTo)
open Go.Proofs.Sha (wordCells wordCells_get wordCells_size rowIs_of wpList_alloc_to wpList_build_to)
def mkA : Array Value := wordCells .u8 maskL
theorem alloc16b (w : World) : (Instr.alloc 111 true (.tuple #[])).run Tryz.prog w = .ok (.pointer (some ⟨w.heap.size, 0, none⟩)) (w.alloc (.cells (wordCells .u8 (List.replicate 16 0)) 111)) := by kernel_rfl
/-- The factor, the sum, the block's limbs, the mask. -/
def MemP (w u : World) (r h l : Nat → Nat) : Prop := RQ u w.heap.size r ∧ RQ u (w.heap.size + 1) h ∧ RQ u (w.heap.size + 2) l ∧ u.rowIs (w.heap.size + 3) 111 16 (fun i => .int .u8 (maskB i : Nat)) ∧ Below w.heap.size w u
theorem memP_new (w : World) : MemP w ((((w.alloc (.cells (lmA fun _ => 0) 83)).alloc (.cells (lmA fun _ => 0) 83)).alloc (.cells (lmA fun _ => 0) 83)).alloc (.cells mkA 111)) (fun _ => 0) (fun _ => 0) (fun _ => 0) := by
  have a1 := RQ.new w (fun _ => 0)
  have b1 : Below w.heap.size w (w.alloc (.cells (lmA fun _ => 0) 83)) := (Below.refl _ _).alloc (Nat.le_refl _) _
  have s1 : (w.alloc (.cells (lmA fun _ => 0) 83)).heap.size = w.heap.size + 1 := by simp
  generalize w.alloc (.cells (lmA fun _ => 0) 83) = w1 at a1 b1 s1 ⊢
  have a2 := RQ.new w1 (fun _ => 0)
  have s2 : (w1.alloc (.cells (lmA fun _ => 0) 83)).heap.size = w.heap.size + 2 := by simp [s1]
  have b2 : Below w.heap.size w (w1.alloc (.cells (lmA fun _ => 0) 83)) := b1.alloc (by omega) _
  have a1 : RQ (w1.alloc (.cells (lmA fun _ => 0) 83)) w.heap.size (fun _ => 0) := World.rowIs.alloc a1 _
  rw [s1] at a2
  generalize w1.alloc (.cells (lmA fun _ => 0) 83) = w2 at a1 a2 b2 s2 ⊢
  have a3 := RQ.new w2 (fun _ => 0)
  have s3 : (w2.alloc (.cells (lmA fun _ => 0) 83)).heap.size = w.heap.size + 3 := by simp [s2]
  have b3 : Below w.heap.size w (w2.alloc (.cells (lmA fun _ => 0) 83)) := b2.alloc (by omega) _
  have a1 : RQ (w2.alloc (.cells (lmA fun _ => 0) 83)) w.heap.size (fun _ => 0) := World.rowIs.alloc a1 _
  have a2 : RQ (w2.alloc (.cells (lmA fun _ => 0) 83)) (w.heap.size + 1) (fun _ => 0) := World.rowIs.alloc a2 _
  rw [s2] at a3
  generalize w2.alloc (.cells (lmA fun _ => 0) 83) = w3 at a1 a2 a3 b3 s3 ⊢
  have a4 := rowIs_of w3 mkA 111 16 (fun i => .int .u8 (maskB i : Nat)) (by unfold mkA; rw [wordCells_size]; rfl) (fun i hi => wordCells_get .u8 maskL i hi)
  rw [s3] at a4
  exact ⟨World.rowIs.alloc a1 _, World.rowIs.alloc a2 _, World.rowIs.alloc a3 _, a4, b3.alloc (by omega) _⟩
theorem MemP.setR {w u : World} {r h l : Nat → Nat} (m : MemP w u r h l) (j v : Nat) : MemP w (u.setCell ⟨w.heap.size, j, none⟩ (.int .u64 v)) (fun i => if i = j then v else r i) h l :=
  ⟨m.1.set j v, m.2.1.other (by simp) _, m.2.2.1.other (by simp) _, World.rowIs.setOther m.2.2.2.1 (by simp) _, m.2.2.2.2.setCell (by simp) _⟩
theorem MemP.setH {w u : World} {r h l : Nat → Nat} (m : MemP w u r h l) (j v : Nat) : MemP w (u.setCell ⟨w.heap.size + 1, j, none⟩ (.int .u64 v)) r (fun i => if i = j then v else h i) l :=
  ⟨m.1.other (by simp) _, m.2.1.set j v, m.2.2.1.other (by simp) _, World.rowIs.setOther m.2.2.2.1 (by simp) _, m.2.2.2.2.setCell (by simp) _⟩
theorem MemP.setL {w u : World} {r h l : Nat → Nat} (m : MemP w u r h l) (j v : Nat) : MemP w (u.setCell ⟨w.heap.size + 2, j, none⟩ (.int .u64 v)) r h (fun i => if i = j then v else l i) :=
  ⟨m.1.other (by simp) _, m.2.1.other (by simp) _, m.2.2.1.set j v, World.rowIs.setOther m.2.2.2.1 (by simp) _, m.2.2.2.2.setCell (by simp) _⟩
theorem rowIs_setOther {w : World} {g g' : Nat} {t : TypeId} {n : Nat} {f : Nat → Value} (h : w.rowIs g t n f) (hg : g ≠ g') (C : Array Value) : (w.setRow g' C).rowIs g t n f := World.rowIs.of_block h (setRow_other w g' g C hg)
theorem MemP.rowL {w u : World} {r h l : Nat → Nat} (m : MemP w u r h l) (A : Array Value) (hN : u.heap[w.heap.size + 2]? = some (.cells A 83 (0, 0))) (x : Nat → Nat) : MemP w (u.setRow (w.heap.size + 2) (lmA x)) r h x :=
  ⟨rowIs_setOther m.1 (by simp) _, rowIs_setOther m.2.1 (by simp) _, ⟨_, setRow_heap _ _ _ _ _ _ hN, rfl, lmA_get x⟩, rowIs_setOther m.2.2.2.1 (by simp) _, below_setRow m.2.2.2.2 (by omega) _⟩
theorem MemP.rowH {w u : World} {r h l : Nat → Nat} (m : MemP w u r h l) (A : Array Value) (hN : u.heap[w.heap.size + 1]? = some (.cells A 83 (0, 0))) (x : Nat → Nat) : MemP w (u.setRow (w.heap.size + 1) (lmA x)) r x l :=
  ⟨rowIs_setOther m.1 (by simp) _, ⟨_, setRow_heap _ _ _ _ _ _ hN, rfl, lmA_get x⟩, rowIs_setOther m.2.2.1 (by simp) _, rowIs_setOther m.2.2.2.1 (by simp) _, below_setRow m.2.2.2.2 (by omega) _⟩
theorem MemP.on {w u v : World} {r h l : Nat → Nat} (m : MemP w u r h l) (hb : Below u.heap.size u v) : MemP w v r h l :=
  ⟨m.1.on hb, m.2.1.on hb, m.2.2.1.on hb, World.rowIs.of_block m.2.2.2.1 (hb.block _ (World.rowIs.lt m.2.2.2.1)), Lw.go_on m.2.2.2.2 hb⟩
theorem MemP.drewN {w u : World} {r h l : Nat → Nat} (m : MemP w u r h l) (q : Nat) : MemP w (u.drewN q) r h l := ⟨m.1, m.2.1, m.2.2.1, m.2.2.2.1, Lw.below_drewN m.2.2.2.2 q⟩
theorem MemP.congrR {w u : World} {r h l r' : Nat → Nat} (m : MemP w u r h l) (e : ∀ i, i < 5 → r i = r' i) : MemP w u r' h l := ⟨m.1.congr e, m.2⟩
theorem MemP.congrH {w u : World} {r h l h' : Nat → Nat} (m : MemP w u r h l) (e : ∀ i, i < 5 → h i = h' i) : MemP w u r h' l := ⟨m.1, m.2.1.congr e, m.2.2⟩
theorem MemP.congrL {w u : World} {r h l l' : Nat → Nat} (m : MemP w u r h l) (e : ∀ i, i < 5 → l i = l' i) : MemP w u r h l' := ⟨m.1, m.2.1, m.2.2.1.congr e, m.2.2.2⟩
theorem or64 (b x k : Nat) (hb : b < 2 ^ k) (hx : x ≤ 1) (hk : k < 26) : bits .or .u64 (b : Int) ((x * 2 ^ k : Nat) : Int) = ((b + x * 2 ^ k : Nat) : Int) := by
  have hp : 2 ^ k ≤ 2 ^ 25 := Nat.pow_le_pow_right (by decide) (by omega)
  have hx2 : x * 2 ^ k ≤ 1 * 2 ^ k := Nat.mul_le_mul_right _ hx
  rw [show (2 : Nat) ^ 25 = 33554432 from rfl] at hp
  have ho : b ||| x * 2 ^ k = b + x * 2 ^ k := by rw [Nat.or_comm, nat_join k (x * 2 ^ k) b (Nat.mul_mod_left _ _) hb, Nat.add_comm]
  show IntKind.u64.wrap ((BitVec.ofInt 64 (b : Int) ||| BitVec.ofInt 64 ((x * 2 ^ k : Nat) : Int)).toNat : Int) = _
  rw [BitVec.toNat_or, ofInt_u64 b (by omega), ofInt_u64 (x * 2 ^ k) (by omega), ho]
  show _ % 18446744073709551616 = _
  omega
theorem and8 (x y : Nat) (hx : x < 256) (hy : y < 256) : bits .and .u8 (x : Int) (y : Int) = ((x &&& y : Nat) : Int) := by
  have h : x &&& y < 2 ^ 8 := Nat.and_lt_two_pow x (by omega)
  show IntKind.u8.wrap ((BitVec.ofInt 8 (x : Int) &&& BitVec.ofInt 8 (y : Int)).toNat : Int) = _
  rw [BitVec.toNat_and, BitVec.toNat_ofInt, BitVec.toNat_ofInt, show ((x : Int) % ((2 ^ 8 : Nat) : Int)).toNat = x by omega, show ((y : Int) % ((2 ^ 8 : Nat) : Int)).toNat = y by omega]
  show ((x &&& y : Nat) : Int) % 256 = _
  omega
theorem bit8 (x r : Nat) (hx : x < 256) : bits .and .u8 ((x : Int) / 2 ^ r) 1 = ((x / 2 ^ r % 2 : Nat) : Int) := by
  have h := and8 (x / 2 ^ r) 1 (Nat.lt_of_le_of_lt (Nat.div_le_self _ _) hx) (by decide)
  rw [show (1 : Nat) = 2 ^ 1 - 1 from rfl, Nat.and_two_pow_sub_one_eq_mod] at h
  rw [Int.natCast_ediv, Int.natCast_pow] at h
  exact h
theorem maskB_lt (i : Nat) : maskB i < 256 := by
  by_cases h : i < 16
  · have := Aes.lt256s (P := fun i => decide (maskB i < 256)) (by decide +kernel) i (by omega)
    simpa using this
  · show maskL.getD i 0 < 256
    rw [List.getD_eq_getElem?_getD, List.getElem?_eq_none (by simp only [maskL, List.length_cons, List.length_nil]; omega)]
    decide
theorem or_at (b R : Nat) (hb : b < 2 ^ R) (hR : R < 26) : ∃ T : Nat, IntKind.u64.wrap (2 ^ R) = (T : Int) ∧ bits .or .u64 (b : Int) (T : Int) = ((b + 1 * 2 ^ R : Nat) : Int) := by
  refine ⟨1 * 2 ^ R, ?_, or64 b 1 R hb (by decide) hR⟩
  have hp : 2 ^ R ≤ 2 ^ 25 := Nat.pow_le_pow_right (by decide) (by omega)
  rw [show (2 : Nat) ^ 25 = 33554432 from rfl] at hp
  show (2 ^ R : Int) % 18446744073709551616 = _
  rw [show (2 ^ R : Int) = ((2 ^ R : Nat) : Int) by rw [Int.natCast_pow]; rfl]
  omega
theorem min2 {P : Program} (W : World) (ts : Array TypeId) (t : TypeId) (a b : Nat) : (Builtin.min_ ts t #[.int .i64 (a : Int), .int .i64 (b : Int)]).run P W = .ok (.int .i64 ((min a b : Nat) : Int)) W := by
  have h2 : ∀ x y : Nat, (Builtin.min2 (.int .i64 (x : Int)) (.int .i64 (y : Int))).run P W = .ok (.int .i64 ((min x y : Nat) : Int)) W := fun x y => by
    have e : (if (y : Int) < (x : Int) then (y : Int) else (x : Int)) = ((min x y : Nat) : Int) := by split <;> omega
    show (pure (Value.int .i64 (if (y : Int) < (x : Int) then (y : Int) else (x : Int))) : Sem Value).run P W = _
    rw [e]; rfl
  simp only [Builtin.min_, List.foldlM, Sem.run_bind, h2, Result.andThen_ok]
  rfl
theorem meas16 (n a : Nat) (h : a < n) : n + 16 - (intOf (.int .i64 ((a : Int) + 16))).toNat < n + 16 - (intOf (.int .i64 (a : Int))).toNat := by
  show n + 16 - ((a : Int) + 16).toNat < n + 16 - ((a : Int)).toNat
  omega
/-- A block's bits, the one behind its last byte among them. -/
def bitF (s : ByteArray) (k j : Nat) : Nat := if j < 8 * blkL s k then bitB (blkB s k) j else 1
theorem bitF_le (s : ByteArray) (k j : Nat) : bitF s k j ≤ 1 := by unfold bitF; split; exact bitB_le _ _; exact Nat.le_refl _
theorem bN_congr {f g : Nat → Nat} (n : Nat) (h : ∀ i, i < n → f i = g i) : bN f n = bN g n := by
  induction n with
  | zero => rfl
  | succ n ih => show bN f n + f n * 2 ^ n = bN g n + g n * 2 ^ n; rw [ih fun i hi => h i (by omega), h n (by omega)]
theorem bitF_all (s : ByteArray) (k : Nat) : bN (bitF s k) (8 * blkL s k + 1) = blkN s k := by
  show bN (bitF s k) (8 * blkL s k) + bitF s k (8 * blkL s k) * 2 ^ (8 * blkL s k) = _
  rw [bN_congr (f := bitF s k) (g := bitB (blkB s k)) _ fun i hi => if_pos hi, bits_bytes (blkB_lt s k), show bitF s k (8 * blkL s k) = 1 from if_neg (by omega), Nat.one_mul, Nat.pow_mul]
  rfl
/-- Limbs and a block's limbs, the first n of them added. -/
def plusL (h l : Nat → Nat) (n i : Nat) : Nat := if i < n then h i + l i else h i
theorem plusL_succ (h l : Nat → Nat) (n i : Nat) : (if i = n then h n + l n else plusL h l n i) = plusL h l (n + 1) i := by
  unfold plusL
  by_cases e : i = n
  · subst e; rw [if_pos rfl, if_pos (Nat.lt_succ_self _)]
  · rw [if_neg e]
    by_cases h2 : i < n
    · rw [if_pos h2, if_pos (by omega)]
    · rw [if_neg h2, if_neg (by omega)]
theorem plusL_at (h l : Nat → Nat) (n : Nat) : plusL h l n n = h n := if_neg (by omega)
def lmV (d : Nat → Nat) : List Value := (lmL d).map fun x => .int .u64 (x : Nat)
theorem lmV_arr (d : Nat → Nat) : (lmV d).toArray = lmA d := rfl
theorem RQ.range {w : World} {g : Nat} {d : Nat → Nat} (h : RQ w g d) : w.rangeAt g 0 (lmV d) := fun j v hv => by
  have hj : j < 5 := (List.getElem?_eq_some_iff.1 hv).1
  rw [Nat.zero_add, World.rowIs.cell h hj, ← lmA_get d j hj, ← lmV_arr, List.getElem?_toArray]
  exact hv
theorem bits0 (f : Nat → Nat) (i : Nat) : (0 : Nat) = lmb (bN f 0) i := by
  show 0 = 0 / 2 ^ (26 * i) % 67108864
  rw [Nat.zero_div]
set_option maxHeartbeats 4000000 in
set_option maxRecDepth 10000 in
theorem poly_any (key s : ByteArray) (w : World) (hk : key.size = 32) (hs : s.size ≤ 140737488355328) :
    Calls Tryz.prog 58 #[.string key, .string s] w fun e w' => e = .returned (.string (macS key s)) ∧ Below w.heap.size w w' := by
  have HK := Lib.hid hk
  have HS := Lib.hid hs
  clear hk hs
  go_enter Tryz.func58, Tryz.ntmps58
  go_upto_region 1 with (fail)
  apply wp_region_lit
  refine wpList_alloc_to rfl 83 rfl (lmA fun _ => 0) w.heap.size rfl alloc5 ?_
  refine wpList_alloc_to rfl 83 rfl (lmA fun _ => 0) (w.heap.size + 1) (by simp) alloc5 ?_
  simp only [Act.put, List.setIfInBounds_toArray, List.set_cons_zero, List.set_cons_succ]
  go_upto_region 2 with (fail)
  apply wp_region_lit
  refine wpList_build_to rfl 83 _ rfl (lmA fun _ => 0) (by kernel_rfl) ?_
  refine wpList_alloc_to rfl 83 rfl (lmA fun _ => 0) (w.heap.size + 2) (by simp) alloc5 ?_
  have s2 : ((w.alloc (.cells (lmA fun _ => 0) 83)).alloc (.cells (lmA fun _ => 0) 83)).heap.size = w.heap.size + 2 := by simp
  rw [← s2]
  refine wpList_store_row rfl 83 _ _ rfl _ (lmA fun _ => 0) (by kernel_rfl) (by kernel_rfl) 83 _ (heap_alloc_last _ _) (by kernel_rfl) rfl (lmA_one _) ?_
  rw [World.setRow_alloc_new]
  simp only [Act.put, List.setIfInBounds_toArray, List.set_cons_zero, List.set_cons_succ]
  rw [s2]
  clear s2
  go_upto_region 3 with (fail)
  apply wp_region_lit
  refine wpList_build_to rfl 111 _ rfl mkA (by kernel_rfl) ?_
  have s3 : (((w.alloc (.cells (lmA fun _ => 0) 83)).alloc (.cells (lmA fun _ => 0) 83)).alloc (.cells (lmA fun _ => 0) 83)).heap.size = w.heap.size + 3 := by simp
  refine wpList_alloc_to rfl 111 rfl _ _ rfl alloc16b ?_
  refine wpList_store_row rfl 111 _ _ rfl _ mkA (by kernel_rfl) (by kernel_rfl) 111 _ (heap_alloc_last _ _) (by kernel_rfl) (by unfold mkA; rw [wordCells_size, wordCells_size]; rfl) (words_one _ _) ?_
  rw [World.setRow_alloc_new]
  simp only [Act.put, List.setIfInBounds_toArray, List.set_cons_zero, List.set_cons_succ]
  rw [s3]
  clear s3
  have HM := Lib.hid (memP_new w)
  generalize hw1 : (((w.alloc (.cells (lmA fun _ => 0) 83)).alloc (.cells (lmA fun _ => 0) 83)).alloc (.cells (lmA fun _ => 0) 83)).alloc (.cells mkA 111) = w1 at HM ⊢
  clear hw1
  generalize mkA = mk
  generalize (lmA fun _ => 0) = lz
  go_wp2_with (fail)
  have hr1 : ∀ i, bitB (rB key) i ≤ 1 := bitB_le _
  have HBt := Lib.hid hr1
  clear hr1
  go_loopw [9] (fun v wx => ∃ i : Nat, Hid (i ≤ 128) ∧ v = .int .i64 i ∧ Hid (MemP w wx (lmb (bN (bitB (rB key)) i)) (fun _ => 0) (fun _ => 0))) (fun v _ => 128 - (intOf v).toNat)
  case atStart => exact ⟨0, Nat.zero_le _, rfl, HM.out.congrR fun i _ => bits0 _ i⟩
  case round =>
    clear HM
    obtain ⟨i, hi, rfl, HM⟩ := hrel
    by_cases hlt : i < 128
    · have il : ((i : Int) < 128) = True := eq_true (by omega)
      have il' : (i : Int) < 128 := by omega
      have HI := Lib.hid hlt
      have q1 : (i : Int) / 8 = ((i / 8 : Nat) : Int) := by omega
      have q2 : (i : Int).tdiv 8 = ((i / 8 : Nat) : Int) := by rw [Int.tdiv_eq_ediv_of_nonneg (by omega)]; omega
      have q3 : (i : Int) % 8 = ((i % 8 : Nat) : Int) := by omega
      have q4 : (i : Int).tmod 8 = ((i % 8 : Nat) : Int) := by rw [Int.tmod_eq_emod_of_nonneg (by omega)]; omega
      have i1 : ((i / 8 : Nat) : Int) < (key.size : Int) := by have := HK.out; omega
      have v1 : ∀ h : i / 8 < key.size, (key[i / 8]'h).toNat = byt key (i / 8) := fun h => get_byt key _ h
      have c1 := World.rowIs.cell HM.out.2.2.2.1 (i := i / 8) (by omega)
      have b1 : bits .and .u8 ((byt key (i / 8) : Nat) : Int) ((maskB (i / 8) : Nat) : Int) = ((rB key (i / 8) : Nat) : Int) := and8 _ _ (byt_lt _ _) (maskB_lt _)
      have HV : Hid (bitB (rB key) i = rB key (i / 8) / 2 ^ (i % 8) % 2) := rfl
      have r8 : i % 8 < 8 := by omega
      have HL := Lib.hid (rB_lt key (i / 8))
      have q16 : ((i / 8 : Nat) : Int) < 16 := by omega
      generalize byt key (i / 8) = kb at v1 b1
      generalize maskB (i / 8) = mb at c1 b1
      generalize rB key (i / 8) = x at b1 HV HL
      generalize i / 8 = q at q1 q2 i1 v1 c1 q16
      generalize i % 8 = r at q3 q4 HV r8
      have m8 : min r 8 = r := Nat.min_eq_left (by omega)
      clear hlt
      go_wp2_with (fail)
      go_quiet (fail)
      have b2 := bit8 x r HL.out
      rw [b2]
      have HM := Lib.hid (HM.out.drewN nq)
      have HS2 := Lib.hid (lmb_step HBt.out i)
      rw [HV.out] at HS2
      have HSl := Lib.hid (lmb_here HBt.out i)
      have hz : x / 2 ^ r % 2 = 0 ∨ x / 2 ^ r % 2 = 1 := by omega
      clear q1 q2 q3 q4 i1 v1 c1 b1 b2 q16 m8 r8 HV HL
      generalize wr.drewN nq = w2 at HM ⊢
      generalize x / 2 ^ r = y at hz HS2 ⊢
      generalize (x : Int) / 2 ^ r = y'
      obtain hz | hz := hz
      · rw [hz] at HS2 ⊢
        go_wp2_with (fail)
        refine ⟨⟨i + 1, HI.out, by go_num, HM.out.congrR fun t _ => ?_⟩, Lw.meas 128 i HI.out⟩
        rw [← HS2.out t, Nat.zero_mul, Nat.add_zero]
        split
        · next e => rw [e]
        · rfl
      · rw [hz] at HS2 ⊢
        have d1 : (i : Int) / 26 = ((i / 26 : Nat) : Int) := by omega
        have d2 : (i : Int).tdiv 26 = ((i / 26 : Nat) : Int) := by rw [Int.tdiv_eq_ediv_of_nonneg (by omega)]; omega
        have d3 : (i : Int) % 26 = ((i % 26 : Nat) : Int) := by omega
        have d4 : (i : Int).tmod 26 = ((i % 26 : Nat) : Int) := by rw [Int.tmod_eq_emod_of_nonneg (by omega)]; omega
        have r26 : i % 26 < 26 := by omega
        have q5 : ((i / 26 : Nat) : Int) < 5 := by have := HI.out; omega
        have xc := HM.out.1.at_ (i / 26) _ (by have := HI.out; omega) rfl
        have xf := World.rowIs.frozen HM.out.1 (i / 26)
        obtain ⟨T, p1, o1⟩ := or_at (lmb (bN (bitB (rB key)) i) (i / 26)) (i % 26) HSl.out r26
        generalize lmb (bN (bitB (rB key)) i) (i / 26) = old at xc HSl HS2 o1
        generalize i / 26 = Q at d1 d2 q5 xc xf HS2
        generalize i % 26 = R at d3 d4 r26 o1 p1 HS2
        clear HSl
        generalize hN : old + 1 * 2 ^ R = nw at o1 HS2
        clear hN
        go_wp2_with (fail)
        refine wp_region_quiet_tail 11 (by kernel_rfl) (by kernel_rfl) ?_
        simp only [List.take_succ_cons, List.take_zero, List.drop_succ_cons, List.drop_zero]
        repeat (go_big_quiet_step (fail))
        refine wpQuiet_nil ?_
        intro nq
        have HM := Lib.hid (HM.out.drewN nq)
        have xc : (w2.drewN nq).cell? ⟨w.heap.size, Q, none⟩ = some (.int .u64 (old : Nat)) := xc
        have xf : (w2.drewN nq).frozen? ⟨w.heap.size, Q, none⟩ = false := xf
        clear d1 d2 d3 d4 p1 o1
        generalize w2.drewN nq = w3 at HM xc xf ⊢
        go_wp2_with (fail)
        exact ⟨⟨i + 1, HI.out, by go_num, (HM.out.setR Q nw).congrR fun t _ => HS2.out t⟩, Lw.meas 128 i HI.out⟩
    · have il : ((i : Int) < 128) = False := eq_false (by omega)
      obtain rfl : i = 128 := by have := hi.out; omega
      rw [show ((128 : Nat) : Int) = 128 from rfl]
      clear hlt il hi
      have HM : Hid (MemP w wr (lmb (rN key)) (fun _ => 0) (fun _ => 0)) := by rw [show rN key = bN (bitB (rB key)) 128 from (bits_bytes (rB_lt key) 16).symm]; exact HM.out
      clear HBt
      go_wp2_with (fail)
      go_loopw [10] (fun v wx => ∃ (k : Nat) (h l : Nat → Nat), Hid (k ≤ (s.size + 15) / 16) ∧ v = .int .i64 ((16 * k : Nat) : Int) ∧ Hid (Fine h) ∧ Hid (val h % p130 = runK (rN key) 0 s k) ∧ Hid (MemP w wx (lmb (rN key)) h l)) (fun v _ => s.size + 16 - (intOf v).toNat)
      case atStart => exact ⟨0, _, _, Nat.zero_le _, rfl, fine_zero, rfl, HM⟩
      case round =>
        clear HM
        obtain ⟨k, h, l, HKl, rfl, HF, HA, HM⟩ := hrel
        by_cases hlt : 16 * k < s.size
        · have al : (((16 * k : Nat) : Int) < (s.size : Int)) = True := eq_true (by omega)
          have HAl := Lib.hid hlt
          have al' : ((16 * k : Nat) : Int) < 140737488355328 := by have := HS.out; omega
          have hsz : (s.size : Int) ≤ 140737488355328 := by have := HS.out; omega
          obtain ⟨L, hL⟩ : ∃ L, blkL s k = L := ⟨_, rfl⟩
          have HLm : Hid (L = min 16 (s.size - 16 * k)) := hL.symm
          have HL := Lib.hid hL
          have HL16 : Hid (L ≤ 16) := by show L ≤ 16; rw [← hL]; exact blkL_le s k
          have hmin : ∀ W, (Builtin.min_ #[3, 3] 3 #[.int .i64 (((16 * k : Nat) : Int) + 16), .int .i64 (s.size : Int)]).run Tryz.prog W = .ok (.int .i64 ((16 * k + L : Nat) : Int)) W := fun W => by
            have e := min2 (P := Tryz.prog) W #[3, 3] 3 (16 * k + 16) s.size
            rw [show min (16 * k + 16) s.size = 16 * k + L by have := HLm.out; omega] at e
            exact e
          clear hlt hL
          have HAt : Hid (16 * k + L ≤ s.size) := by show 16 * k + L ≤ s.size; have := HLm.out; have := HAl.out; omega
          clear HLm
          obtain ⟨a, ha⟩ : ∃ a, 16 * k = a := ⟨_, rfl⟩
          have HAe := Lib.hid ha
          rw [ha] at al al' hmin HAl HAt ⊢
          clear ha
          go_upto_region 13 with (fail)
          clear hmin al
          have HN := Lib.hid HM.out.2.2.1.heap
          generalize hlz : lmA l = Al at HN
          apply wp_region_lit
          refine wpList_build_to rfl 83 _ rfl (lmA fun _ => 0) (by kernel_rfl) ?_
          refine wpList_store_row rfl 83 _ _ rfl (w.heap.size + 2) (lmA fun _ => 0) (by kernel_rfl) (by kernel_rfl) 83 _ HN.out (by kernel_rfl) (by rw [← hlz, lmA_size, lmA_size]) (lmA_one _) ?_
          simp only [Act.put, List.setIfInBounds_toArray, List.set_cons_zero, List.set_cons_succ]
          have HM : Hid (MemP w (wr.setRow (w.heap.size + 2) (lmA fun _ => 0)) (lmb (rN key)) h (lmb (bN (bitF s k) 0))) := (HM.out.rowL Al HN.out (fun _ => 0)).congrL fun i _ => bits0 _ i
          clear HN hlz
          generalize wr.setRow (w.heap.size + 2) (lmA fun _ => 0) = w2 at HM ⊢
          generalize (lmA fun _ => 0) = lz2
          have a1 : (a : Int) + (L : Int) - (a : Int) = (L : Int) := by omega
          have l16 : (L : Int) ≤ 16 := by have := HL16.out; omega
          generalize (a : Int) + (L : Int) = E at a1 ⊢
          go_wp2_with (fail)
          have HBt : Hid (∀ i, bitF s k i ≤ 1) := bitF_le s k
          go_loopw [12] (fun v wx => ∃ i : Nat, Hid (i ≤ 8 * L) ∧ v = .int .i64 i ∧ Hid (MemP w wx (lmb (rN key)) h (lmb (bN (bitF s k) i)))) (fun v _ => 8 * L - (intOf v).toNat)
          case atStart => exact ⟨0, Nat.zero_le _, rfl, HM⟩
          case round =>
            clear HM
            obtain ⟨i, hi, rfl, HM⟩ := hrel
            by_cases hlt : i < 8 * L
            · have il : ((i : Int) < 8 * (L : Int)) = True := eq_true (by omega)
              have il' : (i : Int) < 128 := by omega
              have HI := Lib.hid hlt
              have HI2 : Hid (i < 128) := by show i < 128; omega
              have q1 : (i : Int) / 8 = ((i / 8 : Nat) : Int) := by omega
              have q2 : (i : Int).tdiv 8 = ((i / 8 : Nat) : Int) := by rw [Int.tdiv_eq_ediv_of_nonneg (by omega)]; omega
              have q3 : (i : Int) % 8 = ((i % 8 : Nat) : Int) := by omega
              have q4 : (i : Int).tmod 8 = ((i % 8 : Nat) : Int) := by rw [Int.tmod_eq_emod_of_nonneg (by omega)]; omega
              have i1 : ((a + i / 8 : Nat) : Int) < (s.size : Int) := by have := HAt.out; omega
              have wp1 : wrap64 ((a + i / 8 : Nat) : Int) = ((a + i / 8 : Nat) : Int) := IntWalk.wrap64_in _ (by have := HAt.out; omega)
              have pe : (a : Int) + ((i / 8 : Nat) : Int) = ((a + i / 8 : Nat) : Int) := by omega
              have v1 : ∀ h : a + i / 8 < s.size, (s[a + i / 8]'h).toNat = byt s (a + i / 8) := fun h => get_byt s _ h
              have HV : Hid (bitF s k i = byt s (a + i / 8) / 2 ^ (i % 8) % 2) := by
                show (if i < 8 * blkL s k then byt s (16 * k + i / 8) / 2 ^ (i % 8) % 2 else 1) = _
                rw [HAe.out, HL.out, if_pos HI.out]
              have r8 : i % 8 < 8 := by omega
              have HLx := Lib.hid (byt_lt s (a + i / 8))
              generalize byt s (a + i / 8) = x at v1 HV HLx
              have q16 : ((i / 8 : Nat) : Int) < 16 := by omega
              generalize a + i / 8 = P at i1 v1 wp1 pe
              generalize i / 8 = q at q1 q2 pe q16
              generalize i % 8 = r at q3 q4 HV r8
              clear hlt
              have b2 := bit8 x r HLx.out
              have HS2 := Lib.hid (lmb_step HBt.out i)
              rw [HV.out] at HS2
              have HSl := Lib.hid (lmb_here HBt.out i)
              have hz : x / 2 ^ r % 2 = 0 ∨ x / 2 ^ r % 2 = 1 := by omega
              obtain hz | hz := hz
              · rw [hz] at HS2 b2
                rw [show ((0 : Nat) : Int) = 0 from rfl] at b2
                clear hz
                go_wp2_with (fail)
                refine ⟨⟨i + 1, HI.out, by go_num, HM.out.congrL fun t _ => ?_⟩, Lw.meas (8 * L) i HI.out⟩
                rw [← HS2.out t, Nat.zero_mul, Nat.add_zero]
                split
                · next e => rw [e]
                · rfl
              · rw [hz] at HS2 b2
                rw [show ((1 : Nat) : Int) = 1 from rfl] at b2
                clear hz
                go_upto_region 18 with (fail)
                clear q1 q2 q3 q4 i1 v1 b2 q16 r8 HV HLx il wp1 pe
                have d1 : (i : Int) / 26 = ((i / 26 : Nat) : Int) := by omega
                have d2 : (i : Int).tdiv 26 = ((i / 26 : Nat) : Int) := by rw [Int.tdiv_eq_ediv_of_nonneg (by omega)]; omega
                have d3 : (i : Int) % 26 = ((i % 26 : Nat) : Int) := by omega
                have d4 : (i : Int).tmod 26 = ((i % 26 : Nat) : Int) := by rw [Int.tmod_eq_emod_of_nonneg (by omega)]; omega
                have r26 : i % 26 < 26 := by omega
                have q5 : ((i / 26 : Nat) : Int) < 5 := by have := HI2.out; omega
                have xc := HM.out.2.2.1.at_ (i / 26) _ (by have := HI2.out; omega) rfl
                have xf := World.rowIs.frozen HM.out.2.2.1 (i / 26)
                obtain ⟨T, p1, o1⟩ := or_at (lmb (bN (bitF s k) i) (i / 26)) (i % 26) HSl.out r26
                generalize lmb (bN (bitF s k) i) (i / 26) = old at xc HSl HS2 o1
                generalize i / 26 = Q at d1 d2 q5 xc xf HS2
                generalize i % 26 = R at d3 d4 r26 o1 p1 HS2
                clear HSl
                generalize hN : old + 1 * 2 ^ R = nw at o1 HS2
                clear hN
                refine wp_region_quiet_tail 11 (by kernel_rfl) (by kernel_rfl) ?_
                simp only [List.take_succ_cons, List.take_zero, List.drop_succ_cons, List.drop_zero]
                repeat (go_big_quiet_step (fail))
                refine wpQuiet_nil ?_
                intro nq
                have HM := Lib.hid (HM.out.drewN nq)
                have xc : (wr.drewN nq).cell? ⟨w.heap.size + 2, Q, none⟩ = some (.int .u64 (old : Nat)) := xc
                have xf : (wr.drewN nq).frozen? ⟨w.heap.size + 2, Q, none⟩ = false := xf
                clear d1 d2 d3 d4 p1 o1
                generalize wr.drewN nq = w3 at HM xc xf ⊢
                go_wp2_with (fail)
                exact ⟨⟨i + 1, HI.out, by go_num, (HM.out.setL Q nw).congrL fun t _ => HS2.out t⟩, Lw.meas (8 * L) i HI.out⟩
            · have il : ((i : Int) < 8 * (L : Int)) = False := eq_false (by omega)
              have HO : Hid (i = 8 * L) := by show i = 8 * L; have := hi.out; omega
              have oe : 8 * (L : Int) = (i : Int) := by have := HO.out; omega
              have i128 : (i : Int) ≤ 128 := by omega
              have HI2 : Hid (i ≤ 128) := by show i ≤ 128; omega
              clear hlt hi il
              have HS2 := Lib.hid (lmb_step HBt.out i)
              rw [show bitF s k i = 1 from if_neg (by rw [HL.out, HO.out]; omega), show bN (bitF s k) (i + 1) = blkN s k by rw [← bitF_all, HL.out, HO.out]] at HS2
              have HSl := Lib.hid (lmb_here HBt.out i)
              have ir : ((i : Int) < (i : Int)) = False := eq_false (by omega)
              go_upto_region 20 with (fail)
              clear oe a1 ir
              have d1 : (i : Int) / 26 = ((i / 26 : Nat) : Int) := by omega
              have d2 : (i : Int).tdiv 26 = ((i / 26 : Nat) : Int) := by rw [Int.tdiv_eq_ediv_of_nonneg (by omega)]; omega
              have d3 : (i : Int) % 26 = ((i % 26 : Nat) : Int) := by omega
              have d4 : (i : Int).tmod 26 = ((i % 26 : Nat) : Int) := by rw [Int.tmod_eq_emod_of_nonneg (by omega)]; omega
              have r26 : i % 26 < 26 := by omega
              have q5 : ((i / 26 : Nat) : Int) < 5 := by have := HI2.out; omega
              have xc := HM.out.2.2.1.at_ (i / 26) _ (by have := HI2.out; omega) rfl
              have xf := World.rowIs.frozen HM.out.2.2.1 (i / 26)
              obtain ⟨T, p1, o1⟩ := or_at (lmb (bN (bitF s k) i) (i / 26)) (i % 26) HSl.out r26
              have HM0 := HM
              generalize lmb (bN (bitF s k) i) (i / 26) = old at xc HSl HS2 o1
              generalize i / 26 = Q at d1 d2 q5 xc xf HS2
              generalize i % 26 = R at d3 d4 r26 o1 p1 HS2
              clear HSl
              generalize hN : old + 1 * 2 ^ R = nw at o1 HS2
              clear hN
              refine wp_region_quiet_tail 11 (by kernel_rfl) (by kernel_rfl) ?_
              simp only [List.take_succ_cons, List.take_zero, List.drop_succ_cons, List.drop_zero]
              repeat (go_big_quiet_step (fail))
              refine wpQuiet_nil ?_
              intro nq
              have HM := Lib.hid (HM.out.drewN nq)
              have xc : (wr.drewN nq).cell? ⟨w.heap.size + 2, Q, none⟩ = some (.int .u64 (old : Nat)) := xc
              have xf : (wr.drewN nq).frozen? ⟨w.heap.size + 2, Q, none⟩ = false := xf
              clear d1 d2 d3 d4 p1 o1 HM0
              generalize wr.drewN nq = w3 at HM xc xf ⊢
              go_wp2_with (fail)
              have HM : Hid (MemP w (w3.setCell ⟨w.heap.size + 2, Q, none⟩ (.int .u64 (nw : Nat))) (lmb (rN key)) (plusL h (lmb (blkN s k)) 0) (lmb (blkN s k))) := ((HM.out.setL Q nw).congrL fun t _ => HS2.out t).congrH fun t _ => by unfold plusL; rw [if_neg (by omega)]
              clear xc xf HS2
              generalize w3.setCell ⟨w.heap.size + 2, Q, none⟩ (.int .u64 (nw : Nat)) = w4 at HM ⊢
              generalize hlo : lmb (blkN s k) = lo at HM
              have HLo := Lib.hid hlo
              have HLl : Hid (∀ t, lo t < 67108864) := fun t => by rw [← hlo]; exact lmb_lt _ _
              clear hlo HBt
              go_loopw [14] (fun v wx => ∃ j : Nat, Hid (j ≤ 5) ∧ v = .int .i64 j ∧ Hid (MemP w wx (lmb (rN key)) (plusL h lo j) lo)) (fun v _ => 5 - (intOf v).toNat)
              case atStart => exact ⟨0, Nat.zero_le _, rfl, HM⟩
              case round =>
                clear HM
                obtain ⟨j, hj, rfl, HM⟩ := hrel
                by_cases hlt : j < 5
                · have jl : ((j : Int) < 5) = True := eq_true (by omega)
                  have jl' : (j : Int) < 5 := by omega
                  have HJ := Lib.hid hlt
                  have c1 := HM.out.2.1.at_ j (h j) hlt (plusL_at _ _ _)
                  have f1 := World.rowIs.frozen HM.out.2.1 j
                  have c2 := HM.out.2.2.1.at_ j (lo j) hlt rfl
                  have l1 := HF.out.all j
                  have l2 := HLl.out j
                  have HP := Lib.hid (plusL_succ h lo j)
                  generalize h j = x at c1 l1 HP
                  generalize lo j = y at c2 l2 HP
                  have o1 : IntKind.u64.wrap ((x : Int) + (y : Int)) = ((x + y : Nat) : Int) := by show _ % 18446744073709551616 = _; omega
                  have HXY : Hid ((x : Int) + (y : Int) = ((x + y : Nat) : Int)) := by show _ = _; omega
                  clear hlt
                  go_upto_region 24 with (fail)
                  refine wp_region_quiet_tail 9 (by kernel_rfl) (by kernel_rfl) ?_
                  simp only [List.take_succ_cons, List.take_zero, List.drop_succ_cons, List.drop_zero]
                  repeat (go_big_quiet_step (fail))
                  refine wpQuiet_nil ?_
                  intro nq
                  have HM := Lib.hid (HM.out.drewN nq)
                  have c1 : (wr.drewN nq).cell? ⟨w.heap.size + 1, j, none⟩ = some (.int .u64 (x : Nat)) := c1
                  have f1 : (wr.drewN nq).frozen? ⟨w.heap.size + 1, j, none⟩ = false := f1
                  clear c2
                  generalize wr.drewN nq = w5 at HM c1 f1 ⊢
                  go_wp2_with (fail)
                  rw [HXY.out]
                  exact ⟨⟨j + 1, HJ.out, by go_num, (HM.out.setH j (x + y)).congrH fun t _ => HP.out t⟩, Lw.meas 5 j HJ.out⟩
                · have jl : ((j : Int) < 5) = False := eq_false (by omega)
                  obtain rfl : j = 5 := by have := hj.out; omega
                  rw [show ((5 : Nat) : Int) = 5 from rfl]
                  clear hlt jl hj
                  obtain ⟨hh, hhe⟩ : ∃ hh : Nat → Nat, hh = fun t => h t + lo t := ⟨_, rfl⟩
                  have HSu : Hid (∀ t, hh t < 134218752) := fun t => by rw [hhe]; have := HF.out.all t; have := HLl.out t; show h t + lo t < _; omega
                  have HM : Hid (MemP w wr (lmb (rN key)) hh lo) := HM.out.congrH fun t ht => by rw [hhe]; unfold plusL; rw [if_pos ht]
                  have HRl : Hid (∀ t, lmb (rN key) t < 67108864) := fun t => lmb_lt _ _
                  have HRd : Hid (val (mulS hh (lmb (rN key))) % p130 = runK (rN key) 0 s (k + 1)) := by
                    rw [hhe, ← HLo.out]
                    exact round_val HA.out (blkN s k) (Nat.lt_trans (blkN_lt s k) (by decide)) (Nat.lt_trans (rN_lt key) (by decide))
                  have HFi : Hid (Fine (mulS hh (lmb (rN key)))) := mul_fine fun t => by
                    have := prS_lt HSu.out HRl.out 25 t
                    omega
                  clear hhe
                  have hC := Lib.hid (fun W => product_any hh (lmb (rN key)) W HSu.out HRl.out)
                  clear HRl HSu HLl HLo HF HA
                  generalize hrr : lmb (rN key) = rr at HM HRd HFi hC
                  have HRr := Lib.hid hrr
                  clear hrr
                  generalize mulS hh rr = hn at HRd HFi hC
                  have HN1 := Lib.hid HM.out.2.1.heap
                  have HN0 := Lib.hid HM.out.1.heap
                  generalize hA1 : lmA hh = A1 at HN1 hC
                  generalize hA0 : lmA rr = A0 at HN0 hC
                  go_upto_region 25 with (fail)
                  apply wp_region_lit
                  refine wpList_load_row rfl 83 _ rfl (w.heap.size + 1) (by kernel_rfl) 83 A1 (0, 0) _ HN1.out Tryz.underlying83 rfl (by rw [← hA1]; kernel_rfl) ?_
                  refine wpList_load_row rfl 83 _ rfl w.heap.size (by kernel_rfl) 83 A0 (0, 0) _ HN0.out Tryz.underlying83 rfl (by rw [← hA0]; kernel_rfl) ?_
                  refine Lw.wpList_callTo (some 118) rfl rfl 85 _ _ rfl (fun _ _ => by go_simp) #[.agg A1, .agg A0] (by kernel_rfl) ?_
                  refine (hC.out wr).mono ?_
                  clear hC HN0
                  rintro e u1 ⟨rfl, hb1⟩
                  refine ⟨_, rfl, ?_⟩
                  have HM := Lib.hid (HM.out.on hb1)
                  have HO := Lib.hid HM.out.2.1.heap
                  clear hb1 HN1
                  refine wpList_store_row rfl 83 _ _ rfl (w.heap.size + 1) (lmA hn) (by kernel_rfl) (by kernel_rfl) 83 _ HO.out (by kernel_rfl) (by rw [lmA_size, lmA_size]) (lmA_one _) ?_
                  simp only [Act.put, List.setIfInBounds_toArray, List.set_cons_zero, List.set_cons_succ]
                  have HM := Lib.hid (HM.out.rowH _ HO.out hn)
                  clear HO hA1 hA0
                  generalize u1.setRow (w.heap.size + 1) (lmA hn) = w6 at HM ⊢
                  generalize lmA hn = An
                  go_wp2_with (fail)
                  refine ⟨⟨k + 1, hn, lo, ?_, ?_, HFi, HRd, ?_⟩, meas16 _ a HAl.out⟩
                  · show k + 1 ≤ (s.size + 15) / 16
                    have := HAl.out; have := HAe.out; omega
                  · rw [show ((16 * (k + 1) : Nat) : Int) = (a : Int) + 16 by have := HAe.out; omega]
                  · rw [HRr.out]; exact HM.out
        · have al : (((16 * k : Nat) : Int) < (s.size : Int)) = False := eq_false (by omega)
          have HKe : Hid (k = (s.size + 15) / 16) := by show k = _; have := HKl.out; omega
          clear hlt
          obtain ⟨a, ha⟩ : ∃ a, 16 * k = a := ⟨_, rfl⟩
          rw [ha] at al ⊢
          have HN1 := Lib.hid HM.out.2.1.heap
          have HC := Lib.hid (fun W => finish_any h (key.extract 16 32) W (fun i => Nat.lt_trans (HF.out.all i) (by decide)) (by rw [ByteArray.size_extract]; have := HK.out; omega))
          rw [fin_tag HF.out, HA.out, padN_cut key HK.out, HKe.out] at HC
          have HE : Hid (tagS (runK (rN key) 0 s ((s.size + 15) / 16)) (padN key) = macS key s) := rfl
          rw [HE.out] at HC
          generalize hT : macS key s = T at HC
          generalize hA1 : lmA h = A1 at HN1 HC
          have ks : (key.size : Int) = 32 := by have := HK.out; omega
          have ks' : key.size = 32 := HK.out
          clear HE HKe HF HA
          go_upto_region 26 with (fail)
          clear al
          have HR1 := Lib.hid HM.out.2.1
          have HB1 := Lib.hid HM.out.2.2.2.2
          have hv : (lmV h).toArray = A1 := hA1
          refine wp_region_any (by kernel_rfl) ?_
          change wpAny _ _ _ _ _ _ _ wr.drew
          have HR1 : Hid (wr.drew.rangeAt (w.heap.size + 1) 0 (lmV h)) := HR1.out.range
          have HB1 : Hid (Below w.heap.size w wr.drew) := Lw.below_drewN HB1.out 1
          generalize wr.drew = w7 at HR1 HB1 ⊢
          refine Lw.take_to (i := 1) (some 120) (.string key) rfl rfl (by kernel_rfl) (by kernel_rfl) (by kernel_rfl) (fun _ _ _ h => h) (Or.inl ⟨by rfl, fun w => by go_simp⟩) ?_
          refine Lw.take_to (i := 2) (some 121) (.string (key.extract 16 32)) rfl rfl (by kernel_rfl) (by kernel_rfl) (by kernel_rfl) (fun _ _ _ h => h) (Or.inl ⟨by rfl, fun w => by go_simp⟩) ?_
          simp only [Act.put, List.setIfInBounds_toArray, List.set_cons_zero, List.set_cons_succ]
          refine wpAny_ready (rs := [0]) (by kernel_rfl) (by simp) ?_
          refine ready_loadTo (some 119) rfl rfl rfl 83 _ rfl (w.heap.size + 1) 0 (by kernel_rfl) (lmV h) _ HR1.out Tryz.underlying83 rfl (by kernel_rfl) ?_ AllReady.nil
          rw [hv]
          simp only [Act.put, List.setIfInBounds_toArray, List.set_cons_zero, List.set_cons_succ]
          refine wpAny_ready (rs := [3]) (by kernel_rfl) (by simp) ?_
          refine ready_callTo (some 122) rfl rfl rfl 86 _ _ rfl (fun _ _ => by go_simp) #[.agg A1, .string (key.extract 16 32)] (by kernel_rfl) ?_ AllReady.nil
          refine (HC.out w7).mono ?_
          rintro e v1 ⟨rfl, hb⟩
          refine ⟨_, rfl, ?_⟩
          simp only [Act.put, List.setIfInBounds_toArray, List.set_cons_zero, List.set_cons_succ]
          have HB2 := Lib.hid (Lw.go_on HB1.out hb)
          clear hb HC
          refine Lw.take_to (i := 4) (some 4) (.string T) rfl rfl (by kernel_rfl) (by kernel_rfl) (by kernel_rfl) (fun _ _ _ h => h) (Or.inl ⟨by rfl, fun w => by go_simp⟩) ?_
          simp only [Act.put, List.setIfInBounds_toArray, List.set_cons_zero, List.set_cons_succ]
          refine wpAny_done (by kernel_rfl) ?_ _
          go_wp2_with (fail)
          go_ret
          exact ⟨by rw [hT]; rfl, HB2.out⟩
end Go.Proofs.Pol
