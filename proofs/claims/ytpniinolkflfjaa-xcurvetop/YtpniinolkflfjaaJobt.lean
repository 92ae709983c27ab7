/-
  The document's own answer for layer 10, at every input.
-/
import Derived.Test.YtpniinolkflfjaaJobr
import Derived.Test.YtpniinolkflfjaaJobl
import Derived.Test.YtpniinolkflfjaaJobs
import Derived.Test.YtpniinolkflfjaaJoak
namespace Go.Proofs.Xu
open Go.RowKit
open Go.Proofs.Im (wpList_box_to words_heap words_one run_index_row)
open Go.Proofs.Sha (wordCells wordCells_get wordCells_size rowIs_of wpList_alloc_to wpList_build_to)
open Go.Proofs.Nt
open Go.Proofs.Nu
open Go.Proofs.En
open Go.Proofs.Rt (ready_loadTo ready_callTo)
open Go.Proofs.He (takeH load_row callH allocH storeH)
open Go.Proofs.Ec (pX iv)
theorem pX_md : md 2 = pX := by decide
theorem J_lt (x : Nat) : jm pX x < pX := jm_lt (by decide) x
theorem jm_add (m x y : Nat) : (jm m x + jm m y) % m = jm m ((x + y) % m) := by
  unfold jm
  rw [Nat.mod_mul_mod, Nat.add_mul, ← Nat.add_mod]
theorem jm_sub {m : Nat} (x y : Nat) (hm : 0 < m) (hy : y < m) : (jm m x + m - jm m y) % m = jm m ((m - y + x) % m) := by
  have h1 := jm_lt hm y
  have h0 : jm m (m - y + x) = (m * 2 ^ 256 - y * 2 ^ 256 + x * 2 ^ 256) % m := by unfold jm; rw [Nat.add_mul, Nat.sub_mul]
  have hle : y * 2 ^ 256 ≤ m * 2 ^ 256 := Nat.mul_le_mul_right _ (Nat.le_of_lt hy)
  have e : jm m ((m - y + x) % m) = jm m (m - y + x) := by unfold jm; rw [Nat.mod_mul_mod]
  rw [e, h0]
  unfold jm at h1 ⊢
  generalize (2 : Nat) ^ 256 = R at *
  have hq := Nat.div_add_mod (y * R) m
  obtain ⟨q, hq2⟩ : ∃ q, y * R / m = q := ⟨_, rfl⟩
  rw [hq2] at hq
  have hqR : q ≤ R := by
    rw [← hq2]
    exact Nat.le_trans (Nat.div_le_div_right hle) (by rw [Nat.mul_div_cancel_left _ hm]; exact Nat.le_refl _)
  have hx := Nat.div_add_mod (x * R) m
  obtain ⟨p, hp⟩ : ∃ p, x * R / m = p := ⟨_, rfl⟩
  rw [hp] at hx
  have key : (m * R - y * R + x * R + m) % m = (x * R % m + m - y * R % m) % m := by
    have e3 : m * R - y * R + x * R + m = (x * R % m + m - y * R % m) + m * (R - q + p) := by
      rw [Nat.mul_add, Nat.mul_sub]
      have : m * q ≤ m * R := Nat.mul_le_mul_left _ hqR
      omega
    rw [e3, Nat.add_mul_mod_self_left]
  rw [← key, Nat.add_mod_right]
instance : NeZero pX := ⟨by decide⟩
theorem jm_mod (m x : Nat) : jm m (x % m) = jm m x := by unfold jm; rw [Nat.mod_mul_mod]
theorem md_B8 {x : Nat} (h : x < md 2) : x < B8 := Nat.lt_trans h (md_lt 2)
/-- The ladder modulo a prime that is said by its number. -/
theorem ladder_of (m : Nat) [NeZero m] (hm : md 2 = m) (a x : Fin m) (ha : a.val = 121665) (h1 : (1 : Fin m).val = 1) (E : Nat) (w : World) : Calls Try.prog 25 #[nmV E, nmV (jm m x.val)] w fun e u => e = .returned (nmV (Ec.ladU a x E).val) ∧ Below w.heap.size w u := by
  have hp := md_prime 2
  have hd := md_256 2
  have hl : ∀ x, jm (md 2) x < md 2 := jm_lt (md_pos 2)
  have hI := fun (x : Nat) (h : x < md 2) (u : World) => into_any 2 x u h
  have hA := fun (p q : Nat) (u : World) => add_any 2 (jm (md 2) p) (jm (md 2) q) u (hl p) (hl q)
  have hS := fun (p q : Nat) (u : World) => sub_any 2 (jm (md 2) p) (jm (md 2) q) u (hl p) (hl q)
  have hM := fun (p q : Nat) (u : World) => mont_any 2 (jm (md 2) p) (jm (md 2) q) u (hl p) (md_B8 (hl q))
  have hP := fun (p : Nat) (u : World) => power_any 2 p u
  have hO := fun (p : Nat) (u : World) => out_any 2 (jm (md 2) p) u (hl p)
  rw [hm] at hp hd hI hA hS hM hP hO
  have hpos := hp.pos
  have b1 : 1 < m := by rw [← h1]; exact (1 : Fin m).isLt
  have b2 : 121665 < m := by rw [← ha]; exact a.isLt
  refine ladder_raw (fun p : Fin m => jm m p.val) a x E _ _ (jm m 1) _ w rfl (by rw [ha]) rfl (by rw [h1]) (by show jm m (0 : Fin m).val = 0; rw [Ec.zero_val]; unfold jm; rw [Nat.zero_mul, Nat.zero_mod]) (fun u => hI 1 b1 u) (fun u => hI 121665 b2 u) ?_ ?_ ?_ ?_ ?_
  · intro p q u
    have := hA p.val q.val u
    rw [jm_add] at this
    rwa [Fin.val_add]
  · intro p q u
    have := hS p.val q.val u
    rw [jm_sub _ _ hpos q.isLt] at this
    rwa [Fin.sub_def]
  · intro p q u
    have := hM p.val q.val u
    rw [mt_jj hp hd] at this
    rwa [Fin.val_mul, jm_mod]
  · intro p u
    have := hP p.val u
    show Calls _ _ _ _ fun e u' => e = .returned (nmV (jm m (p.val ^ (m - 2) % m))) ∧ _
    rwa [jm_mod]
  · intro p u
    have := hO p.val u
    rw [mt_jx hp hd, Nat.mul_one, Nat.mod_eq_of_lt p.isLt] at this
    exact this
theorem ladder_any (x : Fin pX) (E : Nat) (w : World) : Calls Try.prog 25 #[nmV E, nmV (jm pX x.val)] w fun e u => e = .returned (nmV (Ec.ladU 121665 x E).val) ∧ Below w.heap.size w u :=
  ladder_of pX pX_md 121665 x (by decide +kernel) (by decide +kernel) E w
theorem ready_loadRow {P : Program} {md : Region.Mode} {ops : Array Oper} {Q : Exit → Act → World → Prop} {fuel i : Nat} {listed : Array Bool} {a : Act} {w : World} {o : Oper} {rs : List Nat}
    (di : Option Tmp) (ho : ops[i]? = some o) (hdi : o.dst = di) (hg : o.guard = none) (ty : TypeId) (x : Operand) (hop : o.op = .load ty x) (g : Nat) (hx : a.eval x = .pointer (some ⟨g, 0, none⟩)) (t : TypeId) (cs : Array Value) (fr : Nat × Nat) (d : TypeDesc)
    (hw : w.heap[g]? = some (.cells cs t fr)) (hu : P.underlying ty = some d) (hd : (match d with | .struct _ | .array _ _ => true | _ => false) = true) (hi : (P.info? ty).map (·.size) = some cs.size)
    (h : wpAny P md ops Q fuel (listed.setIfInBounds i true) (a.put di (.agg cs)) w) (hs : AllReady P md ops Q fuel listed a w rs) : AllReady P md ops Q fuel listed a w (i :: rs) :=
  Im.ready_plain ho hg (fun _ hK => wp_load_row ty x hop g hx t cs fr d hw hu hd hi (by rw [hdi]; exact hK _ _ h)) hs
theorem ready_storeRow {P : Program} {md : Region.Mode} {ops : Array Oper} {Q : Exit → Act → World → Prop} {fuel i : Nat} {listed : Array Bool} {a : Act} {w : World} {o : Oper} {rs : List Nat}
    (ho : ops[i]? = some o) (hdi : o.dst = none) (hg : o.guard = none) (ty : TypeId) (x y : Operand) (hop : o.op = .store ty x y) (g : Nat) (cells : Array Value) (hx : a.eval x = .pointer (some ⟨g, 0, none⟩)) (hy : a.eval y = .agg cells)
    (t : TypeId) (old : Array Value) (hw : w.heap[g]? = some (.cells old t (0, 0))) (hi : (P.info? ty).map (·.size) = some cells.size) (hold : old.size = cells.size) (h1 : cells.all (·.oneCell') = true)
    (h : wpAny P md ops Q fuel (listed.setIfInBounds i true) (a.put none undef) (w.setRow g cells)) (hs : AllReady P md ops Q fuel listed a w rs) : AllReady P md ops Q fuel listed a w (i :: rs) :=
  Im.ready_plain ho hg (fun _ hK => wp_store_row ty x y hop g cells hx hy t old hw hi hold h1 (by rw [hdi]; exact hK _ _ h)) hs
/-- A key's number; a point's number. -/
def kE (k : ByteArray) : Nat := cl (bn (rv k))
def uX (u : ByteArray) : Fin pX := Fin.ofNat pX (bn (rv u) % 2 ^ 255)
def sF (k u : ByteArray) : Fin pX := Ec.ladU 121665 (uX u) (kE k)
theorem sF_eq (k u : ByteArray) {E : Nat} {F : Fin pX} (hE : kE k = E) (hF : Ec.ladU 121665 (uX u) E = F) : sF k u = F := by
  subst hE
  subst hF
  rfl
theorem sF_eq' (k u : ByteArray) {X : Fin pX} (h : uX u = X) : sF k u = Ec.ladU 121665 X (kE k) := by
  subst h
  rfl
def shOk (k u : ByteArray) : Bool := k.size == 32 && u.size == 32
def shS (k u : ByteArray) : ByteArray := bif shOk k u then (bif (sF k u).val == 0 then ⟨#[]⟩ else rv (t32 (sF k u).val)) else ⟨#[]⟩
def shE (k u : ByteArray) : Int := bif shOk k u then (bif (sF k u).val == 0 then 1001 else 0) else 1000
theorem t32_zero : t32 0 = Lw.pieceS (fun _ => 0) 0 32 := by
  unfold t32
  congr 1
  funext i
  unfold tb
  rw [Nat.zero_div]
theorem same_iff (a b : ByteArray) : (a.toList == b.toList) = true ↔ a = b := by
  rw [beq_iff_eq, ByteArray.toList_eq, ByteArray.toList_eq]
  exact ⟨fun h => ByteArray.ext (Array.toList_inj.1 h), fun h => by rw [h]⟩
theorem t32_differ {U : Nat} (h : U < 2 ^ 256) (h0 : ¬ U = 0) : ((t32 U).toList == (t32 0).toList) = false := by
  rw [Bool.eq_false_iff]
  intro e
  have e2 := (same_iff _ _).1 e
  have := congrArg bn e2
  rw [bn_t32 h, bn_t32 (by decide)] at this
  exact h0 this
theorem sh_ok {k u : ByteArray} (hk : (k.size : Int) = 32) (hu : (u.size : Int) = 32) : shOk k u = true := by
  unfold shOk
  rw [show k.size = 32 by omega, show u.size = 32 by omega]; rfl
theorem sh_zero {k u : ByteArray} (hk : (k.size : Int) = 32) (hu : (u.size : Int) = 32) (h : (sF k u).val = 0) : shS k u = ⟨#[]⟩ ∧ shE k u = 1001 := by
  unfold shS shE
  rw [sh_ok hk hu, h]
  exact ⟨rfl, rfl⟩
theorem sh_fine {k u : ByteArray} {U : Nat} (hk : (k.size : Int) = 32) (hu : (u.size : Int) = 32) (h : (sF k u).val = U) (h0 : ¬ U = 0) : shS k u = rv (t32 U) ∧ shE k u = 0 := by
  unfold shS shE
  have e : (U == 0) = false := by simpa using h0
  rw [sh_ok hk hu, h, e]
  exact ⟨rfl, rfl⟩
set_option maxHeartbeats 4000000 in
set_option maxRecDepth 20000 in
theorem shared_ok (k u : ByteArray) (w : World) (hk : k.size = 32) (hu : u.size = 32) : Calls Try.prog 8 #[.string k, .string u] w fun e w' => e = .returned (.tuple #[.string (shS k u), .int .i64 (shE k u)]) ∧ Below w.heap.size w w' := by
  have hz : (k.size : Int) = 32 := by omega
  have hz2 : (u.size : Int) = 32 := by omega
  go_enter Try.func8, Try.ntmps8
  have HT := Lib.hid (fun v : World => turned_any k v hk)
  have HG := Lib.hid (fun v : World => get_any (rv k) v (rv_size k))
  have HT2 := Lib.hid (fun v : World => turned_any u v hu)
  have HG2 := Lib.hid (fun v : World => get_any (rv u) v (rv_size u))
  have hkl : bn (rv k) < 2 ^ 256 := bg_lt (rv k) 0 32
  have hul : bn (rv u) < 2 ^ 256 := bg_lt (rv u) 0 32
  have HKE : Hid (kE k = cl (bn (rv k))) := rfl
  have HUX : Hid ((uX u).val = bn (rv u) % 2 ^ 255 % pX) := rfl
  generalize bn (rv k) = n at HG hkl HKE
  generalize bn (rv u) = m at HG2 hul HUX
  have HKl := Lib.hid hkl
  have HUl := Lib.hid hul
  clear hk hu hkl hul
  go_upto_region 3 with (fail)
  apply wp_region_lit
  refine Lw.wpList_val rfl (.string k) w (by go_simp) ?_
  simp only [Act.put, List.setIfInBounds_toArray, List.set_cons_zero, List.set_cons_succ]
  refine Lw.wpList_callTo (some 18) rfl rfl 20 _ _ rfl (fun _ _ => by go_simp) #[.string k] (by kernel_rfl) ?_
  refine (HT.out _).mono ?_
  rintro e u1 ⟨rfl, hb1⟩
  refine ⟨_, rfl, ?_⟩
  simp only [Act.put, List.setIfInBounds_toArray, List.set_cons_zero, List.set_cons_succ]
  refine Lw.wpList_callTo (some 19) rfl rfl 19 _ _ rfl (fun _ _ => by go_simp) #[.string (rv k)] (by kernel_rfl) ?_
  refine (HG.out _).mono ?_
  rintro e u2 ⟨rfl, hb2⟩
  refine ⟨_, rfl, ?_⟩
  have HB := Lib.hid (Lw.go_on hb1 hb2)
  have HG0 := Lib.hid HB.out.size
  clear hb1 hb2 HT HG
  refine wpList_alloc_to rfl 50 rfl (nmA (lb 0)) u2.heap.size rfl alloc_0 ?_
  simp only [Act.put, List.setIfInBounds_toArray, List.set_cons_zero, List.set_cons_succ]
  refine wpList_store_row rfl 50 _ _ rfl u2.heap.size (nmA (lb n)) (by kernel_rfl) (by kernel_rfl) 50 _ (heap_alloc_last _ _) (by kernel_rfl) (by rw [nmA_size, nmA_size]) (nmA_one _) ?_
  rw [World.setRow_alloc_new]
  simp only [Act.put]
  have HE := Lib.hid (RN.new u2 (lb n))
  have HB : Hid (Below w.heap.size w (u2.alloc (.cells (nmA (lb n)) 50))) := HB.out.alloc HB.out.size _
  have HGE := Lib.hid HG0.out
  generalize u2.alloc (.cells (nmA (lb n)) 50) = w3 at HE HB ⊢
  generalize u2.heap.size = g6 at HE HGE ⊢
  clear HG0
  have l0 := lb_lt n 0
  have l7 := lb_lt n 7
  have HCl : Hid (∀ i, i < 8 → (if i = 7 then lb n 7 % 2147483648 % 1073741824 + 1073741824 else if i = 0 then lb n 0 / 8 * 8 else lb n i) = lb (kE k) i) := by rw [HKE.out]; exact fun i hi => cl_words HKl.out i hi
  have x0 := HE.out.at_ 0 (lb n 0) (by decide) rfl
  have y0 := World.rowIs.frozen HE.out 0
  have e1 : bits .andNot .u32 ((lb n 0 : Nat) : Int) 7 = ((lb n 0 / 8 * 8 : Nat) : Int) := by rw [show (7 : Int) = ((7 : Nat) : Int) from rfl, u32_andNot_nat _ _ l0 (by decide), ← and_low3 _ l0]
  have e2 : bits .and .u32 ((lb n 7 : Nat) : Int) 2147483647 = ((lb n 7 % 2147483648 : Nat) : Int) := by rw [show (2147483647 : Int) = ((2147483647 : Nat) : Int) from rfl, u32_and_nat _ _ l7 (by decide), and_top]
  have e3 : bits .or .u32 ((lb n 7 % 2147483648 : Nat) : Int) 1073741824 = ((lb n 7 % 2147483648 % 1073741824 + 1073741824 : Nat) : Int) := by rw [show (1073741824 : Int) = ((1073741824 : Nat) : Int) from rfl, u32_or_nat _ _ (by omega) (by decide), or_30 _ (by omega)]
  have HE2 : Hid (∀ v, RN (w3.setCell ⟨g6, 0, none⟩ (.int .u32 (v : Nat))) g6 (fun i => if i = 0 then v else lb n i)) := fun v => HE.out.set 0 v
  have HX7 : Hid (lb n 7 % 2147483648 % 1073741824 + 1073741824 < 4294967296) := by show _ < _; omega
  generalize lb n 0 / 8 * 8 = A0 at e1 HCl
  generalize lb n 7 % 2147483648 % 1073741824 + 1073741824 = A7 at e3 HCl HX7
  generalize lb n 7 % 2147483648 = B7 at e2 e3
  generalize lb n 0 = L0 at x0 e1 l0
  go_upto_region 5 with (fail)
  have HE := HE2.out A0
  have HB : Hid (Below w.heap.size w (w3.setCell ⟨g6, 0, none⟩ (.int .u32 (A0 : Nat)))) := HB.out.setCell (by simpa using HGE.out) _
  clear x0 y0 e1 HE2 l0
  generalize w3.setCell ⟨g6, 0, none⟩ (.int .u32 (A0 : Nat)) = w4 at HE HB ⊢
  have x7 := HE.at_ 7 (lb n 7) (by decide) rfl
  have y7 := World.rowIs.frozen HE 7
  have HE := Lib.hid HE
  generalize lb n 7 = L7 at x7 e2 l7
  go_upto_region 6 with (fail)
  have HE : Hid (RN (w4.setCell ⟨g6, 7, none⟩ (.int .u32 (A7 : Nat))) g6 (lb (kE k))) := (HE.out.set 7 A7).congr fun i hi => by
    rw [← HCl.out i hi]
  have HB : Hid (Below w.heap.size w (w4.setCell ⟨g6, 7, none⟩ (.int .u32 (A7 : Nat)))) := HB.out.setCell (by simpa using HGE.out) _
  clear x7 y7 e2 e3 l7 HCl HX7
  generalize w4.setCell ⟨g6, 7, none⟩ (.int .u32 (A7 : Nat)) = w5 at HE HB ⊢
  apply wp_region_lit
  refine Lw.wpList_val rfl (.string u) w5 (by go_simp) ?_
  simp only [Act.put, List.setIfInBounds_toArray, List.set_cons_zero, List.set_cons_succ]
  refine Lw.wpList_callTo (some 30) rfl rfl 20 _ _ rfl (fun _ _ => by go_simp) #[.string u] (by kernel_rfl) ?_
  refine (HT2.out _).mono ?_
  rintro e u3 ⟨rfl, hb1⟩
  refine ⟨_, rfl, ?_⟩
  simp only [Act.put, List.setIfInBounds_toArray, List.set_cons_zero, List.set_cons_succ]
  refine Lw.wpList_callTo (some 31) rfl rfl 19 _ _ rfl (fun _ _ => by go_simp) #[.string (rv u)] (by kernel_rfl) ?_
  refine (HG2.out _).mono ?_
  rintro e u4 ⟨rfl, hb2⟩
  refine ⟨_, rfl, ?_⟩
  have HB := Lib.hid (Lw.go_on (Lw.go_on HB.out hb1) hb2)
  have HE := Lib.hid ((HE.out.on hb1).on hb2)
  clear hb1 hb2 HT2 HG2
  refine wpList_alloc_to rfl 50 rfl (nmA (lb 0)) u4.heap.size rfl alloc_0 ?_
  simp only [Act.put, List.setIfInBounds_toArray, List.set_cons_zero, List.set_cons_succ]
  refine wpList_store_row rfl 50 _ _ rfl u4.heap.size (nmA (lb m)) (by kernel_rfl) (by kernel_rfl) 50 _ (heap_alloc_last _ _) (by kernel_rfl) (by rw [nmA_size, nmA_size]) (nmA_one _) ?_
  rw [World.setRow_alloc_new]
  simp only [Act.put]
  have HX := Lib.hid (RN.new u4 (lb m))
  have HG7 : Hid (g6 < u4.heap.size) := World.rowIs.lt HE.out
  have HE : Hid (RN (u4.alloc (.cells (nmA (lb m)) 50)) g6 (lb (kE k))) := World.rowIs.alloc HE.out _
  have HG8 : Hid (w.heap.size ≤ u4.heap.size) := HB.out.size
  have HB : Hid (Below w.heap.size w (u4.alloc (.cells (nmA (lb m)) 50))) := HB.out.alloc HB.out.size _
  generalize u4.alloc (.cells (nmA (lb m)) 50) = w6 at HE HX HB ⊢
  generalize u4.heap.size = g7 at HX HG7 HG8 ⊢
  have l7 := lb_lt m 7
  have HCl : Hid (∀ i, i < 8 → (if i = 7 then lb m 7 % 2147483648 else lb m i) = lb (m % 2 ^ 255) i) := fun i hi => ux_words HUl.out i hi
  have x7 := HX.out.at_ 7 (lb m 7) (by decide) rfl
  have y7 := World.rowIs.frozen HX.out 7
  have e2 : bits .and .u32 ((lb m 7 : Nat) : Int) 2147483647 = ((lb m 7 % 2147483648 : Nat) : Int) := by rw [show (2147483647 : Int) = ((2147483647 : Nat) : Int) from rfl, u32_and_nat _ _ l7 (by decide), and_top]
  have HX2 : Hid (∀ v, RN (w6.setCell ⟨g7, 7, none⟩ (.int .u32 (v : Nat))) g7 (fun i => if i = 7 then v else lb m i)) := fun v => HX.out.set 7 v
  generalize lb m 7 % 2147483648 = B7 at e2 HCl
  generalize lb m 7 = L7 at x7 e2 l7
  go_upto_region 8 with (fail)
  have HM : Hid (Env 50 w (w6.setCell ⟨g7, 7, none⟩ (.int .u32 (B7 : Nat))) (w6.setCell ⟨g7, 7, none⟩ (.int .u32 (B7 : Nat))).heap.size [(g7, m % 2 ^ 255), (g6, kE k)]) := by
    have hx : RN (w6.setCell ⟨g7, 7, none⟩ (.int .u32 (B7 : Nat))) g7 (lb (m % 2 ^ 255)) := (HX2.out B7).congr HCl.out
    have he : RN (w6.setCell ⟨g7, 7, none⟩ (.int .u32 (B7 : Nat))) g6 (lb (kE k)) := HE.out.other (a := ⟨g7, 7, none⟩) (Nat.ne_of_lt HG7.out) _
    have hb : Below w.heap.size w (w6.setCell ⟨g7, 7, none⟩ (.int .u32 (B7 : Nat))) := HB.out.setCell (by simpa using HG8.out) _
    have hs : Env 50 w (w6.setCell ⟨g7, 7, none⟩ (.int .u32 (B7 : Nat))) w.heap.size [] := ⟨hb, hb.size, Nat.le_refl _, fun k g x h => by simp at h, fun j k g x y h => by simp at h⟩
    exact (((hs.cons HGE.out he.heap).cons HG7.out hx.heap).grow (World.rowIs.lt hx) (Nat.le_refl _))
  clear x7 y7 e2 l7 HCl HX2 HX HE HB HG7 HG8 HGE
  generalize (w6.setCell ⟨g7, 7, none⟩ (.int .u32 (B7 : Nat))).heap.size = nn at HM
  generalize w6.setCell ⟨g7, 7, none⟩ (.int .u32 (B7 : Nat)) = w7 at HM ⊢
  obtain ⟨X, hX⟩ : ∃ X, m % 2 ^ 255 = X := ⟨_, rfl⟩
  have hXl : X < 2 ^ 255 := by rw [← hX]; exact Nat.mod_lt _ (by decide)
  have HXB : Hid (X < B8) := Nat.lt_trans hXl (by decide)
  have HUX : Hid ((uX u).val = X % pX) := by show _ = _; rw [← hX]; exact HUX.out
  have HX2 : Hid (¬ X < pX → (X + B8 - pX) % B8 = X % pX) := fun h => by
    have e1 : X % pX = X - pX := by
      rw [Nat.mod_eq_sub_mod (by omega), Nat.mod_eq_of_lt]
      have : (2 : Nat) ^ 255 < pX + pX := by decide
      omega
    rw [e1, show X + B8 - pX = (X - pX) + B8 by omega, Nat.add_mod_right, Nat.mod_eq_of_lt (by have := HXB.out; omega)]
  rw [hX] at HM
  obtain ⟨E, hE⟩ : ∃ E, kE k = E := ⟨_, rfl⟩
  rw [hE] at HM
  have HEE := Lib.hid hE
  obtain ⟨R, hR⟩ : ∃ R, (uX u).val = R := ⟨_, rfl⟩
  rw [hR] at HUX
  have HMo := Lib.hid (fun v : World => modulus_any 2 v)
  rw [pX_md] at HMo
  have HLe := Lib.hid (fun v : World => less_any X pX v HXB.out (by decide))
  have HMi := Lib.hid (fun v : World => minus_any X pX v HXB.out (by decide))
  have HIn := Lib.hid (fun v : World => into_any 2 (uX u).val v (by rw [pX_md]; exact (uX u).isLt))
  rw [pX_md] at HIn
  have HLa := Lib.hid (fun v : World => ladder_any (uX u) E v)
  obtain ⟨F, hF⟩ : ∃ F, Ec.ladU 121665 (uX u) E = F := ⟨_, rfl⟩
  have HU0 : (sF k u).val = F.val := congrArg Fin.val (sF_eq k u hE hF)
  rw [hF] at HLa
  have HUB0 : F.val < 2 ^ 256 := Nat.lt_trans F.isLt (by decide)
  obtain ⟨U, hU⟩ : ∃ U, F.val = U := ⟨_, rfl⟩
  rw [hU] at HU0 HUB0
  have HU := Lib.hid HU0
  have HUB := Lib.hid HUB0
  rw [hU, hR] at HLa
  rw [hR] at HIn
  generalize jm pX R = jx at HIn HLa
  have HPu := Lib.hid (fun v : World => put_any U v)
  have HTr := Lib.hid (fun v : World => turned_any (t32 U) v (t32_size U))
  clear hX hE hXl hR hU hF HU0 HUB0
  have hSd := HM.out.drew
  clear HM
  refine wp_region_held (S := fun u => Env 50 w u nn [(g7, X), (g6, E)]) (by kernel_rfl) ?_
  change wpAnyH _ _ _ _ _ _ _ _ w7.drew
  have HS := Lib.hid hSd
  clear hSd
  generalize w7.drew = wd at HS ⊢
  refine takeH (i := 0) (some 36) (.agg (nmA (lb X))) rfl rfl rfl (by kernel_rfl) (by kernel_rfl) (by kernel_rfl) (fun _ _ _ h => h) (load_row 50 _ rfl g7 (by kernel_rfl) 50 (nmA (lb X)) (0, 0) _ Try.underlying50 rfl (by kernel_rfl) (fun w h => h.get 0 rfl)) HS.out ?_
  simp only [Act.put, List.setIfInBounds_toArray, List.set_cons_zero, List.set_cons_succ]
  refine wpAnyH_ready (rs := [1]) (by kernel_rfl) (by simp) ?_
  refine callH (some 37) rfl rfl rfl 22 _ _ rfl (fun _ _ => by go_simp) #[.int .i64 2] (by kernel_rfl) ?_ AllReadyH.nil
  refine (HMo.out wd).mono ?_
  rintro e u5 ⟨rfl, hb⟩
  have HS := Lib.hid (HS.out.on hb)
  refine ⟨_, rfl, HS.out, ?_⟩
  clear hb
  simp only [Act.put, List.setIfInBounds_toArray, List.set_cons_zero, List.set_cons_succ]
  refine wpAnyH_ready (rs := [2]) (by kernel_rfl) (by simp) ?_
  refine callH (some 38) rfl rfl rfl 21 _ _ rfl (fun _ _ => by go_simp) #[nmV X, nmV pX] (by kernel_rfl) ?_ AllReadyH.nil
  refine (HLe.out u5).mono ?_
  rintro e u6 ⟨rfl, hb⟩
  have HS := Lib.hid (HS.out.on hb)
  refine ⟨_, rfl, HS.out, ?_⟩
  clear hb
  simp only [Act.put, List.setIfInBounds_toArray, List.set_cons_zero, List.set_cons_succ]
  refine takeH (i := 3) (some 39) (.bool (!(decide (X < pX)))) rfl rfl rfl (by kernel_rfl) (by kernel_rfl) (by kernel_rfl) (fun _ _ _ h => h) (fun w _ => by go_simp) HS.out ?_
  simp only [Act.put, List.setIfInBounds_toArray, List.set_cons_zero, List.set_cons_succ]
  refine wpAnyH_done (by kernel_rfl) ?_ _
  have HM := HS
  clear HS
  generalize u6 = w8 at HM ⊢
  by_cases hlt : X < pX
  · obtain rfl : X = R := (Nat.mod_eq_of_lt hlt).symm.trans HUX.out.symm
    rw [decide_eq_true hlt]
    clear hlt HX2
    go_upto_region 10 with (fail)
    have hSd := HM.out.drew
    clear HM
    refine wp_region_held (S := fun u => Env 50 w u nn [(g7, X), (g6, E)]) (by kernel_rfl) ?_
    change wpAnyH _ _ _ _ _ _ _ _ w8.drew
    have HS := Lib.hid hSd
    clear hSd
    generalize w8.drew = wd at HS ⊢
    refine takeH (i := 0) (some 43) (.agg (nmA (lb E))) rfl rfl rfl (by kernel_rfl) (by kernel_rfl) (by kernel_rfl) (fun _ _ _ h => h) (load_row 50 _ rfl g6 (by kernel_rfl) 50 (nmA (lb E)) (0, 0) _ Try.underlying50 rfl (by kernel_rfl) (fun w h => h.get 1 rfl)) HS.out ?_
    simp only [Act.put, List.setIfInBounds_toArray, List.set_cons_zero, List.set_cons_succ]
    refine takeH (i := 1) (some 44) (.agg (nmA (lb X))) rfl rfl rfl (by kernel_rfl) (by kernel_rfl) (by kernel_rfl) (fun _ _ _ h => h) (load_row 50 _ rfl g7 (by kernel_rfl) 50 (nmA (lb X)) (0, 0) _ Try.underlying50 rfl (by kernel_rfl) (fun w h => h.get 0 rfl)) HS.out ?_
    simp only [Act.put, List.setIfInBounds_toArray, List.set_cons_zero, List.set_cons_succ]
    refine wpAnyH_ready (rs := [2]) (by kernel_rfl) (by simp) ?_
    refine callH (some 45) rfl rfl rfl 26 _ _ rfl (fun _ _ => by go_simp) #[.int .i64 2, nmV X] (by kernel_rfl) ?_ AllReadyH.nil
    refine (HIn.out wd).mono ?_
    rintro e u8 ⟨rfl, hb⟩
    have HS := Lib.hid (HS.out.on hb)
    refine ⟨_, rfl, HS.out, ?_⟩
    clear hb
    simp only [Act.put, List.setIfInBounds_toArray, List.set_cons_zero, List.set_cons_succ]
    refine wpAnyH_ready (rs := [3]) (by kernel_rfl) (by simp) ?_
    refine callH (some 46) rfl rfl rfl 25 _ _ rfl (fun _ _ => by go_simp) #[nmV E, nmV jx] (by kernel_rfl) ?_ AllReadyH.nil
    refine (HLa.out u8).mono ?_
    rintro e u9 ⟨rfl, hb⟩
    have HS := Lib.hid (HS.out.on hb)
    refine ⟨_, rfl, HS.out, ?_⟩
    clear hb
    simp only [Act.put, List.setIfInBounds_toArray, List.set_cons_zero, List.set_cons_succ]
    refine wpAnyH_ready (rs := [4]) (by kernel_rfl) (by simp) ?_
    refine callH (some 47) rfl rfl rfl 24 _ _ rfl (fun _ _ => by go_simp) #[nmV U] (by kernel_rfl) ?_ AllReadyH.nil
    refine (HPu.out u9).mono ?_
    rintro e u10 ⟨rfl, hb⟩
    have HS := Lib.hid (HS.out.on hb)
    refine ⟨_, rfl, HS.out, ?_⟩
    clear hb
    simp only [Act.put, List.setIfInBounds_toArray, List.set_cons_zero, List.set_cons_succ]
    refine takeH (i := 5) (some 8) (.string (t32 U)) rfl rfl rfl (by kernel_rfl) (by kernel_rfl) (by kernel_rfl) (fun _ _ _ h => h) (fun w _ => by go_simp) HS.out ?_
    simp only [Act.put, List.setIfInBounds_toArray, List.set_cons_zero, List.set_cons_succ]
    refine wpAnyH_done (by kernel_rfl) ?_ _
    have HM := HS
    clear HS
    generalize u10 = wz at HM ⊢
    go_upto_region 11 with (fail)
    obtain ⟨M, hM, hMc, hmk0⟩ := Lw.zeros 32 (by decide)
    have hmk : (Instr.makeSlice 32 (.int .i64 32) (.int .i64 32)).run Try.prog wz = .ok (.slice (some ⟨wz.heap.size, 0, none⟩) 32 32) (wz.alloc (.cells M 5)) := hmk0 wz
    have hct := (Lw.rowB_new wz M 32 hM hMc).text 0 32 32 (by decide)
    have HB : Hid (Below w.heap.size w (wz.alloc (.cells M 5))) := HM.out.below.alloc HM.out.below.size _
    clear hmk0 hM hMc HM
    by_cases hU0 : U = 0
    · have hq : ((t32 U).toList == (Lw.pieceS (fun _ => 0) 0 32).toList) = true := by rw [hU0, ← t32_zero]; exact beq_self_eq_true _
      have HV : Hid (shS k u = ⟨#[]⟩ ∧ shE k u = 1001) := sh_zero hz hz2 (HU.out.trans hU0)
      clear hU0 HU
      generalize t32 U = TU at *
      go_wp2_with (fail)
      go_ret2
      obtain ⟨v1, v2⟩ := HV.out
      rw [v1, v2]
      exact ⟨rfl, HB.out⟩
    · have hq : ((t32 U).toList == (Lw.pieceS (fun _ => 0) 0 32).toList) = false := by
        rw [← t32_zero]
        exact t32_differ HUB.out hU0
      have HV : Hid (shS k u = rv (t32 U) ∧ shE k u = 0) := sh_fine hz hz2 HU.out hU0
      clear hU0 HU
      generalize t32 U = TU at *
      go_wp2_with (first | (go_at_call 20; refine (HTr.out _).mono ?_; rintro e uz ⟨rfl, hb⟩))
      go_ret2
      obtain ⟨v1, v2⟩ := HV.out
      rw [v1, v2]
      exact ⟨rfl, Lw.go_on HB.out hb⟩
  · have hXR : (X + B8 - pX) % B8 = R := by rw [HX2.out hlt, HUX.out]
    rw [hXR] at HMi
    rw [decide_eq_false hlt]
    clear hlt HX2 hXR
    go_upto_region 9 with (fail)
    have HS := Lib.hid HM.out.drew
    clear HM
    refine wp_region_any (by kernel_rfl) ?_
    change wpAny _ _ _ _ _ _ _ w8.drew
    generalize w8.drew = wd at HS ⊢
    refine Lw.meetA (fun (_ : Unit) a => (a.put (some 40) (.agg (nmA (lb X)))).put (some 41) (nmV pX)) #[true, true, false, false] 2 (fun _ W => Env 50 w W nn [(g7, X), (g6, E)]) ?_ (fun key0 => ?_)
    · rintro _ W hS
      simp only [Act.put, List.setIfInBounds_toArray, List.set_cons_zero, List.set_cons_succ]
      have HS := Lib.hid hS
      clear hS
      refine wpAny_ready (rs := [2]) (by kernel_rfl) (by simp) ?_
      refine ready_callTo (some 42) rfl rfl rfl 23 _ _ rfl (fun _ _ => by go_simp) #[nmV X, nmV pX] (by kernel_rfl) ?_ AllReady.nil
      refine (HMi.out _).mono ?_
      rintro e u7 ⟨rfl, hb⟩
      have HS := Lib.hid (HS.out.on hb)
      refine ⟨_, rfl, ?_⟩
      clear hb
      simp only [Act.put, List.setIfInBounds_toArray, List.set_cons_zero, List.set_cons_succ]
      have hput := HS.out.put 0 (x := X) rfl R
      refine wpAny_ready (rs := [3]) (by kernel_rfl) (by simp) ?_
      refine ready_storeRow rfl rfl rfl 50 _ _ rfl g7 (nmA (lb R)) (by kernel_rfl) (by kernel_rfl) 50 _ (HS.out.get 0 rfl) (by kernel_rfl) (by rw [nmA_size, nmA_size]) (nmA_one _) ?_ AllReady.nil
      simp only [Act.put, List.setIfInBounds_toArray, List.set_cons_zero, List.set_cons_succ]
      refine wpAny_done (by kernel_rfl) ?_ _
      have HM : Hid (Env 50 w (u7.setRow g7 (nmA (lb R))) nn [(g7, R), (g6, E)]) := hput
      clear hput HS
      generalize u7.setRow g7 (nmA (lb R)) = w9 at HM ⊢
      go_upto_region 10 with (fail)
      have hSd := HM.out.drew
      clear HM
      refine wp_region_held (S := fun u => Env 50 w u nn [(g7, R), (g6, E)]) (by kernel_rfl) ?_
      change wpAnyH _ _ _ _ _ _ _ _ w9.drew
      have HS := Lib.hid hSd
      clear hSd
      generalize w9.drew = wd at HS ⊢
      refine takeH (i := 0) (some 43) (.agg (nmA (lb E))) rfl rfl rfl (by kernel_rfl) (by kernel_rfl) (by kernel_rfl) (fun _ _ _ h => h) (load_row 50 _ rfl g6 (by kernel_rfl) 50 (nmA (lb E)) (0, 0) _ Try.underlying50 rfl (by kernel_rfl) (fun w h => h.get 1 rfl)) HS.out ?_
      simp only [Act.put, List.setIfInBounds_toArray, List.set_cons_zero, List.set_cons_succ]
      refine takeH (i := 1) (some 44) (.agg (nmA (lb R))) rfl rfl rfl (by kernel_rfl) (by kernel_rfl) (by kernel_rfl) (fun _ _ _ h => h) (load_row 50 _ rfl g7 (by kernel_rfl) 50 (nmA (lb R)) (0, 0) _ Try.underlying50 rfl (by kernel_rfl) (fun w h => h.get 0 rfl)) HS.out ?_
      simp only [Act.put, List.setIfInBounds_toArray, List.set_cons_zero, List.set_cons_succ]
      refine wpAnyH_ready (rs := [2]) (by kernel_rfl) (by simp) ?_
      refine callH (some 45) rfl rfl rfl 26 _ _ rfl (fun _ _ => by go_simp) #[.int .i64 2, nmV R] (by kernel_rfl) ?_ AllReadyH.nil
      refine (HIn.out wd).mono ?_
      rintro e u8 ⟨rfl, hb⟩
      have HS := Lib.hid (HS.out.on hb)
      refine ⟨_, rfl, HS.out, ?_⟩
      clear hb
      simp only [Act.put, List.setIfInBounds_toArray, List.set_cons_zero, List.set_cons_succ]
      refine wpAnyH_ready (rs := [3]) (by kernel_rfl) (by simp) ?_
      refine callH (some 46) rfl rfl rfl 25 _ _ rfl (fun _ _ => by go_simp) #[nmV E, nmV jx] (by kernel_rfl) ?_ AllReadyH.nil
      refine (HLa.out u8).mono ?_
      rintro e u9 ⟨rfl, hb⟩
      have HS := Lib.hid (HS.out.on hb)
      refine ⟨_, rfl, HS.out, ?_⟩
      clear hb
      simp only [Act.put, List.setIfInBounds_toArray, List.set_cons_zero, List.set_cons_succ]
      refine wpAnyH_ready (rs := [4]) (by kernel_rfl) (by simp) ?_
      refine callH (some 47) rfl rfl rfl 24 _ _ rfl (fun _ _ => by go_simp) #[nmV U] (by kernel_rfl) ?_ AllReadyH.nil
      refine (HPu.out u9).mono ?_
      rintro e u10 ⟨rfl, hb⟩
      have HS := Lib.hid (HS.out.on hb)
      refine ⟨_, rfl, HS.out, ?_⟩
      clear hb
      simp only [Act.put, List.setIfInBounds_toArray, List.set_cons_zero, List.set_cons_succ]
      refine takeH (i := 5) (some 8) (.string (t32 U)) rfl rfl rfl (by kernel_rfl) (by kernel_rfl) (by kernel_rfl) (fun _ _ _ h => h) (fun w _ => by go_simp) HS.out ?_
      simp only [Act.put, List.setIfInBounds_toArray, List.set_cons_zero, List.set_cons_succ]
      refine wpAnyH_done (by kernel_rfl) ?_ _
      have HM := HS
      clear HS
      generalize u10 = wz at HM ⊢
      go_upto_region 11 with (fail)
      obtain ⟨M, hM, hMc, hmk0⟩ := Lw.zeros 32 (by decide)
      have hmk : (Instr.makeSlice 32 (.int .i64 32) (.int .i64 32)).run Try.prog wz = .ok (.slice (some ⟨wz.heap.size, 0, none⟩) 32 32) (wz.alloc (.cells M 5)) := hmk0 wz
      have hct := (Lw.rowB_new wz M 32 hM hMc).text 0 32 32 (by decide)
      have HB : Hid (Below w.heap.size w (wz.alloc (.cells M 5))) := HM.out.below.alloc HM.out.below.size _
      clear hmk0 hM hMc HM
      by_cases hU0 : U = 0
      · have hq : ((t32 U).toList == (Lw.pieceS (fun _ => 0) 0 32).toList) = true := by rw [hU0, ← t32_zero]; exact beq_self_eq_true _
        have HV : Hid (shS k u = ⟨#[]⟩ ∧ shE k u = 1001) := sh_zero hz hz2 (HU.out.trans hU0)
        clear hU0 HU
        generalize t32 U = TU at *
        go_wp2_with (fail)
        go_ret2
        obtain ⟨v1, v2⟩ := HV.out
        rw [v1, v2]
        exact ⟨rfl, HB.out⟩
      · have hq : ((t32 U).toList == (Lw.pieceS (fun _ => 0) 0 32).toList) = false := by
          rw [← t32_zero]
          exact t32_differ HUB.out hU0
        have HV : Hid (shS k u = rv (t32 U) ∧ shE k u = 0) := sh_fine hz hz2 HU.out hU0
        clear hU0 HU
        generalize t32 U = TU at *
        go_wp2_with (first | (go_at_call 20; refine (HTr.out _).mono ?_; rintro e uz ⟨rfl, hb⟩))
        go_ret2
        obtain ⟨v1, v2⟩ := HV.out
        rw [v1, v2]
        exact ⟨rfl, Lw.go_on HB.out hb⟩
    · simp only [Act.put, List.setIfInBounds_toArray, List.set_cons_zero, List.set_cons_succ] at key0
      have key := Lib.hid key0
      clear key0
      refine wpAny_ready (rs := [0, 1]) (by kernel_rfl) (by simp) ?_
      refine ready_loadRow (some 40) rfl rfl rfl 50 _ rfl g7 (by kernel_rfl) 50 (nmA (lb X)) (0, 0) _ (HS.out.get 0 rfl) Try.underlying50 rfl (by kernel_rfl) ?_ (ready_callTo (some 41) rfl rfl rfl 22 _ _ rfl (fun _ _ => by go_simp) #[.int .i64 2] (by kernel_rfl) ?_ AllReady.nil)
      · simp only [Act.put, List.setIfInBounds_toArray, List.set_cons_zero, List.set_cons_succ]
        refine wpAny_ready (rs := [1]) (by kernel_rfl) (by simp) ?_
        refine ready_callTo (some 41) rfl rfl rfl 22 _ _ rfl (fun _ _ => by go_simp) #[.int .i64 2] (by kernel_rfl) ?_ AllReady.nil
        refine (HMo.out wd).mono ?_
        rintro e u5 ⟨rfl, hb⟩
        have HS := Lib.hid (HS.out.on hb)
        refine ⟨_, rfl, ?_⟩
        clear hb
        simp only [Act.put, List.setIfInBounds_toArray, List.set_cons_zero, List.set_cons_succ]
        exact key.out () _ HS.out
      · refine (HMo.out wd).mono ?_
        rintro e u5 ⟨rfl, hb⟩
        have HS := Lib.hid (HS.out.on hb)
        refine ⟨_, rfl, ?_⟩
        clear hb
        simp only [Act.put, List.setIfInBounds_toArray, List.set_cons_zero, List.set_cons_succ]
        refine wpAny_ready (rs := [0]) (by kernel_rfl) (by simp) ?_
        refine ready_loadRow (some 40) rfl rfl rfl 50 _ rfl g7 (by kernel_rfl) 50 (nmA (lb X)) (0, 0) _ (HS.out.get 0 rfl) Try.underlying50 rfl (by kernel_rfl) ?_ AllReady.nil
        simp only [Act.put, List.setIfInBounds_toArray, List.set_cons_zero, List.set_cons_succ]
        exact key.out () _ HS.out
set_option maxHeartbeats 1000000 in
theorem shared_no1 (k u : ByteArray) (w : World) (h1 : ¬ k.size = 32) : Calls Try.prog 8 #[.string k, .string u] w fun e w' => e = .returned (.tuple #[.string ⟨#[]⟩, .int .i64 1000]) ∧ Below w.heap.size w w' := by
  have e1 : ((k.size : Int) != 32) = true := bne_iff_ne.2 (by omega)
  have e2 : ((k.size : Int) = 32) = False := eq_false (by omega)
  clear h1
  go_enter Try.func8, Try.ntmps8
  go_wp2_with (fail)
  go_ret2
  exact ⟨rfl, Below.refl _ _⟩
set_option maxHeartbeats 1000000 in
theorem shared_no2 (k u : ByteArray) (w : World) (h1 : k.size = 32) (h2 : ¬ u.size = 32) : Calls Try.prog 8 #[.string k, .string u] w fun e w' => e = .returned (.tuple #[.string ⟨#[]⟩, .int .i64 1000]) ∧ Below w.heap.size w w' := by
  have e0 : (k.size : Int) = 32 := by omega
  have e1 : ((u.size : Int) != 32) = true := bne_iff_ne.2 (by omega)
  have e2 : ((u.size : Int) = 32) = False := eq_false (by omega)
  clear h1 h2
  go_enter Try.func8, Try.ntmps8
  go_wp2_with (fail)
  go_ret2
  exact ⟨rfl, Below.refl _ _⟩
/-- The document's X25519 at every input. -/
theorem rshared_any (k u : ByteArray) (w : World) : Calls Try.prog 8 #[.string k, .string u] w fun e w' => e = .returned (.tuple #[.string (shS k u), .int .i64 (shE k u)]) ∧ Below w.heap.size w w' := by
  by_cases hk : k.size = 32
  · by_cases hu : u.size = 32
    · exact shared_ok k u w hk hu
    · have e : shOk k u = false := by unfold shOk; rw [show (u.size == 32) = false by simpa using hu, Bool.and_false]
      unfold shS shE
      rw [e]
      exact shared_no2 k u w hk hu
  · have e : shOk k u = false := by unfold shOk; rw [show (k.size == 32) = false by simpa using hk, Bool.false_and]
    unfold shS shE
    rw [e]
    exact shared_no1 k u w hk
end Go.Proofs.Xu
