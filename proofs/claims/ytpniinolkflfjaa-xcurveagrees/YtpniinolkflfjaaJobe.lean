/-
  The developers' numbers: what a word taken out leaves, modulo the prime.
-/
import Derived.Test.YtpniinolkflfjaaJobd
namespace Go.Proofs.Nd
open Go.RowKit
open Go.Proofs.Nt
open Go.Proofs.Nu (nmL nmA nmV lt8 nmA_get nmA_congr nmA_one nmA_size results_row_slot B8 b8 nv8 nmA_lb nv_lt8 md mP mN mX md_lt)
theorem nv_swap {d : Nat → Nat} {k v : Nat} : ∀ n, k < n → nv (fun i => if i = k then v else d i) n + d k * 2 ^ (32 * k) = nv d n + v * 2 ^ (32 * k)
  | 0, h => absurd h (by omega)
  | n + 1, h => by
    show nv (fun i => if i = k then v else d i) n + (if n = k then v else d n) * 2 ^ (32 * n) + d k * 2 ^ (32 * k) = nv d n + d n * 2 ^ (32 * n) + v * 2 ^ (32 * k)
    by_cases e : n = k
    · subst e
      rw [if_pos rfl, nv_congr n (e := d) fun i hi => if_neg (by omega)]; omega
    · have ih := nv_swap (d := d) (k := k) (v := v) n (by omega)
      rw [if_neg e]; omega
/-- A prime, and what 2^256 is modulo it. -/
structure Good (p v : Nat) : Prop where
  lt : p < B8
  one : 1 < p
  rest : ∃ q, B8 = v + p * q
  small : v * 4294967296 ≤ B8
theorem Good.v_lt {p v : Nat} (h : Good p v) : v < B8 := by
  have := h.small
  have hB : 0 < B8 := by decide
  generalize B8 = K at *
  omega
/-- What a word taken out leaves. -/
def Fo (p o : Nat) (t t' : Nat → Nat) : Prop := (∀ i, t' i < 4294967296) ∧ t' (o + 8) = 0 ∧ (∀ i, o + 9 ≤ i → t' i = t i) ∧ nv t' 16 % p = nv t 16 % p
theorem two_o (o : Nat) : 2 ^ (32 * (o + 8)) = B8 * 2 ^ (32 * o) := by
  rw [b8, ← Nat.pow_add]; congr 1; omega
theorem mod_back {p a b k : Nat} (h : b = a + p * k) : a % p = b % p := by rw [h, Nat.add_mul_mod_self_left]
/-- The value behind the first step. -/
theorem fo1_val {p v o : Nat} {t : Nat → Nat} (hG : Good p v) (ho : o < 8) : ∃ k, nv t 16 = nv (fo1 t o v) 16 + p * k := by
  obtain ⟨q, hq⟩ := hG.rest
  have hv1 := wa_val (t (o + 8)) (lb v) t o 16 (by omega)
  rw [nv8 hG.v_lt] at hv1
  have hs1 := nv_swap (d := wa (t (o + 8)) (lb v) t o) (k := o + 8) (v := wc (t (o + 8)) (lb v) t o) 16 (by omega)
  rw [wa_off (o + 8) (Nat.le_refl _)] at hs1
  change nv (fo1 t o v) 16 + _ = _ at hs1
  rw [two_o] at hv1 hs1
  refine ⟨t (o + 8) * q * 2 ^ (32 * o), ?_⟩
  generalize t (o + 8) = f at *
  generalize wc f (lb v) t o = c at *
  generalize nv (wa f (lb v) t o) 16 = A at *
  generalize nv (fo1 t o v) 16 = F at *
  generalize nv t 16 = X at *
  have e1 : F + f * (B8 * 2 ^ (32 * o)) = X + f * v * 2 ^ (32 * o) := by omega
  rw [hq, Nat.add_mul, Nat.mul_add, ← Nat.mul_assoc] at e1
  have e2 : p * (f * q * 2 ^ (32 * o)) = f * (p * q * 2 ^ (32 * o)) := by
    rw [← Nat.mul_assoc, ← Nat.mul_assoc, ← Nat.mul_assoc, ← Nat.mul_assoc, Nat.mul_comm p f]
  rw [e2]
  omega
/-- A carry is 1, and a second one is not. -/
theorem carry_one {f v s a c a2 c2 K : Nat} (hf : f < 4294967296) (hv : v * 4294967296 ≤ K) (hs : s < K) (h1 : a + c * K = f * v + s) (h2 : a2 + c2 * K = 1 * v + a) (h0 : ¬ c = 0) : c = 1 ∧ c2 = 0 := by
  have e1 : f * v + v ≤ v * 4294967296 := by
    have := Nat.mul_le_mul_left v (show f + 1 ≤ 4294967296 by omega)
    rw [Nat.mul_add, Nat.mul_one, Nat.mul_comm v f] at this
    exact this
  have hc : c = 1 := by
    rcases Nat.lt_or_ge c 2 with h | h
    · omega
    · have := Nat.mul_le_mul_right K h; omega
  subst hc
  refine ⟨rfl, ?_⟩
  rcases Nat.eq_zero_or_pos c2 with h | h
  · exact h
  · have := Nat.mul_le_mul_right K h; omega
theorem fo_one {p v o : Nat} {t : Nat → Nat} (hG : Good p v) (ho : o < 8) (ht : ∀ i, t i < 4294967296) (hc : wc (t (o + 8)) (lb v) t o = 0) : Fo p o t (fo1 t o v) := by
  obtain ⟨k, hk⟩ := fo1_val (t := t) hG ho
  refine ⟨fo1_lt ht, ?_, fun i hi => ?_, mod_back hk⟩
  · unfold fo1; rw [if_pos rfl]; exact hc
  · unfold fo1; rw [if_neg (by omega)]; exact wa_off i (by omega)
theorem fo_two {p v o : Nat} {t : Nat → Nat} (hG : Good p v) (ho : o < 8) (ht : ∀ i, t i < 4294967296) (hc : ¬ wc (t (o + 8)) (lb v) t o = 0) : Fo p o t (wa 1 (lb v) (fo2 t o v) o) := by
  obtain ⟨k, hk⟩ := fo1_val (t := t) hG ho
  obtain ⟨q, hq⟩ := hG.rest
  have a1 := ad_val (t (o + 8)) (lb v) (fun i => t (o + i)) 8
  have a2 := ad_val 1 (lb v) (fun i => fo2 t o v (o + i)) 8
  have es : nv (fun i => fo2 t o v (o + i)) 8 = nv (ad (t (o + 8)) (lb v) fun i => t (o + i)) 8 := nv_congr 8 fun i hi => by
    show fo2 t o v (o + i) = _
    unfold fo2 fo1
    rw [if_neg (by omega), if_neg (by omega)]
    show wj o 8 _ t (o + i) = _
    unfold wj
    rw [if_pos (by omega), Nat.add_sub_cancel_left]
  have hs : nv (fun i => t (o + i)) 8 < B8 := nv_lt8 fun i => ht _
  rw [es] at a2
  rw [← b8, nv8 hG.v_lt] at a1 a2
  obtain ⟨c1, c2⟩ := carry_one (ht (o + 8)) hG.small hs a1 a2 hc
  have hv2 := wa_val 1 (lb v) (fo2 t o v) o 16 (by omega)
  rw [nv8 hG.v_lt, show wc 1 (lb v) (fo2 t o v) o = 0 from c2, Nat.zero_mul, Nat.add_zero, Nat.one_mul] at hv2
  have hs2 := nv_swap (d := fo1 t o v) (k := o + 8) (v := 0) 16 (by omega)
  rw [show fo1 t o v (o + 8) = 1 from (if_pos rfl).trans c1, Nat.zero_mul, Nat.add_zero, two_o, Nat.one_mul] at hs2
  change nv (fo2 t o v) 16 + _ = _ at hs2
  refine ⟨wa_lt (fo2_lt ht), ?_, fun i hi => ?_, mod_back (k := k + q * 2 ^ (32 * o)) ?_⟩
  · rw [wa_off (o + 8) (Nat.le_refl _)]; unfold fo2; exact if_pos rfl
  · rw [wa_off i (by omega)]; unfold fo2; rw [if_neg (by omega)]; unfold fo1; rw [if_neg (by omega)]; exact wa_off i (by omega)
  · rw [hk, Nat.mul_add, hv2]
    rw [hq, Nat.add_mul] at hs2
    rw [← Nat.mul_assoc p q]
    generalize p * q * 2 ^ (32 * o) = A at *
    generalize v * 2 ^ (32 * o) = A2 at *
    omega
theorem fold_any (p v g o : Nat) (t : Nat → Nat) (w : World) (hG : Good p v) (H : RW w g t) (ho : o < 8) (ht : ∀ i, t i < 4294967296) :
    Calls Try.prog 52 #[fdV p v, .pointer (some ⟨g, 0, none⟩), .int .i64 (o : Nat)] w fun e u => e = .returned (.tuple #[]) ∧ But g w u ∧ ∃ t', Fo p o t t' ∧ RW u g t' :=
  fold_raw p v g o t (Fo p o t) w H ho ht (fo_one hG ho ht) (fo_two hG ho ht)
end Go.Proofs.Nd
/-
  The developers' numbers: a number modulo the prime.
-/
namespace Go.Proofs.Nd
open Go.RowKit
open Go.Proofs.Im (wpList_box_to words_heap words_one run_index_row)
open Go.Proofs.Sha (wordCells wordCells_get wordCells_size rowIs_of wpList_alloc_to wpList_build_to)
open Go.Proofs.Nt
open Go.Proofs.Nu (nmL nmA nmV lt8 nmA_get nmA_congr nmA_one nmA_size results_row_slot B8 b8 nv8 nmA_lb nv_lt8 md mP mN mX md_lt)
theorem minus_ex (x y : Nat) (hx : x < B8) (hy : y < B8) : ∃ D, D < B8 ∧ (y ≤ x → D = x - y) ∧ ∀ w : World, Calls Try.prog 49 #[nmV x, nmV y] w fun e w' => e = .returned (.tuple #[nmV D, .bool (decide (x < y))]) ∧ Below w.heap.size w w' := by
  refine ⟨(x + B8 - y) % B8, Nat.mod_lt _ (by decide), fun h => ?_, fun w => minus_any x y w hx hy⟩
  generalize B8 = K at *
  rw [show x + K - y = (x - y) + K by omega, Nat.add_mod_right, Nat.mod_eq_of_lt (by omega)]
/-- The number that lies in a block. -/
def numAt (w : World) (g : Nat) : Nat := match w.heap[g]? with
  | some (.cells A _ _) => nv (fun i => (intOf (A.getD i undef)).toNat) 8
  | _ => 0
theorem Nb.at_ {u : World} {g x : Nat} (h : Nb u g x) (hx : x < B8) : numAt u g = x := by
  unfold numAt
  rw [h]
  show nv _ 8 = x
  rw [nv_congr (e := lb x) 8 (fun i hi => ?_), nv8 hx]
  rw [Array.getD_eq_getD_getElem?, nmA_get (lb x) i hi]
  show ((lb x i : Nat) : Int).toNat = lb x i
  omega
set_option maxHeartbeats 2000000 in
set_option maxRecDepth 20000 in
theorem rest_any (p o n : Nat) (w : World) (hp : p < B8) (h0 : 0 < p) (hn : n < B8) : Calls Try.prog 40 #[fdV p o, nmV n] w fun e u => e = .returned (nmV (n % p)) ∧ Below w.heap.size w u := by
  have HMi := Lib.hid (fun x (hx : x < B8) => minus_ex x p hx hp)
  have HP := Lib.hid h0
  have HN0 := Lib.hid hn
  obtain ⟨R, hR⟩ : ∃ R, n % p = R := ⟨_, rfl⟩
  have HR := Lib.hid hR
  rw [hR]
  clear hp h0 hn hR
  go_enter Try.func40, Try.ntmps40
  go_upto_region 0 with (fail)
  apply wp_region_lit
  refine wpList_box_to rfl 40 _ rfl (fdA p o) (by kernel_rfl) w.heap.size rfl ?_
  refine wpList_box_to rfl 38 _ rfl (nmA (lb n)) (by kernel_rfl) (w.heap.size + 1) (by simp) ?_
  refine wpList_alloc_to rfl 38 rfl (nmA (lb 0)) (w.heap.size + 2) (by simp) alloc_n ?_
  simp only [Act.put, List.setIfInBounds_toArray, List.set_cons_zero, List.set_cons_succ]
  have HF := Lib.hid ((((Fd.new w p o).alloc (.cells (nmA (lb n)) 38))).alloc (.cells (nmA (lb 0)) 38))
  have HA := Lib.hid ((Nb.new (w.alloc (.cells (fdA p o) 40)) n).alloc (.cells (nmA (lb 0)) 38))
  have HS := Lib.hid (Nb.new ((w.alloc (.cells (fdA p o) 40)).alloc (.cells (nmA (lb n)) 38)) 0)
  have HB : Hid (Below w.heap.size w (((w.alloc (.cells (fdA p o) 40)).alloc (.cells (nmA (lb n)) 38)).alloc (.cells (nmA (lb 0)) 38))) := ((((Below.refl _ _).alloc (Nat.le_refl _) _).alloc (by simp) _).alloc (by simp; omega) _)
  rw [show (w.alloc (.cells (fdA p o) 40)).heap.size = w.heap.size + 1 by simp] at HA
  rw [show ((w.alloc (.cells (fdA p o) 40)).alloc (.cells (nmA (lb n)) 38)).heap.size = w.heap.size + 2 by simp] at HS
  generalize ((w.alloc (.cells (fdA p o) 40)).alloc (.cells (nmA (lb n)) 38)).alloc (.cells (nmA (lb 0)) 38) = w1 at HF HA HS HB ⊢
  generalize fdV p o = Fv
  generalize nmV n = Nv
  go_wp2_with (fail)
  go_loopw [6] (fun _ wx => ∃ x, Hid (x < B8 ∧ x % p = R) ∧ Hid (Fd wx w.heap.size p o) ∧ Hid (Nb wx (w.heap.size + 1) x) ∧ Hid (Nb wx (w.heap.size + 2) 0) ∧ Hid (Below w.heap.size w wx)) (fun _ wx => numAt wx (w.heap.size + 1))
  case atStart => exact ⟨n, ⟨HN0.out, HR.out⟩, HF, HA, HS, HB⟩
  case round =>
    clear HF HA HS HB
    obtain ⟨x, HX, HF, HA, HS, HB⟩ := hrel
    obtain ⟨D, hD1, hD2, hc⟩ := HMi.out x HX.out.1
    have HD := Lib.hid hD2
    have HDl := Lib.hid hD1
    have HC := Lib.hid hc
    have HM : Hid (numAt wr (w.heap.size + 1) = x) := HA.out.at_ HX.out.1
    clear hD1 hD2 hc
    go_upto_region 1 with (fail)
    apply wp_region_lit
    refine wpList_load_row rfl 38 _ rfl (w.heap.size + 1) (by kernel_rfl) 38 (nmA (lb x)) (0, 0) _ HA.out Try.underlying38 rfl (by kernel_rfl) ?_
    refine Lw.wpList_val rfl (.pointer (some ⟨w.heap.size, 0, none⟩)) wr (by go_simp) ?_
    simp only [Act.put, List.setIfInBounds_toArray, List.set_cons_zero, List.set_cons_succ]
    refine wpList_load_mid rfl 38 _ rfl w.heap.size 0 (by kernel_rfl) (nmA (lb p)).toList _ HF.out.prime Try.underlying38 rfl (by kernel_rfl) ?_
    simp only [Act.put, List.setIfInBounds_toArray, List.set_cons_zero, List.set_cons_succ]
    refine Lw.wpList_callTo (some 11) rfl rfl 49 _ _ rfl (fun _ _ => by go_simp) #[nmV x, nmV p] (by kernel_rfl) ?_
    refine (HC.out _).mono ?_
    rintro e u ⟨rfl, hb⟩
    refine ⟨_, rfl, ?_⟩
    have HF := Lib.hid (HF.out.on hb)
    have HA := Lib.hid (HA.out.on hb)
    have HS := Lib.hid (HS.out.on hb)
    have HB := Lib.hid (Lw.go_on HB.out hb)
    clear hb HC
    obtain ⟨l, hl⟩ : ∃ l, decide (x < p) = l := ⟨_, rfl⟩
    rw [hl]
    have HL := Lib.hid hl
    clear hl
    refine Lw.wpList_val rfl (.tuple #[nmV D, .bool l]) u (by go_simp) ?_
    refine Lw.wpList_val rfl (nmV D) u (by go_simp) ?_
    refine Lw.wpList_val rfl (.bool l) u (by go_simp) ?_
    refine wpList_alloc_to rfl 38 rfl (nmA (lb 0)) u.heap.size rfl alloc_n ?_
    simp only [Act.put, List.setIfInBounds_toArray, List.set_cons_zero, List.set_cons_succ]
    refine wpList_store_row rfl 38 _ _ rfl u.heap.size (nmA (lb D)) (by kernel_rfl) (by kernel_rfl) 38 _ (heap_alloc_last _ _) (by kernel_rfl) (by rw [nmA_size, nmA_size]) (nmA_one _) ?_
    rw [World.setRow_alloc_new]
    refine Lw.wpList_val rfl (.bool l) (u.alloc (.cells (nmA (lb D)) 38)) (by go_simp) ?_
    simp only [Act.put, List.setIfInBounds_toArray, List.set_cons_zero, List.set_cons_succ]
    have HY := Lib.hid (Nb.new u D)
    have HG : Hid (w.heap.size + 2 < u.heap.size) := HS.out.lt
    have HF := Lib.hid (HF.out.alloc (.cells (nmA (lb D)) 38))
    have HA := Lib.hid (HA.out.alloc (.cells (nmA (lb D)) 38))
    have HS := Lib.hid (HS.out.alloc (.cells (nmA (lb D)) 38))
    have HB : Hid (Below w.heap.size w (u.alloc (.cells (nmA (lb D)) 38))) := HB.out.alloc HB.out.size _
    generalize u.alloc (.cells (nmA (lb D)) 38) = w2 at HY HF HA HS HB ⊢
    generalize u.heap.size = gy at HY HG ⊢
    generalize nmV D = Dv
    generalize nmV p = Pv
    cases l
    · have HLe : Hid (p ≤ x) := by show _ ≤ _; have := of_decide_eq_false HL.out; omega
      go_upto_region 4 with (fail)
      apply wp_region_lit
      refine wpList_load_row rfl 38 _ rfl gy (by kernel_rfl) 38 (nmA (lb D)) (0, 0) _ HY.out Try.underlying38 rfl (by kernel_rfl) ?_
      refine wpList_store_row rfl 38 _ _ rfl (w.heap.size + 1) (nmA (lb D)) (by kernel_rfl) (by kernel_rfl) 38 _ HA.out (by kernel_rfl) (by rw [nmA_size, nmA_size]) (nmA_one _) ?_
      simp only [Act.put, List.setIfInBounds_toArray, List.set_cons_zero, List.set_cons_succ]
      have HF := Lib.hid (HF.out.far (nmA (lb D)) (show w.heap.size ≠ w.heap.size + 1 by omega))
      have HS := Lib.hid (HS.out.far (nmA (lb D)) (show w.heap.size + 2 ≠ w.heap.size + 1 by omega))
      have HB : Hid (Below w.heap.size w (w2.setRow (w.heap.size + 1) (nmA (lb D)))) := below_setRow HB.out (by omega) _
      have HA := Lib.hid (HA.out.put D)
      generalize w2.setRow (w.heap.size + 1) (nmA (lb D)) = w3 at HF HS HB HA ⊢
      generalize nmA (lb D) = Da
      generalize nmA (lb x) = Xa
      go_wp2_with (fail)
      refine ⟨⟨D, ⟨HDl.out, ?_⟩, HF, HA, HS, HB⟩, ?_⟩
      · rw [HD.out HLe.out, ← HX.out.2, ← Nat.mod_eq_sub_mod HLe.out]
      · rw [HM.out, HA.out.at_ HDl.out, HD.out HLe.out]
        have h1 := HP.out
        have h2 := HLe.out
        omega
    · have HLt : Hid (x < p) := by show x < p; exact of_decide_eq_true HL.out
      go_upto_region 3 with (fail)
      apply wp_region_lit
      refine wpList_load_row rfl 38 _ rfl (w.heap.size + 1) (by kernel_rfl) 38 (nmA (lb x)) (0, 0) _ HA.out Try.underlying38 rfl (by kernel_rfl) ?_
      refine wpList_store_row rfl 38 _ _ rfl (w.heap.size + 2) (nmA (lb x)) (by kernel_rfl) (by kernel_rfl) 38 _ HS.out (by kernel_rfl) (by rw [nmA_size, nmA_size]) (nmA_one _) ?_
      simp only [Act.put, List.setIfInBounds_toArray, List.set_cons_zero, List.set_cons_succ]
      generalize hAx : nmA (lb x) = A at HA
      go_wp2_with (fail)
      refine bodyPost_ret (v := .agg A) ?_ rfl ?_
      · exact results_cell_row (fn := Try.f40) Try.results40 _ _ (w.heap.size + 2) 38 _ (0, 0) _ rfl (setRow_heap _ _ _ _ _ _ HS.out) Try.underlying38 rfl (by rw [← hAx]; kernel_rfl)
      · have e : R = x := by rw [← HX.out.2, Nat.mod_eq_of_lt HLt.out]
        exact ⟨by rw [← hAx, e]; rfl, below_setRow HB.out (by omega) _⟩
end Go.Proofs.Nd
