/-
  The developers' Hash: end.
-/
import Derived.Test.YtbfkbinkfboklaaDoorImK
namespace Go.Proofs.Im
open Go.RowKit Go.Proofs.Sha Go.Proofs.Be
theorem slice128' (w : World) (g o L n : Nat) (l h : Int) (hl : l = (L : Nat)) (hh : h = ((L + n : Nat) : Int)) (h2 : L + n ≤ 128) :
    (Instr.sliceAt 71 (.pointer (some ⟨g, o, none⟩)) (some (.int .i64 l)) (some (.int .i64 h)) none).run Tryd.prog w = .ok (.slice (some (if 128 = L then ⟨g, o, none⟩ else ⟨g, o + L, none⟩)) n (128 - L)) w := by
  subst hl hh
  have hz : ∀ w, (sizeOf 5).run Tryd.prog w = .ok 1 w := by intro w; kernel_rfl
  have hu : Tryd.prog.underlying 71 = some (.array 128 5) := Tryd.underlying71
  have e1 : ((L + n : Nat) : Int).toNat = L + n := Int.toNat_natCast _
  have e2 : (L : Int).toNat = L := Int.toNat_natCast _
  have b1 : ∀ w, (Instr.sliceBound (.int .i64 ((L + n : Nat) : Int)) 128 .sliceAlen).run Tryd.prog w = .ok (L + n) w := fun w => by
    have := run_sliceBound (P := Tryd.prog) (w := w) .i64 ((L + n : Nat) : Int) 128 .sliceAlen (by omega) (by omega)
    rw [e1] at this; exact this
  have b2 : ∀ w, (Instr.sliceBound (.int .i64 (L : Int)) (L + n) .sliceB).run Tryd.prog w = .ok L w := fun w => by
    have := run_sliceBound (P := Tryd.prog) (w := w) .i64 (L : Int) (L + n) .sliceB (by omega) (by omega)
    rw [e2] at this; exact this
  have e3 : L + n - L = n := by omega
  simp only [Instr.sliceAt, Instr.sureAddr, Sem.run_bind, Sem.run_pure, Result.andThen_ok, run_underlying hu, Instr.sliceBounds, b1, b2, hz, Option.isSome, Bool.false_eq_true, if_false, Nat.mul_one, Addr.add_mid, e3]
theorem sliceH (w : World) (g o n : Nat) (h : Int) (hh : h = (n : Nat)) (h2 : n ≤ 128) :
    (Instr.sliceAt 71 (.pointer (some ⟨g, o, none⟩)) none (some (.int .i64 h)) none).run Tryd.prog w = .ok (.slice (some ⟨g, o, none⟩) n 128) w := by
  subst hh
  have hz : ∀ w, (sizeOf 5).run Tryd.prog w = .ok 1 w := by intro w; kernel_rfl
  have hu : Tryd.prog.underlying 71 = some (.array 128 5) := Tryd.underlying71
  have e1 : ((n : Nat) : Int).toNat = n := Int.toNat_natCast _
  have b1 : ∀ w, (Instr.sliceBound (.int .i64 ((n : Nat) : Int)) 128 .sliceAlen).run Tryd.prog w = .ok n w := fun w => by
    have := run_sliceBound (P := Tryd.prog) (w := w) .i64 ((n : Nat) : Int) 128 .sliceAlen (by omega) (by omega)
    rw [e1] at this; exact this
  have h4 : ¬ 128 = 0 := by decide
  simp only [Instr.sliceAt, Instr.sureAddr, Sem.run_bind, Sem.run_pure, Result.andThen_ok, run_underlying hu, Instr.sliceBounds, b1, hz, Bool.false_eq_true, if_false, Nat.mul_one, Addr.add_mid, h4, Nat.sub_zero, Nat.add_zero]
theorem clear_any (w : World) (ty : TypeId) (g o L n c : Nat) (ht : w.there g (o + L) n) (h2 : L + n ≤ 128) :
    (Builtin.clear_ #[35] ty #[.slice (some (if 128 = L then ⟨g, o, none⟩ else ⟨g, o + L, none⟩)) n c]).run Tryd.prog w = .ok (.tuple #[]) (w.setCells g (o + L) (List.replicate n (.int .u8 0))) := by
  by_cases h0 : n = 0
  · subst h0
    simp [Builtin.clear_, run_underlying Tryd.underlying35, World.setCells]
  · rw [if_neg (by omega)]
    exact Lib.run_clear_slice w 35 5 ty (.int .u8 0) Tryd.underlying35 (fun _ => by kernel_rfl) rfl rfl g (o + L) n c (by omega) (fun j hj => (ht j hj).1) (fun j hj => (ht j hj).2)
set_option maxHeartbeats 1000000 in
theorem hend_256 (g : Nat) (s : ByteArray) (st buf : Nat → Nat) (w : World) (h : IsH w g 256 st buf s.size) (H : Holds false s st buf) (hg : 0 < g) (hT : Tab w) (hs : s.size ≤ 288230376151711744) :
    Calls Tryd.prog 43 #[.pointer (some ⟨g, 0, none⟩)] w fun e w' => e = .returned (.tuple #[]) ∧ But g w w' ∧ ∃ st' buf', IsH w' g 256 st' buf' s.size ∧ stL st' = endK false s ∧ ∀ i, i < 8 → st' i < limK false := by
  have HH := Lib.hid H
  have HT := Lib.hid hT
  have HS := Lib.hid hs
  obtain ⟨k, hk⟩ : ∃ k, s.size % 64 = k := ⟨_, rfl⟩
  have HK := Lib.hid hk
  have k1 : k < 64 := by omega
  clear H hT hs hk
  go_enter Tryd.func43, Tryd.ntmps43
  go_upto_region 1 with (first
    | (go_at_call 50; refine (blockSize_any (.inl ⟨rfl, rfl⟩) g _ h.bits).mono ?_; rintro e u ⟨rfl, rfl⟩)
    | (go_at_call 51; refine (held_any (.inl ⟨rfl, rfl⟩) g s.size _ h.bits h.len (by have := HS.out; omega)).mono ?_; rintro e u1 ⟨rfl, m, rfl⟩; rw [HK.out]))
  have hI1 := h.drewN m
  have hB1 : But g u (u.drewN m) := ⟨rfl, rfl, rfl, Nat.le_refl _, fun _ _ _ => rfl⟩
  generalize u.drewN m = w1 at hI1 hB1 ⊢
  have ck := hI1.buf k (by omega)
  have fk := hI1.frozen (9 + k)
  have k2 : (k : Int) < 128 := by omega
  go_upto_region 2 with (fail)
  have hI2 := hI1.one k (by omega)
  have hB2 : But g u (w1.setCell ⟨g, 9 + k, none⟩ (.int .u8 128)) := hB1.setCell _ _
  generalize w1.setCell ⟨g, 9 + k, none⟩ (.int .u8 128) = w2 at hI2 hB2 ⊢
  clear ck fk k2 hI1 hB1
  have hsl := slice128' w2 g 9 (k + 1) (63 - k) ((k : Int) + 1) 64 (by omega) (by omega) (by omega)
  have hcl := fun ty => clear_any w2 ty g 9 (k + 1) (63 - k) (128 - (k + 1)) (hI2.there _ _ (by omega)) (by omega)
  generalize Value.slice (some (if 128 = k + 1 then (⟨g, 9, none⟩ : Addr) else ⟨g, 9 + (k + 1), none⟩)) (63 - k) (128 - (k + 1)) = V at hsl hcl
  go_upto_region 3 with (fail)
  have hI3 := hI2.zero (k + 1) (63 - k) (by omega)
  rw [show k + 1 + (63 - k) = 64 by omega] at hI3
  have hB3 : But g u (w2.setCells g (9 + (k + 1)) (List.replicate (63 - k) (.int .u8 0))) := But.setCells _ _ _ hB2
  generalize w2.setCells g (9 + (k + 1)) (List.replicate (63 - k) (.int .u8 0)) = w3 at hI3 hB3 ⊢
  clear hsl hcl hI2 hB2
  by_cases hc : k + 9 ≤ 64
  · have hc1 : (k : Int) + 1 + 8 ≤ 64 := by omega
    have hc2 : decide ((64 : Int) < (k : Int) + 1 + 8) = false := by simp; omega
    have HC := Lib.hid hc
    clear hc
    go_upto_region 7 with (fail)
    have hx : IntKind.u64.wrap (8 * (s.size : Int)) = ((8 * s.size : Nat) : Int) := IntWalk.u64_in _ (by have := HS.out; omega)
    have hsl7 : ∀ W, (Instr.sliceAt 71 (.pointer (some ⟨g, 9, none⟩)) (some (.int .i64 56)) (some (.int .i64 64)) none).run Tryd.prog W = .ok (.slice (some ⟨g, 65, none⟩) 8 72) W := fun W => slice128 W g 9 56 8 56 64 rfl rfl (by omega) (by omega)
    have c7 := hI3.len
    have x1 : IntKind.i64.wrap 56 = 56 := by decide
    refine wp_region_still_tail 12 (by kernel_rfl) (by kernel_rfl) ?_
    simp only [List.take_succ_cons, List.take_zero, List.drop_succ_cons, List.drop_zero]
    repeat still_step
    try refine wpStill_nil ?_
    change wpList _ _ _ _ _ w3.drew
    clear hsl7 c7 x1
    rw [show 8 * (s.size : Int) = ((8 * s.size : Nat) : Int) from by omega]
    have hI5 := hI3.drew
    have hB5 : But g u w3.drew := hB3.drew
    have hT5 : Tab w3.drew := HT.out.but hB5 hg
    generalize w3.drew = w5 at hI5 hB5 hT5 ⊢
    go_wp2_with (first
      | (go_at_call 53; refine (putWord_any (8 * s.size) g 65 8 72 138 73 _ w5 (by omega) (by omega) (by omega) (by have := HS.out; omega) hI5).mono ?_; rintro e u6 ⟨rfl, hB6, hR6⟩; have hI6 := IsH.putLen 64 (8 * s.size) (by omega) (by omega) hR6)
      | (go_at_call 52; refine (hmixK false (tailK false s) g _ _ s.size _ hI6 (hT5.but hB6 hg) (lenB_lt (zeroB_lt (oneB_lt HH.out.2.2.1 _) _ _) _ _) (fun i hi => by have := end_one HH.out (show s.size % 64 + 9 ≤ 64 by rw [HK.out]; exact HC.out) i hi; rw [show s.size % sizeK false = k from HK.out] at this; exact this) HH.out.2.1).mono ?_; rintro e u7 ⟨rfl, hB7, st7, hI7, hS7, hL7⟩))
    go_end0
    refine ⟨rfl, (hB5.trans hB6).trans hB7, st7, _, hI7, ?_, hL7⟩
    rw [hS7, endK_one false s (by show s.size % 64 + 9 ≤ 64; rw [HK.out]; exact HC.out), HH.out.1]
  · have hc1 : (64 : Int) < (k : Int) + 1 + 8 := by omega
    have HC : Hid (64 < k + 9) := by show 64 < k + 9; omega
    clear hc
    go_upto_region 6 with (go_at_call 52; refine (hmixK false ((tailK false s).extract 0 64) g st _ s.size w3 hI3 (HT.out.but hB3 hg) (zeroB_lt (oneB_lt HH.out.2.2.1 _) _ _) (fun i hi => by have := end_two1 HH.out (show 64 < s.size % 64 + 9 by rw [HK.out]; exact HC.out) i hi; rw [show s.size % sizeK false = k from HK.out] at this; exact this) HH.out.2.1).mono ?_; rintro e v3 ⟨rfl, hBm, stm, hIm, hSm, hLm⟩)
    have hB3 := hB3.trans hBm
    have hslh := sliceH v3 g 9 64 64 rfl (by omega)
    have hcl : ∀ ty, (Builtin.clear_ #[35] ty #[.slice (some ⟨g, 9, none⟩) 64 128]).run Tryd.prog v3 = .ok (.tuple #[]) (v3.setCells g 9 (List.replicate 64 (.int .u8 0))) := fun ty => clear_any v3 ty g 9 0 64 128 (hIm.there _ _ (by omega)) (by omega)
    have hI4 := hIm.zero 0 64 (by omega)
    rw [show 9 + 0 = 9 from rfl] at hI4
    generalize List.replicate 64 (Value.int .u8 0) = R at hcl hI4
    go_upto_region 7 with (fail)
    have hB4 : But g u (v3.setCells g 9 R) := But.setCells _ _ _ hB3
    generalize v3.setCells g 9 R = w4 at hI4 hB4 ⊢
    clear hslh hcl
    have hx : IntKind.u64.wrap (8 * (s.size : Int)) = ((8 * s.size : Nat) : Int) := IntWalk.u64_in _ (by have := HS.out; omega)
    have hsl7 : ∀ W, (Instr.sliceAt 71 (.pointer (some ⟨g, 9, none⟩)) (some (.int .i64 56)) (some (.int .i64 64)) none).run Tryd.prog W = .ok (.slice (some ⟨g, 65, none⟩) 8 72) W := fun W => slice128 W g 9 56 8 56 64 rfl rfl (by omega) (by omega)
    have c7 := hI4.len
    have x1 : IntKind.i64.wrap 56 = 56 := by decide
    refine wp_region_still_tail 12 (by kernel_rfl) (by kernel_rfl) ?_
    simp only [List.take_succ_cons, List.take_zero, List.drop_succ_cons, List.drop_zero]
    repeat still_step
    try refine wpStill_nil ?_
    change wpList _ _ _ _ _ w4.drew
    clear hsl7 c7 x1
    rw [show 8 * (s.size : Int) = ((8 * s.size : Nat) : Int) from by omega]
    have hI5 := hI4.drew
    have hB5 : But g u w4.drew := hB4.drew
    have hT5 : Tab w4.drew := HT.out.but hB5 hg
    generalize w4.drew = w5 at hI5 hB5 hT5 ⊢
    go_wp2_with (first
      | (go_at_call 53; refine (putWord_any (8 * s.size) g 65 8 72 138 73 _ w5 (by omega) (by omega) (by omega) (by have := HS.out; omega) hI5).mono ?_; rintro e u6 ⟨rfl, hB6, hR6⟩; have hI6 := IsH.putLen 64 (8 * s.size) (by omega) (by omega) hR6)
      | (go_at_call 52; refine (hmixK false ((tailK false s).extract 64 (2 * 64)) g _ _ s.size _ hI6 (hT5.but hB6 hg) (lenB_lt (zeroB_lt (zeroB_lt (oneB_lt HH.out.2.2.1 _) _ _) _ _) _ _) (fun i hi => by have := end_two2 (wide := false) (s := s) (buf := zeroB (oneB buf k) (k + 1) 64) (show 64 < s.size % 64 + 9 by rw [HK.out]; exact HC.out) i hi; exact this) hLm).mono ?_; rintro e u7 ⟨rfl, hB7, st7, hI7, hS7, hL7⟩))
    go_end0
    refine ⟨rfl, (hB5.trans hB6).trans hB7, st7, _, hI7, ?_, hL7⟩
    rw [hS7, endK_two false s (by show 64 < s.size % 64 + 9; rw [HK.out]; exact HC.out), hSm, HH.out.1]
    rfl
set_option maxHeartbeats 1000000 in
theorem hend_384 (g : Nat) (s : ByteArray) (st buf : Nat → Nat) (w : World) (h : IsH w g 384 st buf s.size) (H : Holds true s st buf) (hg : 0 < g) (hT : Tab w) (hs : s.size ≤ 288230376151711744) :
    Calls Tryd.prog 43 #[.pointer (some ⟨g, 0, none⟩)] w fun e w' => e = .returned (.tuple #[]) ∧ But g w w' ∧ ∃ st' buf', IsH w' g 384 st' buf' s.size ∧ stL st' = endK true s ∧ ∀ i, i < 8 → st' i < limK true := by
  have HH := Lib.hid H
  have HT := Lib.hid hT
  have HS := Lib.hid hs
  obtain ⟨k, hk⟩ : ∃ k, s.size % 128 = k := ⟨_, rfl⟩
  have HK := Lib.hid hk
  have k1 : k < 128 := by omega
  clear H hT hs hk
  go_enter Tryd.func43, Tryd.ntmps43
  go_upto_region 1 with (first
    | (go_at_call 50; refine (blockSize_any (.inr ⟨rfl, rfl⟩) g _ h.bits).mono ?_; rintro e u ⟨rfl, rfl⟩)
    | (go_at_call 51; refine (held_any (.inr ⟨rfl, rfl⟩) g s.size _ h.bits h.len (by have := HS.out; omega)).mono ?_; rintro e u1 ⟨rfl, m, rfl⟩; rw [HK.out]))
  have hI1 := h.drewN m
  have hB1 : But g u (u.drewN m) := ⟨rfl, rfl, rfl, Nat.le_refl _, fun _ _ _ => rfl⟩
  generalize u.drewN m = w1 at hI1 hB1 ⊢
  have ck := hI1.buf k (by omega)
  have fk := hI1.frozen (9 + k)
  have k2 : (k : Int) < 128 := by omega
  go_upto_region 2 with (fail)
  have hI2 := hI1.one k (by omega)
  have hB2 : But g u (w1.setCell ⟨g, 9 + k, none⟩ (.int .u8 128)) := hB1.setCell _ _
  generalize w1.setCell ⟨g, 9 + k, none⟩ (.int .u8 128) = w2 at hI2 hB2 ⊢
  clear ck fk k2 hI1 hB1
  have hsl := slice128' w2 g 9 (k + 1) (127 - k) ((k : Int) + 1) 128 (by omega) (by omega) (by omega)
  have hcl := fun ty => clear_any w2 ty g 9 (k + 1) (127 - k) (128 - (k + 1)) (hI2.there _ _ (by omega)) (by omega)
  generalize Value.slice (some (if 128 = k + 1 then (⟨g, 9, none⟩ : Addr) else ⟨g, 9 + (k + 1), none⟩)) (127 - k) (128 - (k + 1)) = V at hsl hcl
  go_upto_region 3 with (fail)
  have hI3 := hI2.zero (k + 1) (127 - k) (by omega)
  rw [show k + 1 + (127 - k) = 128 by omega] at hI3
  have hB3 : But g u (w2.setCells g (9 + (k + 1)) (List.replicate (127 - k) (.int .u8 0))) := But.setCells _ _ _ hB2
  generalize w2.setCells g (9 + (k + 1)) (List.replicate (127 - k) (.int .u8 0)) = w3 at hI3 hB3 ⊢
  clear hsl hcl hI2 hB2
  by_cases hc : k + 17 ≤ 128
  · have hc1 : (k : Int) + 1 + 16 ≤ 128 := by omega
    have hc2 : decide ((128 : Int) < (k : Int) + 1 + 16) = false := by simp; omega
    have HC := Lib.hid hc
    clear hc
    go_upto_region 7 with (fail)
    have hx : IntKind.u64.wrap (8 * (s.size : Int)) = ((8 * s.size : Nat) : Int) := IntWalk.u64_in _ (by have := HS.out; omega)
    have hsl7 : ∀ W, (Instr.sliceAt 71 (.pointer (some ⟨g, 9, none⟩)) (some (.int .i64 120)) (some (.int .i64 128)) none).run Tryd.prog W = .ok (.slice (some ⟨g, 129, none⟩) 8 8) W := fun W => slice128 W g 9 120 8 120 128 rfl rfl (by omega) (by omega)
    have c7 := hI3.len
    have x1 : IntKind.i64.wrap 120 = 120 := by decide
    refine wp_region_still_tail 12 (by kernel_rfl) (by kernel_rfl) ?_
    simp only [List.take_succ_cons, List.take_zero, List.drop_succ_cons, List.drop_zero]
    repeat still_step
    try refine wpStill_nil ?_
    change wpList _ _ _ _ _ w3.drew
    clear hsl7 c7 x1
    rw [show 8 * (s.size : Int) = ((8 * s.size : Nat) : Int) from by omega]
    have hI5 := hI3.drew
    have hB5 : But g u w3.drew := hB3.drew
    have hT5 : Tab w3.drew := HT.out.but hB5 hg
    generalize w3.drew = w5 at hI5 hB5 hT5 ⊢
    go_wp2_with (first
      | (go_at_call 53; refine (putWord_any (8 * s.size) g 129 8 8 138 73 _ w5 (by omega) (by omega) (by omega) (by have := HS.out; omega) hI5).mono ?_; rintro e u6 ⟨rfl, hB6, hR6⟩; have hI6 := IsH.putLen 128 (8 * s.size) (by omega) (by omega) hR6)
      | (go_at_call 52; refine (hmixK true (tailK true s) g _ _ s.size _ hI6 (hT5.but hB6 hg) (lenB_lt (zeroB_lt (oneB_lt HH.out.2.2.1 _) _ _) _ _) (fun i hi => by have := end_one HH.out (show s.size % 128 + 17 ≤ 128 by rw [HK.out]; exact HC.out) i hi; rw [show s.size % sizeK true = k from HK.out] at this; exact this) HH.out.2.1).mono ?_; rintro e u7 ⟨rfl, hB7, st7, hI7, hS7, hL7⟩))
    go_end0
    refine ⟨rfl, (hB5.trans hB6).trans hB7, st7, _, hI7, ?_, hL7⟩
    rw [hS7, endK_one true s (by show s.size % 128 + 17 ≤ 128; rw [HK.out]; exact HC.out), HH.out.1]
  · have hc1 : (128 : Int) < (k : Int) + 1 + 16 := by omega
    have HC : Hid (128 < k + 17) := by show 128 < k + 17; omega
    clear hc
    go_upto_region 6 with (go_at_call 52; refine (hmixK true ((tailK true s).extract 0 128) g st _ s.size w3 hI3 (HT.out.but hB3 hg) (zeroB_lt (oneB_lt HH.out.2.2.1 _) _ _) (fun i hi => by have := end_two1 HH.out (show 128 < s.size % 128 + 17 by rw [HK.out]; exact HC.out) i hi; rw [show s.size % sizeK true = k from HK.out] at this; exact this) HH.out.2.1).mono ?_; rintro e v3 ⟨rfl, hBm, stm, hIm, hSm, hLm⟩)
    have hB3 := hB3.trans hBm
    have hslh := sliceH v3 g 9 128 128 rfl (by omega)
    have hcl : ∀ ty, (Builtin.clear_ #[35] ty #[.slice (some ⟨g, 9, none⟩) 128 128]).run Tryd.prog v3 = .ok (.tuple #[]) (v3.setCells g 9 (List.replicate 128 (.int .u8 0))) := fun ty => clear_any v3 ty g 9 0 128 128 (hIm.there _ _ (by omega)) (by omega)
    have hI4 := hIm.zero 0 128 (by omega)
    rw [show 9 + 0 = 9 from rfl] at hI4
    generalize List.replicate 128 (Value.int .u8 0) = R at hcl hI4
    go_upto_region 7 with (fail)
    have hB4 : But g u (v3.setCells g 9 R) := But.setCells _ _ _ hB3
    generalize v3.setCells g 9 R = w4 at hI4 hB4 ⊢
    clear hslh hcl
    have hx : IntKind.u64.wrap (8 * (s.size : Int)) = ((8 * s.size : Nat) : Int) := IntWalk.u64_in _ (by have := HS.out; omega)
    have hsl7 : ∀ W, (Instr.sliceAt 71 (.pointer (some ⟨g, 9, none⟩)) (some (.int .i64 120)) (some (.int .i64 128)) none).run Tryd.prog W = .ok (.slice (some ⟨g, 129, none⟩) 8 8) W := fun W => slice128 W g 9 120 8 120 128 rfl rfl (by omega) (by omega)
    have c7 := hI4.len
    have x1 : IntKind.i64.wrap 120 = 120 := by decide
    refine wp_region_still_tail 12 (by kernel_rfl) (by kernel_rfl) ?_
    simp only [List.take_succ_cons, List.take_zero, List.drop_succ_cons, List.drop_zero]
    repeat still_step
    try refine wpStill_nil ?_
    change wpList _ _ _ _ _ w4.drew
    clear hsl7 c7 x1
    rw [show 8 * (s.size : Int) = ((8 * s.size : Nat) : Int) from by omega]
    have hI5 := hI4.drew
    have hB5 : But g u w4.drew := hB4.drew
    have hT5 : Tab w4.drew := HT.out.but hB5 hg
    generalize w4.drew = w5 at hI5 hB5 hT5 ⊢
    go_wp2_with (first
      | (go_at_call 53; refine (putWord_any (8 * s.size) g 129 8 8 138 73 _ w5 (by omega) (by omega) (by omega) (by have := HS.out; omega) hI5).mono ?_; rintro e u6 ⟨rfl, hB6, hR6⟩; have hI6 := IsH.putLen 128 (8 * s.size) (by omega) (by omega) hR6)
      | (go_at_call 52; refine (hmixK true ((tailK true s).extract 128 (2 * 128)) g _ _ s.size _ hI6 (hT5.but hB6 hg) (lenB_lt (zeroB_lt (zeroB_lt (oneB_lt HH.out.2.2.1 _) _ _) _ _) _ _) (fun i hi => by have := end_two2 (wide := true) (s := s) (buf := zeroB (oneB buf k) (k + 1) 128) (show 128 < s.size % 128 + 17 by rw [HK.out]; exact HC.out) i hi; exact this) hLm).mono ?_; rintro e u7 ⟨rfl, hB7, st7, hI7, hS7, hL7⟩))
    go_end0
    refine ⟨rfl, (hB5.trans hB6).trans hB7, st7, _, hI7, ?_, hL7⟩
    rw [hS7, endK_two true s (by show 128 < s.size % 128 + 17; rw [HK.out]; exact HC.out), hSm, HH.out.1]
    rfl
end Go.Proofs.Im
