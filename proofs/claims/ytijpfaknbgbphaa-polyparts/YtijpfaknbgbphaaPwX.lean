/-
  The developers' poly: what PolyParts wants: two sizes laid out as sixteen bytes, a sealed text in parts.
-/
import Derived.Test.YtijpfaknbgbphaaPwW
namespace Go.Proofs.Pw
open Go.RowKit
open Go.Proofs.Aes (byt byt_lt get_byt)
open Go.Proofs.Cha (chaS chaS_size strS strS_size byt_left byt_right text_ext byt_nums)
open Go.Proofs.Pol
def szL (a b c d : Nat) : List Int := [(a : Int), (b : Int), 0, 0, 0, 0, 0, 0, (c : Int), (d : Int), 0, 0, 0, 0, 0, 0]
def szA (a b c d : Nat) : Array Value := #[.int .u8 a, .int .u8 b, .int .u8 0, .int .u8 0, .int .u8 0, .int .u8 0, .int .u8 0, .int .u8 0, .int .u8 c, .int .u8 d, .int .u8 0, .int .u8 0, .int .u8 0, .int .u8 0, .int .u8 0, .int .u8 0]
theorem lt16 {P : Nat → Prop} (h0 : P 0) (h1 : P 1) (h2 : P 2) (h3 : P 3) (h4 : P 4) (h5 : P 5) (h6 : P 6) (h7 : P 7) (h8 : P 8) (h9 : P 9) (h10 : P 10) (h11 : P 11) (h12 : P 12) (h13 : P 13) (h14 : P 14) (h15 : P 15) (i : Nat) (hi : i < 16) : P i := by
  match i, hi with
  | 0, _ => exact h0
  | 1, _ => exact h1
  | 2, _ => exact h2
  | 3, _ => exact h3
  | 4, _ => exact h4
  | 5, _ => exact h5
  | 6, _ => exact h6
  | 7, _ => exact h7
  | 8, _ => exact h8
  | 9, _ => exact h9
  | 10, _ => exact h10
  | 11, _ => exact h11
  | 12, _ => exact h12
  | 13, _ => exact h13
  | 14, _ => exact h14
  | 15, _ => exact h15
  | n + 16, h => exact absurd h (by omega)
theorem size_text (W : World) (a b c d : Nat) :
    (Go.convert 32 9 (.slice (some ⟨W.heap.size, 0, none⟩) 16 16)).run Try.prog (W.alloc (.cells (szA a b c d) 5)) = .ok (.string (strOfNums (szL a b c d))) (W.alloc (.cells (szA a b c d) 5)) := by
  rw [run_convert_bytes_arg (P := Try.prog) _ 32 5 Try.underlying32 Try.underlying5 W.heap.size 0 16 16 (szL a b c d) rfl (fun i hi => by
    rw [Nat.zero_add, World.cell?_alloc_at _ _ _ _ rfl]
    exact lt16 (P := fun i => (szA a b c d)[i]? = some (.int .u8 ((szL a b c d).getD i 0))) rfl rfl rfl rfl rfl rfl rfl rfl rfl rfl rfl rfl rfl rfl rfl rfl i hi) 9 Try.underlying9]
theorem byt_sz (a b c d i : Nat) (hi : i < 16) (ha : a < 256) (hb : b < 256) (hc : c < 256) (hd : d < 256) : byt (strOfNums (szL a b c d)) i = if i = 0 then a else if i = 1 then b else if i = 8 then c else if i = 9 then d else 0 := by
  refine lt16 (P := fun i => byt (strOfNums (szL a b c d)) i = if i = 0 then a else if i = 1 then b else if i = 8 then c else if i = 9 then d else 0) ?_ ?_ ?_ ?_ ?_ ?_ ?_ ?_ ?_ ?_ ?_ ?_ ?_ ?_ ?_ ?_ i hi
  all_goals (unfold byt strOfNums szL; simp; try omega)
theorem sizes_lit (x y : Nat) (hx : x < 65536) (hy : y < 65536) : strOfNums (szL (x % 256) (x / 256) (y % 256) (y / 256)) = litS x ++ litS y := by
  have z : (strOfNums (szL (x % 256) (x / 256) (y % 256) (y / 256))).size = 16 := by simp [strOfNums_size, szL]
  have up : ∀ v i, v < 65536 → 2 ≤ i → v / 256 ^ i % 256 = 0 := fun v i hv hi => by
    have : 256 ^ 2 ≤ 256 ^ i := Nat.pow_le_pow_right (by decide) hi
    rw [show (256 : Nat) ^ 2 = 65536 from rfl] at this
    rw [Nat.div_eq_of_lt (by omega)]
  refine text_ext (by rw [z, ByteArray.size_append, litS_size, litS_size]) fun t ht => ?_
  rw [z] at ht
  rw [byt_sz _ _ _ _ t ht (by omega) (by omega) (by omega) (by omega)]
  by_cases h8 : t < 8
  · rw [byt_left _ _ _ (by rw [litS_size]; exact h8), Ps.litS_byt x t h8]
    by_cases h0 : t = 0
    · subst h0; rw [if_pos rfl]; show x % 256 = x / 1 % 256; omega
    · by_cases h1 : t = 1
      · subst h1; rw [if_neg (by decide), if_pos rfl]; show x / 256 = x / 256 % 256; omega
      · rw [if_neg h0, if_neg h1, if_neg (by omega), if_neg (by omega), up x t hx (by omega)]
  · rw [byt_right _ _ _ (by rw [litS_size]; omega) (by rw [litS_size, litS_size]; omega), litS_size, Ps.litS_byt y (t - 8) (by omega)]
    by_cases h0 : t = 8
    · subst h0; rw [if_neg (by decide), if_neg (by decide), if_pos rfl]; show y % 256 = y / 1 % 256; omega
    · by_cases h1 : t = 9
      · subst h1; rw [if_neg (by decide), if_neg (by decide), if_neg (by decide), if_pos rfl]; show y / 256 = y / 256 % 256; omega
      · rw [if_neg (by omega), if_neg (by omega), if_neg h0, if_neg h1, up y (t - 8) hy (by omega)]
theorem all_parts (a x : ByteArray) (p q : Nat) (hp : (16 - a.size % 16) % 16 = p) (hq : (16 - x.size % 16) % 16 = q) : (((a ++ zS p) ++ x) ++ zS q) ++ (litS a.size ++ litS x.size) = allS a x := by
  subst hp hq
  unfold allS fillS
  simp only [ByteArray.append_assoc]
theorem mask255 (n : Nat) (h : n < 18446744073709551616) : bits .and .i64 (n : Int) 255 = ((n % 256 : Nat) : Int) := by
  have e := Lw.and_of (n : Int) 255 (by decide)
  rw [show (((n : Int) % 18446744073709551616).toNat) = n by omega, show (255 : Nat) = 2 ^ 8 - 1 from rfl, Nat.and_two_pow_sub_one_eq_mod] at e
  exact e
theorem nought_any (n : Nat) (W : World) (g : Nat) (r : Lw.RowB W g n (fun _ => 0)) : (Go.convert 32 9 (.slice (some ⟨g, 0, none⟩) n n)).run Try.prog W = .ok (.string (zS n)) W := r.text 0 n n (by omega)
end Go.Proofs.Pw
