/-
  More small forms for the laws' walks: macs and labels by the number of bits, noughts, an info byte by byte.
-/
import Derived.Test.YtbfkbinkfboklaaDoorKdH
namespace Go.Proofs.Kd
open Go.RowKit Go.Proofs.Be Go.Proofs.Sha Go.Proofs.Hk Go.Proofs.Im
theorem hmac256 (key s : ByteArray) (w : World) (hT : Tab w) (hk : key.size ≤ 288230376151711744) (hs : s.size ≤ 144115188075855872) :
    Calls Tryd.prog 8 #[.int .i64 256, .string key, .string s] w fun e w' => e = .returned (.tuple #[.string (macS 256 key s), .int .i64 0]) ∧ Below w.heap.size w w' := hmac_ok false key s w hT hk hs
theorem hmac384 (key s : ByteArray) (w : World) (hT : Tab w) (hk : key.size ≤ 288230376151711744) (hs : s.size ≤ 144115188075855872) :
    Calls Tryd.prog 8 #[.int .i64 384, .string key, .string s] w fun e w' => e = .returned (.tuple #[.string (macS 384 key s), .int .i64 0]) ∧ Below w.heap.size w w' := hmac_ok true key s w hT hk hs
theorem ext256 (key s : ByteArray) (w : World) (hT : Tab w) (hk : key.size ≤ 288230376151711744) (hs : s.size ≤ 144115188075855872) :
    Calls Tryd.prog 10 #[.int .i64 256, .string key, .string s] w fun e w' => e = .returned (.tuple #[.string (macS 256 key s), .int .i64 0]) ∧ Below w.heap.size w w' := extract_any 256 key s w hT hk hs
theorem ext384 (key s : ByteArray) (w : World) (hT : Tab w) (hk : key.size ≤ 288230376151711744) (hs : s.size ≤ 144115188075855872) :
    Calls Tryd.prog 10 #[.int .i64 384, .string key, .string s] w fun e w' => e = .returned (.tuple #[.string (macS 384 key s), .int .i64 0]) ∧ Below w.heap.size w w' := extract_any 384 key s w hT hk hs
theorem lab256_yes (z : Nat) (key label context : ByteArray) (w : World) (hT : Tab w) (hk : key.size ≤ 288230376151711744) (hz : z ≤ 4095) (hl : label.size ≤ 249) (hc : context.size ≤ 255) :
    Calls Tryd.prog 13 #[.int .i64 256, .string key, .string label, .string context, .int .i64 z] w fun e w' => e = .returned (.tuple #[.string (expS 256 key (infoS label context z) z), .int .i64 0]) ∧ Below w.heap.size w w' := by
  have := label_ok 256 z key label context w hT hk (by omega) hl hc
  rwa [show expE 256 (z : Int) = 0 by unfold expE; rw [may256 z (by omega)]; rfl] at this
theorem lab384_yes (z : Nat) (key label context : ByteArray) (w : World) (hT : Tab w) (hk : key.size ≤ 288230376151711744) (hz : z ≤ 4095) (hl : label.size ≤ 249) (hc : context.size ≤ 255) :
    Calls Tryd.prog 13 #[.int .i64 384, .string key, .string label, .string context, .int .i64 z] w fun e w' => e = .returned (.tuple #[.string (expS 384 key (infoS label context z) z), .int .i64 0]) ∧ Below w.heap.size w w' := by
  have := label_ok 384 z key label context w hT hk (by omega) hl hc
  rwa [show expE 384 (z : Int) = 0 by unfold expE; rw [may384 z (by omega)]; rfl] at this
theorem lab_long (bits z : Int) (key label context : ByteArray) (w : World) (hl : label.size ≤ 288230376151711744) (h : 249 < label.size ∨ 255 < context.size) :
    Calls Tryd.prog 13 #[.int .i64 bits, .string key, .string label, .string context, .int .i64 z] w fun e w' => e = .returned (.tuple #[.string ⟨#[]⟩, .int .i64 300]) ∧ Below w.heap.size w w' := by
  refine label_no bits z key label context w hl ?_
  unfold mayL
  rcases h with h | h
  · rw [decide_eq_false (show ¬ label.size ≤ 249 by omega)]; rfl
  · rw [decide_eq_false (show ¬ context.size ≤ 255 by omega)]; simp
theorem byt_zS (m t : Nat) : byt (zS m) t = 0 := by
  unfold byt zS
  rw [strOfNums_data, List.map_replicate, List.getD_eq_getElem?_getD, List.getElem?_replicate]
  split <;> rfl
theorem conv3 (W : World) (x y z : Int) : (convert 35 9 (.slice (some ⟨W.heap.size, 0, none⟩) 3 3)).run Tryd.prog (W.alloc (.cells #[.int .u8 x, .int .u8 y, .int .u8 z] 5)) = .ok (.string (strOfNums [x, y, z])) (W.alloc (.cells #[.int .u8 x, .int .u8 y, .int .u8 z] 5)) :=
  run_convert_bytes_arg (P := Tryd.prog) _ 35 5 Tryd.underlying35 Tryd.underlying5 W.heap.size 0 3 3 [x, y, z] rfl (fun i hi => by
    match i, hi with
    | 0, _ => simp [go_sem]
    | 1, _ => simp [go_sem]
    | 2, _ => simp [go_sem]) 9 Tryd.underlying9
theorem conv1' (W : World) (o : Obj) (x : Int) : (convert 35 9 (.slice (some ⟨W.heap.size + 1, 0, none⟩) 1 1)).run Tryd.prog ((W.alloc o).alloc (.cells #[.int .u8 x] 5)) = .ok (.string (strOfNums [x])) ((W.alloc o).alloc (.cells #[.int .u8 x] 5)) := by
  have h := conv1 (W.alloc o) x
  rwa [show (W.alloc o).heap.size = W.heap.size + 1 by simp] at h
theorem nums_app (a b : List Int) : strOfNums a ++ strOfNums b = strOfNums (a ++ b) := by
  apply ByteArray.ext
  apply Array.ext'
  rw [show (strOfNums a ++ strOfNums b).data.toList = (strOfNums a).data.toList ++ (strOfNums b).data.toList by simp, strOfNums_data, strOfNums_data, strOfNums_data, List.map_append]
/-- An info, byte by byte. -/
theorem info_bytes (label context : ByteArray) (k : Nat) (hk : k ≤ 4095) (hl : label.size ≤ 249) (hc : context.size ≤ 255) :
    strOfNums [(k : Int) / 256, (k : Int) % 256, 6 + (label.size : Int)] ++ tls13 ++ label ++ strOfNums [(context.size : Int)] ++ context = infoS label context k := by
  have e1 : strOfNums [(k : Int) / 256, (k : Int) % 256] = Be.beS k 2 := by
    rw [← Hk.beS2, show (k : Int) / 256 % 256 = (k : Int) / 256 by omega]
  have e2 : strOfNums [6 + (label.size : Int)] = Be.beS (tls13 ++ label).size 1 := by
    rw [← Hk.beS1, tls13_size, show ((6 + label.size : Nat) : Int) % 256 = 6 + (label.size : Int) by omega]
  have e3 : strOfNums [(context.size : Int)] = Be.beS context.size 1 := by
    rw [← Hk.beS1, show (context.size : Int) % 256 = (context.size : Int) by omega]
  unfold infoS vS
  rw [← e1, ← e2, ← e3, show ([(k : Int) / 256, (k : Int) % 256, 6 + (label.size : Int)] : List Int) = [(k : Int) / 256, (k : Int) % 256] ++ [6 + (label.size : Int)] from rfl, ← nums_app]
  simp only [ByteArray.append_assoc]
end Go.Proofs.Kd
