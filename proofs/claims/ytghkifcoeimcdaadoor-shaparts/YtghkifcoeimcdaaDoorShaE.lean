/-
  Known digests, reckoned by the kernel.
-/
import Derived.Test.YtghkifcoeimcdaaDoorShaD
import Derived.Test.YtghkifcoeimcdaaDoorSha5D
import Derived.KernelRfl
namespace Go.Proofs.Sha
open Go.RowKit Go.Proofs.Be
set_option maxRecDepth 100000 in
theorem dig256_empty : dig256 ⟨#[]⟩ = ⟨#[227, 176, 196, 66, 152, 252, 28, 20, 154, 251, 244, 200, 153, 111, 185, 36, 39, 174, 65, 228, 100, 155, 147, 76, 164, 149, 153, 27, 120, 82, 184, 85]⟩ := by kernel_rfl
set_option maxRecDepth 100000 in
theorem dig384_empty : Sha5.dig384 ⟨#[]⟩ = ⟨#[56, 176, 96, 167, 81, 172, 150, 56, 76, 217, 50, 126, 177, 177, 227, 106, 33, 253, 183, 17, 20, 190, 7, 67, 76, 12, 199, 191, 99, 246, 225, 218, 39, 78, 222, 191, 231, 111, 101, 251, 213, 26, 210, 241, 72, 152, 185, 91]⟩ := by kernel_rfl
set_option maxRecDepth 100000 in
theorem dig256_abc : dig256 ⟨#[97, 98, 99]⟩ = ⟨#[186, 120, 22, 191, 143, 1, 207, 234, 65, 65, 64, 222, 93, 174, 34, 35, 176, 3, 97, 163, 150, 23, 122, 156, 180, 16, 255, 97, 242, 0, 21, 173]⟩ := by kernel_rfl
set_option maxRecDepth 100000 in
theorem dig384_abc : Sha5.dig384 ⟨#[97, 98, 99]⟩ = ⟨#[203, 0, 117, 63, 69, 163, 94, 139, 181, 160, 61, 105, 154, 198, 80, 7, 39, 44, 50, 171, 14, 222, 209, 99, 26, 139, 96, 90, 67, 255, 91, 237, 128, 134, 7, 43, 161, 231, 204, 35, 88, 186, 236, 161, 52, 200, 37, 167]⟩ := by kernel_rfl
end Go.Proofs.Sha
