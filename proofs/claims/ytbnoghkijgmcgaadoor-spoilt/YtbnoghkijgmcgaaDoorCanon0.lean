/- Canon's closed calls. -/
import Derived.Test.YtbnoghkijgmcgaaDoorODec
import Derived.Lib.ConvBytes
set_option linter.unusedVariables false
namespace Go.Proofs.YtbnoghkijgmcgaaDoor
open Go.RowKit

theorem dec1 (valid : ByteArray → Bool) : Orch.decode valid [40, 63, 63, 41] [1, 0] = .ok (.mk 0 ByteArray.empty [.mk 1 ByteArray.empty [], .mk 0 ByteArray.empty []]) := by rfl
theorem dec2 (valid : ByteArray → Bool) : Orch.decode valid [91, 63, 93] [0, 0, 0, 1, 2] = .error 3 := by rfl
theorem dec3 (valid : ByteArray → Bool) (h : valid ⟨#[97]⟩ = true) : Orch.decode valid [116] [0, 0, 0, 1, 97] = .ok (.mk 0 ⟨#[97]⟩ []) := by
  simp [Orch.decode, Orch.parse, Orch.ptype, Orch.find, Orch.letters, Orch.take, Orch.count, Orch.uns, Orch.fits, Orch.bytesV, Orch.Ty.l, Orch.V.n, Orch.V.s, Orch.V.l, ByteArray.size, h]

end Go.Proofs.YtbnoghkijgmcgaaDoor
