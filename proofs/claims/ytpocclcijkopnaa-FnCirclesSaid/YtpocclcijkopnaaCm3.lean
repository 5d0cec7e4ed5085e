/- The products of the phasors of 64ths of turns are near those of the sums: found by the kernel. -/
import Derived.Test.YtpocclcijkopnaaCt
namespace Go.Proofs.Ytpocclcijkopnaa
set_option maxRecDepth 1000000
theorem allMul3 : allTo (fun k => allTo (oneMul (16 * 3 + k)) 64) 16 = true := by kernel_rfl
end Go.Proofs.Ytpocclcijkopnaa
