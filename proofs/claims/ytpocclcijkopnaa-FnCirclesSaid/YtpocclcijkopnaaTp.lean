/- The pairs of the table of the tenths: found by the kernel. -/
import Derived.Test.YtpocclcijkopnaaTt
namespace Go.Proofs.Ytpocclcijkopnaa
open Go.RowKit Fl
set_option maxRecDepth 1000000
theorem allPairs : allUp (fun i => allUp (fun k => onePair (Nat.succ i) (Nat.succ k)) (Nat.succ i)) 200 = true := by kernel_rfl
end Go.Proofs.Ytpocclcijkopnaa
