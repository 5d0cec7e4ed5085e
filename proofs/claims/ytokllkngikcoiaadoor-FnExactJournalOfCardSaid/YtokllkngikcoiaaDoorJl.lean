/- The law on journals: what its walk needs. -/
import Derived.Test.YtokllkngikcoiaaDoorJt
import Derived.Test.YtokllkngikcoiaaDoorJo
import Derived.Test.YtokllkngikcoiaaDoorSz
namespace Go.Proofs.YtokllkngikcoiaaDoor
open Go.RowKit
theorem SRow.len_le {w : World} {ao : Option Addr} {n : Nat} {zs : List ByteArray} (h : SRow w ao n zs) : zs.length = n := h.len
end Go.Proofs.YtokllkngikcoiaaDoor
