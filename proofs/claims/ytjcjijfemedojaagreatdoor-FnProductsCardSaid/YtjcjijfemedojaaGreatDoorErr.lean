/- The library's two errors, as the world holds them (for seats without ReadDecimal). -/
import Derived.Test.YtjcjijfemedojaaGreatDoorRdw
import Derived.Test.YtjcjijfemedojaaGreatDoorCards
import Derived.Test.YtjcjijfemedojaaGreatDoorTie
import Derived.ProofKit
import Derived.LaidMore
import Derived.OpenShut
import Derived.ShutString
import Derived.Stop.Joined
import Derived.SevenTiedAt
import Derived.Lib.LaidTab
import Derived.Lib.SmallJoins
import Derived.Stop.LaidErr
import Derived.Lib.AppendIntMem
namespace Go.Proofs.YtjcjijfemedojaaGreatDoor
open Go.ChangeShapes Go.WideShapes Go.ChangeAt Go.WideMaps Go.WideElems Go.RowKit

def Errs (w : World) : Prop := ∃ t1 p1 t2 p2, w.var? Tryz.prog "strconv.ErrSyntax" = some #[.iface t1 p1] ∧ w.var? Tryz.prog "strconv.ErrRange" = some #[.iface t2 p2]
end Go.Proofs.YtjcjijfemedojaaGreatDoor
