/- Lists of complex numbers read: the reference's side. -/
import Derived.Test.YtjcjijfemedojaaGreatDoorCri
namespace Go.Proofs.YtjcjijfemedojaaGreatDoor
open Go.RowKit Fl

end Go.Proofs.YtjcjijfemedojaaGreatDoor
