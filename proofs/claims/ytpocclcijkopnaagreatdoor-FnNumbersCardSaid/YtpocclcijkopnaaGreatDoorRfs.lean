/- Lists of numbers read: the reference's side. -/
import Derived.Test.YtpocclcijkopnaaGreatDoorRfi
import Derived.Test.YtpocclcijkopnaaGreatDoorNn
namespace Go.Proofs.YtpocclcijkopnaaGreatDoor
open Go.RowKit Fl

end Go.Proofs.YtpocclcijkopnaaGreatDoor
