/- The walks of the reference's Compare and Is. -/
import Derived.Test.YtkaeiofolknoeabGreatDoorCc
import Derived.Test.YtkaeiofolknoeabGreatDoorCd
namespace Go.Proofs.YtkaeiofolknoeabGreatDoor
open Go.RowKit

end Go.Proofs.YtkaeiofolknoeabGreatDoor
