/- The contracts of zint's divide, by the signs and the kind of the division (C). Conditions: at most 2^26 limbs. -/
import Derived.Test.YtbcphifjcaobfaaGreatDoorPkRq24
namespace Go.Proofs.YtbcphifjcaobfaaGreatDoor
open Go.RowKit
end Go.Proofs.YtbcphifjcaobfaaGreatDoor
