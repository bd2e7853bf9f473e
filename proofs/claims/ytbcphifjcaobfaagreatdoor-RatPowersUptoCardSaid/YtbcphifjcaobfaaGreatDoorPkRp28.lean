/- The contracts of zint's divide, by the signs and the kind of. -/
import Derived.Test.YtbcphifjcaobfaaGreatDoorPkRp24
namespace Go.Proofs.YtbcphifjcaobfaaGreatDoor
open Go.RowKit
end Go.Proofs.YtbcphifjcaobfaaGreatDoor
