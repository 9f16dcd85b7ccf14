/- Walks of package dirs: what rm does with an operand. -/
import Derived.Test.YtfilbknnpjbmcaaGreatDoorKb35
namespace Go.Proofs.YtfilbknnpjbmcaaGreatDoor
open Go.RowKit Px Nx Wk Dn

def hasB (S : ByteArray) (c : UInt8) : Bool := decide (0 ≤ Lib.indexByte S.data.toList c)

end Go.Proofs.YtfilbknnpjbmcaaGreatDoor
