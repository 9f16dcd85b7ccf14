/- The library's contracts at this dump: trimming, whether a byte is in a text. Laid by the shelf's plain mode. -/
import Derived.Shelf.Strings.Trim
import Derived.Shelf.Strings.Search3
import Derived.Test.YtlnnnlpofocgpabPthShelf
namespace Go.Proofs
open Go.Shelf
end Go.Proofs
