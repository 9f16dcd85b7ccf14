/- Walks over nodes: one that is changed at a place, by Move. -/
import Derived.Test.YtlnnnlpofocgpabFtW
namespace Go.Proofs.Ytlnnnlpofocgpab
open Go.RowKit Px Nx
end Go.Proofs.Ytlnnnlpofocgpab
