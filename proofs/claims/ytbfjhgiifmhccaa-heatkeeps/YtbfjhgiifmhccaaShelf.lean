import Derived.Test.YtbfjhgiifmhccaaShelfR
namespace Go.Proofs
end Go.Proofs
