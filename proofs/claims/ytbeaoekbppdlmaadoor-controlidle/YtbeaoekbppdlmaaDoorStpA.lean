/-
  a step of a proof: whether it takes out, and its literals.
-/
import Derived.Test.YtbeaoekbppdlmaaDoorPlain
namespace Go.Proofs.YtbeaoekbppdlmaaDoor
abbrev Stp := Bool × List Int
end Go.Proofs.YtbeaoekbppdlmaaDoor
