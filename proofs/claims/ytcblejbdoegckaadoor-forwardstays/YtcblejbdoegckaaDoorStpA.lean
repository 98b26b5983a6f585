/-
  a step of a proof: whether it takes out, and its literals.
-/
import Derived.Test.YtcblejbdoegckaaDoorPlain
namespace Go.Proofs.YtcblejbdoegckaaDoor
abbrev Stp := Bool × List Int
end Go.Proofs.YtcblejbdoegckaaDoor
