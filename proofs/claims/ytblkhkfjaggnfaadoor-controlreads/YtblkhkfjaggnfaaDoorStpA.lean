/-
  a step of a proof: whether it takes out, and its literals.
-/
import Derived.Test.YtblkhkfjaggnfaaDoorPlain
namespace Go.Proofs.YtblkhkfjaggnfaaDoor
abbrev Stp := Bool × List Int
end Go.Proofs.YtblkhkfjaggnfaaDoor
