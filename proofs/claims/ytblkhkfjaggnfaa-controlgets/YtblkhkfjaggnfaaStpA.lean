/-
  a step of a proof: whether it takes out, and its literals.
-/
import Derived.Test.YtblkhkfjaggnfaaPlain
namespace Go.Proofs.Ytblkhkfjaggnfaa
abbrev Stp := Bool × List Int
end Go.Proofs.Ytblkhkfjaggnfaa
