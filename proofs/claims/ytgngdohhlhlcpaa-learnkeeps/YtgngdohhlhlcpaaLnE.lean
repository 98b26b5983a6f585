/-
  learn: Formed, readUnder.
  KEEP: len below nil form rd mono one more grown lt size cell some none of ofNat add out step row get at mk new made look put del kept drew alloc has same other map rde take lit lev lstB pre ws cells bnd on start app set box bel rz
-/
import Derived.Test.YtgngdohhlhlcpaaLnD
set_option linter.unusedSimpArgs false
set_option linter.unusedVariables false
namespace Go.Proofs.Ytgngdohhlhlcpaa
open Go Go.RowKit
set_option maxHeartbeats 3200000 in
theorem l15Formed_any (v : Value) (t : List Ent) (w : World) (hr : RdE w v t) :
    Calls Try.prog 9 #[v] w fun e w' => e = .returned (.bool (frmE t)) ∧ Below w.heap.size w w' := by
  have HRd := read_any v t w hr
  have HR : Hid (Calls Try.prog 30 #[v] w fun e w' => ∃ xa xn xc ym, e = .returned (.tuple #[.agg #[.slice xa xn xc, .map ym], .bool (frmE t)]) ∧ Below w.heap.size w w') := HRd.mono fun e w' ⟨x, y, x', y', h1, h2, _⟩ => ⟨x, y, x', y', h1, h2⟩
  clear HRd hr
  go_enter Try.func9, Try.ntmps9
  go_wp2_with (go_at_call 30; refine HR.out.mono ?_; rintro e w1 ⟨xa, xn, xc, ym, rfl, bE⟩; have HB : Hid (Below w.heap.size w w1) := bE; clear bE)
  go_ret
  exact ⟨rfl, Below.step HB.out (below_box _ _)⟩
end Go.Proofs.Ytgngdohhlhlcpaa
