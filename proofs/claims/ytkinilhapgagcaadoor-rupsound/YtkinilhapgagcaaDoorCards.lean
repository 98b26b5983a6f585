/-
  DERIVED. GIVEN WITH THE SEED: THE CARDS: each row of YtkinilhapgagcaaDoorRows.lean that lists a variable, with what it lists TIED to the program's text (the seventh form; the later family's looks); each row that meets fmt, with fmt's text TOLD by the authors' own Lean function (tested against real Go, not proved from fmt's source: count such statements apart). THE CARD IS WHAT COUNTS. Prove the row's statement (the work); the ties are given (YtkinilhapgagcaaDoorTie.lean); close each card by the builder's one call (the guide's Derived/Test/ToyasCard.lean, 'card_holds'). Laid BY PROGRAM, IN A SANDBOX (cutbox-door.mjs). By AI agents, Wed Nov 11 2026. No macro, syntax, notation, axiom, sorry.
-/
import Derived.Test.YtkinilhapgagcaaDoorRows
import GoSem.ClaimSeven
namespace Go.Proofs.YtkinilhapgagcaaDoor
namespace Rows

/-- THE TIED CARD OF 'depotlaw08.RupFollows'. -/
def rupFollowsCard : Claim7 := { stood := { row := rupFollowsRow, standIns := [], harness := (true, "16a9f95f00d6915922b71874898b2f1350d47a5af55963c30f9ef94acf1492e9"), looks := true }, kinds := [], alts := [], laidByText := true, laidKinds := [.data], laidTests := true, laidLooks := .later }
def RupFollowsCardSaid : Prop := Claim7.holds Tryd.pinned (.plain (OpenSpec.ofChange rupFollowsSpec)) rupFollowsCard

/-- THE TIED CARD OF 'depotlaw08.RupSafe'. -/
def rupSafeCard : Claim7 := { stood := { row := rupSafeRow, standIns := [], harness := (true, "16a9f95f00d6915922b71874898b2f1350d47a5af55963c30f9ef94acf1492e9"), looks := true }, kinds := [], alts := [], laidByText := true, laidKinds := [.data], laidTests := true, laidLooks := .later }
def RupSafeCardSaid : Prop := Claim7.holds Tryd.pinned (.plain (OpenSpec.ofChange rupSafeSpec)) rupSafeCard

/-- THE TIED CARD OF 'depotlaw08.RupKinds'. -/
def rupKindsCard : Claim7 := { stood := { row := rupKindsRow, standIns := [], harness := (true, "16a9f95f00d6915922b71874898b2f1350d47a5af55963c30f9ef94acf1492e9"), looks := true }, kinds := [], alts := [], laidByText := true, laidKinds := [.data], laidTests := true, laidLooks := .later }
def RupKindsCardSaid : Prop := Claim7.holds Tryd.pinned (.plain (OpenSpec.ofChange rupKindsSpec)) rupKindsCard

/-- THE TIED CARD OF 'depotlaw08.RupSound'. -/
def rupSoundCard : Claim7 := { stood := { row := rupSoundRow, standIns := [], harness := (true, "16a9f95f00d6915922b71874898b2f1350d47a5af55963c30f9ef94acf1492e9"), looks := true }, kinds := [], alts := [], laidByText := true, laidKinds := [.data, .data, .data], laidTests := true, laidLooks := .later }
def RupSoundCardSaid : Prop := Claim7.holds Tryd.pinned (.plain (OpenSpec.ofChange rupSoundSpec)) rupSoundCard

/-- THE SECOND FORM's CARD OF 'depotlaw08.RupFollows'. -/
def rupFollowsUptoCard : Claim7 := { stood := { row := rupFollowsUptoRow, standIns := [], harness := (true, "16a9f95f00d6915922b71874898b2f1350d47a5af55963c30f9ef94acf1492e9"), looks := true }, kinds := [], alts := [], laidByText := true, laidKinds := [.data], laidTests := true, laidLooks := .later }
def RupFollowsUptoCardSaid : Prop := Claim7.holds Tryd.pinned (.plain (OpenSpec.upto rupFollowsSpec)) rupFollowsUptoCard

/-- THE SECOND FORM's CARD OF 'depotlaw08.RupSafe'. -/
def rupSafeUptoCard : Claim7 := { stood := { row := rupSafeUptoRow, standIns := [], harness := (true, "16a9f95f00d6915922b71874898b2f1350d47a5af55963c30f9ef94acf1492e9"), looks := true }, kinds := [], alts := [], laidByText := true, laidKinds := [.data], laidTests := true, laidLooks := .later }
def RupSafeUptoCardSaid : Prop := Claim7.holds Tryd.pinned (.plain (OpenSpec.upto rupSafeSpec)) rupSafeUptoCard

/-- THE SECOND FORM's CARD OF 'depotlaw08.RupKinds'. -/
def rupKindsUptoCard : Claim7 := { stood := { row := rupKindsUptoRow, standIns := [], harness := (true, "16a9f95f00d6915922b71874898b2f1350d47a5af55963c30f9ef94acf1492e9"), looks := true }, kinds := [], alts := [], laidByText := true, laidKinds := [.data], laidTests := true, laidLooks := .later }
def RupKindsUptoCardSaid : Prop := Claim7.holds Tryd.pinned (.plain (OpenSpec.upto rupKindsSpec)) rupKindsUptoCard

/-- THE SECOND FORM's CARD OF 'depotlaw08.RupSound'. -/
def rupSoundUptoCard : Claim7 := { stood := { row := rupSoundUptoRow, standIns := [], harness := (true, "16a9f95f00d6915922b71874898b2f1350d47a5af55963c30f9ef94acf1492e9"), looks := true }, kinds := [], alts := [], laidByText := true, laidKinds := [.data, .data, .data], laidTests := true, laidLooks := .later }
def RupSoundUptoCardSaid : Prop := Claim7.holds Tryd.pinned (.plain (OpenSpec.upto rupSoundSpec)) rupSoundUptoCard
end Rows
end Go.Proofs.YtkinilhapgagcaaDoor
