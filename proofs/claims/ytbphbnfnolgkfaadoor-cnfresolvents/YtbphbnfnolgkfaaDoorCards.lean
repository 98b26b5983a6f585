/-
  DERIVED. GIVEN WITH THE SEED: THE CARDS: each row of YtbphbnfnolgkfaaDoorRows.lean that lists a variable, with what it lists TIED to the program's text (the seventh form; the later family's looks); each row that meets fmt, with fmt's text TOLD by the authors' own Lean function (tested against real Go, not proved from fmt's source: count such statements apart). THE CARD IS WHAT COUNTS. Prove the row's statement (the work); the ties are given (YtbphbnfnolgkfaaDoorTie.lean); close each card by the builder's one call (the guide's Derived/Test/ToyasCard.lean, 'card_holds'). Laid BY PROGRAM, IN A SANDBOX (cutbox-door.mjs). By AI agents, Wed Nov 11 2026. No macro, syntax, notation, axiom, sorry.
-/
import Derived.Test.YtbphbnfnolgkfaaDoorRows
import GoSem.ClaimSeven
namespace Go.Proofs.YtbphbnfnolgkfaaDoor
namespace Rows

/-- THE TIED CARD OF 'depotlaw02.CnfModels'. -/
def cnfModelsCard : Claim7 := { stood := { row := cnfModelsRow, standIns := [], harness := (true, "036557e94972c8d0834c5a9c67a23885af7697eaf3c8b6c622f93cbbfa558936"), looks := false }, kinds := [], alts := [], laidByText := true, laidKinds := [.data, .data, .data], laidTests := true, laidLooks := .later }
def CnfModelsCardSaid : Prop := Claim7.holds Tryd.pinned (.plain (OpenSpec.ofChange cnfModelsSpec)) cnfModelsCard

/-- THE TIED CARD OF 'depotlaw02.CnfLives'. -/
def cnfLivesCard : Claim7 := { stood := { row := cnfLivesRow, standIns := [], harness := (true, "036557e94972c8d0834c5a9c67a23885af7697eaf3c8b6c622f93cbbfa558936"), looks := false }, kinds := [], alts := [], laidByText := true, laidKinds := [.data, .data, .data], laidTests := true, laidLooks := .later }
def CnfLivesCardSaid : Prop := Claim7.holds Tryd.pinned (.plain (OpenSpec.ofChange cnfLivesSpec)) cnfLivesCard

/-- THE TIED CARD OF 'depotlaw02.CnfCounts'. -/
def cnfCountsCard : Claim7 := { stood := { row := cnfCountsRow, standIns := [], harness := (true, "036557e94972c8d0834c5a9c67a23885af7697eaf3c8b6c622f93cbbfa558936"), looks := false }, kinds := [], alts := [], laidByText := true, laidKinds := [.data, .data, .data], laidTests := true, laidLooks := .later }
def CnfCountsCardSaid : Prop := Claim7.holds Tryd.pinned (.plain (OpenSpec.ofChange cnfCountsSpec)) cnfCountsCard

/-- THE TIED CARD OF 'depotlaw02.CnfRefutes'. -/
def cnfRefutesCard : Claim7 := { stood := { row := cnfRefutesRow, standIns := [], harness := (true, "036557e94972c8d0834c5a9c67a23885af7697eaf3c8b6c622f93cbbfa558936"), looks := false }, kinds := [], alts := [], laidByText := true, laidKinds := [.data, .data, .data], laidTests := true, laidLooks := .later }
def CnfRefutesCardSaid : Prop := Claim7.holds Tryd.pinned (.plain (OpenSpec.ofChange cnfRefutesSpec)) cnfRefutesCard

/-- THE TIED CARD OF 'depotlaw02.CnfResolvents'. -/
def cnfResolventsCard : Claim7 := { stood := { row := cnfResolventsRow, standIns := [], harness := (true, "036557e94972c8d0834c5a9c67a23885af7697eaf3c8b6c622f93cbbfa558936"), looks := false }, kinds := [], alts := [], laidByText := true, laidKinds := [.data, .data, .data], laidTests := true, laidLooks := .later }
def CnfResolventsCardSaid : Prop := Claim7.holds Tryd.pinned (.plain (OpenSpec.ofChange cnfResolventsSpec)) cnfResolventsCard

/-- THE TIED CARD OF 'depotlaw02.CnfSums'. -/
def cnfSumsCard : Claim7 := { stood := { row := cnfSumsRow, standIns := [], harness := (true, "036557e94972c8d0834c5a9c67a23885af7697eaf3c8b6c622f93cbbfa558936"), looks := false }, kinds := [], alts := [], laidByText := true, laidKinds := [.data, .data, .data], laidTests := true, laidLooks := .later }
def CnfSumsCardSaid : Prop := Claim7.holds Tryd.pinned (.plain (OpenSpec.ofChange cnfSumsSpec)) cnfSumsCard

/-- THE SECOND FORM's CARD OF 'depotlaw02.CnfModels'. -/
def cnfModelsUptoCard : Claim7 := { stood := { row := cnfModelsUptoRow, standIns := [], harness := (true, "036557e94972c8d0834c5a9c67a23885af7697eaf3c8b6c622f93cbbfa558936"), looks := false }, kinds := [], alts := [], laidByText := true, laidKinds := [.data, .data, .data], laidTests := true, laidLooks := .later }
def CnfModelsUptoCardSaid : Prop := Claim7.holds Tryd.pinned (.plain (OpenSpec.upto cnfModelsSpec)) cnfModelsUptoCard

/-- THE SECOND FORM's CARD OF 'depotlaw02.CnfLives'. -/
def cnfLivesUptoCard : Claim7 := { stood := { row := cnfLivesUptoRow, standIns := [], harness := (true, "036557e94972c8d0834c5a9c67a23885af7697eaf3c8b6c622f93cbbfa558936"), looks := false }, kinds := [], alts := [], laidByText := true, laidKinds := [.data, .data, .data], laidTests := true, laidLooks := .later }
def CnfLivesUptoCardSaid : Prop := Claim7.holds Tryd.pinned (.plain (OpenSpec.upto cnfLivesSpec)) cnfLivesUptoCard

/-- THE SECOND FORM's CARD OF 'depotlaw02.CnfCounts'. -/
def cnfCountsUptoCard : Claim7 := { stood := { row := cnfCountsUptoRow, standIns := [], harness := (true, "036557e94972c8d0834c5a9c67a23885af7697eaf3c8b6c622f93cbbfa558936"), looks := false }, kinds := [], alts := [], laidByText := true, laidKinds := [.data, .data, .data], laidTests := true, laidLooks := .later }
def CnfCountsUptoCardSaid : Prop := Claim7.holds Tryd.pinned (.plain (OpenSpec.upto cnfCountsSpec)) cnfCountsUptoCard

/-- THE SECOND FORM's CARD OF 'depotlaw02.CnfRefutes'. -/
def cnfRefutesUptoCard : Claim7 := { stood := { row := cnfRefutesUptoRow, standIns := [], harness := (true, "036557e94972c8d0834c5a9c67a23885af7697eaf3c8b6c622f93cbbfa558936"), looks := false }, kinds := [], alts := [], laidByText := true, laidKinds := [.data, .data, .data], laidTests := true, laidLooks := .later }
def CnfRefutesUptoCardSaid : Prop := Claim7.holds Tryd.pinned (.plain (OpenSpec.upto cnfRefutesSpec)) cnfRefutesUptoCard

/-- THE SECOND FORM's CARD OF 'depotlaw02.CnfResolvents'. -/
def cnfResolventsUptoCard : Claim7 := { stood := { row := cnfResolventsUptoRow, standIns := [], harness := (true, "036557e94972c8d0834c5a9c67a23885af7697eaf3c8b6c622f93cbbfa558936"), looks := false }, kinds := [], alts := [], laidByText := true, laidKinds := [.data, .data, .data], laidTests := true, laidLooks := .later }
def CnfResolventsUptoCardSaid : Prop := Claim7.holds Tryd.pinned (.plain (OpenSpec.upto cnfResolventsSpec)) cnfResolventsUptoCard

/-- THE SECOND FORM's CARD OF 'depotlaw02.CnfSums'. -/
def cnfSumsUptoCard : Claim7 := { stood := { row := cnfSumsUptoRow, standIns := [], harness := (true, "036557e94972c8d0834c5a9c67a23885af7697eaf3c8b6c622f93cbbfa558936"), looks := false }, kinds := [], alts := [], laidByText := true, laidKinds := [.data, .data, .data], laidTests := true, laidLooks := .later }
def CnfSumsUptoCardSaid : Prop := Claim7.holds Tryd.pinned (.plain (OpenSpec.upto cnfSumsSpec)) cnfSumsUptoCard
end Rows
end Go.Proofs.YtbphbnfnolgkfaaDoor
