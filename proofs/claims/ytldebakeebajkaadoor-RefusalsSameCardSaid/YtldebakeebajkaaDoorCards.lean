/-
  DERIVED. GIVEN WITH THE SEED: THE CARDS: each row of YtldebakeebajkaaDoorRows.lean that lists a variable, with what it lists TIED to the program's text (the seventh form; the later family's looks); each row that meets fmt, with fmt's text TOLD by the authors' own Lean function (tested against real Go, not proved from fmt's source: count such statements apart). THE CARD IS WHAT COUNTS. Prove the row's statement (the work); the ties are given (YtldebakeebajkaaDoorTie.lean); close each card by the builder's one call (the guide's Derived/Test/ToyasCard.lean, 'card_holds'). Laid BY PROGRAM, IN A SANDBOX (cutbox-door.mjs). By AI agents, Wed Nov 11 2026. No macro, syntax, notation, axiom, sorry.
-/
import Derived.Test.YtldebakeebajkaaDoorRows
import GoSem.ClaimSeven
namespace Go.Proofs.YtldebakeebajkaaDoor
namespace Rows

/-- THE TIED CARD OF 'polderlaw05.RefusalsAsks'. -/
def refusalsAsksCard : Claim7 := { stood := { row := refusalsAsksRow, standIns := [], harness := (true, "40019202847b107d737690ac5016b07d3150f34348d113a8160f48e6be2865bc"), looks := true }, kinds := [], alts := [], laidByText := true, laidKinds := [.data, .data, .data, .data], laidTests := true, laidLooks := .later }
def RefusalsAsksCardSaid : Prop := Claim7.holds Tryd.pinned (.plain (OpenSpec.ofChange refusalsAsksSpec)) refusalsAsksCard

/-- THE TIED CARD OF 'polderlaw05.RefusalsSame'. -/
def refusalsSameCard : Claim7 := { stood := { row := refusalsSameRow, standIns := [], harness := (true, "40019202847b107d737690ac5016b07d3150f34348d113a8160f48e6be2865bc"), looks := true }, kinds := [], alts := [], laidByText := true, laidKinds := [.data, .data, .data, .data], laidTests := true, laidLooks := .later }
def RefusalsSameCardSaid : Prop := Claim7.holds Tryd.pinned (.plain (OpenSpec.ofChange refusalsSameSpec)) refusalsSameCard

/-- THE TIED CARD OF 'polderlaw05.RefusalsReduces'. -/
def refusalsReducesCard : Claim7 := { stood := { row := refusalsReducesRow, standIns := [], harness := (true, "40019202847b107d737690ac5016b07d3150f34348d113a8160f48e6be2865bc"), looks := true }, kinds := [], alts := [], laidByText := true, laidKinds := [.data, .data, .data, .data], laidTests := true, laidLooks := .later }
def RefusalsReducesCardSaid : Prop := Claim7.holds Tryd.pinned (.plain (OpenSpec.ofChange refusalsReducesSpec)) refusalsReducesCard

/-- THE TIED CARD OF 'polderlaw05.RefusalsSteps'. -/
def refusalsStepsCard : Claim7 := { stood := { row := refusalsStepsRow, standIns := [], harness := (true, "40019202847b107d737690ac5016b07d3150f34348d113a8160f48e6be2865bc"), looks := true }, kinds := [], alts := [], laidByText := true, laidKinds := [.data, .data, .data, .data], laidTests := true, laidLooks := .later }
def RefusalsStepsCardSaid : Prop := Claim7.holds Tryd.pinned (.plain (OpenSpec.ofChange refusalsStepsSpec)) refusalsStepsCard

/-- THE TIED CARD OF 'polderlaw05.RefusalsPrints'. -/
def refusalsPrintsCard : Claim7 := { stood := { row := refusalsPrintsRow, standIns := [], harness := (true, "40019202847b107d737690ac5016b07d3150f34348d113a8160f48e6be2865bc"), looks := true }, kinds := [], alts := [], laidByText := true, laidKinds := [.data, .data, .data, .data, .sentinel, .sentinel, .data, .data, .pinned], laidTests := true, laidLooks := .later }
def RefusalsPrintsCardSaid : Prop := Claim7.holds Tryd.pinned (.plain (OpenSpec.ofChange refusalsPrintsSpec)) refusalsPrintsCard

/-- THE TIED CARD OF 'polderlaw05.RefusalsCounts'. -/
def refusalsCountsCard : Claim7 := { stood := { row := refusalsCountsRow, standIns := [], harness := (true, "40019202847b107d737690ac5016b07d3150f34348d113a8160f48e6be2865bc"), looks := true }, kinds := [], alts := [], laidByText := true, laidKinds := [.data, .data, .data, .data], laidTests := true, laidLooks := .later }
def RefusalsCountsCardSaid : Prop := Claim7.holds Tryd.pinned (.plain (OpenSpec.ofChange refusalsCountsSpec)) refusalsCountsCard

/-- THE TIED CARD OF 'polderlaw05.RefusalsNeeded'. -/
def refusalsNeededCard : Claim7 := { stood := { row := refusalsNeededRow, standIns := [], harness := (true, "40019202847b107d737690ac5016b07d3150f34348d113a8160f48e6be2865bc"), looks := true }, kinds := [], alts := [], laidByText := true, laidKinds := [.data, .data, .data, .data], laidTests := true, laidLooks := .later }
def RefusalsNeededCardSaid : Prop := Claim7.holds Tryd.pinned (.plain (OpenSpec.ofChange refusalsNeededSpec)) refusalsNeededCard

/-- THE TIED CARD OF 'polderlaw05.RefusalsRests'. -/
def refusalsRestsCard : Claim7 := { stood := { row := refusalsRestsRow, standIns := [], harness := (true, "40019202847b107d737690ac5016b07d3150f34348d113a8160f48e6be2865bc"), looks := true }, kinds := [], alts := [], laidByText := true, laidKinds := [.data, .data, .data, .data], laidTests := true, laidLooks := .later }
def RefusalsRestsCardSaid : Prop := Claim7.holds Tryd.pinned (.plain (OpenSpec.ofChange refusalsRestsSpec)) refusalsRestsCard

/-- THE TIED CARD OF 'polderlaw05.RefusalsKnown'. -/
def refusalsKnownCard : Claim7 := { stood := { row := refusalsKnownRow, standIns := [], harness := (true, "40019202847b107d737690ac5016b07d3150f34348d113a8160f48e6be2865bc"), looks := true }, kinds := [], alts := [], laidByText := true, laidKinds := [.data, .data, .data, .data], laidTests := true, laidLooks := .later }
def RefusalsKnownCardSaid : Prop := Claim7.holds Tryd.pinned (.plain (OpenSpec.ofChange refusalsKnownSpec)) refusalsKnownCard

/-- THE SECOND FORM's CARD OF 'polderlaw05.RefusalsAsks'. -/
def refusalsAsksUptoCard : Claim7 := { stood := { row := refusalsAsksUptoRow, standIns := [], harness := (true, "40019202847b107d737690ac5016b07d3150f34348d113a8160f48e6be2865bc"), looks := true }, kinds := [], alts := [], laidByText := true, laidKinds := [.data, .data, .data, .data], laidTests := true, laidLooks := .later }
def RefusalsAsksUptoCardSaid : Prop := Claim7.holds Tryd.pinned (.plain (OpenSpec.upto refusalsAsksSpec)) refusalsAsksUptoCard

/-- THE SECOND FORM's CARD OF 'polderlaw05.RefusalsSame'. -/
def refusalsSameUptoCard : Claim7 := { stood := { row := refusalsSameUptoRow, standIns := [], harness := (true, "40019202847b107d737690ac5016b07d3150f34348d113a8160f48e6be2865bc"), looks := true }, kinds := [], alts := [], laidByText := true, laidKinds := [.data, .data, .data, .data], laidTests := true, laidLooks := .later }
def RefusalsSameUptoCardSaid : Prop := Claim7.holds Tryd.pinned (.plain (OpenSpec.upto refusalsSameSpec)) refusalsSameUptoCard

/-- THE SECOND FORM's CARD OF 'polderlaw05.RefusalsReduces'. -/
def refusalsReducesUptoCard : Claim7 := { stood := { row := refusalsReducesUptoRow, standIns := [], harness := (true, "40019202847b107d737690ac5016b07d3150f34348d113a8160f48e6be2865bc"), looks := true }, kinds := [], alts := [], laidByText := true, laidKinds := [.data, .data, .data, .data], laidTests := true, laidLooks := .later }
def RefusalsReducesUptoCardSaid : Prop := Claim7.holds Tryd.pinned (.plain (OpenSpec.upto refusalsReducesSpec)) refusalsReducesUptoCard

/-- THE SECOND FORM's CARD OF 'polderlaw05.RefusalsSteps'. -/
def refusalsStepsUptoCard : Claim7 := { stood := { row := refusalsStepsUptoRow, standIns := [], harness := (true, "40019202847b107d737690ac5016b07d3150f34348d113a8160f48e6be2865bc"), looks := true }, kinds := [], alts := [], laidByText := true, laidKinds := [.data, .data, .data, .data], laidTests := true, laidLooks := .later }
def RefusalsStepsUptoCardSaid : Prop := Claim7.holds Tryd.pinned (.plain (OpenSpec.upto refusalsStepsSpec)) refusalsStepsUptoCard

/-- THE SECOND FORM's CARD OF 'polderlaw05.RefusalsPrints'. -/
def refusalsPrintsUptoCard : Claim7 := { stood := { row := refusalsPrintsUptoRow, standIns := [], harness := (true, "40019202847b107d737690ac5016b07d3150f34348d113a8160f48e6be2865bc"), looks := true }, kinds := [], alts := [], laidByText := true, laidKinds := [.data, .data, .data, .data, .sentinel, .sentinel, .data, .data, .pinned], laidTests := true, laidLooks := .later }
def RefusalsPrintsUptoCardSaid : Prop := Claim7.holds Tryd.pinned (.plain (OpenSpec.upto refusalsPrintsSpec)) refusalsPrintsUptoCard

/-- THE SECOND FORM's CARD OF 'polderlaw05.RefusalsCounts'. -/
def refusalsCountsUptoCard : Claim7 := { stood := { row := refusalsCountsUptoRow, standIns := [], harness := (true, "40019202847b107d737690ac5016b07d3150f34348d113a8160f48e6be2865bc"), looks := true }, kinds := [], alts := [], laidByText := true, laidKinds := [.data, .data, .data, .data], laidTests := true, laidLooks := .later }
def RefusalsCountsUptoCardSaid : Prop := Claim7.holds Tryd.pinned (.plain (OpenSpec.upto refusalsCountsSpec)) refusalsCountsUptoCard

/-- THE SECOND FORM's CARD OF 'polderlaw05.RefusalsNeeded'. -/
def refusalsNeededUptoCard : Claim7 := { stood := { row := refusalsNeededUptoRow, standIns := [], harness := (true, "40019202847b107d737690ac5016b07d3150f34348d113a8160f48e6be2865bc"), looks := true }, kinds := [], alts := [], laidByText := true, laidKinds := [.data, .data, .data, .data], laidTests := true, laidLooks := .later }
def RefusalsNeededUptoCardSaid : Prop := Claim7.holds Tryd.pinned (.plain (OpenSpec.upto refusalsNeededSpec)) refusalsNeededUptoCard

/-- THE SECOND FORM's CARD OF 'polderlaw05.RefusalsRests'. -/
def refusalsRestsUptoCard : Claim7 := { stood := { row := refusalsRestsUptoRow, standIns := [], harness := (true, "40019202847b107d737690ac5016b07d3150f34348d113a8160f48e6be2865bc"), looks := true }, kinds := [], alts := [], laidByText := true, laidKinds := [.data, .data, .data, .data], laidTests := true, laidLooks := .later }
def RefusalsRestsUptoCardSaid : Prop := Claim7.holds Tryd.pinned (.plain (OpenSpec.upto refusalsRestsSpec)) refusalsRestsUptoCard

/-- THE SECOND FORM's CARD OF 'polderlaw05.RefusalsKnown'. -/
def refusalsKnownUptoCard : Claim7 := { stood := { row := refusalsKnownUptoRow, standIns := [], harness := (true, "40019202847b107d737690ac5016b07d3150f34348d113a8160f48e6be2865bc"), looks := true }, kinds := [], alts := [], laidByText := true, laidKinds := [.data, .data, .data, .data], laidTests := true, laidLooks := .later }
def RefusalsKnownUptoCardSaid : Prop := Claim7.holds Tryd.pinned (.plain (OpenSpec.upto refusalsKnownSpec)) refusalsKnownUptoCard
end Rows
end Go.Proofs.YtldebakeebajkaaDoor
