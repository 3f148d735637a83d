/-
  DERIVED. GIVEN WITH THE SEED: THE CARDS: each row of YtpfpaponlmfofaaDoorRows.lean that lists a variable, with what it lists TIED to the program's text (the seventh form; the later family's looks); each row that meets fmt, with fmt's text TOLD by the authors' own Lean function (tested against real Go, not proved from fmt's source: count such statements apart). THE CARD IS WHAT COUNTS. Prove the row's statement (the work); the ties are given (YtpfpaponlmfofaaDoorTie.lean); close each card by the builder's one call (the guide's Derived/Test/ToyasCard.lean, 'card_holds'). Laid BY PROGRAM, IN A SANDBOX (cutbox-door.mjs). By AI agents, Wed Nov 11 2026. No macro, syntax, notation, axiom, sorry.
-/
import Derived.Test.YtpfpaponlmfofaaDoorRows
import GoSem.ClaimSeven
namespace Go.Proofs.YtpfpaponlmfofaaDoor
namespace Rows

/-- THE TIED CARD OF 'toponymlaw18.DnShows'. -/
def dnShowsCard : Claim7 := { stood := { row := dnShowsRow, standIns := [], harness := (true, "0f3596977815944056a5c56a19ae177374c99fcb7bbe83d461288ffcdf685a47"), looks := true }, kinds := [], alts := [], laidByText := true, laidKinds := [.data, .data, .data, .sentinel, .sentinel], laidTests := true, laidLooks := .later }
def DnShowsCardSaid : Prop := Claim7.holds Tryd.pinned (.plain (OpenSpec.ofChange dnShowsSpec)) dnShowsCard

/-- THE TIED CARD OF 'toponymlaw18.DnParses'. -/
def dnParsesCard : Claim7 := { stood := { row := dnParsesRow, standIns := [], harness := (true, "0f3596977815944056a5c56a19ae177374c99fcb7bbe83d461288ffcdf685a47"), looks := true }, kinds := [], alts := [], laidByText := true, laidKinds := [.data, .data, .data, .sentinel, .sentinel], laidTests := true, laidLooks := .later }
def DnParsesCardSaid : Prop := Claim7.holds Tryd.pinned (.plain (OpenSpec.ofChange dnParsesSpec)) dnParsesCard

/-- THE TIED CARD OF 'toponymlaw18.DnMoves'. -/
def dnMovesCard : Claim7 := { stood := { row := dnMovesRow, standIns := [], harness := (true, "0f3596977815944056a5c56a19ae177374c99fcb7bbe83d461288ffcdf685a47"), looks := true }, kinds := [], alts := [], laidByText := true, laidKinds := [.data, .data, .data, .sentinel, .sentinel], laidTests := true, laidLooks := .later }
def DnMovesCardSaid : Prop := Claim7.holds Tryd.pinned (.plain (OpenSpec.ofChange dnMovesSpec)) dnMovesCard

/-- THE TIED CARD OF 'toponymlaw18.DnBack'. -/
def dnBackCard : Claim7 := { stood := { row := dnBackRow, standIns := [], harness := (true, "0f3596977815944056a5c56a19ae177374c99fcb7bbe83d461288ffcdf685a47"), looks := true }, kinds := [], alts := [], laidByText := true, laidKinds := [.data, .data, .data, .sentinel, .sentinel], laidTests := true, laidLooks := .later }
def DnBackCardSaid : Prop := Claim7.holds Tryd.pinned (.plain (OpenSpec.ofChange dnBackSpec)) dnBackCard

/-- THE TIED CARD OF 'toponymlaw18.DnForms'. -/
def dnFormsCard : Claim7 := { stood := { row := dnFormsRow, standIns := [], harness := (true, "0f3596977815944056a5c56a19ae177374c99fcb7bbe83d461288ffcdf685a47"), looks := true }, kinds := [], alts := [], laidByText := true, laidKinds := [.data, .data, .data, .sentinel, .sentinel], laidTests := true, laidLooks := .later }
def DnFormsCardSaid : Prop := Claim7.holds Tryd.pinned (.plain (OpenSpec.ofChange dnFormsSpec)) dnFormsCard

/-- THE TIED CARD OF 'toponymlaw18.DnAbove'. -/
def dnAboveCard : Claim7 := { stood := { row := dnAboveRow, standIns := [], harness := (true, "0f3596977815944056a5c56a19ae177374c99fcb7bbe83d461288ffcdf685a47"), looks := true }, kinds := [], alts := [], laidByText := true, laidKinds := [.data, .data, .data, .sentinel, .sentinel], laidTests := true, laidLooks := .later }
def DnAboveCardSaid : Prop := Claim7.holds Tryd.pinned (.plain (OpenSpec.ofChange dnAboveSpec)) dnAboveCard

/-- THE SECOND FORM's CARD OF 'toponymlaw18.DnShows'. -/
def dnShowsUptoCard : Claim7 := { stood := { row := dnShowsUptoRow, standIns := [], harness := (true, "0f3596977815944056a5c56a19ae177374c99fcb7bbe83d461288ffcdf685a47"), looks := true }, kinds := [], alts := [], laidByText := true, laidKinds := [.data, .data, .data, .sentinel, .sentinel], laidTests := true, laidLooks := .later }
def DnShowsUptoCardSaid : Prop := Claim7.holds Tryd.pinned (.plain (OpenSpec.upto dnShowsSpec)) dnShowsUptoCard

/-- THE SECOND FORM's CARD OF 'toponymlaw18.DnParses'. -/
def dnParsesUptoCard : Claim7 := { stood := { row := dnParsesUptoRow, standIns := [], harness := (true, "0f3596977815944056a5c56a19ae177374c99fcb7bbe83d461288ffcdf685a47"), looks := true }, kinds := [], alts := [], laidByText := true, laidKinds := [.data, .data, .data, .sentinel, .sentinel], laidTests := true, laidLooks := .later }
def DnParsesUptoCardSaid : Prop := Claim7.holds Tryd.pinned (.plain (OpenSpec.upto dnParsesSpec)) dnParsesUptoCard

/-- THE SECOND FORM's CARD OF 'toponymlaw18.DnMoves'. -/
def dnMovesUptoCard : Claim7 := { stood := { row := dnMovesUptoRow, standIns := [], harness := (true, "0f3596977815944056a5c56a19ae177374c99fcb7bbe83d461288ffcdf685a47"), looks := true }, kinds := [], alts := [], laidByText := true, laidKinds := [.data, .data, .data, .sentinel, .sentinel], laidTests := true, laidLooks := .later }
def DnMovesUptoCardSaid : Prop := Claim7.holds Tryd.pinned (.plain (OpenSpec.upto dnMovesSpec)) dnMovesUptoCard

/-- THE SECOND FORM's CARD OF 'toponymlaw18.DnBack'. -/
def dnBackUptoCard : Claim7 := { stood := { row := dnBackUptoRow, standIns := [], harness := (true, "0f3596977815944056a5c56a19ae177374c99fcb7bbe83d461288ffcdf685a47"), looks := true }, kinds := [], alts := [], laidByText := true, laidKinds := [.data, .data, .data, .sentinel, .sentinel], laidTests := true, laidLooks := .later }
def DnBackUptoCardSaid : Prop := Claim7.holds Tryd.pinned (.plain (OpenSpec.upto dnBackSpec)) dnBackUptoCard

/-- THE SECOND FORM's CARD OF 'toponymlaw18.DnForms'. -/
def dnFormsUptoCard : Claim7 := { stood := { row := dnFormsUptoRow, standIns := [], harness := (true, "0f3596977815944056a5c56a19ae177374c99fcb7bbe83d461288ffcdf685a47"), looks := true }, kinds := [], alts := [], laidByText := true, laidKinds := [.data, .data, .data, .sentinel, .sentinel], laidTests := true, laidLooks := .later }
def DnFormsUptoCardSaid : Prop := Claim7.holds Tryd.pinned (.plain (OpenSpec.upto dnFormsSpec)) dnFormsUptoCard

/-- THE SECOND FORM's CARD OF 'toponymlaw18.DnAbove'. -/
def dnAboveUptoCard : Claim7 := { stood := { row := dnAboveUptoRow, standIns := [], harness := (true, "0f3596977815944056a5c56a19ae177374c99fcb7bbe83d461288ffcdf685a47"), looks := true }, kinds := [], alts := [], laidByText := true, laidKinds := [.data, .data, .data, .sentinel, .sentinel], laidTests := true, laidLooks := .later }
def DnAboveUptoCardSaid : Prop := Claim7.holds Tryd.pinned (.plain (OpenSpec.upto dnAboveSpec)) dnAboveUptoCard
end Rows
end Go.Proofs.YtpfpaponlmfofaaDoor
