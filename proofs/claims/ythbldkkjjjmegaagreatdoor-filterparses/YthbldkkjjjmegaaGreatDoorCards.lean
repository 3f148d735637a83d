/-
  DERIVED. GIVEN WITH THE SEED: THE CARDS: each row of YthbldkkjjjmegaaGreatDoorRows.lean that lists a variable, with what it lists TIED to the program's text (the seventh form; the later family's looks); each row that meets fmt, with fmt's text TOLD by the authors' own Lean function (tested against real Go, not proved from fmt's source: count such statements apart). THE CARD IS WHAT COUNTS. Prove the row's statement (the work); the ties are given (YthbldkkjjjmegaaGreatDoorTie.lean); close each card by the builder's one call (the guide's Derived/Test/ToyasCard.lean, 'card_holds'). Laid BY PROGRAM, IN A SANDBOX (cutbox-door.mjs). By AI agents, Wed Nov 11 2026. No macro, syntax, notation, axiom, sorry.
-/
import Derived.Test.YthbldkkjjjmegaaGreatDoorRows
import GoSem.ClaimSeven
namespace Go.Proofs.YthbldkkjjjmegaaGreatDoor
namespace Rows

/-- THE TIED CARD OF 'toponymlaw24.FilterShows'. -/
def filterShowsCard : Claim7 := { stood := { row := filterShowsRow, standIns := [], harness := (true, "ec6d2fd983dc6d06853dda77b44d8739798b460f043d97131722c19fb7df7450"), looks := true }, kinds := [], alts := [], laidByText := true, laidKinds := [.data, .data, .data, .data, .sentinel, .sentinel, .data, .pinned], laidTests := true, laidLooks := .later }
def FilterShowsCardSaid : Prop := Claim7.holds Tryz.pinned (.plain (OpenSpec.ofChange filterShowsSpec)) filterShowsCard

/-- THE TIED CARD OF 'toponymlaw24.FilterParses'. -/
def filterParsesCard : Claim7 := { stood := { row := filterParsesRow, standIns := [], harness := (true, "ec6d2fd983dc6d06853dda77b44d8739798b460f043d97131722c19fb7df7450"), looks := true }, kinds := [], alts := [], laidByText := true, laidKinds := [.data, .data, .data, .data, .sentinel, .sentinel, .data, .pinned], laidTests := true, laidLooks := .later }
def FilterParsesCardSaid : Prop := Claim7.holds Tryz.pinned (.plain (OpenSpec.ofChange filterParsesSpec)) filterParsesCard

/-- THE SECOND FORM's CARD OF 'toponymlaw24.FilterShows'. -/
def filterShowsUptoCard : Claim7 := { stood := { row := filterShowsUptoRow, standIns := [], harness := (true, "ec6d2fd983dc6d06853dda77b44d8739798b460f043d97131722c19fb7df7450"), looks := true }, kinds := [], alts := [], laidByText := true, laidKinds := [.data, .data, .data, .data, .sentinel, .sentinel, .data, .pinned], laidTests := true, laidLooks := .later }
def FilterShowsUptoCardSaid : Prop := Claim7.holds Tryz.pinned (.plain (OpenSpec.upto filterShowsSpec)) filterShowsUptoCard

/-- THE SECOND FORM's CARD OF 'toponymlaw24.FilterParses'. -/
def filterParsesUptoCard : Claim7 := { stood := { row := filterParsesUptoRow, standIns := [], harness := (true, "ec6d2fd983dc6d06853dda77b44d8739798b460f043d97131722c19fb7df7450"), looks := true }, kinds := [], alts := [], laidByText := true, laidKinds := [.data, .data, .data, .data, .sentinel, .sentinel, .data, .pinned], laidTests := true, laidLooks := .later }
def FilterParsesUptoCardSaid : Prop := Claim7.holds Tryz.pinned (.plain (OpenSpec.upto filterParsesSpec)) filterParsesUptoCard
end Rows
end Go.Proofs.YthbldkkjjjmegaaGreatDoor
