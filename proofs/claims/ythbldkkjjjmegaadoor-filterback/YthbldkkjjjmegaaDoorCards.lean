/-
  DERIVED. GIVEN WITH THE SEED: THE CARDS: each row of YthbldkkjjjmegaaDoorRows.lean that lists a variable, with what it lists TIED to the program's text (the seventh form; the later family's looks); each row that meets fmt, with fmt's text TOLD by the authors' own Lean function (tested against real Go, not proved from fmt's source: count such statements apart). THE CARD IS WHAT COUNTS. Prove the row's statement (the work); the ties are given (YthbldkkjjjmegaaDoorTie.lean); close each card by the builder's one call (the guide's Derived/Test/ToyasCard.lean, 'card_holds'). Laid BY PROGRAM, IN A SANDBOX (cutbox-door.mjs). By AI agents, Wed Nov 11 2026. No macro, syntax, notation, axiom, sorry.
-/
import Derived.Test.YthbldkkjjjmegaaDoorRows
import GoSem.ClaimSeven
namespace Go.Proofs.YthbldkkjjjmegaaDoor
namespace Rows

/-- THE TIED CARD OF 'toponymlaw24.FilterSame'. -/
def filterSameCard : Claim7 := { stood := { row := filterSameRow, standIns := [], harness := (true, "59b7e86388af7edad3fc1e6a2809be1dc335fe8cbf71a97a9035756d3b71b7f7"), looks := true }, kinds := [], alts := [], laidByText := true, laidKinds := [.data, .data, .data, .data, .sentinel, .sentinel, .data, .pinned], laidTests := true, laidLooks := .later }
def FilterSameCardSaid : Prop := Claim7.holds Tryd.pinned (.plain (OpenSpec.ofChange filterSameSpec)) filterSameCard

/-- THE TIED CARD OF 'toponymlaw24.FilterBack'. -/
def filterBackCard : Claim7 := { stood := { row := filterBackRow, standIns := [], harness := (true, "59b7e86388af7edad3fc1e6a2809be1dc335fe8cbf71a97a9035756d3b71b7f7"), looks := true }, kinds := [], alts := [], laidByText := true, laidKinds := [.data, .data, .data, .data, .sentinel, .sentinel, .data, .pinned], laidTests := true, laidLooks := .later }
def FilterBackCardSaid : Prop := Claim7.holds Tryd.pinned (.plain (OpenSpec.ofChange filterBackSpec)) filterBackCard

/-- THE TIED CARD OF 'toponymlaw24.FilterForms'. -/
def filterFormsCard : Claim7 := { stood := { row := filterFormsRow, standIns := [], harness := (true, "59b7e86388af7edad3fc1e6a2809be1dc335fe8cbf71a97a9035756d3b71b7f7"), looks := true }, kinds := [], alts := [], laidByText := true, laidKinds := [.data, .data, .data, .data, .sentinel, .sentinel, .data, .pinned], laidTests := true, laidLooks := .later }
def FilterFormsCardSaid : Prop := Claim7.holds Tryd.pinned (.plain (OpenSpec.ofChange filterFormsSpec)) filterFormsCard

/-- THE TIED CARD OF 'toponymlaw24.FilterGrows'. -/
def filterGrowsCard : Claim7 := { stood := { row := filterGrowsRow, standIns := [], harness := (true, "59b7e86388af7edad3fc1e6a2809be1dc335fe8cbf71a97a9035756d3b71b7f7"), looks := true }, kinds := [], alts := [], laidByText := true, laidKinds := [.data, .data, .data, .data, .sentinel, .sentinel, .data, .pinned], laidTests := true, laidLooks := .later }
def FilterGrowsCardSaid : Prop := Claim7.holds Tryd.pinned (.plain (OpenSpec.ofChange filterGrowsSpec)) filterGrowsCard

/-- THE SECOND FORM's CARD OF 'toponymlaw24.FilterSame'. -/
def filterSameUptoCard : Claim7 := { stood := { row := filterSameUptoRow, standIns := [], harness := (true, "59b7e86388af7edad3fc1e6a2809be1dc335fe8cbf71a97a9035756d3b71b7f7"), looks := true }, kinds := [], alts := [], laidByText := true, laidKinds := [.data, .data, .data, .data, .sentinel, .sentinel, .data, .pinned], laidTests := true, laidLooks := .later }
def FilterSameUptoCardSaid : Prop := Claim7.holds Tryd.pinned (.plain (OpenSpec.upto filterSameSpec)) filterSameUptoCard

/-- THE SECOND FORM's CARD OF 'toponymlaw24.FilterBack'. -/
def filterBackUptoCard : Claim7 := { stood := { row := filterBackUptoRow, standIns := [], harness := (true, "59b7e86388af7edad3fc1e6a2809be1dc335fe8cbf71a97a9035756d3b71b7f7"), looks := true }, kinds := [], alts := [], laidByText := true, laidKinds := [.data, .data, .data, .data, .sentinel, .sentinel, .data, .pinned], laidTests := true, laidLooks := .later }
def FilterBackUptoCardSaid : Prop := Claim7.holds Tryd.pinned (.plain (OpenSpec.upto filterBackSpec)) filterBackUptoCard

/-- THE SECOND FORM's CARD OF 'toponymlaw24.FilterForms'. -/
def filterFormsUptoCard : Claim7 := { stood := { row := filterFormsUptoRow, standIns := [], harness := (true, "59b7e86388af7edad3fc1e6a2809be1dc335fe8cbf71a97a9035756d3b71b7f7"), looks := true }, kinds := [], alts := [], laidByText := true, laidKinds := [.data, .data, .data, .data, .sentinel, .sentinel, .data, .pinned], laidTests := true, laidLooks := .later }
def FilterFormsUptoCardSaid : Prop := Claim7.holds Tryd.pinned (.plain (OpenSpec.upto filterFormsSpec)) filterFormsUptoCard

/-- THE SECOND FORM's CARD OF 'toponymlaw24.FilterGrows'. -/
def filterGrowsUptoCard : Claim7 := { stood := { row := filterGrowsUptoRow, standIns := [], harness := (true, "59b7e86388af7edad3fc1e6a2809be1dc335fe8cbf71a97a9035756d3b71b7f7"), looks := true }, kinds := [], alts := [], laidByText := true, laidKinds := [.data, .data, .data, .data, .sentinel, .sentinel, .data, .pinned], laidTests := true, laidLooks := .later }
def FilterGrowsUptoCardSaid : Prop := Claim7.holds Tryd.pinned (.plain (OpenSpec.upto filterGrowsSpec)) filterGrowsUptoCard
end Rows
end Go.Proofs.YthbldkkjjjmegaaDoor
