/-
  DERIVED. GIVEN WITH THE SEED: THE CARDS: each row of YtcgkdiflhlmlgaaDoorRows.lean that lists a variable, with what it lists TIED to the program's text (the seventh form; the later family's looks); each row that meets fmt, with fmt's text TOLD by the authors' own Lean function (tested against real Go, not proved from fmt's source: count such statements apart). THE CARD IS WHAT COUNTS. Prove the row's statement (the work); the ties are given (YtcgkdiflhlmlgaaDoorTie.lean); close each card by the builder's one call (the guide's Derived/Test/ToyasCard.lean, 'card_holds'). Laid BY PROGRAM, IN A SANDBOX (cutbox-door.mjs). By AI agents, Wed Nov 11 2026. No macro, syntax, notation, axiom, sorry.
-/
import Derived.Test.YtcgkdiflhlmlgaaDoorRows
import GoSem.ClaimSeven
namespace Go.Proofs.YtcgkdiflhlmlgaaDoor
namespace Rows

/-- THE TIED CARD OF 'toponymlaw04.HangulParts'. -/
def hangulPartsCard : Claim7 := { stood := { row := hangulPartsRow, standIns := [], harness := (true, "b0d8023b2bc42114bd93d90e075c6ade68cab26d8666c9277dba192e9124a8b1"), looks := false }, kinds := [], alts := [], laidByText := true, laidKinds := [.data], laidTests := true, laidLooks := .later }
def HangulPartsCardSaid : Prop := Claim7.holds Tryd.pinned (.plain (OpenSpec.ofChange hangulPartsSpec)) hangulPartsCard

/-- THE TIED CARD OF 'toponymlaw04.HangulJoins'. -/
def hangulJoinsCard : Claim7 := { stood := { row := hangulJoinsRow, standIns := [], harness := (true, "b0d8023b2bc42114bd93d90e075c6ade68cab26d8666c9277dba192e9124a8b1"), looks := false }, kinds := [], alts := [], laidByText := true, laidKinds := [.data], laidTests := true, laidLooks := .later }
def HangulJoinsCardSaid : Prop := Claim7.holds Tryd.pinned (.plain (OpenSpec.ofChange hangulJoinsSpec)) hangulJoinsCard

/-- THE TIED CARD OF 'toponymlaw04.HangulWholes'. -/
def hangulWholesCard : Claim7 := { stood := { row := hangulWholesRow, standIns := [], harness := (true, "b0d8023b2bc42114bd93d90e075c6ade68cab26d8666c9277dba192e9124a8b1"), looks := false }, kinds := [], alts := [], laidByText := true, laidKinds := [.data], laidTests := true, laidLooks := .later }
def HangulWholesCardSaid : Prop := Claim7.holds Tryd.pinned (.plain (OpenSpec.ofChange hangulWholesSpec)) hangulWholesCard

/-- THE TIED CARD OF 'toponymlaw04.HangulBack'. -/
def hangulBackCard : Claim7 := { stood := { row := hangulBackRow, standIns := [], harness := (true, "b0d8023b2bc42114bd93d90e075c6ade68cab26d8666c9277dba192e9124a8b1"), looks := false }, kinds := [], alts := [], laidByText := true, laidKinds := [.data], laidTests := true, laidLooks := .later }
def HangulBackCardSaid : Prop := Claim7.holds Tryd.pinned (.plain (OpenSpec.ofChange hangulBackSpec)) hangulBackCard

/-- THE TIED CARD OF 'toponymlaw04.HangulWhole'. -/
def hangulWholeCard : Claim7 := { stood := { row := hangulWholeRow, standIns := [], harness := (true, "b0d8023b2bc42114bd93d90e075c6ade68cab26d8666c9277dba192e9124a8b1"), looks := false }, kinds := [], alts := [], laidByText := true, laidKinds := [.data], laidTests := true, laidLooks := .later }
def HangulWholeCardSaid : Prop := Claim7.holds Tryd.pinned (.plain (OpenSpec.ofChange hangulWholeSpec)) hangulWholeCard

/-- THE SECOND FORM's CARD OF 'toponymlaw04.HangulParts'. -/
def hangulPartsUptoCard : Claim7 := { stood := { row := hangulPartsUptoRow, standIns := [], harness := (true, "b0d8023b2bc42114bd93d90e075c6ade68cab26d8666c9277dba192e9124a8b1"), looks := false }, kinds := [], alts := [], laidByText := true, laidKinds := [.data], laidTests := true, laidLooks := .later }
def HangulPartsUptoCardSaid : Prop := Claim7.holds Tryd.pinned (.plain (OpenSpec.upto hangulPartsSpec)) hangulPartsUptoCard

/-- THE SECOND FORM's CARD OF 'toponymlaw04.HangulJoins'. -/
def hangulJoinsUptoCard : Claim7 := { stood := { row := hangulJoinsUptoRow, standIns := [], harness := (true, "b0d8023b2bc42114bd93d90e075c6ade68cab26d8666c9277dba192e9124a8b1"), looks := false }, kinds := [], alts := [], laidByText := true, laidKinds := [.data], laidTests := true, laidLooks := .later }
def HangulJoinsUptoCardSaid : Prop := Claim7.holds Tryd.pinned (.plain (OpenSpec.upto hangulJoinsSpec)) hangulJoinsUptoCard

/-- THE SECOND FORM's CARD OF 'toponymlaw04.HangulWholes'. -/
def hangulWholesUptoCard : Claim7 := { stood := { row := hangulWholesUptoRow, standIns := [], harness := (true, "b0d8023b2bc42114bd93d90e075c6ade68cab26d8666c9277dba192e9124a8b1"), looks := false }, kinds := [], alts := [], laidByText := true, laidKinds := [.data], laidTests := true, laidLooks := .later }
def HangulWholesUptoCardSaid : Prop := Claim7.holds Tryd.pinned (.plain (OpenSpec.upto hangulWholesSpec)) hangulWholesUptoCard

/-- THE SECOND FORM's CARD OF 'toponymlaw04.HangulBack'. -/
def hangulBackUptoCard : Claim7 := { stood := { row := hangulBackUptoRow, standIns := [], harness := (true, "b0d8023b2bc42114bd93d90e075c6ade68cab26d8666c9277dba192e9124a8b1"), looks := false }, kinds := [], alts := [], laidByText := true, laidKinds := [.data], laidTests := true, laidLooks := .later }
def HangulBackUptoCardSaid : Prop := Claim7.holds Tryd.pinned (.plain (OpenSpec.upto hangulBackSpec)) hangulBackUptoCard

/-- THE SECOND FORM's CARD OF 'toponymlaw04.HangulWhole'. -/
def hangulWholeUptoCard : Claim7 := { stood := { row := hangulWholeUptoRow, standIns := [], harness := (true, "b0d8023b2bc42114bd93d90e075c6ade68cab26d8666c9277dba192e9124a8b1"), looks := false }, kinds := [], alts := [], laidByText := true, laidKinds := [.data], laidTests := true, laidLooks := .later }
def HangulWholeUptoCardSaid : Prop := Claim7.holds Tryd.pinned (.plain (OpenSpec.upto hangulWholeSpec)) hangulWholeUptoCard
end Rows
end Go.Proofs.YtcgkdiflhlmlgaaDoor
