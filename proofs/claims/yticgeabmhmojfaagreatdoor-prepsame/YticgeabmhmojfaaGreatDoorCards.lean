/-
  DERIVED. GIVEN WITH THE SEED: THE CARDS: each row of YticgeabmhmojfaaGreatDoorRows.lean that lists a variable, with what it lists TIED to the program's text (the seventh form; the later family's looks); each row that meets fmt, with fmt's text TOLD by the authors' own Lean function (tested against real Go, not proved from fmt's source: count such statements apart). THE CARD IS WHAT COUNTS. Prove the row's statement (the work); the ties are given (YticgeabmhmojfaaGreatDoorTie.lean); close each card by the builder's one call (the guide's Derived/Test/ToyasCard.lean, 'card_holds'). Laid BY PROGRAM, IN A SANDBOX (cutbox-door.mjs). By AI agents, Wed Nov 11 2026. No macro, syntax, notation, axiom, sorry.
-/
import Derived.Test.YticgeabmhmojfaaGreatDoorRows
import GoSem.ClaimSeven
namespace Go.Proofs.YticgeabmhmojfaaGreatDoor
namespace Rows

/-- THE TIED CARD OF 'toponymlaw12.PrepSame'. -/
def prepSameCard : Claim7 := { stood := { row := prepSameRow, standIns := [], harness := (true, "b9dacff92fd9421dc8d11c181ed7a1dc49eae726bd863cc4d25a8726ede0730d"), looks := false }, kinds := [], alts := [], laidByText := true, laidKinds := [.data, .data, .data, .data, .data, .data, .pinned, .pinned], laidTests := true, laidLooks := .later }
def PrepSameCardSaid : Prop := Claim7.holds Tryz.pinned (.plain (OpenSpec.ofChange prepSameSpec)) prepSameCard

/-- THE SECOND FORM's CARD OF 'toponymlaw12.PrepSame'. -/
def prepSameUptoCard : Claim7 := { stood := { row := prepSameUptoRow, standIns := [], harness := (true, "b9dacff92fd9421dc8d11c181ed7a1dc49eae726bd863cc4d25a8726ede0730d"), looks := false }, kinds := [], alts := [], laidByText := true, laidKinds := [.data, .data, .data, .data, .data, .data, .pinned, .pinned], laidTests := true, laidLooks := .later }
def PrepSameUptoCardSaid : Prop := Claim7.holds Tryz.pinned (.plain (OpenSpec.upto prepSameSpec)) prepSameUptoCard
end Rows
end Go.Proofs.YticgeabmhmojfaaGreatDoor
