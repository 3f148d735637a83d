/-
  NARROWER THAN 'FOR EVERY INPUT', by the rows' own cells (each row's printed sentence says how): PiecesCut: laid · PiecesEnds: laid · PiecesMore: laid.
  DERIVED. THE GIVEN ROWS OF THIS SEAT. 3 by the template 'for every input the law returns true; each argument reads behind the call as it read before'; 0 by the template 'total and deterministic' (their statements: YtddliikhjilngaaGreatDoorTotals.lean).
  GIVEN WITH THE SEED: the statements are not yours to turn. If you find one false, say at which input.
  Laid BY PROGRAM, IN A SANDBOX (cutbox-rows.mjs): the forced cells as the released guide's own fill.sh prints them over the translation 1554bc2718a7d32c… (all of the seat's roots in one cut). By AI agents, Wed Nov 11 2026. No macro, syntax, notation, axiom, sorry.
-/
import Derived.Test.YtddliikhjilngaaGreatDoorChecked
import GoSem.PinnedTables
import GoSem.Claim
import GoSem.ClaimJoined
import GoSem.ClaimMapViews
import Derived.JoinedTies
import Derived.KernelRfl
namespace Go.Proofs.YtddliikhjilngaaGreatDoor
/- THE CELL 'sum', in the pinned program and in every row, IS THE sha256 OF THE DUMP (.gsa) THAT YtddliikhjilngaaGreatDoorProg.lean LOADS. Nothing in Lean hashes anything: it is a label: what it is worth is what the hold of that sum in a sandbox is worth. -/
noncomputable def Tryz.pinned : Pinned := { name := "ytddliikhjilngaagreatdoor", sum := "1554bc2718a7d32caf7185f185024e618a5c9a556743acf8367db0e17bd0617a", checked := Tryz.checked }
namespace Rows
def none {H : Type} : Left H := { results := [], args := [] }

/- WHAT THE LISTED PACKAGE-LEVEL VARIABLES READ AS WHEN THE CALL BEGINS. Each datum BY PROGRAM (the guide's laid-datum.mjs) off the statement by which the dump's own 'gosem.cut.vars' lays the variable. In a bare row this is a premise. The card (YtddliikhjilngaaGreatDoorCards.lean) ties it to the program's text. -/
def laid_toponym_hangul_parts {H : Type} : DataW H := .agg [.agg [.lit (.int .i32 4352), .lit (.int .i32 4370)], .agg [.lit (.int .i32 4449), .lit (.int .i32 4469)], .agg [.lit (.int .i32 4520), .lit (.int .i32 4546)]]
def laid_unicode_utf8_acceptRanges {H : Type} : DataW H := .agg [.agg [.lit (.int .u8 128), .lit (.int .u8 191)], .agg [.lit (.int .u8 160), .lit (.int .u8 191)], .agg [.lit (.int .u8 128), .lit (.int .u8 159)], .agg [.lit (.int .u8 144), .lit (.int .u8 191)], .agg [.lit (.int .u8 128), .lit (.int .u8 143)], .agg [.lit (.int .u8 0), .lit (.int .u8 0)], .agg [.lit (.int .u8 0), .lit (.int .u8 0)], .agg [.lit (.int .u8 0), .lit (.int .u8 0)], .agg [.lit (.int .u8 0), .lit (.int .u8 0)], .agg [.lit (.int .u8 0), .lit (.int .u8 0)], .agg [.lit (.int .u8 0), .lit (.int .u8 0)], .agg [.lit (.int .u8 0), .lit (.int .u8 0)], .agg [.lit (.int .u8 0), .lit (.int .u8 0)], .agg [.lit (.int .u8 0), .lit (.int .u8 0)], .agg [.lit (.int .u8 0), .lit (.int .u8 0)], .agg [.lit (.int .u8 0), .lit (.int .u8 0)]]
def laid_toponym_fold_stretches {H : Type} : DataW H := .agg [.agg [.lit (.int .i32 65), .lit (.int .i32 90), .lit (.int .i32 1), .lit (.int .i32 32)], .agg [.lit (.int .i32 192), .lit (.int .i32 214), .lit (.int .i32 1), .lit (.int .i32 32)], .agg [.lit (.int .i32 216), .lit (.int .i32 222), .lit (.int .i32 1), .lit (.int .i32 32)], .agg [.lit (.int .i32 256), .lit (.int .i32 302), .lit (.int .i32 2), .lit (.int .i32 1)], .agg [.lit (.int .i32 306), .lit (.int .i32 310), .lit (.int .i32 2), .lit (.int .i32 1)], .agg [.lit (.int .i32 313), .lit (.int .i32 327), .lit (.int .i32 2), .lit (.int .i32 1)], .agg [.lit (.int .i32 330), .lit (.int .i32 374), .lit (.int .i32 2), .lit (.int .i32 1)], .agg [.lit (.int .i32 377), .lit (.int .i32 381), .lit (.int .i32 2), .lit (.int .i32 1)], .agg [.lit (.int .i32 904), .lit (.int .i32 906), .lit (.int .i32 1), .lit (.int .i32 37)], .agg [.lit (.int .i32 913), .lit (.int .i32 929), .lit (.int .i32 1), .lit (.int .i32 32)], .agg [.lit (.int .i32 931), .lit (.int .i32 939), .lit (.int .i32 1), .lit (.int .i32 32)], .agg [.lit (.int .i32 1040), .lit (.int .i32 1071), .lit (.int .i32 1), .lit (.int .i32 32)], .agg [.lit (.int .i32 8544), .lit (.int .i32 8555), .lit (.int .i32 1), .lit (.int .i32 16)], .agg [.lit (.int .i32 65313), .lit (.int .i32 65338), .lit (.int .i32 1), .lit (.int .i32 32)]]
def laid_toponym_decomp_romans {H : Type} : DataW H := .agg [.lit (.string [73]), .lit (.string [73, 73]), .lit (.string [73, 73, 73]), .lit (.string [73, 86]), .lit (.string [86]), .lit (.string [86, 73]), .lit (.string [86, 73, 73]), .lit (.string [86, 73, 73, 73]), .lit (.string [73, 88]), .lit (.string [88]), .lit (.string [88, 73]), .lit (.string [88, 73, 73])]
def laid_toponym_decomp_ligatures {H : Type} : DataW H := .agg [.lit (.string [102, 102]), .lit (.string [102, 105]), .lit (.string [102, 108]), .lit (.string [102, 102, 105]), .lit (.string [102, 102, 108]), .lit (.string [197, 191, 116])]
def laid_toponym_compose_scripts {H : Type} : DataW H := .agg [.agg [.lit (.int .i32 65), .lit (.int .i32 383)], .agg [.lit (.int .i32 902), .lit (.int .i32 974)], .agg [.lit (.int .i32 1025), .lit (.int .i32 1105)], .agg [.lit (.int .i32 12353), .lit (.int .i32 12436)]]
/-- One of Go's own tables, pinned by name: the form's constant. -/
def laid_unicode_CaseRanges : DataW Unit := Go.Pinned.caseRanges
/-- One of Go's own tables, pinned by name: the form's constant. -/
def laid_unicode_utf8_first : DataW Unit := Go.Pinned.utf8First

/-- 'toponymlaw13.PiecesCut': WHATEVER THE INPUT: true; the input reads as it did. -/
def piecesCutSpec : ChangeSpec := { name := "piecesCut", fn := fun _ => fun
  | [d1, d2] => { results := [.lit (.bool true)], args := [d1, d2] }
  | _ => none }
def piecesCutRow : OpenClaim := { program := "ytddliikhjilngaagreatdoor", sum := "1554bc2718a7d32caf7185f185024e618a5c9a556743acf8367db0e17bd0617a", func := "toponym/toponymlaw13.PiecesCut", spec := "piecesCut", inPlace := ["internal/bytealg.IndexByteString", "internal/bytealg.IndexString", "internal/abi.NoEscape", "internal/bytealg.MakeNoZero"], unfollowed := true, recurses := true, named := ["toponym/fold.stretches", "toponym/hangul.parts", "toponym/decomp.romans", "toponym/decomp.ligatures", "unicode/utf8.first", "unicode/utf8.acceptRanges", "unicode.CaseRanges", "toponym/compose.scripts", "internal/bytealg.MaxLen"], plainKeys := false, apart := false, laid := [("toponym/hangul.parts", laid_toponym_hangul_parts), ("unicode/utf8.acceptRanges", laid_unicode_utf8_acceptRanges), ("toponym/fold.stretches", laid_toponym_fold_stretches), ("toponym/decomp.romans", laid_toponym_decomp_romans), ("toponym/decomp.ligatures", laid_toponym_decomp_ligatures), ("toponym/compose.scripts", laid_toponym_compose_scripts), ("unicode.CaseRanges", laid_unicode_CaseRanges), ("unicode/utf8.first", laid_unicode_utf8_first)] }
def PiecesCutSaid : Prop := piecesCutRow.holds Tryz.pinned (OpenSpec.ofChange piecesCutSpec)

/-- ITS FALSE NEIGHBOUR: 'it returns false'. Refute it at one input. -/
def piecesCutWrong : ChangeSpec := { name := "piecesCut", fn := fun _ => fun
  | [d1, d2] => { results := [.lit (.bool false)], args := [d1, d2] }
  | _ => none }
def PiecesCutWrongFalsely : Prop := piecesCutRow.holds Tryz.pinned (OpenSpec.ofChange piecesCutWrong)

/-- 'toponymlaw13.PiecesEnds': WHATEVER THE INPUT: true; the input reads as it did. -/
def piecesEndsSpec : ChangeSpec := { name := "piecesEnds", fn := fun _ => fun
  | [d1, d2, d3] => { results := [.lit (.bool true)], args := [d1, d2, d3] }
  | _ => none }
def piecesEndsRow : OpenClaim := { program := "ytddliikhjilngaagreatdoor", sum := "1554bc2718a7d32caf7185f185024e618a5c9a556743acf8367db0e17bd0617a", func := "toponym/toponymlaw13.PiecesEnds", spec := "piecesEnds", inPlace := ["internal/bytealg.IndexByteString", "internal/bytealg.IndexString", "internal/abi.NoEscape", "internal/bytealg.MakeNoZero"], unfollowed := true, recurses := true, named := ["toponym/fold.stretches", "toponym/hangul.parts", "toponym/decomp.romans", "toponym/decomp.ligatures", "unicode/utf8.first", "unicode/utf8.acceptRanges", "unicode.CaseRanges", "toponym/compose.scripts", "internal/bytealg.MaxLen"], plainKeys := false, apart := false, laid := [("toponym/hangul.parts", laid_toponym_hangul_parts), ("unicode/utf8.acceptRanges", laid_unicode_utf8_acceptRanges), ("toponym/fold.stretches", laid_toponym_fold_stretches), ("toponym/decomp.romans", laid_toponym_decomp_romans), ("toponym/decomp.ligatures", laid_toponym_decomp_ligatures), ("toponym/compose.scripts", laid_toponym_compose_scripts), ("unicode.CaseRanges", laid_unicode_CaseRanges), ("unicode/utf8.first", laid_unicode_utf8_first)] }
def PiecesEndsSaid : Prop := piecesEndsRow.holds Tryz.pinned (OpenSpec.ofChange piecesEndsSpec)

/-- ITS FALSE NEIGHBOUR: 'it returns false'. Refute it at one input. -/
def piecesEndsWrong : ChangeSpec := { name := "piecesEnds", fn := fun _ => fun
  | [d1, d2, d3] => { results := [.lit (.bool false)], args := [d1, d2, d3] }
  | _ => none }
def PiecesEndsWrongFalsely : Prop := piecesEndsRow.holds Tryz.pinned (OpenSpec.ofChange piecesEndsWrong)

/-- 'toponymlaw13.PiecesMore': WHATEVER THE INPUT: true; the input reads as it did. -/
def piecesMoreSpec : ChangeSpec := { name := "piecesMore", fn := fun _ => fun
  | [d1, d2, d3] => { results := [.lit (.bool true)], args := [d1, d2, d3] }
  | _ => none }
def piecesMoreRow : OpenClaim := { program := "ytddliikhjilngaagreatdoor", sum := "1554bc2718a7d32caf7185f185024e618a5c9a556743acf8367db0e17bd0617a", func := "toponym/toponymlaw13.PiecesMore", spec := "piecesMore", inPlace := ["internal/bytealg.IndexByteString", "internal/bytealg.IndexString", "internal/abi.NoEscape", "internal/bytealg.MakeNoZero"], unfollowed := true, recurses := true, named := ["internal/bytealg.MaxLen", "toponym/fold.stretches", "toponym/hangul.parts", "toponym/decomp.romans", "toponym/decomp.ligatures", "unicode/utf8.first", "unicode/utf8.acceptRanges", "unicode.CaseRanges", "toponym/compose.scripts"], plainKeys := false, apart := false, laid := [("toponym/hangul.parts", laid_toponym_hangul_parts), ("unicode/utf8.acceptRanges", laid_unicode_utf8_acceptRanges), ("toponym/fold.stretches", laid_toponym_fold_stretches), ("toponym/decomp.romans", laid_toponym_decomp_romans), ("toponym/decomp.ligatures", laid_toponym_decomp_ligatures), ("toponym/compose.scripts", laid_toponym_compose_scripts), ("unicode.CaseRanges", laid_unicode_CaseRanges), ("unicode/utf8.first", laid_unicode_utf8_first)] }
def PiecesMoreSaid : Prop := piecesMoreRow.holds Tryz.pinned (OpenSpec.ofChange piecesMoreSpec)

/-- ITS FALSE NEIGHBOUR: 'it returns false'. Refute it at one input. -/
def piecesMoreWrong : ChangeSpec := { name := "piecesMore", fn := fun _ => fun
  | [d1, d2, d3] => { results := [.lit (.bool false)], args := [d1, d2, d3] }
  | _ => none }
def PiecesMoreWrongFalsely : Prop := piecesMoreRow.holds Tryz.pinned (OpenSpec.ofChange piecesMoreWrong)

/- THE SECOND FORM. 'bulk': how many values and letters a reading holds, each counted each time it is reached (what is shared counts as often as it is met; a slice's spare places count too). A statement '..UptoSaid' is the law's where the arguments, and the package variables that the reading takes, are together of bulk at most 1048576: NARROWER than '..Said'. Prove '..Said' where nothing that the law and all that it calls make is longer than what came in: it says more and counts as full. Else prove '..UptoSaid'. A law counts once. -/
mutual
def uptoBulk {H : Type} : DataW H → Nat
  | .lit (.string bytes) => bytes.length + 1
  | .lit _ => 1
  | .nil => 1
  | .ptr d => uptoBulk d + 1
  | .slice elems spare => uptoBulkAll elems + uptoBulkAll spare + 1
  | .agg parts => uptoBulkAll parts + 1
  | .iface _ d => uptoBulk d + 1
  | .map entries => uptoBulkEntries entries + 1
  | .held _ => 1
def uptoBulkAll {H : Type} : List (DataW H) → Nat
  | [] => 0
  | d :: r => uptoBulk d + uptoBulkAll r
def uptoBulkEntries {H : Type} : List (Lit × DataW H) → Nat
  | [] => 0
  | x :: r => uptoBulkEntry x + uptoBulkEntries r
def uptoBulkEntry {H : Type} : Lit × DataW H → Nat
  | (.string bytes, d) => bytes.length + uptoBulk d + 1
  | (_, d) => uptoBulk d + 1
 end
def uptoSmall : (H : Type) → List (DataW H) → Bool := fun _ ds => decide (uptoBulkAll ds ≤ 1048576)
def OpenSpec.upto (s : _root_.Go.ChangeSpec) : _root_.Go.OpenSpec := { _root_.Go.OpenSpec.ofChange s with cond := some uptoSmall }

/-- 'toponymlaw13.PiecesCut', WHERE WHAT IT READS IS OF BULK AT MOST 1048576: true; the input reads as it did. -/
def piecesCutUptoRow : OpenClaim := { program := "ytddliikhjilngaagreatdoor", sum := "1554bc2718a7d32caf7185f185024e618a5c9a556743acf8367db0e17bd0617a", func := "toponym/toponymlaw13.PiecesCut", spec := "piecesCut", inPlace := ["internal/bytealg.IndexByteString", "internal/bytealg.IndexString", "internal/abi.NoEscape", "internal/bytealg.MakeNoZero"], unfollowed := true, recurses := true, named := ["toponym/fold.stretches", "toponym/hangul.parts", "toponym/decomp.romans", "toponym/decomp.ligatures", "unicode/utf8.first", "unicode/utf8.acceptRanges", "unicode.CaseRanges", "toponym/compose.scripts", "internal/bytealg.MaxLen"], plainKeys := false, apart := false, laid := [("toponym/hangul.parts", laid_toponym_hangul_parts), ("unicode/utf8.acceptRanges", laid_unicode_utf8_acceptRanges), ("toponym/fold.stretches", laid_toponym_fold_stretches), ("toponym/decomp.romans", laid_toponym_decomp_romans), ("toponym/decomp.ligatures", laid_toponym_decomp_ligatures), ("toponym/compose.scripts", laid_toponym_compose_scripts), ("unicode.CaseRanges", laid_unicode_CaseRanges), ("unicode/utf8.first", laid_unicode_utf8_first)], narrowed := true }
def PiecesCutUptoSaid : Prop := piecesCutUptoRow.holds Tryz.pinned (OpenSpec.upto piecesCutSpec)

/-- 'toponymlaw13.PiecesEnds', WHERE WHAT IT READS IS OF BULK AT MOST 1048576: true; the input reads as it did. -/
def piecesEndsUptoRow : OpenClaim := { program := "ytddliikhjilngaagreatdoor", sum := "1554bc2718a7d32caf7185f185024e618a5c9a556743acf8367db0e17bd0617a", func := "toponym/toponymlaw13.PiecesEnds", spec := "piecesEnds", inPlace := ["internal/bytealg.IndexByteString", "internal/bytealg.IndexString", "internal/abi.NoEscape", "internal/bytealg.MakeNoZero"], unfollowed := true, recurses := true, named := ["toponym/fold.stretches", "toponym/hangul.parts", "toponym/decomp.romans", "toponym/decomp.ligatures", "unicode/utf8.first", "unicode/utf8.acceptRanges", "unicode.CaseRanges", "toponym/compose.scripts", "internal/bytealg.MaxLen"], plainKeys := false, apart := false, laid := [("toponym/hangul.parts", laid_toponym_hangul_parts), ("unicode/utf8.acceptRanges", laid_unicode_utf8_acceptRanges), ("toponym/fold.stretches", laid_toponym_fold_stretches), ("toponym/decomp.romans", laid_toponym_decomp_romans), ("toponym/decomp.ligatures", laid_toponym_decomp_ligatures), ("toponym/compose.scripts", laid_toponym_compose_scripts), ("unicode.CaseRanges", laid_unicode_CaseRanges), ("unicode/utf8.first", laid_unicode_utf8_first)], narrowed := true }
def PiecesEndsUptoSaid : Prop := piecesEndsUptoRow.holds Tryz.pinned (OpenSpec.upto piecesEndsSpec)

/-- 'toponymlaw13.PiecesMore', WHERE WHAT IT READS IS OF BULK AT MOST 1048576: true; the input reads as it did. -/
def piecesMoreUptoRow : OpenClaim := { program := "ytddliikhjilngaagreatdoor", sum := "1554bc2718a7d32caf7185f185024e618a5c9a556743acf8367db0e17bd0617a", func := "toponym/toponymlaw13.PiecesMore", spec := "piecesMore", inPlace := ["internal/bytealg.IndexByteString", "internal/bytealg.IndexString", "internal/abi.NoEscape", "internal/bytealg.MakeNoZero"], unfollowed := true, recurses := true, named := ["internal/bytealg.MaxLen", "toponym/fold.stretches", "toponym/hangul.parts", "toponym/decomp.romans", "toponym/decomp.ligatures", "unicode/utf8.first", "unicode/utf8.acceptRanges", "unicode.CaseRanges", "toponym/compose.scripts"], plainKeys := false, apart := false, laid := [("toponym/hangul.parts", laid_toponym_hangul_parts), ("unicode/utf8.acceptRanges", laid_unicode_utf8_acceptRanges), ("toponym/fold.stretches", laid_toponym_fold_stretches), ("toponym/decomp.romans", laid_toponym_decomp_romans), ("toponym/decomp.ligatures", laid_toponym_decomp_ligatures), ("toponym/compose.scripts", laid_toponym_compose_scripts), ("unicode.CaseRanges", laid_unicode_CaseRanges), ("unicode/utf8.first", laid_unicode_utf8_first)], narrowed := true }
def PiecesMoreUptoSaid : Prop := piecesMoreUptoRow.holds Tryz.pinned (OpenSpec.upto piecesMoreSpec)

end Rows
end Go.Proofs.YtddliikhjilngaaGreatDoor
