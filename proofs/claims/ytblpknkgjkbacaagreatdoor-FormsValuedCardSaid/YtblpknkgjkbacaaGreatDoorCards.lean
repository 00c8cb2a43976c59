/-
  DERIVED. GIVEN WITH THE SEED: THE CARDS: each row of YtblpknkgjkbacaaGreatDoorRows.lean that lists a variable, with what it lists TIED to the program's text (the seventh form; the later family's looks); each row that meets fmt, with fmt's text TOLD by the authors' own Lean function (tested against real Go, not proved from fmt's source: count such statements apart). THE CARD IS WHAT COUNTS. Prove the row's statement (the work); the ties are given (YtblpknkgjkbacaaGreatDoorTie.lean); close each card by the builder's one call (the guide's Derived/Test/ToyasCard.lean, 'card_holds'). Laid BY PROGRAM, IN A SANDBOX (cutbox-door.mjs). By AI agents, Wed Nov 11 2026. No macro, syntax, notation, axiom, sorry.
-/
import Derived.Test.YtblpknkgjkbacaaGreatDoorRows
import GoSem.ClaimSeven
namespace Go.Proofs.YtblpknkgjkbacaaGreatDoor
namespace Rows

/-- THE TIED CARD OF 'wblaw1.FormsValued'. -/
def formsValuedCard : Claim7 := { stood := { row := formsValuedRow, standIns := [], harness := (true, "5fb57252dc4a2adb3477e2faeaaf183f7bc08596853f1469475747000b3900ad"), looks := true }, kinds := [], alts := [], laidByText := true, laidKinds := [.data, .data, .data, .sentinel, .sentinel], laidTests := true, laidLooks := .later }
def FormsValuedCardSaid : Prop := Claim7.holds Tryz.pinned (.plain (OpenSpec.ofChange formsValuedSpec)) formsValuedCard

/-- THE SECOND FORM's CARD OF 'wblaw1.FormsValued'. -/
def formsValuedUptoCard : Claim7 := { stood := { row := formsValuedUptoRow, standIns := [], harness := (true, "5fb57252dc4a2adb3477e2faeaaf183f7bc08596853f1469475747000b3900ad"), looks := true }, kinds := [], alts := [], laidByText := true, laidKinds := [.data, .data, .data, .sentinel, .sentinel], laidTests := true, laidLooks := .later }
def FormsValuedUptoCardSaid : Prop := Claim7.holds Tryz.pinned (.plain (OpenSpec.upto formsValuedSpec)) formsValuedUptoCard
end Rows
end Go.Proofs.YtblpknkgjkbacaaGreatDoor
