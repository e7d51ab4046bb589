/-
  DERIVED. GIVEN WITH THE SEED: THE CARDS: each row of YtpemfnhplkjndaaGreatDoorRows.lean that lists a variable, with what it lists TIED to the program's text (the seventh form; the later family's looks); each row that meets fmt, with fmt's text TOLD by the authors' own Lean function (tested against real Go, not proved from fmt's source: count such statements apart). THE CARD IS WHAT COUNTS. Prove the row's statement (the work); the ties are given (YtpemfnhplkjndaaGreatDoorTie.lean); close each card by the builder's one call (the guide's Derived/Test/ToyasCard.lean, 'card_holds'). Laid BY PROGRAM, IN A SANDBOX (cutbox-door.mjs). By AI agents, Wed Nov 11 2026. No macro, syntax, notation, axiom, sorry.
-/
import Derived.Test.YtpemfnhplkjndaaGreatDoorRows
import GoSem.ClaimSeven
namespace Go.Proofs.YtpemfnhplkjndaaGreatDoor
namespace Rows

/-- THE TIED CARD OF 'erratalaw10.GraspNames'. -/
def graspNamesCard : Claim7 := { stood := { row := graspNamesRow, standIns := [], harness := (true, "7c46ec9c503429ea7efd51dc26b6ad5be1dadd21f12508cb1b1b1b1373938b94"), looks := true }, kinds := [], alts := [], laidByText := true, laidKinds := [.data, .data, .data, .data, .data, .pinned, .pinned, .pinned], laidTests := true, laidLooks := .later }
def GraspNamesCardSaid : Prop := Claim7.holds Tryz.pinned (.plain (OpenSpec.ofChange graspNamesSpec)) graspNamesCard

/-- THE SECOND FORM's CARD OF 'erratalaw10.GraspNames'. -/
def graspNamesUptoCard : Claim7 := { stood := { row := graspNamesUptoRow, standIns := [], harness := (true, "7c46ec9c503429ea7efd51dc26b6ad5be1dadd21f12508cb1b1b1b1373938b94"), looks := true }, kinds := [], alts := [], laidByText := true, laidKinds := [.data, .data, .data, .data, .data, .pinned, .pinned, .pinned], laidTests := true, laidLooks := .later }
def GraspNamesUptoCardSaid : Prop := Claim7.holds Tryz.pinned (.plain (OpenSpec.upto graspNamesSpec)) graspNamesUptoCard
end Rows
end Go.Proofs.YtpemfnhplkjndaaGreatDoor
