/-
  DERIVED. GIVEN WITH THE SEED: THE CARDS: each row of YtijpnlomfodihabDoorRows.lean that lists a variable, with what it lists TIED to the program's text (the seventh form; the later family's looks); each row that meets fmt, with fmt's text TOLD by the authors' own Lean function (tested against real Go, not proved from fmt's source: count such statements apart). THE CARD IS WHAT COUNTS. Prove the row's statement (the work); the ties are given (YtijpnlomfodihabDoorTie.lean); close each card by the builder's one call (the guide's Derived/Test/ToyasCard.lean, 'card_holds'). Laid BY PROGRAM, IN A SANDBOX (cutbox-door.mjs). By AI agents, Wed Nov 11 2026. No macro, syntax, notation, axiom, sorry.
-/
import Derived.Test.YtijpnlomfodihabDoorRows
import GoSem.ClaimSeven
namespace Go.Proofs.YtijpnlomfodihabDoor
namespace Rows

/-- THE TIED CARD OF 'hedgerowlaw03.KeyPrefix'. -/
def keyPrefixCard : Claim7 := { stood := { row := keyPrefixRow, standIns := [], harness := (true, "3bfcae1ec58335b39e62ae3142b7bd41fd06a633d6439f2d9567020aee197af4"), looks := false }, kinds := [], alts := [], laidByText := true, laidKinds := [.data, .pinned], laidTests := true, laidLooks := .later }
def KeyPrefixCardSaid : Prop := Claim7.holds Tryd.pinned (.plain (OpenSpec.ofChange keyPrefixSpec)) keyPrefixCard

/-- THE SECOND FORM's CARD OF 'hedgerowlaw03.KeyPrefix'. -/
def keyPrefixUptoCard : Claim7 := { stood := { row := keyPrefixUptoRow, standIns := [], harness := (true, "3bfcae1ec58335b39e62ae3142b7bd41fd06a633d6439f2d9567020aee197af4"), looks := false }, kinds := [], alts := [], laidByText := true, laidKinds := [.data, .pinned], laidTests := true, laidLooks := .later }
def KeyPrefixUptoCardSaid : Prop := Claim7.holds Tryd.pinned (.plain (OpenSpec.upto keyPrefixSpec)) keyPrefixUptoCard
end Rows
end Go.Proofs.YtijpnlomfodihabDoor
