/-
  DERIVED. GIVEN WITH THE SEED: THE CARDS: each row of YtfobbcddedcepaaDoorRows.lean that lists a variable, with what it lists TIED to the program's text (the seventh form; the later family's looks); each row that meets fmt, with fmt's text TOLD by the authors' own Lean function (tested against real Go, not proved from fmt's source: count such statements apart). THE CARD IS WHAT COUNTS. Prove the row's statement (the work); the ties are given (YtfobbcddedcepaaDoorTie.lean); close each card by the builder's one call (the guide's Derived/Test/ToyasCard.lean, 'card_holds'). Laid BY PROGRAM, IN A SANDBOX (cutbox-door.mjs). By AI agents, Wed Nov 11 2026. No macro, syntax, notation, axiom, sorry.
-/
import Derived.Test.YtfobbcddedcepaaDoorRows
import GoSem.ClaimSeven
namespace Go.Proofs.YtfobbcddedcepaaDoor
namespace Rows

/-- THE TIED CARD OF 'frisketlaw05.SourcePlays'. -/
def sourcePlaysCard : Claim7 := { stood := { row := sourcePlaysRow, standIns := [], harness := (true, "33bf57c01f73b89c071579517d71e2d90d0e1bab86ac47b7a9bc06f788533347"), looks := false }, kinds := [], alts := [], laidByText := true, laidKinds := [.data, .pinned], laidTests := true, laidLooks := .later }
def SourcePlaysCardSaid : Prop := Claim7.holds Tryd.pinned (.plain (OpenSpec.ofChange sourcePlaysSpec)) sourcePlaysCard

/-- THE TIED CARD OF 'frisketlaw05.SourceCopies'. -/
def sourceCopiesCard : Claim7 := { stood := { row := sourceCopiesRow, standIns := [], harness := (true, "33bf57c01f73b89c071579517d71e2d90d0e1bab86ac47b7a9bc06f788533347"), looks := false }, kinds := [], alts := [], laidByText := true, laidKinds := [.data, .pinned], laidTests := true, laidLooks := .later }
def SourceCopiesCardSaid : Prop := Claim7.holds Tryd.pinned (.plain (OpenSpec.ofChange sourceCopiesSpec)) sourceCopiesCard

/-- THE SECOND FORM's CARD OF 'frisketlaw05.SourcePlays'. -/
def sourcePlaysUptoCard : Claim7 := { stood := { row := sourcePlaysUptoRow, standIns := [], harness := (true, "33bf57c01f73b89c071579517d71e2d90d0e1bab86ac47b7a9bc06f788533347"), looks := false }, kinds := [], alts := [], laidByText := true, laidKinds := [.data, .pinned], laidTests := true, laidLooks := .later }
def SourcePlaysUptoCardSaid : Prop := Claim7.holds Tryd.pinned (.plain (OpenSpec.upto sourcePlaysSpec)) sourcePlaysUptoCard

/-- THE SECOND FORM's CARD OF 'frisketlaw05.SourceCopies'. -/
def sourceCopiesUptoCard : Claim7 := { stood := { row := sourceCopiesUptoRow, standIns := [], harness := (true, "33bf57c01f73b89c071579517d71e2d90d0e1bab86ac47b7a9bc06f788533347"), looks := false }, kinds := [], alts := [], laidByText := true, laidKinds := [.data, .pinned], laidTests := true, laidLooks := .later }
def SourceCopiesUptoCardSaid : Prop := Claim7.holds Tryd.pinned (.plain (OpenSpec.upto sourceCopiesSpec)) sourceCopiesUptoCard
end Rows
end Go.Proofs.YtfobbcddedcepaaDoor
