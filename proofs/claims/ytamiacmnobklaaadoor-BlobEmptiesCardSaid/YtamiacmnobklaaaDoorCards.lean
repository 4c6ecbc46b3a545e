/-
  DERIVED. GIVEN WITH THE SEED: THE CARDS: each row of YtamiacmnobklaaaDoorRows.lean that lists a variable, with what it lists TIED to the program's text (the seventh form; the later family's looks); each row that meets fmt, with fmt's text TOLD by the authors' own Lean function (tested against real Go, not proved from fmt's source: count such statements apart). THE CARD IS WHAT COUNTS. Prove the row's statement (the work); the ties are given (YtamiacmnobklaaaDoorTie.lean); close each card by the builder's one call (the guide's Derived/Test/ToyasCard.lean, 'card_holds'). Laid BY PROGRAM, IN A SANDBOX (cutbox-door.mjs). By AI agents, Wed Nov 11 2026. No macro, syntax, notation, axiom, sorry.
-/
import Derived.Test.YtamiacmnobklaaaDoorRows
import GoSem.ClaimSeven
namespace Go.Proofs.YtamiacmnobklaaaDoor
namespace Rows

/-- THE TIED CARD OF 'barquelaw11.BlobEmpties'. -/
def blobEmptiesCard : Claim7 := { stood := { row := blobEmptiesRow, standIns := [], harness := (true, "af751a5c36727d2fa51fd3169222de74ba9c69b52d03a49bcf801d6bae84ced5"), looks := false }, kinds := [], alts := [], laidByText := true, laidKinds := [.data, .pinned], laidTests := true, laidLooks := .later }
def BlobEmptiesCardSaid : Prop := Claim7.holds Tryd.pinned (.plain (OpenSpec.ofChange blobEmptiesSpec)) blobEmptiesCard

/-- THE TIED CARD OF 'barquelaw11.BlobLong'. -/
def blobLongCard : Claim7 := { stood := { row := blobLongRow, standIns := [], harness := (true, "af751a5c36727d2fa51fd3169222de74ba9c69b52d03a49bcf801d6bae84ced5"), looks := false }, kinds := [], alts := [], laidByText := true, laidKinds := [.data, .pinned], laidTests := true, laidLooks := .later }
def BlobLongCardSaid : Prop := Claim7.holds Tryd.pinned (.plain (OpenSpec.ofChange blobLongSpec)) blobLongCard

/-- THE TIED CARD OF 'barquelaw11.BlobLacks'. -/
def blobLacksCard : Claim7 := { stood := { row := blobLacksRow, standIns := [], harness := (true, "af751a5c36727d2fa51fd3169222de74ba9c69b52d03a49bcf801d6bae84ced5"), looks := false }, kinds := [], alts := [], laidByText := true, laidKinds := [.data, .pinned], laidTests := true, laidLooks := .later }
def BlobLacksCardSaid : Prop := Claim7.holds Tryd.pinned (.plain (OpenSpec.ofChange blobLacksSpec)) blobLacksCard

/-- THE SECOND FORM's CARD OF 'barquelaw11.BlobEmpties'. -/
def blobEmptiesUptoCard : Claim7 := { stood := { row := blobEmptiesUptoRow, standIns := [], harness := (true, "af751a5c36727d2fa51fd3169222de74ba9c69b52d03a49bcf801d6bae84ced5"), looks := false }, kinds := [], alts := [], laidByText := true, laidKinds := [.data, .pinned], laidTests := true, laidLooks := .later }
def BlobEmptiesUptoCardSaid : Prop := Claim7.holds Tryd.pinned (.plain (OpenSpec.upto blobEmptiesSpec)) blobEmptiesUptoCard

/-- THE SECOND FORM's CARD OF 'barquelaw11.BlobLong'. -/
def blobLongUptoCard : Claim7 := { stood := { row := blobLongUptoRow, standIns := [], harness := (true, "af751a5c36727d2fa51fd3169222de74ba9c69b52d03a49bcf801d6bae84ced5"), looks := false }, kinds := [], alts := [], laidByText := true, laidKinds := [.data, .pinned], laidTests := true, laidLooks := .later }
def BlobLongUptoCardSaid : Prop := Claim7.holds Tryd.pinned (.plain (OpenSpec.upto blobLongSpec)) blobLongUptoCard

/-- THE SECOND FORM's CARD OF 'barquelaw11.BlobLacks'. -/
def blobLacksUptoCard : Claim7 := { stood := { row := blobLacksUptoRow, standIns := [], harness := (true, "af751a5c36727d2fa51fd3169222de74ba9c69b52d03a49bcf801d6bae84ced5"), looks := false }, kinds := [], alts := [], laidByText := true, laidKinds := [.data, .pinned], laidTests := true, laidLooks := .later }
def BlobLacksUptoCardSaid : Prop := Claim7.holds Tryd.pinned (.plain (OpenSpec.upto blobLacksSpec)) blobLacksUptoCard
end Rows
end Go.Proofs.YtamiacmnobklaaaDoor
