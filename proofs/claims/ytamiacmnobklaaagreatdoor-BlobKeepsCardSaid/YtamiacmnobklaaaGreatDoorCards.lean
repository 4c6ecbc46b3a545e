/-
  DERIVED. GIVEN WITH THE SEED: THE CARDS: each row of YtamiacmnobklaaaGreatDoorRows.lean that lists a variable, with what it lists TIED to the program's text (the seventh form; the later family's looks); each row that meets fmt, with fmt's text TOLD by the authors' own Lean function (tested against real Go, not proved from fmt's source: count such statements apart). THE CARD IS WHAT COUNTS. Prove the row's statement (the work); the ties are given (YtamiacmnobklaaaGreatDoorTie.lean); close each card by the builder's one call (the guide's Derived/Test/ToyasCard.lean, 'card_holds'). Laid BY PROGRAM, IN A SANDBOX (cutbox-door.mjs). By AI agents, Wed Nov 11 2026. No macro, syntax, notation, axiom, sorry.
-/
import Derived.Test.YtamiacmnobklaaaGreatDoorRows
import GoSem.ClaimSeven
namespace Go.Proofs.YtamiacmnobklaaaGreatDoor
namespace Rows

/-- THE TIED CARD OF 'barquelaw11.BlobPlays'. -/
def blobPlaysCard : Claim7 := { stood := { row := blobPlaysRow, standIns := [], harness := (true, "5d54f79b9106722fd056a0236f8210997303ce54136316637b2e355625defd1f"), looks := false }, kinds := [], alts := [], laidByText := true, laidKinds := [.data, .pinned], laidTests := true, laidLooks := .later }
def BlobPlaysCardSaid : Prop := Claim7.holds Tryz.pinned (.plain (OpenSpec.ofChange blobPlaysSpec)) blobPlaysCard

/-- THE TIED CARD OF 'barquelaw11.BlobKeeps'. -/
def blobKeepsCard : Claim7 := { stood := { row := blobKeepsRow, standIns := [], harness := (true, "5d54f79b9106722fd056a0236f8210997303ce54136316637b2e355625defd1f"), looks := false }, kinds := [], alts := [], laidByText := true, laidKinds := [.data, .pinned], laidTests := true, laidLooks := .later }
def BlobKeepsCardSaid : Prop := Claim7.holds Tryz.pinned (.plain (OpenSpec.ofChange blobKeepsSpec)) blobKeepsCard

/-- THE TIED CARD OF 'barquelaw11.BlobPacks'. -/
def blobPacksCard : Claim7 := { stood := { row := blobPacksRow, standIns := [], harness := (true, "5d54f79b9106722fd056a0236f8210997303ce54136316637b2e355625defd1f"), looks := false }, kinds := [], alts := [], laidByText := true, laidKinds := [.data, .data, .data, .pinned], laidTests := true, laidLooks := .later }
def BlobPacksCardSaid : Prop := Claim7.holds Tryz.pinned (.plain (OpenSpec.ofChange blobPacksSpec)) blobPacksCard

/-- THE TIED CARD OF 'barquelaw11.BlobUnpacks'. -/
def blobUnpacksCard : Claim7 := { stood := { row := blobUnpacksRow, standIns := [], harness := (true, "5d54f79b9106722fd056a0236f8210997303ce54136316637b2e355625defd1f"), looks := false }, kinds := [], alts := [], laidByText := true, laidKinds := [.data, .data, .data, .pinned], laidTests := true, laidLooks := .later }
def BlobUnpacksCardSaid : Prop := Claim7.holds Tryz.pinned (.plain (OpenSpec.ofChange blobUnpacksSpec)) blobUnpacksCard

/-- THE TIED CARD OF 'barquelaw11.BlobNobody'. -/
def blobNobodyCard : Claim7 := { stood := { row := blobNobodyRow, standIns := [], harness := (true, "5d54f79b9106722fd056a0236f8210997303ce54136316637b2e355625defd1f"), looks := false }, kinds := [], alts := [], laidByText := true, laidKinds := [.data, .data, .data, .pinned], laidTests := true, laidLooks := .later }
def BlobNobodyCardSaid : Prop := Claim7.holds Tryz.pinned (.plain (OpenSpec.ofChange blobNobodySpec)) blobNobodyCard

/-- THE SECOND FORM's CARD OF 'barquelaw11.BlobPlays'. -/
def blobPlaysUptoCard : Claim7 := { stood := { row := blobPlaysUptoRow, standIns := [], harness := (true, "5d54f79b9106722fd056a0236f8210997303ce54136316637b2e355625defd1f"), looks := false }, kinds := [], alts := [], laidByText := true, laidKinds := [.data, .pinned], laidTests := true, laidLooks := .later }
def BlobPlaysUptoCardSaid : Prop := Claim7.holds Tryz.pinned (.plain (OpenSpec.upto blobPlaysSpec)) blobPlaysUptoCard

/-- THE SECOND FORM's CARD OF 'barquelaw11.BlobKeeps'. -/
def blobKeepsUptoCard : Claim7 := { stood := { row := blobKeepsUptoRow, standIns := [], harness := (true, "5d54f79b9106722fd056a0236f8210997303ce54136316637b2e355625defd1f"), looks := false }, kinds := [], alts := [], laidByText := true, laidKinds := [.data, .pinned], laidTests := true, laidLooks := .later }
def BlobKeepsUptoCardSaid : Prop := Claim7.holds Tryz.pinned (.plain (OpenSpec.upto blobKeepsSpec)) blobKeepsUptoCard

/-- THE SECOND FORM's CARD OF 'barquelaw11.BlobPacks'. -/
def blobPacksUptoCard : Claim7 := { stood := { row := blobPacksUptoRow, standIns := [], harness := (true, "5d54f79b9106722fd056a0236f8210997303ce54136316637b2e355625defd1f"), looks := false }, kinds := [], alts := [], laidByText := true, laidKinds := [.data, .data, .data, .pinned], laidTests := true, laidLooks := .later }
def BlobPacksUptoCardSaid : Prop := Claim7.holds Tryz.pinned (.plain (OpenSpec.upto blobPacksSpec)) blobPacksUptoCard

/-- THE SECOND FORM's CARD OF 'barquelaw11.BlobUnpacks'. -/
def blobUnpacksUptoCard : Claim7 := { stood := { row := blobUnpacksUptoRow, standIns := [], harness := (true, "5d54f79b9106722fd056a0236f8210997303ce54136316637b2e355625defd1f"), looks := false }, kinds := [], alts := [], laidByText := true, laidKinds := [.data, .data, .data, .pinned], laidTests := true, laidLooks := .later }
def BlobUnpacksUptoCardSaid : Prop := Claim7.holds Tryz.pinned (.plain (OpenSpec.upto blobUnpacksSpec)) blobUnpacksUptoCard

/-- THE SECOND FORM's CARD OF 'barquelaw11.BlobNobody'. -/
def blobNobodyUptoCard : Claim7 := { stood := { row := blobNobodyUptoRow, standIns := [], harness := (true, "5d54f79b9106722fd056a0236f8210997303ce54136316637b2e355625defd1f"), looks := false }, kinds := [], alts := [], laidByText := true, laidKinds := [.data, .data, .data, .pinned], laidTests := true, laidLooks := .later }
def BlobNobodyUptoCardSaid : Prop := Claim7.holds Tryz.pinned (.plain (OpenSpec.upto blobNobodySpec)) blobNobodyUptoCard
end Rows
end Go.Proofs.YtamiacmnobklaaaGreatDoor
