/-
  DERIVED. GIVEN WITH THE SEED: THE CARDS: each row of YtjgoceebjmnjcaaDoorRows.lean that lists a variable, with what it lists TIED to the program's text (the seventh form; the later family's looks); each row that meets fmt, with fmt's text TOLD by the authors' own Lean function (tested against real Go, not proved from fmt's source: count such statements apart). THE CARD IS WHAT COUNTS. Prove the row's statement (the work); the ties are given (YtjgoceebjmnjcaaDoorTie.lean); close each card by the builder's one call (the guide's Derived/Test/ToyasCard.lean, 'card_holds'). Laid BY PROGRAM, IN A SANDBOX (cutbox-door.mjs). By AI agents, Wed Nov 11 2026. No macro, syntax, notation, axiom, sorry.
-/
import Derived.Test.YtjgoceebjmnjcaaDoorRows
import GoSem.ClaimSeven
namespace Go.Proofs.YtjgoceebjmnjcaaDoor
namespace Rows

/-- THE TIED CARD OF 'barquelaw02.FrameSums'. -/
def frameSumsCard : Claim7 := { stood := { row := frameSumsRow, standIns := [], harness := (true, "9ef608dc47cff45a103bb3b536ff693339ca5a4624768643a06bd6b1ac457b61"), looks := false }, kinds := [], alts := [], laidByText := true, laidKinds := [.data], laidTests := true, laidLooks := .later }
def FrameSumsCardSaid : Prop := Claim7.holds Tryd.pinned (.plain (OpenSpec.ofChange frameSumsSpec)) frameSumsCard

/-- THE TIED CARD OF 'barquelaw02.FrameAdds'. -/
def frameAddsCard : Claim7 := { stood := { row := frameAddsRow, standIns := [], harness := (true, "9ef608dc47cff45a103bb3b536ff693339ca5a4624768643a06bd6b1ac457b61"), looks := false }, kinds := [], alts := [], laidByText := true, laidKinds := [.data], laidTests := true, laidLooks := .later }
def FrameAddsCardSaid : Prop := Claim7.holds Tryd.pinned (.plain (OpenSpec.ofChange frameAddsSpec)) frameAddsCard

/-- THE TIED CARD OF 'barquelaw02.FrameJoins'. -/
def frameJoinsCard : Claim7 := { stood := { row := frameJoinsRow, standIns := [], harness := (true, "9ef608dc47cff45a103bb3b536ff693339ca5a4624768643a06bd6b1ac457b61"), looks := false }, kinds := [], alts := [], laidByText := true, laidKinds := [.data, .data], laidTests := true, laidLooks := .later }
def FrameJoinsCardSaid : Prop := Claim7.holds Tryd.pinned (.plain (OpenSpec.ofChange frameJoinsSpec)) frameJoinsCard

/-- THE TIED CARD OF 'barquelaw02.FrameOnes'. -/
def frameOnesCard : Claim7 := { stood := { row := frameOnesRow, standIns := [], harness := (true, "9ef608dc47cff45a103bb3b536ff693339ca5a4624768643a06bd6b1ac457b61"), looks := false }, kinds := [], alts := [], laidByText := true, laidKinds := [.data], laidTests := true, laidLooks := .later }
def FrameOnesCardSaid : Prop := Claim7.holds Tryd.pinned (.plain (OpenSpec.ofChange frameOnesSpec)) frameOnesCard

/-- THE TIED CARD OF 'barquelaw02.FrameScans'. -/
def frameScansCard : Claim7 := { stood := { row := frameScansRow, standIns := [], harness := (true, "9ef608dc47cff45a103bb3b536ff693339ca5a4624768643a06bd6b1ac457b61"), looks := false }, kinds := [], alts := [], laidByText := true, laidKinds := [.data, .data], laidTests := true, laidLooks := .later }
def FrameScansCardSaid : Prop := Claim7.holds Tryd.pinned (.plain (OpenSpec.ofChange frameScansSpec)) frameScansCard

/-- THE TIED CARD OF 'barquelaw02.FrameBack'. -/
def frameBackCard : Claim7 := { stood := { row := frameBackRow, standIns := [], harness := (true, "9ef608dc47cff45a103bb3b536ff693339ca5a4624768643a06bd6b1ac457b61"), looks := false }, kinds := [], alts := [], laidByText := true, laidKinds := [.data, .data], laidTests := true, laidLooks := .later }
def FrameBackCardSaid : Prop := Claim7.holds Tryd.pinned (.plain (OpenSpec.ofChange frameBackSpec)) frameBackCard

/-- THE TIED CARD OF 'barquelaw02.FrameFrames'. -/
def frameFramesCard : Claim7 := { stood := { row := frameFramesRow, standIns := [], harness := (true, "9ef608dc47cff45a103bb3b536ff693339ca5a4624768643a06bd6b1ac457b61"), looks := false }, kinds := [], alts := [], laidByText := true, laidKinds := [.data], laidTests := true, laidLooks := .later }
def FrameFramesCardSaid : Prop := Claim7.holds Tryd.pinned (.plain (OpenSpec.ofChange frameFramesSpec)) frameFramesCard

/-- THE TIED CARD OF 'barquelaw02.FrameBursts'. -/
def frameBurstsCard : Claim7 := { stood := { row := frameBurstsRow, standIns := [], harness := (true, "9ef608dc47cff45a103bb3b536ff693339ca5a4624768643a06bd6b1ac457b61"), looks := false }, kinds := [], alts := [], laidByText := true, laidKinds := [.data], laidTests := true, laidLooks := .later }
def FrameBurstsCardSaid : Prop := Claim7.holds Tryd.pinned (.plain (OpenSpec.ofChange frameBurstsSpec)) frameBurstsCard

/-- THE TIED CARD OF 'barquelaw02.FrameLost'. -/
def frameLostCard : Claim7 := { stood := { row := frameLostRow, standIns := [], harness := (true, "9ef608dc47cff45a103bb3b536ff693339ca5a4624768643a06bd6b1ac457b61"), looks := false }, kinds := [], alts := [], laidByText := true, laidKinds := [.data, .data], laidTests := true, laidLooks := .later }
def FrameLostCardSaid : Prop := Claim7.holds Tryd.pinned (.plain (OpenSpec.ofChange frameLostSpec)) frameLostCard

/-- THE SECOND FORM's CARD OF 'barquelaw02.FrameSums'. -/
def frameSumsUptoCard : Claim7 := { stood := { row := frameSumsUptoRow, standIns := [], harness := (true, "9ef608dc47cff45a103bb3b536ff693339ca5a4624768643a06bd6b1ac457b61"), looks := false }, kinds := [], alts := [], laidByText := true, laidKinds := [.data], laidTests := true, laidLooks := .later }
def FrameSumsUptoCardSaid : Prop := Claim7.holds Tryd.pinned (.plain (OpenSpec.upto frameSumsSpec)) frameSumsUptoCard

/-- THE SECOND FORM's CARD OF 'barquelaw02.FrameAdds'. -/
def frameAddsUptoCard : Claim7 := { stood := { row := frameAddsUptoRow, standIns := [], harness := (true, "9ef608dc47cff45a103bb3b536ff693339ca5a4624768643a06bd6b1ac457b61"), looks := false }, kinds := [], alts := [], laidByText := true, laidKinds := [.data], laidTests := true, laidLooks := .later }
def FrameAddsUptoCardSaid : Prop := Claim7.holds Tryd.pinned (.plain (OpenSpec.upto frameAddsSpec)) frameAddsUptoCard

/-- THE SECOND FORM's CARD OF 'barquelaw02.FrameJoins'. -/
def frameJoinsUptoCard : Claim7 := { stood := { row := frameJoinsUptoRow, standIns := [], harness := (true, "9ef608dc47cff45a103bb3b536ff693339ca5a4624768643a06bd6b1ac457b61"), looks := false }, kinds := [], alts := [], laidByText := true, laidKinds := [.data, .data], laidTests := true, laidLooks := .later }
def FrameJoinsUptoCardSaid : Prop := Claim7.holds Tryd.pinned (.plain (OpenSpec.upto frameJoinsSpec)) frameJoinsUptoCard

/-- THE SECOND FORM's CARD OF 'barquelaw02.FrameOnes'. -/
def frameOnesUptoCard : Claim7 := { stood := { row := frameOnesUptoRow, standIns := [], harness := (true, "9ef608dc47cff45a103bb3b536ff693339ca5a4624768643a06bd6b1ac457b61"), looks := false }, kinds := [], alts := [], laidByText := true, laidKinds := [.data], laidTests := true, laidLooks := .later }
def FrameOnesUptoCardSaid : Prop := Claim7.holds Tryd.pinned (.plain (OpenSpec.upto frameOnesSpec)) frameOnesUptoCard

/-- THE SECOND FORM's CARD OF 'barquelaw02.FrameScans'. -/
def frameScansUptoCard : Claim7 := { stood := { row := frameScansUptoRow, standIns := [], harness := (true, "9ef608dc47cff45a103bb3b536ff693339ca5a4624768643a06bd6b1ac457b61"), looks := false }, kinds := [], alts := [], laidByText := true, laidKinds := [.data, .data], laidTests := true, laidLooks := .later }
def FrameScansUptoCardSaid : Prop := Claim7.holds Tryd.pinned (.plain (OpenSpec.upto frameScansSpec)) frameScansUptoCard

/-- THE SECOND FORM's CARD OF 'barquelaw02.FrameBack'. -/
def frameBackUptoCard : Claim7 := { stood := { row := frameBackUptoRow, standIns := [], harness := (true, "9ef608dc47cff45a103bb3b536ff693339ca5a4624768643a06bd6b1ac457b61"), looks := false }, kinds := [], alts := [], laidByText := true, laidKinds := [.data, .data], laidTests := true, laidLooks := .later }
def FrameBackUptoCardSaid : Prop := Claim7.holds Tryd.pinned (.plain (OpenSpec.upto frameBackSpec)) frameBackUptoCard

/-- THE SECOND FORM's CARD OF 'barquelaw02.FrameFrames'. -/
def frameFramesUptoCard : Claim7 := { stood := { row := frameFramesUptoRow, standIns := [], harness := (true, "9ef608dc47cff45a103bb3b536ff693339ca5a4624768643a06bd6b1ac457b61"), looks := false }, kinds := [], alts := [], laidByText := true, laidKinds := [.data], laidTests := true, laidLooks := .later }
def FrameFramesUptoCardSaid : Prop := Claim7.holds Tryd.pinned (.plain (OpenSpec.upto frameFramesSpec)) frameFramesUptoCard

/-- THE SECOND FORM's CARD OF 'barquelaw02.FrameBursts'. -/
def frameBurstsUptoCard : Claim7 := { stood := { row := frameBurstsUptoRow, standIns := [], harness := (true, "9ef608dc47cff45a103bb3b536ff693339ca5a4624768643a06bd6b1ac457b61"), looks := false }, kinds := [], alts := [], laidByText := true, laidKinds := [.data], laidTests := true, laidLooks := .later }
def FrameBurstsUptoCardSaid : Prop := Claim7.holds Tryd.pinned (.plain (OpenSpec.upto frameBurstsSpec)) frameBurstsUptoCard

/-- THE SECOND FORM's CARD OF 'barquelaw02.FrameLost'. -/
def frameLostUptoCard : Claim7 := { stood := { row := frameLostUptoRow, standIns := [], harness := (true, "9ef608dc47cff45a103bb3b536ff693339ca5a4624768643a06bd6b1ac457b61"), looks := false }, kinds := [], alts := [], laidByText := true, laidKinds := [.data, .data], laidTests := true, laidLooks := .later }
def FrameLostUptoCardSaid : Prop := Claim7.holds Tryd.pinned (.plain (OpenSpec.upto frameLostSpec)) frameLostUptoCard
end Rows
end Go.Proofs.YtjgoceebjmnjcaaDoor
