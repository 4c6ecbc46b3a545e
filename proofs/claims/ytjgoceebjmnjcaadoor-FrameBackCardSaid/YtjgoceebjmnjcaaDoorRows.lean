/-
  NARROWER THAN 'FOR EVERY INPUT', by the rows' own cells (each row's printed sentence says how): FrameSums: laid · FrameAdds: laid · FrameJoins: laid · FrameOnes: laid · FrameScans: laid · FrameBack: laid · FrameFrames: laid · FrameBursts: laid · FrameLost: laid.
  DERIVED. THE GIVEN ROWS OF THIS SEAT. 9 by the template 'for every input the law returns true; each argument reads behind the call as it read before'; 0 by the template 'total and deterministic' (their statements: YtjgoceebjmnjcaaDoorTotals.lean).
  GIVEN WITH THE SEED: the statements are not yours to turn. If you find one false, say at which input.
  Laid BY PROGRAM, IN A SANDBOX (cutbox-rows.mjs): the forced cells as the released guide's own fill.sh prints them over the translation b68f6d09e9e5915d… (all of the seat's roots in one cut). By AI agents, Wed Nov 11 2026. No macro, syntax, notation, axiom, sorry.
-/
import Derived.Test.YtjgoceebjmnjcaaDoorChecked
import GoSem.Claim
import GoSem.ClaimJoined
import GoSem.ClaimMapViews
import Derived.JoinedTies
import Derived.KernelRfl
namespace Go.Proofs.YtjgoceebjmnjcaaDoor
/- THE CELL 'sum', in the pinned program and in every row, IS THE sha256 OF THE DUMP (.gsa) THAT YtjgoceebjmnjcaaDoorProg.lean LOADS. Nothing in Lean hashes anything: it is a label: what it is worth is what the hold of that sum in a sandbox is worth. -/
noncomputable def Tryd.pinned : Pinned := { name := "ytjgoceebjmnjcaadoor", sum := "b68f6d09e9e5915dd57194d6cc76c6a30c8c0f40a6d46d36b28112e146a3b6a7", checked := Tryd.checked }
namespace Rows
def none {H : Type} : Left H := { results := [], args := [] }

/- WHAT THE LISTED PACKAGE-LEVEL VARIABLES READ AS WHEN THE CALL BEGINS. Each datum BY PROGRAM (the guide's laid-datum.mjs) off the statement by which the dump's own 'gosem.cut.vars' lays the variable. In a bare row this is a premise. The card (YtjgoceebjmnjcaaDoorCards.lean) ties it to the program's text. -/
def laid_barque_frame_half {H : Type} : DataW H := .agg [.lit (.int .u32 0), .lit (.int .u32 498536548), .lit (.int .u32 997073096), .lit (.int .u32 651767980), .lit (.int .u32 1994146192), .lit (.int .u32 1802195444), .lit (.int .u32 1303535960), .lit (.int .u32 1342533948), .lit (.int .u32 3988292384), .lit (.int .u32 4027552580), .lit (.int .u32 3604390888), .lit (.int .u32 3412177804), .lit (.int .u32 2607071920), .lit (.int .u32 2262029012), .lit (.int .u32 2685067896), .lit (.int .u32 3183342108)]
def laid_math_bits_deBruijn32tab {H : Type} : DataW H := .agg [.lit (.int .u8 0), .lit (.int .u8 1), .lit (.int .u8 28), .lit (.int .u8 2), .lit (.int .u8 29), .lit (.int .u8 14), .lit (.int .u8 24), .lit (.int .u8 3), .lit (.int .u8 30), .lit (.int .u8 22), .lit (.int .u8 20), .lit (.int .u8 15), .lit (.int .u8 25), .lit (.int .u8 17), .lit (.int .u8 4), .lit (.int .u8 8), .lit (.int .u8 31), .lit (.int .u8 27), .lit (.int .u8 13), .lit (.int .u8 23), .lit (.int .u8 21), .lit (.int .u8 19), .lit (.int .u8 16), .lit (.int .u8 7), .lit (.int .u8 26), .lit (.int .u8 12), .lit (.int .u8 18), .lit (.int .u8 6), .lit (.int .u8 11), .lit (.int .u8 5), .lit (.int .u8 10), .lit (.int .u8 9)]

/-- 'barquelaw02.FrameSums': WHATEVER THE INPUT: true; the input reads as it did. -/
def frameSumsSpec : ChangeSpec := { name := "frameSums", fn := fun _ => fun
  | [d] => { results := [.lit (.bool true)], args := [d] }
  | _ => none }
def frameSumsRow : OpenClaim := { program := "ytjgoceebjmnjcaadoor", sum := "b68f6d09e9e5915dd57194d6cc76c6a30c8c0f40a6d46d36b28112e146a3b6a7", func := "barque/barquelaw02.FrameSums", spec := "frameSums", named := ["barque/frame.half"], apart := false, laid := [("barque/frame.half", laid_barque_frame_half)] }
def FrameSumsSaid : Prop := frameSumsRow.holds Tryd.pinned (OpenSpec.ofChange frameSumsSpec)

/-- ITS FALSE NEIGHBOUR: 'it returns false'. Refute it at one input. -/
def frameSumsWrong : ChangeSpec := { name := "frameSums", fn := fun _ => fun
  | [d] => { results := [.lit (.bool false)], args := [d] }
  | _ => none }
def FrameSumsWrongFalsely : Prop := frameSumsRow.holds Tryd.pinned (OpenSpec.ofChange frameSumsWrong)

/-- 'barquelaw02.FrameAdds': WHATEVER THE INPUT: true; the input reads as it did. -/
def frameAddsSpec : ChangeSpec := { name := "frameAdds", fn := fun _ => fun
  | [d1, d2, d3] => { results := [.lit (.bool true)], args := [d1, d2, d3] }
  | _ => none }
def frameAddsRow : OpenClaim := { program := "ytjgoceebjmnjcaadoor", sum := "b68f6d09e9e5915dd57194d6cc76c6a30c8c0f40a6d46d36b28112e146a3b6a7", func := "barque/barquelaw02.FrameAdds", spec := "frameAdds", named := ["barque/frame.half"], apart := false, laid := [("barque/frame.half", laid_barque_frame_half)] }
def FrameAddsSaid : Prop := frameAddsRow.holds Tryd.pinned (OpenSpec.ofChange frameAddsSpec)

/-- ITS FALSE NEIGHBOUR: 'it returns false'. Refute it at one input. -/
def frameAddsWrong : ChangeSpec := { name := "frameAdds", fn := fun _ => fun
  | [d1, d2, d3] => { results := [.lit (.bool false)], args := [d1, d2, d3] }
  | _ => none }
def FrameAddsWrongFalsely : Prop := frameAddsRow.holds Tryd.pinned (OpenSpec.ofChange frameAddsWrong)

/-- 'barquelaw02.FrameJoins': WHATEVER THE INPUT: true; the input reads as it did. -/
def frameJoinsSpec : ChangeSpec := { name := "frameJoins", fn := fun _ => fun
  | [d1, d2] => { results := [.lit (.bool true)], args := [d1, d2] }
  | _ => none }
def frameJoinsRow : OpenClaim := { program := "ytjgoceebjmnjcaadoor", sum := "b68f6d09e9e5915dd57194d6cc76c6a30c8c0f40a6d46d36b28112e146a3b6a7", func := "barque/barquelaw02.FrameJoins", spec := "frameJoins", named := ["barque/frame.half", "math/bits.deBruijn32tab"], apart := false, laid := [("math/bits.deBruijn32tab", laid_math_bits_deBruijn32tab), ("barque/frame.half", laid_barque_frame_half)] }
def FrameJoinsSaid : Prop := frameJoinsRow.holds Tryd.pinned (OpenSpec.ofChange frameJoinsSpec)

/-- ITS FALSE NEIGHBOUR: 'it returns false'. Refute it at one input. -/
def frameJoinsWrong : ChangeSpec := { name := "frameJoins", fn := fun _ => fun
  | [d1, d2] => { results := [.lit (.bool false)], args := [d1, d2] }
  | _ => none }
def FrameJoinsWrongFalsely : Prop := frameJoinsRow.holds Tryd.pinned (OpenSpec.ofChange frameJoinsWrong)

/-- 'barquelaw02.FrameOnes': WHATEVER THE INPUT: true; the input reads as it did. -/
def frameOnesSpec : ChangeSpec := { name := "frameOnes", fn := fun _ => fun
  | [d] => { results := [.lit (.bool true)], args := [d] }
  | _ => none }
def frameOnesRow : OpenClaim := { program := "ytjgoceebjmnjcaadoor", sum := "b68f6d09e9e5915dd57194d6cc76c6a30c8c0f40a6d46d36b28112e146a3b6a7", func := "barque/barquelaw02.FrameOnes", spec := "frameOnes", unfollowed := true, recurses := true, named := ["barque/frame.half"], apart := false, laid := [("barque/frame.half", laid_barque_frame_half)] }
def FrameOnesSaid : Prop := frameOnesRow.holds Tryd.pinned (OpenSpec.ofChange frameOnesSpec)

/-- ITS FALSE NEIGHBOUR: 'it returns false'. Refute it at one input. -/
def frameOnesWrong : ChangeSpec := { name := "frameOnes", fn := fun _ => fun
  | [d] => { results := [.lit (.bool false)], args := [d] }
  | _ => none }
def FrameOnesWrongFalsely : Prop := frameOnesRow.holds Tryd.pinned (OpenSpec.ofChange frameOnesWrong)

/-- 'barquelaw02.FrameScans': WHATEVER THE INPUT: true; the input reads as it did. -/
def frameScansSpec : ChangeSpec := { name := "frameScans", fn := fun _ => fun
  | [d] => { results := [.lit (.bool true)], args := [d] }
  | _ => none }
def frameScansRow : OpenClaim := { program := "ytjgoceebjmnjcaadoor", sum := "b68f6d09e9e5915dd57194d6cc76c6a30c8c0f40a6d46d36b28112e146a3b6a7", func := "barque/barquelaw02.FrameScans", spec := "frameScans", unfollowed := true, recurses := true, named := ["barque/frame.half", "math/bits.deBruijn32tab"], apart := false, laid := [("math/bits.deBruijn32tab", laid_math_bits_deBruijn32tab), ("barque/frame.half", laid_barque_frame_half)] }
def FrameScansSaid : Prop := frameScansRow.holds Tryd.pinned (OpenSpec.ofChange frameScansSpec)

/-- ITS FALSE NEIGHBOUR: 'it returns false'. Refute it at one input. -/
def frameScansWrong : ChangeSpec := { name := "frameScans", fn := fun _ => fun
  | [d] => { results := [.lit (.bool false)], args := [d] }
  | _ => none }
def FrameScansWrongFalsely : Prop := frameScansRow.holds Tryd.pinned (OpenSpec.ofChange frameScansWrong)

/-- 'barquelaw02.FrameBack': WHATEVER THE INPUT: true; the input reads as it did. -/
def frameBackSpec : ChangeSpec := { name := "frameBack", fn := fun _ => fun
  | [d1, d2] => { results := [.lit (.bool true)], args := [d1, d2] }
  | _ => none }
def frameBackRow : OpenClaim := { program := "ytjgoceebjmnjcaadoor", sum := "b68f6d09e9e5915dd57194d6cc76c6a30c8c0f40a6d46d36b28112e146a3b6a7", func := "barque/barquelaw02.FrameBack", spec := "frameBack", inPlace := ["internal/abi.NoEscape"], unfollowed := true, recurses := true, named := ["barque/frame.half", "math/bits.deBruijn32tab"], apart := false, laid := [("math/bits.deBruijn32tab", laid_math_bits_deBruijn32tab), ("barque/frame.half", laid_barque_frame_half)] }
def FrameBackSaid : Prop := frameBackRow.holds Tryd.pinned (OpenSpec.ofChange frameBackSpec)

/-- ITS FALSE NEIGHBOUR: 'it returns false'. Refute it at one input. -/
def frameBackWrong : ChangeSpec := { name := "frameBack", fn := fun _ => fun
  | [d1, d2] => { results := [.lit (.bool false)], args := [d1, d2] }
  | _ => none }
def FrameBackWrongFalsely : Prop := frameBackRow.holds Tryd.pinned (OpenSpec.ofChange frameBackWrong)

/-- 'barquelaw02.FrameFrames': WHATEVER THE INPUT: true; the input reads as it did. -/
def frameFramesSpec : ChangeSpec := { name := "frameFrames", fn := fun _ => fun
  | [d1, d2] => { results := [.lit (.bool true)], args := [d1, d2] }
  | _ => none }
def frameFramesRow : OpenClaim := { program := "ytjgoceebjmnjcaadoor", sum := "b68f6d09e9e5915dd57194d6cc76c6a30c8c0f40a6d46d36b28112e146a3b6a7", func := "barque/barquelaw02.FrameFrames", spec := "frameFrames", inPlace := ["internal/abi.NoEscape"], named := ["barque/frame.half"], apart := false, laid := [("barque/frame.half", laid_barque_frame_half)] }
def FrameFramesSaid : Prop := frameFramesRow.holds Tryd.pinned (OpenSpec.ofChange frameFramesSpec)

/-- ITS FALSE NEIGHBOUR: 'it returns false'. Refute it at one input. -/
def frameFramesWrong : ChangeSpec := { name := "frameFrames", fn := fun _ => fun
  | [d1, d2] => { results := [.lit (.bool false)], args := [d1, d2] }
  | _ => none }
def FrameFramesWrongFalsely : Prop := frameFramesRow.holds Tryd.pinned (OpenSpec.ofChange frameFramesWrong)

/-- 'barquelaw02.FrameBursts': WHATEVER THE INPUT: true; the input reads as it did. -/
def frameBurstsSpec : ChangeSpec := { name := "frameBursts", fn := fun _ => fun
  | [d1, d2, d3] => { results := [.lit (.bool true)], args := [d1, d2, d3] }
  | _ => none }
def frameBurstsRow : OpenClaim := { program := "ytjgoceebjmnjcaadoor", sum := "b68f6d09e9e5915dd57194d6cc76c6a30c8c0f40a6d46d36b28112e146a3b6a7", func := "barque/barquelaw02.FrameBursts", spec := "frameBursts", named := ["barque/frame.half"], apart := false, laid := [("barque/frame.half", laid_barque_frame_half)] }
def FrameBurstsSaid : Prop := frameBurstsRow.holds Tryd.pinned (OpenSpec.ofChange frameBurstsSpec)

/-- ITS FALSE NEIGHBOUR: 'it returns false'. Refute it at one input. -/
def frameBurstsWrong : ChangeSpec := { name := "frameBursts", fn := fun _ => fun
  | [d1, d2, d3] => { results := [.lit (.bool false)], args := [d1, d2, d3] }
  | _ => none }
def FrameBurstsWrongFalsely : Prop := frameBurstsRow.holds Tryd.pinned (OpenSpec.ofChange frameBurstsWrong)

/-- 'barquelaw02.FrameLost': WHATEVER THE INPUT: true; the input reads as it did. -/
def frameLostSpec : ChangeSpec := { name := "frameLost", fn := fun _ => fun
  | [d1, d2] => { results := [.lit (.bool true)], args := [d1, d2] }
  | _ => none }
def frameLostRow : OpenClaim := { program := "ytjgoceebjmnjcaadoor", sum := "b68f6d09e9e5915dd57194d6cc76c6a30c8c0f40a6d46d36b28112e146a3b6a7", func := "barque/barquelaw02.FrameLost", spec := "frameLost", unfollowed := true, recurses := true, named := ["barque/frame.half", "math/bits.deBruijn32tab"], apart := false, laid := [("math/bits.deBruijn32tab", laid_math_bits_deBruijn32tab), ("barque/frame.half", laid_barque_frame_half)] }
def FrameLostSaid : Prop := frameLostRow.holds Tryd.pinned (OpenSpec.ofChange frameLostSpec)

/-- ITS FALSE NEIGHBOUR: 'it returns false'. Refute it at one input. -/
def frameLostWrong : ChangeSpec := { name := "frameLost", fn := fun _ => fun
  | [d1, d2] => { results := [.lit (.bool false)], args := [d1, d2] }
  | _ => none }
def FrameLostWrongFalsely : Prop := frameLostRow.holds Tryd.pinned (OpenSpec.ofChange frameLostWrong)

/- THE SECOND FORM. 'bulk': how many values and letters a reading holds, each counted each time it is reached (what is shared counts as often as it is met; a slice's spare places count too). A statement '..UptoSaid' is the law's where the arguments, and the package variables that the reading takes, are together of bulk at most 1048576: NARROWER than '..Said'. Prove '..Said' where nothing that the law and all that it calls make is longer than what came in: it says more and counts as full. Else prove '..UptoSaid'. A law counts once. -/
mutual
def uptoBulk {H : Type} : DataW H → Nat
  | .lit (.string bytes) => bytes.length + 1
  | .lit _ => 1
  | .nil => 1
  | .ptr d => uptoBulk d + 1
  | .slice elems spare => uptoBulkAll elems + uptoBulkAll spare + 1
  | .agg parts => uptoBulkAll parts + 1
  | .iface _ d => uptoBulk d + 1
  | .map entries => uptoBulkEntries entries + 1
  | .held _ => 1
def uptoBulkAll {H : Type} : List (DataW H) → Nat
  | [] => 0
  | d :: r => uptoBulk d + uptoBulkAll r
def uptoBulkEntries {H : Type} : List (Lit × DataW H) → Nat
  | [] => 0
  | x :: r => uptoBulkEntry x + uptoBulkEntries r
def uptoBulkEntry {H : Type} : Lit × DataW H → Nat
  | (.string bytes, d) => bytes.length + uptoBulk d + 1
  | (_, d) => uptoBulk d + 1
 end
def uptoSmall : (H : Type) → List (DataW H) → Bool := fun _ ds => decide (uptoBulkAll ds ≤ 1048576)
def OpenSpec.upto (s : _root_.Go.ChangeSpec) : _root_.Go.OpenSpec := { _root_.Go.OpenSpec.ofChange s with cond := some uptoSmall }

/-- 'barquelaw02.FrameSums', WHERE WHAT IT READS IS OF BULK AT MOST 1048576: true; the input reads as it did. -/
def frameSumsUptoRow : OpenClaim := { program := "ytjgoceebjmnjcaadoor", sum := "b68f6d09e9e5915dd57194d6cc76c6a30c8c0f40a6d46d36b28112e146a3b6a7", func := "barque/barquelaw02.FrameSums", spec := "frameSums", named := ["barque/frame.half"], apart := false, laid := [("barque/frame.half", laid_barque_frame_half)], narrowed := true }
def FrameSumsUptoSaid : Prop := frameSumsUptoRow.holds Tryd.pinned (OpenSpec.upto frameSumsSpec)

/-- 'barquelaw02.FrameAdds', WHERE WHAT IT READS IS OF BULK AT MOST 1048576: true; the input reads as it did. -/
def frameAddsUptoRow : OpenClaim := { program := "ytjgoceebjmnjcaadoor", sum := "b68f6d09e9e5915dd57194d6cc76c6a30c8c0f40a6d46d36b28112e146a3b6a7", func := "barque/barquelaw02.FrameAdds", spec := "frameAdds", named := ["barque/frame.half"], apart := false, laid := [("barque/frame.half", laid_barque_frame_half)], narrowed := true }
def FrameAddsUptoSaid : Prop := frameAddsUptoRow.holds Tryd.pinned (OpenSpec.upto frameAddsSpec)

/-- 'barquelaw02.FrameJoins', WHERE WHAT IT READS IS OF BULK AT MOST 1048576: true; the input reads as it did. -/
def frameJoinsUptoRow : OpenClaim := { program := "ytjgoceebjmnjcaadoor", sum := "b68f6d09e9e5915dd57194d6cc76c6a30c8c0f40a6d46d36b28112e146a3b6a7", func := "barque/barquelaw02.FrameJoins", spec := "frameJoins", named := ["barque/frame.half", "math/bits.deBruijn32tab"], apart := false, laid := [("math/bits.deBruijn32tab", laid_math_bits_deBruijn32tab), ("barque/frame.half", laid_barque_frame_half)], narrowed := true }
def FrameJoinsUptoSaid : Prop := frameJoinsUptoRow.holds Tryd.pinned (OpenSpec.upto frameJoinsSpec)

/-- 'barquelaw02.FrameOnes', WHERE WHAT IT READS IS OF BULK AT MOST 1048576: true; the input reads as it did. -/
def frameOnesUptoRow : OpenClaim := { program := "ytjgoceebjmnjcaadoor", sum := "b68f6d09e9e5915dd57194d6cc76c6a30c8c0f40a6d46d36b28112e146a3b6a7", func := "barque/barquelaw02.FrameOnes", spec := "frameOnes", unfollowed := true, recurses := true, named := ["barque/frame.half"], apart := false, laid := [("barque/frame.half", laid_barque_frame_half)], narrowed := true }
def FrameOnesUptoSaid : Prop := frameOnesUptoRow.holds Tryd.pinned (OpenSpec.upto frameOnesSpec)

/-- 'barquelaw02.FrameScans', WHERE WHAT IT READS IS OF BULK AT MOST 1048576: true; the input reads as it did. -/
def frameScansUptoRow : OpenClaim := { program := "ytjgoceebjmnjcaadoor", sum := "b68f6d09e9e5915dd57194d6cc76c6a30c8c0f40a6d46d36b28112e146a3b6a7", func := "barque/barquelaw02.FrameScans", spec := "frameScans", unfollowed := true, recurses := true, named := ["barque/frame.half", "math/bits.deBruijn32tab"], apart := false, laid := [("math/bits.deBruijn32tab", laid_math_bits_deBruijn32tab), ("barque/frame.half", laid_barque_frame_half)], narrowed := true }
def FrameScansUptoSaid : Prop := frameScansUptoRow.holds Tryd.pinned (OpenSpec.upto frameScansSpec)

/-- 'barquelaw02.FrameBack', WHERE WHAT IT READS IS OF BULK AT MOST 1048576: true; the input reads as it did. -/
def frameBackUptoRow : OpenClaim := { program := "ytjgoceebjmnjcaadoor", sum := "b68f6d09e9e5915dd57194d6cc76c6a30c8c0f40a6d46d36b28112e146a3b6a7", func := "barque/barquelaw02.FrameBack", spec := "frameBack", inPlace := ["internal/abi.NoEscape"], unfollowed := true, recurses := true, named := ["barque/frame.half", "math/bits.deBruijn32tab"], apart := false, laid := [("math/bits.deBruijn32tab", laid_math_bits_deBruijn32tab), ("barque/frame.half", laid_barque_frame_half)], narrowed := true }
def FrameBackUptoSaid : Prop := frameBackUptoRow.holds Tryd.pinned (OpenSpec.upto frameBackSpec)

/-- 'barquelaw02.FrameFrames', WHERE WHAT IT READS IS OF BULK AT MOST 1048576: true; the input reads as it did. -/
def frameFramesUptoRow : OpenClaim := { program := "ytjgoceebjmnjcaadoor", sum := "b68f6d09e9e5915dd57194d6cc76c6a30c8c0f40a6d46d36b28112e146a3b6a7", func := "barque/barquelaw02.FrameFrames", spec := "frameFrames", inPlace := ["internal/abi.NoEscape"], named := ["barque/frame.half"], apart := false, laid := [("barque/frame.half", laid_barque_frame_half)], narrowed := true }
def FrameFramesUptoSaid : Prop := frameFramesUptoRow.holds Tryd.pinned (OpenSpec.upto frameFramesSpec)

/-- 'barquelaw02.FrameBursts', WHERE WHAT IT READS IS OF BULK AT MOST 1048576: true; the input reads as it did. -/
def frameBurstsUptoRow : OpenClaim := { program := "ytjgoceebjmnjcaadoor", sum := "b68f6d09e9e5915dd57194d6cc76c6a30c8c0f40a6d46d36b28112e146a3b6a7", func := "barque/barquelaw02.FrameBursts", spec := "frameBursts", named := ["barque/frame.half"], apart := false, laid := [("barque/frame.half", laid_barque_frame_half)], narrowed := true }
def FrameBurstsUptoSaid : Prop := frameBurstsUptoRow.holds Tryd.pinned (OpenSpec.upto frameBurstsSpec)

/-- 'barquelaw02.FrameLost', WHERE WHAT IT READS IS OF BULK AT MOST 1048576: true; the input reads as it did. -/
def frameLostUptoRow : OpenClaim := { program := "ytjgoceebjmnjcaadoor", sum := "b68f6d09e9e5915dd57194d6cc76c6a30c8c0f40a6d46d36b28112e146a3b6a7", func := "barque/barquelaw02.FrameLost", spec := "frameLost", unfollowed := true, recurses := true, named := ["barque/frame.half", "math/bits.deBruijn32tab"], apart := false, laid := [("math/bits.deBruijn32tab", laid_math_bits_deBruijn32tab), ("barque/frame.half", laid_barque_frame_half)], narrowed := true }
def FrameLostUptoSaid : Prop := frameLostUptoRow.holds Tryd.pinned (OpenSpec.upto frameLostSpec)

end Rows
end Go.Proofs.YtjgoceebjmnjcaaDoor
