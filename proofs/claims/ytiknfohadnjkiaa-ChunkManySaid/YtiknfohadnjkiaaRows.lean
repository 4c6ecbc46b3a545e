/-
  No cell of these rows narrows 'for every input' (looked for: loops, veiled, ifaces, maps, wideKeys, modest, calm, conditions, laid).
  DERIVED. THE GIVEN ROWS OF THIS SEAT. 7 by the template 'for every input the law returns true; each argument reads behind the call as it read before'; 0 by the template 'total and deterministic' (their statements: YtiknfohadnjkiaaTotals.lean).
  GIVEN WITH THE SEED: the statements are not yours to turn. If you find one false, say at which input.
  Laid BY PROGRAM, IN A SANDBOX (cutbox-rows.mjs): the forced cells as the released guide's own fill.sh prints them over the translation 86b5254689318c87… (all of the seat's roots in one cut). By AI agents, Wed Nov 11 2026. No macro, syntax, notation, axiom, sorry.
-/
import Derived.Test.YtiknfohadnjkiaaChecked
import GoSem.Claim
import GoSem.ClaimJoined
import GoSem.ClaimMapViews
import Derived.JoinedTies
import Derived.KernelRfl
namespace Go.Proofs.Ytiknfohadnjkiaa
/- THE CELL 'sum', in the pinned program and in every row, IS THE sha256 OF THE DUMP (.gsa) THAT YtiknfohadnjkiaaProg.lean LOADS. Nothing in Lean hashes anything: it is a label: what it is worth is what the hold of that sum in a sandbox is worth. -/
noncomputable def Try.pinned : Pinned := { name := "ytiknfohadnjkiaa", sum := "86b5254689318c8711c4b9acde65d8db14748cd1e3479187fa59e7856550716a", checked := Try.checked }
namespace Rows
def none {H : Type} : Left H := { results := [], args := [] }

/-- 'barquelaw13.ChunkCuts': WHATEVER THE INPUT: true; the input reads as it did. -/
def chunkCutsSpec : ChangeSpec := { name := "chunkCuts", fn := fun _ => fun
  | [d1, d2] => { results := [.lit (.bool true)], args := [d1, d2] }
  | _ => none }
def chunkCutsRow : OpenClaim := { program := "ytiknfohadnjkiaa", sum := "86b5254689318c8711c4b9acde65d8db14748cd1e3479187fa59e7856550716a", func := "barque/barquelaw13.ChunkCuts", spec := "chunkCuts", apart := false }
def ChunkCutsSaid : Prop := chunkCutsRow.holds Try.pinned (OpenSpec.ofChange chunkCutsSpec)

/-- ITS FALSE NEIGHBOUR: 'it returns false'. Refute it at one input. -/
def chunkCutsWrong : ChangeSpec := { name := "chunkCuts", fn := fun _ => fun
  | [d1, d2] => { results := [.lit (.bool false)], args := [d1, d2] }
  | _ => none }
def ChunkCutsWrongFalsely : Prop := chunkCutsRow.holds Try.pinned (OpenSpec.ofChange chunkCutsWrong)

/-- 'barquelaw13.ChunkPlays': WHATEVER THE INPUT: true; the input reads as it did. -/
def chunkPlaysSpec : ChangeSpec := { name := "chunkPlays", fn := fun _ => fun
  | [d1, d2] => { results := [.lit (.bool true)], args := [d1, d2] }
  | _ => none }
def chunkPlaysRow : OpenClaim := { program := "ytiknfohadnjkiaa", sum := "86b5254689318c8711c4b9acde65d8db14748cd1e3479187fa59e7856550716a", func := "barque/barquelaw13.ChunkPlays", spec := "chunkPlays", inPlace := ["internal/abi.NoEscape", "internal/bytealg.MakeNoZero"], apart := false }
def ChunkPlaysSaid : Prop := chunkPlaysRow.holds Try.pinned (OpenSpec.ofChange chunkPlaysSpec)

/-- ITS FALSE NEIGHBOUR: 'it returns false'. Refute it at one input. -/
def chunkPlaysWrong : ChangeSpec := { name := "chunkPlays", fn := fun _ => fun
  | [d1, d2] => { results := [.lit (.bool false)], args := [d1, d2] }
  | _ => none }
def ChunkPlaysWrongFalsely : Prop := chunkPlaysRow.holds Try.pinned (OpenSpec.ofChange chunkPlaysWrong)

/-- 'barquelaw13.ChunkBack': WHATEVER THE INPUT: true; the input reads as it did. -/
def chunkBackSpec : ChangeSpec := { name := "chunkBack", fn := fun _ => fun
  | [d1, d2, d3] => { results := [.lit (.bool true)], args := [d1, d2, d3] }
  | _ => none }
def chunkBackRow : OpenClaim := { program := "ytiknfohadnjkiaa", sum := "86b5254689318c8711c4b9acde65d8db14748cd1e3479187fa59e7856550716a", func := "barque/barquelaw13.ChunkBack", spec := "chunkBack", inPlace := ["internal/abi.NoEscape", "internal/bytealg.MakeNoZero"], apart := false }
def ChunkBackSaid : Prop := chunkBackRow.holds Try.pinned (OpenSpec.ofChange chunkBackSpec)

/-- ITS FALSE NEIGHBOUR: 'it returns false'. Refute it at one input. -/
def chunkBackWrong : ChangeSpec := { name := "chunkBack", fn := fun _ => fun
  | [d1, d2, d3] => { results := [.lit (.bool false)], args := [d1, d2, d3] }
  | _ => none }
def ChunkBackWrongFalsely : Prop := chunkBackRow.holds Try.pinned (OpenSpec.ofChange chunkBackWrong)

/-- 'barquelaw13.ChunkOther': WHATEVER THE INPUT: true; the input reads as it did. -/
def chunkOtherSpec : ChangeSpec := { name := "chunkOther", fn := fun _ => fun
  | [d1, d2, d3, d4] => { results := [.lit (.bool true)], args := [d1, d2, d3, d4] }
  | _ => none }
def chunkOtherRow : OpenClaim := { program := "ytiknfohadnjkiaa", sum := "86b5254689318c8711c4b9acde65d8db14748cd1e3479187fa59e7856550716a", func := "barque/barquelaw13.ChunkOther", spec := "chunkOther", apart := false }
def ChunkOtherSaid : Prop := chunkOtherRow.holds Try.pinned (OpenSpec.ofChange chunkOtherSpec)

/-- ITS FALSE NEIGHBOUR: 'it returns false'. Refute it at one input. -/
def chunkOtherWrong : ChangeSpec := { name := "chunkOther", fn := fun _ => fun
  | [d1, d2, d3, d4] => { results := [.lit (.bool false)], args := [d1, d2, d3, d4] }
  | _ => none }
def ChunkOtherWrongFalsely : Prop := chunkOtherRow.holds Try.pinned (OpenSpec.ofChange chunkOtherWrong)

/-- 'barquelaw13.ChunkMany': WHATEVER THE INPUT: true; the input reads as it did. -/
def chunkManySpec : ChangeSpec := { name := "chunkMany", fn := fun _ => fun
  | [d] => { results := [.lit (.bool true)], args := [d] }
  | _ => none }
def chunkManyRow : OpenClaim := { program := "ytiknfohadnjkiaa", sum := "86b5254689318c8711c4b9acde65d8db14748cd1e3479187fa59e7856550716a", func := "barque/barquelaw13.ChunkMany", spec := "chunkMany", apart := false }
def ChunkManySaid : Prop := chunkManyRow.holds Try.pinned (OpenSpec.ofChange chunkManySpec)

/-- ITS FALSE NEIGHBOUR: 'it returns false'. Refute it at one input. -/
def chunkManyWrong : ChangeSpec := { name := "chunkMany", fn := fun _ => fun
  | [d] => { results := [.lit (.bool false)], args := [d] }
  | _ => none }
def ChunkManyWrongFalsely : Prop := chunkManyRow.holds Try.pinned (OpenSpec.ofChange chunkManyWrong)

/-- 'barquelaw13.ChunkLong': WHATEVER THE INPUT: true; the input reads as it did. -/
def chunkLongSpec : ChangeSpec := { name := "chunkLong", fn := fun _ => fun
  | [d] => { results := [.lit (.bool true)], args := [d] }
  | _ => none }
def chunkLongRow : OpenClaim := { program := "ytiknfohadnjkiaa", sum := "86b5254689318c8711c4b9acde65d8db14748cd1e3479187fa59e7856550716a", func := "barque/barquelaw13.ChunkLong", spec := "chunkLong", apart := false }
def ChunkLongSaid : Prop := chunkLongRow.holds Try.pinned (OpenSpec.ofChange chunkLongSpec)

/-- ITS FALSE NEIGHBOUR: 'it returns false'. Refute it at one input. -/
def chunkLongWrong : ChangeSpec := { name := "chunkLong", fn := fun _ => fun
  | [d] => { results := [.lit (.bool false)], args := [d] }
  | _ => none }
def ChunkLongWrongFalsely : Prop := chunkLongRow.holds Try.pinned (OpenSpec.ofChange chunkLongWrong)

/-- 'barquelaw13.ChunkNobody': WHATEVER THE INPUT: true; the input reads as it did. -/
def chunkNobodySpec : ChangeSpec := { name := "chunkNobody", fn := fun _ => fun
  | [d1, d2] => { results := [.lit (.bool true)], args := [d1, d2] }
  | _ => none }
def chunkNobodyRow : OpenClaim := { program := "ytiknfohadnjkiaa", sum := "86b5254689318c8711c4b9acde65d8db14748cd1e3479187fa59e7856550716a", func := "barque/barquelaw13.ChunkNobody", spec := "chunkNobody", inPlace := ["internal/abi.NoEscape", "internal/bytealg.MakeNoZero"], apart := false }
def ChunkNobodySaid : Prop := chunkNobodyRow.holds Try.pinned (OpenSpec.ofChange chunkNobodySpec)

/-- ITS FALSE NEIGHBOUR: 'it returns false'. Refute it at one input. -/
def chunkNobodyWrong : ChangeSpec := { name := "chunkNobody", fn := fun _ => fun
  | [d1, d2] => { results := [.lit (.bool false)], args := [d1, d2] }
  | _ => none }
def ChunkNobodyWrongFalsely : Prop := chunkNobodyRow.holds Try.pinned (OpenSpec.ofChange chunkNobodyWrong)

/- THE SECOND FORM. 'bulk': how many values and letters a reading holds, each counted each time it is reached (what is shared counts as often as it is met; a slice's spare places count too). A statement '..UptoSaid' is the law's where the arguments, and the package variables that the reading takes, are together of bulk at most 1048576: NARROWER than '..Said'. Prove '..Said' where nothing that the law and all that it calls make is longer than what came in: it says more and counts as full. Else prove '..UptoSaid'. A law counts once. -/
mutual
def uptoBulk {H : Type} : DataW H → Nat
  | .lit (.string bytes) => bytes.length + 1
  | .lit _ => 1
  | .nil => 1
  | .ptr d => uptoBulk d + 1
  | .slice elems spare => uptoBulkAll elems + uptoBulkAll spare + 1
  | .agg parts => uptoBulkAll parts + 1
  | .iface _ d => uptoBulk d + 1
  | .map entries => uptoBulkEntries entries + 1
  | .held _ => 1
def uptoBulkAll {H : Type} : List (DataW H) → Nat
  | [] => 0
  | d :: r => uptoBulk d + uptoBulkAll r
def uptoBulkEntries {H : Type} : List (Lit × DataW H) → Nat
  | [] => 0
  | x :: r => uptoBulkEntry x + uptoBulkEntries r
def uptoBulkEntry {H : Type} : Lit × DataW H → Nat
  | (.string bytes, d) => bytes.length + uptoBulk d + 1
  | (_, d) => uptoBulk d + 1
 end
def uptoSmall : (H : Type) → List (DataW H) → Bool := fun _ ds => decide (uptoBulkAll ds ≤ 1048576)
def OpenSpec.upto (s : _root_.Go.ChangeSpec) : _root_.Go.OpenSpec := { _root_.Go.OpenSpec.ofChange s with cond := some uptoSmall }

/-- 'barquelaw13.ChunkCuts', WHERE WHAT IT READS IS OF BULK AT MOST 1048576: true; the input reads as it did. -/
def chunkCutsUptoRow : OpenClaim := { program := "ytiknfohadnjkiaa", sum := "86b5254689318c8711c4b9acde65d8db14748cd1e3479187fa59e7856550716a", func := "barque/barquelaw13.ChunkCuts", spec := "chunkCuts", apart := false, narrowed := true }
def ChunkCutsUptoSaid : Prop := chunkCutsUptoRow.holds Try.pinned (OpenSpec.upto chunkCutsSpec)

/-- 'barquelaw13.ChunkPlays', WHERE WHAT IT READS IS OF BULK AT MOST 1048576: true; the input reads as it did. -/
def chunkPlaysUptoRow : OpenClaim := { program := "ytiknfohadnjkiaa", sum := "86b5254689318c8711c4b9acde65d8db14748cd1e3479187fa59e7856550716a", func := "barque/barquelaw13.ChunkPlays", spec := "chunkPlays", inPlace := ["internal/abi.NoEscape", "internal/bytealg.MakeNoZero"], apart := false, narrowed := true }
def ChunkPlaysUptoSaid : Prop := chunkPlaysUptoRow.holds Try.pinned (OpenSpec.upto chunkPlaysSpec)

/-- 'barquelaw13.ChunkBack', WHERE WHAT IT READS IS OF BULK AT MOST 1048576: true; the input reads as it did. -/
def chunkBackUptoRow : OpenClaim := { program := "ytiknfohadnjkiaa", sum := "86b5254689318c8711c4b9acde65d8db14748cd1e3479187fa59e7856550716a", func := "barque/barquelaw13.ChunkBack", spec := "chunkBack", inPlace := ["internal/abi.NoEscape", "internal/bytealg.MakeNoZero"], apart := false, narrowed := true }
def ChunkBackUptoSaid : Prop := chunkBackUptoRow.holds Try.pinned (OpenSpec.upto chunkBackSpec)

/-- 'barquelaw13.ChunkOther', WHERE WHAT IT READS IS OF BULK AT MOST 1048576: true; the input reads as it did. -/
def chunkOtherUptoRow : OpenClaim := { program := "ytiknfohadnjkiaa", sum := "86b5254689318c8711c4b9acde65d8db14748cd1e3479187fa59e7856550716a", func := "barque/barquelaw13.ChunkOther", spec := "chunkOther", apart := false, narrowed := true }
def ChunkOtherUptoSaid : Prop := chunkOtherUptoRow.holds Try.pinned (OpenSpec.upto chunkOtherSpec)

/-- 'barquelaw13.ChunkMany', WHERE WHAT IT READS IS OF BULK AT MOST 1048576: true; the input reads as it did. -/
def chunkManyUptoRow : OpenClaim := { program := "ytiknfohadnjkiaa", sum := "86b5254689318c8711c4b9acde65d8db14748cd1e3479187fa59e7856550716a", func := "barque/barquelaw13.ChunkMany", spec := "chunkMany", apart := false, narrowed := true }
def ChunkManyUptoSaid : Prop := chunkManyUptoRow.holds Try.pinned (OpenSpec.upto chunkManySpec)

/-- 'barquelaw13.ChunkLong', WHERE WHAT IT READS IS OF BULK AT MOST 1048576: true; the input reads as it did. -/
def chunkLongUptoRow : OpenClaim := { program := "ytiknfohadnjkiaa", sum := "86b5254689318c8711c4b9acde65d8db14748cd1e3479187fa59e7856550716a", func := "barque/barquelaw13.ChunkLong", spec := "chunkLong", apart := false, narrowed := true }
def ChunkLongUptoSaid : Prop := chunkLongUptoRow.holds Try.pinned (OpenSpec.upto chunkLongSpec)

/-- 'barquelaw13.ChunkNobody', WHERE WHAT IT READS IS OF BULK AT MOST 1048576: true; the input reads as it did. -/
def chunkNobodyUptoRow : OpenClaim := { program := "ytiknfohadnjkiaa", sum := "86b5254689318c8711c4b9acde65d8db14748cd1e3479187fa59e7856550716a", func := "barque/barquelaw13.ChunkNobody", spec := "chunkNobody", inPlace := ["internal/abi.NoEscape", "internal/bytealg.MakeNoZero"], apart := false, narrowed := true }
def ChunkNobodyUptoSaid : Prop := chunkNobodyUptoRow.holds Try.pinned (OpenSpec.upto chunkNobodySpec)

end Rows
end Go.Proofs.Ytiknfohadnjkiaa
