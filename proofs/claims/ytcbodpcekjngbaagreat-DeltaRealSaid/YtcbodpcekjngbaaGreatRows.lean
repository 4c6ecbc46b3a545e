/-
  No cell of these rows narrows 'for every input' (looked for: loops, veiled, ifaces, maps, wideKeys, modest, calm, conditions, laid).
  DERIVED. THE GIVEN ROWS OF THIS SEAT. 3 by the template 'for every input the law returns true; each argument reads behind the call as it read before'; 0 by the template 'total and deterministic' (their statements: YtcbodpcekjngbaaGreatTotals.lean).
  GIVEN WITH THE SEED: the statements are not yours to turn. If you find one false, say at which input.
  Laid BY PROGRAM, IN A SANDBOX (cutbox-rows.mjs): the forced cells as the released guide's own fill.sh prints them over the translation 46942b13289d1242… (all of the seat's roots in one cut). By AI agents, Wed Nov 11 2026. No macro, syntax, notation, axiom, sorry.
-/
import Derived.Test.YtcbodpcekjngbaaGreatChecked
import GoSem.Claim
import GoSem.ClaimJoined
import GoSem.ClaimMapViews
import Derived.JoinedTies
import Derived.KernelRfl
namespace Go.Proofs.YtcbodpcekjngbaaGreat
/- THE CELL 'sum', in the pinned program and in every row, IS THE sha256 OF THE DUMP (.gsa) THAT YtcbodpcekjngbaaGreatProg.lean LOADS. Nothing in Lean hashes anything: it is a label: what it is worth is what the hold of that sum in a sandbox is worth. -/
noncomputable def Tryz.pinned : Pinned := { name := "ytcbodpcekjngbaagreat", sum := "46942b13289d1242c1522b3485aebf39750049786453f88a823dfdaec1c1d090", checked := Tryz.checked }
namespace Rows
def none {H : Type} : Left H := { results := [], args := [] }

/-- 'barquelaw06.DeltaSigned': WHATEVER THE INPUT: true; the input reads as it did. -/
def deltaSignedSpec : ChangeSpec := { name := "deltaSigned", fn := fun _ => fun
  | [d1, d2] => { results := [.lit (.bool true)], args := [d1, d2] }
  | _ => none }
def deltaSignedRow : OpenClaim := { program := "ytcbodpcekjngbaagreat", sum := "46942b13289d1242c1522b3485aebf39750049786453f88a823dfdaec1c1d090", func := "barque/barquelaw06.DeltaSigned", spec := "deltaSigned", unfollowed := true, recurses := true, apart := false }
def DeltaSignedSaid : Prop := deltaSignedRow.holds Tryz.pinned (OpenSpec.ofChange deltaSignedSpec)

/-- ITS FALSE NEIGHBOUR: 'it returns false'. Refute it at one input. -/
def deltaSignedWrong : ChangeSpec := { name := "deltaSigned", fn := fun _ => fun
  | [d1, d2] => { results := [.lit (.bool false)], args := [d1, d2] }
  | _ => none }
def DeltaSignedWrongFalsely : Prop := deltaSignedRow.holds Tryz.pinned (OpenSpec.ofChange deltaSignedWrong)

/-- 'barquelaw06.DeltaReal': WHATEVER THE INPUT: true; the input reads as it did. -/
def deltaRealSpec : ChangeSpec := { name := "deltaReal", fn := fun _ => fun
  | [d1, d2, d3] => { results := [.lit (.bool true)], args := [d1, d2, d3] }
  | _ => none }
def deltaRealRow : OpenClaim := { program := "ytcbodpcekjngbaagreat", sum := "46942b13289d1242c1522b3485aebf39750049786453f88a823dfdaec1c1d090", func := "barque/barquelaw06.DeltaReal", spec := "deltaReal", inPlace := ["internal/abi.NoEscape"], unfollowed := true, recurses := true, apart := false }
def DeltaRealSaid : Prop := deltaRealRow.holds Tryz.pinned (OpenSpec.ofChange deltaRealSpec)

/-- ITS FALSE NEIGHBOUR: 'it returns false'. Refute it at one input. -/
def deltaRealWrong : ChangeSpec := { name := "deltaReal", fn := fun _ => fun
  | [d1, d2, d3] => { results := [.lit (.bool false)], args := [d1, d2, d3] }
  | _ => none }
def DeltaRealWrongFalsely : Prop := deltaRealRow.holds Tryz.pinned (OpenSpec.ofChange deltaRealWrong)

/-- 'barquelaw06.DeltaApplies': WHATEVER THE INPUT: true; the input reads as it did. -/
def deltaAppliesSpec : ChangeSpec := { name := "deltaApplies", fn := fun _ => fun
  | [d1, d2] => { results := [.lit (.bool true)], args := [d1, d2] }
  | _ => none }
def deltaAppliesRow : OpenClaim := { program := "ytcbodpcekjngbaagreat", sum := "46942b13289d1242c1522b3485aebf39750049786453f88a823dfdaec1c1d090", func := "barque/barquelaw06.DeltaApplies", spec := "deltaApplies", inPlace := ["internal/abi.NoEscape"], unfollowed := true, recurses := true, apart := false }
def DeltaAppliesSaid : Prop := deltaAppliesRow.holds Tryz.pinned (OpenSpec.ofChange deltaAppliesSpec)

/-- ITS FALSE NEIGHBOUR: 'it returns false'. Refute it at one input. -/
def deltaAppliesWrong : ChangeSpec := { name := "deltaApplies", fn := fun _ => fun
  | [d1, d2] => { results := [.lit (.bool false)], args := [d1, d2] }
  | _ => none }
def DeltaAppliesWrongFalsely : Prop := deltaAppliesRow.holds Tryz.pinned (OpenSpec.ofChange deltaAppliesWrong)

/- THE SECOND FORM. 'bulk': how many values and letters a reading holds, each counted each time it is reached (what is shared counts as often as it is met; a slice's spare places count too). A statement '..UptoSaid' is the law's where the arguments, and the package variables that the reading takes, are together of bulk at most 1048576: NARROWER than '..Said'. Prove '..Said' where nothing that the law and all that it calls make is longer than what came in: it says more and counts as full. Else prove '..UptoSaid'. A law counts once. -/
mutual
def uptoBulk {H : Type} : DataW H → Nat
  | .lit (.string bytes) => bytes.length + 1
  | .lit _ => 1
  | .nil => 1
  | .ptr d => uptoBulk d + 1
  | .slice elems spare => uptoBulkAll elems + uptoBulkAll spare + 1
  | .agg parts => uptoBulkAll parts + 1
  | .iface _ d => uptoBulk d + 1
  | .map entries => uptoBulkEntries entries + 1
  | .held _ => 1
def uptoBulkAll {H : Type} : List (DataW H) → Nat
  | [] => 0
  | d :: r => uptoBulk d + uptoBulkAll r
def uptoBulkEntries {H : Type} : List (Lit × DataW H) → Nat
  | [] => 0
  | x :: r => uptoBulkEntry x + uptoBulkEntries r
def uptoBulkEntry {H : Type} : Lit × DataW H → Nat
  | (.string bytes, d) => bytes.length + uptoBulk d + 1
  | (_, d) => uptoBulk d + 1
 end
def uptoSmall : (H : Type) → List (DataW H) → Bool := fun _ ds => decide (uptoBulkAll ds ≤ 1048576)
def OpenSpec.upto (s : _root_.Go.ChangeSpec) : _root_.Go.OpenSpec := { _root_.Go.OpenSpec.ofChange s with cond := some uptoSmall }

/-- 'barquelaw06.DeltaSigned', WHERE WHAT IT READS IS OF BULK AT MOST 1048576: true; the input reads as it did. -/
def deltaSignedUptoRow : OpenClaim := { program := "ytcbodpcekjngbaagreat", sum := "46942b13289d1242c1522b3485aebf39750049786453f88a823dfdaec1c1d090", func := "barque/barquelaw06.DeltaSigned", spec := "deltaSigned", unfollowed := true, recurses := true, apart := false, narrowed := true }
def DeltaSignedUptoSaid : Prop := deltaSignedUptoRow.holds Tryz.pinned (OpenSpec.upto deltaSignedSpec)

/-- 'barquelaw06.DeltaReal', WHERE WHAT IT READS IS OF BULK AT MOST 1048576: true; the input reads as it did. -/
def deltaRealUptoRow : OpenClaim := { program := "ytcbodpcekjngbaagreat", sum := "46942b13289d1242c1522b3485aebf39750049786453f88a823dfdaec1c1d090", func := "barque/barquelaw06.DeltaReal", spec := "deltaReal", inPlace := ["internal/abi.NoEscape"], unfollowed := true, recurses := true, apart := false, narrowed := true }
def DeltaRealUptoSaid : Prop := deltaRealUptoRow.holds Tryz.pinned (OpenSpec.upto deltaRealSpec)

/-- 'barquelaw06.DeltaApplies', WHERE WHAT IT READS IS OF BULK AT MOST 1048576: true; the input reads as it did. -/
def deltaAppliesUptoRow : OpenClaim := { program := "ytcbodpcekjngbaagreat", sum := "46942b13289d1242c1522b3485aebf39750049786453f88a823dfdaec1c1d090", func := "barque/barquelaw06.DeltaApplies", spec := "deltaApplies", inPlace := ["internal/abi.NoEscape"], unfollowed := true, recurses := true, apart := false, narrowed := true }
def DeltaAppliesUptoSaid : Prop := deltaAppliesUptoRow.holds Tryz.pinned (OpenSpec.upto deltaAppliesSpec)

end Rows
end Go.Proofs.YtcbodpcekjngbaaGreat
