/-
  No cell of these rows narrows 'for every input' (looked for: loops, veiled, ifaces, maps, wideKeys, modest, calm, conditions, laid).
  DERIVED. THE GIVEN ROWS OF THIS SEAT. 9 by the template 'for every input the law returns true; each argument reads behind the call as it read before'; 0 by the template 'total and deterministic' (their statements: YtjlhhnkfedfdnaaTotals.lean).
  GIVEN WITH THE SEED: the statements are not yours to turn. If you find one false, say at which input.
  Laid BY PROGRAM, IN A SANDBOX (cutbox-rows.mjs): the forced cells as the released guide's own fill.sh prints them over the translation 23c5523367ea7683… (all of the seat's roots in one cut). By AI agents, Wed Nov 11 2026. No macro, syntax, notation, axiom, sorry.
-/
import Derived.Test.YtjlhhnkfedfdnaaChecked
import GoSem.Claim
import GoSem.ClaimJoined
import GoSem.ClaimMapViews
import Derived.JoinedTies
import Derived.KernelRfl
namespace Go.Proofs.Ytjlhhnkfedfdnaa
/- THE CELL 'sum', in the pinned program and in every row, IS THE sha256 OF THE DUMP (.gsa) THAT YtjlhhnkfedfdnaaProg.lean LOADS. Nothing in Lean hashes anything: it is a label: what it is worth is what the hold of that sum in a sandbox is worth. -/
noncomputable def Try.pinned : Pinned := { name := "ytjlhhnkfedfdnaa", sum := "23c5523367ea76838a565e15e73e05a9833b047b928cc74db4c8fd5a5c8e61f0", checked := Try.checked }
namespace Rows
def none {H : Type} : Left H := { results := [], args := [] }

/-- 'barquelaw08.PressPresses': WHATEVER THE INPUT: true; the input reads as it did. -/
def pressPressesSpec : ChangeSpec := { name := "pressPresses", fn := fun _ => fun
  | [d] => { results := [.lit (.bool true)], args := [d] }
  | _ => none }
def pressPressesRow : OpenClaim := { program := "ytjlhhnkfedfdnaa", sum := "23c5523367ea76838a565e15e73e05a9833b047b928cc74db4c8fd5a5c8e61f0", func := "barque/barquelaw08.PressPresses", spec := "pressPresses", apart := false }
def PressPressesSaid : Prop := pressPressesRow.holds Try.pinned (OpenSpec.ofChange pressPressesSpec)

/-- ITS FALSE NEIGHBOUR: 'it returns false'. Refute it at one input. -/
def pressPressesWrong : ChangeSpec := { name := "pressPresses", fn := fun _ => fun
  | [d] => { results := [.lit (.bool false)], args := [d] }
  | _ => none }
def PressPressesWrongFalsely : Prop := pressPressesRow.holds Try.pinned (OpenSpec.ofChange pressPressesWrong)

/-- 'barquelaw08.PressFar': WHATEVER THE INPUT: true; the input reads as it did. -/
def pressFarSpec : ChangeSpec := { name := "pressFar", fn := fun _ => fun
  | [d1, d2] => { results := [.lit (.bool true)], args := [d1, d2] }
  | _ => none }
def pressFarRow : OpenClaim := { program := "ytjlhhnkfedfdnaa", sum := "23c5523367ea76838a565e15e73e05a9833b047b928cc74db4c8fd5a5c8e61f0", func := "barque/barquelaw08.PressFar", spec := "pressFar", apart := false }
def PressFarSaid : Prop := pressFarRow.holds Try.pinned (OpenSpec.ofChange pressFarSpec)

/-- ITS FALSE NEIGHBOUR: 'it returns false'. Refute it at one input. -/
def pressFarWrong : ChangeSpec := { name := "pressFar", fn := fun _ => fun
  | [d1, d2] => { results := [.lit (.bool false)], args := [d1, d2] }
  | _ => none }
def PressFarWrongFalsely : Prop := pressFarRow.holds Try.pinned (OpenSpec.ofChange pressFarWrong)

/-- 'barquelaw08.PressLooses': WHATEVER THE INPUT: true; the input reads as it did. -/
def pressLoosesSpec : ChangeSpec := { name := "pressLooses", fn := fun _ => fun
  | [d] => { results := [.lit (.bool true)], args := [d] }
  | _ => none }
def pressLoosesRow : OpenClaim := { program := "ytjlhhnkfedfdnaa", sum := "23c5523367ea76838a565e15e73e05a9833b047b928cc74db4c8fd5a5c8e61f0", func := "barque/barquelaw08.PressLooses", spec := "pressLooses", apart := false }
def PressLoosesSaid : Prop := pressLoosesRow.holds Try.pinned (OpenSpec.ofChange pressLoosesSpec)

/-- ITS FALSE NEIGHBOUR: 'it returns false'. Refute it at one input. -/
def pressLoosesWrong : ChangeSpec := { name := "pressLooses", fn := fun _ => fun
  | [d] => { results := [.lit (.bool false)], args := [d] }
  | _ => none }
def PressLoosesWrongFalsely : Prop := pressLoosesRow.holds Try.pinned (OpenSpec.ofChange pressLoosesWrong)

/-- 'barquelaw08.PressBack': WHATEVER THE INPUT: true; the input reads as it did. -/
def pressBackSpec : ChangeSpec := { name := "pressBack", fn := fun _ => fun
  | [d] => { results := [.lit (.bool true)], args := [d] }
  | _ => none }
def pressBackRow : OpenClaim := { program := "ytjlhhnkfedfdnaa", sum := "23c5523367ea76838a565e15e73e05a9833b047b928cc74db4c8fd5a5c8e61f0", func := "barque/barquelaw08.PressBack", spec := "pressBack", apart := false }
def PressBackSaid : Prop := pressBackRow.holds Try.pinned (OpenSpec.ofChange pressBackSpec)

/-- ITS FALSE NEIGHBOUR: 'it returns false'. Refute it at one input. -/
def pressBackWrong : ChangeSpec := { name := "pressBack", fn := fun _ => fun
  | [d] => { results := [.lit (.bool false)], args := [d] }
  | _ => none }
def PressBackWrongFalsely : Prop := pressBackRow.holds Try.pinned (OpenSpec.ofChange pressBackWrong)

/-- 'barquelaw08.PressBounds': WHATEVER THE INPUT: true; the input reads as it did. -/
def pressBoundsSpec : ChangeSpec := { name := "pressBounds", fn := fun _ => fun
  | [d] => { results := [.lit (.bool true)], args := [d] }
  | _ => none }
def pressBoundsRow : OpenClaim := { program := "ytjlhhnkfedfdnaa", sum := "23c5523367ea76838a565e15e73e05a9833b047b928cc74db4c8fd5a5c8e61f0", func := "barque/barquelaw08.PressBounds", spec := "pressBounds", apart := false }
def PressBoundsSaid : Prop := pressBoundsRow.holds Try.pinned (OpenSpec.ofChange pressBoundsSpec)

/-- ITS FALSE NEIGHBOUR: 'it returns false'. Refute it at one input. -/
def pressBoundsWrong : ChangeSpec := { name := "pressBounds", fn := fun _ => fun
  | [d] => { results := [.lit (.bool false)], args := [d] }
  | _ => none }
def PressBoundsWrongFalsely : Prop := pressBoundsRow.holds Try.pinned (OpenSpec.ofChange pressBoundsWrong)

/-- 'barquelaw08.PressWraps': WHATEVER THE INPUT: true; the input reads as it did. -/
def pressWrapsSpec : ChangeSpec := { name := "pressWraps", fn := fun _ => fun
  | [d] => { results := [.lit (.bool true)], args := [d] }
  | _ => none }
def pressWrapsRow : OpenClaim := { program := "ytjlhhnkfedfdnaa", sum := "23c5523367ea76838a565e15e73e05a9833b047b928cc74db4c8fd5a5c8e61f0", func := "barque/barquelaw08.PressWraps", spec := "pressWraps", apart := false }
def PressWrapsSaid : Prop := pressWrapsRow.holds Try.pinned (OpenSpec.ofChange pressWrapsSpec)

/-- ITS FALSE NEIGHBOUR: 'it returns false'. Refute it at one input. -/
def pressWrapsWrong : ChangeSpec := { name := "pressWraps", fn := fun _ => fun
  | [d] => { results := [.lit (.bool false)], args := [d] }
  | _ => none }
def PressWrapsWrongFalsely : Prop := pressWrapsRow.holds Try.pinned (OpenSpec.ofChange pressWrapsWrong)

/-- 'barquelaw08.PressOpens': WHATEVER THE INPUT: true; the input reads as it did. -/
def pressOpensSpec : ChangeSpec := { name := "pressOpens", fn := fun _ => fun
  | [d] => { results := [.lit (.bool true)], args := [d] }
  | _ => none }
def pressOpensRow : OpenClaim := { program := "ytjlhhnkfedfdnaa", sum := "23c5523367ea76838a565e15e73e05a9833b047b928cc74db4c8fd5a5c8e61f0", func := "barque/barquelaw08.PressOpens", spec := "pressOpens", apart := false }
def PressOpensSaid : Prop := pressOpensRow.holds Try.pinned (OpenSpec.ofChange pressOpensSpec)

/-- ITS FALSE NEIGHBOUR: 'it returns false'. Refute it at one input. -/
def pressOpensWrong : ChangeSpec := { name := "pressOpens", fn := fun _ => fun
  | [d] => { results := [.lit (.bool false)], args := [d] }
  | _ => none }
def PressOpensWrongFalsely : Prop := pressOpensRow.holds Try.pinned (OpenSpec.ofChange pressOpensWrong)

/-- 'barquelaw08.PressTwice': WHATEVER THE INPUT: true; the input reads as it did. -/
def pressTwiceSpec : ChangeSpec := { name := "pressTwice", fn := fun _ => fun
  | [d] => { results := [.lit (.bool true)], args := [d] }
  | _ => none }
def pressTwiceRow : OpenClaim := { program := "ytjlhhnkfedfdnaa", sum := "23c5523367ea76838a565e15e73e05a9833b047b928cc74db4c8fd5a5c8e61f0", func := "barque/barquelaw08.PressTwice", spec := "pressTwice", apart := false }
def PressTwiceSaid : Prop := pressTwiceRow.holds Try.pinned (OpenSpec.ofChange pressTwiceSpec)

/-- ITS FALSE NEIGHBOUR: 'it returns false'. Refute it at one input. -/
def pressTwiceWrong : ChangeSpec := { name := "pressTwice", fn := fun _ => fun
  | [d] => { results := [.lit (.bool false)], args := [d] }
  | _ => none }
def PressTwiceWrongFalsely : Prop := pressTwiceRow.holds Try.pinned (OpenSpec.ofChange pressTwiceWrong)

/-- 'barquelaw08.PressLong': WHATEVER THE INPUT: true; the input reads as it did. -/
def pressLongSpec : ChangeSpec := { name := "pressLong", fn := fun _ => fun
  | [d] => { results := [.lit (.bool true)], args := [d] }
  | _ => none }
def pressLongRow : OpenClaim := { program := "ytjlhhnkfedfdnaa", sum := "23c5523367ea76838a565e15e73e05a9833b047b928cc74db4c8fd5a5c8e61f0", func := "barque/barquelaw08.PressLong", spec := "pressLong", apart := false }
def PressLongSaid : Prop := pressLongRow.holds Try.pinned (OpenSpec.ofChange pressLongSpec)

/-- ITS FALSE NEIGHBOUR: 'it returns false'. Refute it at one input. -/
def pressLongWrong : ChangeSpec := { name := "pressLong", fn := fun _ => fun
  | [d] => { results := [.lit (.bool false)], args := [d] }
  | _ => none }
def PressLongWrongFalsely : Prop := pressLongRow.holds Try.pinned (OpenSpec.ofChange pressLongWrong)

/- THE SECOND FORM. 'bulk': how many values and letters a reading holds, each counted each time it is reached (what is shared counts as often as it is met; a slice's spare places count too). A statement '..UptoSaid' is the law's where the arguments, and the package variables that the reading takes, are together of bulk at most 1048576: NARROWER than '..Said'. Prove '..Said' where nothing that the law and all that it calls make is longer than what came in: it says more and counts as full. Else prove '..UptoSaid'. A law counts once. -/
mutual
def uptoBulk {H : Type} : DataW H → Nat
  | .lit (.string bytes) => bytes.length + 1
  | .lit _ => 1
  | .nil => 1
  | .ptr d => uptoBulk d + 1
  | .slice elems spare => uptoBulkAll elems + uptoBulkAll spare + 1
  | .agg parts => uptoBulkAll parts + 1
  | .iface _ d => uptoBulk d + 1
  | .map entries => uptoBulkEntries entries + 1
  | .held _ => 1
def uptoBulkAll {H : Type} : List (DataW H) → Nat
  | [] => 0
  | d :: r => uptoBulk d + uptoBulkAll r
def uptoBulkEntries {H : Type} : List (Lit × DataW H) → Nat
  | [] => 0
  | x :: r => uptoBulkEntry x + uptoBulkEntries r
def uptoBulkEntry {H : Type} : Lit × DataW H → Nat
  | (.string bytes, d) => bytes.length + uptoBulk d + 1
  | (_, d) => uptoBulk d + 1
 end
def uptoSmall : (H : Type) → List (DataW H) → Bool := fun _ ds => decide (uptoBulkAll ds ≤ 1048576)
def OpenSpec.upto (s : _root_.Go.ChangeSpec) : _root_.Go.OpenSpec := { _root_.Go.OpenSpec.ofChange s with cond := some uptoSmall }

/-- 'barquelaw08.PressPresses', WHERE WHAT IT READS IS OF BULK AT MOST 1048576: true; the input reads as it did. -/
def pressPressesUptoRow : OpenClaim := { program := "ytjlhhnkfedfdnaa", sum := "23c5523367ea76838a565e15e73e05a9833b047b928cc74db4c8fd5a5c8e61f0", func := "barque/barquelaw08.PressPresses", spec := "pressPresses", apart := false, narrowed := true }
def PressPressesUptoSaid : Prop := pressPressesUptoRow.holds Try.pinned (OpenSpec.upto pressPressesSpec)

/-- 'barquelaw08.PressFar', WHERE WHAT IT READS IS OF BULK AT MOST 1048576: true; the input reads as it did. -/
def pressFarUptoRow : OpenClaim := { program := "ytjlhhnkfedfdnaa", sum := "23c5523367ea76838a565e15e73e05a9833b047b928cc74db4c8fd5a5c8e61f0", func := "barque/barquelaw08.PressFar", spec := "pressFar", apart := false, narrowed := true }
def PressFarUptoSaid : Prop := pressFarUptoRow.holds Try.pinned (OpenSpec.upto pressFarSpec)

/-- 'barquelaw08.PressLooses', WHERE WHAT IT READS IS OF BULK AT MOST 1048576: true; the input reads as it did. -/
def pressLoosesUptoRow : OpenClaim := { program := "ytjlhhnkfedfdnaa", sum := "23c5523367ea76838a565e15e73e05a9833b047b928cc74db4c8fd5a5c8e61f0", func := "barque/barquelaw08.PressLooses", spec := "pressLooses", apart := false, narrowed := true }
def PressLoosesUptoSaid : Prop := pressLoosesUptoRow.holds Try.pinned (OpenSpec.upto pressLoosesSpec)

/-- 'barquelaw08.PressBack', WHERE WHAT IT READS IS OF BULK AT MOST 1048576: true; the input reads as it did. -/
def pressBackUptoRow : OpenClaim := { program := "ytjlhhnkfedfdnaa", sum := "23c5523367ea76838a565e15e73e05a9833b047b928cc74db4c8fd5a5c8e61f0", func := "barque/barquelaw08.PressBack", spec := "pressBack", apart := false, narrowed := true }
def PressBackUptoSaid : Prop := pressBackUptoRow.holds Try.pinned (OpenSpec.upto pressBackSpec)

/-- 'barquelaw08.PressBounds', WHERE WHAT IT READS IS OF BULK AT MOST 1048576: true; the input reads as it did. -/
def pressBoundsUptoRow : OpenClaim := { program := "ytjlhhnkfedfdnaa", sum := "23c5523367ea76838a565e15e73e05a9833b047b928cc74db4c8fd5a5c8e61f0", func := "barque/barquelaw08.PressBounds", spec := "pressBounds", apart := false, narrowed := true }
def PressBoundsUptoSaid : Prop := pressBoundsUptoRow.holds Try.pinned (OpenSpec.upto pressBoundsSpec)

/-- 'barquelaw08.PressWraps', WHERE WHAT IT READS IS OF BULK AT MOST 1048576: true; the input reads as it did. -/
def pressWrapsUptoRow : OpenClaim := { program := "ytjlhhnkfedfdnaa", sum := "23c5523367ea76838a565e15e73e05a9833b047b928cc74db4c8fd5a5c8e61f0", func := "barque/barquelaw08.PressWraps", spec := "pressWraps", apart := false, narrowed := true }
def PressWrapsUptoSaid : Prop := pressWrapsUptoRow.holds Try.pinned (OpenSpec.upto pressWrapsSpec)

/-- 'barquelaw08.PressOpens', WHERE WHAT IT READS IS OF BULK AT MOST 1048576: true; the input reads as it did. -/
def pressOpensUptoRow : OpenClaim := { program := "ytjlhhnkfedfdnaa", sum := "23c5523367ea76838a565e15e73e05a9833b047b928cc74db4c8fd5a5c8e61f0", func := "barque/barquelaw08.PressOpens", spec := "pressOpens", apart := false, narrowed := true }
def PressOpensUptoSaid : Prop := pressOpensUptoRow.holds Try.pinned (OpenSpec.upto pressOpensSpec)

/-- 'barquelaw08.PressTwice', WHERE WHAT IT READS IS OF BULK AT MOST 1048576: true; the input reads as it did. -/
def pressTwiceUptoRow : OpenClaim := { program := "ytjlhhnkfedfdnaa", sum := "23c5523367ea76838a565e15e73e05a9833b047b928cc74db4c8fd5a5c8e61f0", func := "barque/barquelaw08.PressTwice", spec := "pressTwice", apart := false, narrowed := true }
def PressTwiceUptoSaid : Prop := pressTwiceUptoRow.holds Try.pinned (OpenSpec.upto pressTwiceSpec)

/-- 'barquelaw08.PressLong', WHERE WHAT IT READS IS OF BULK AT MOST 1048576: true; the input reads as it did. -/
def pressLongUptoRow : OpenClaim := { program := "ytjlhhnkfedfdnaa", sum := "23c5523367ea76838a565e15e73e05a9833b047b928cc74db4c8fd5a5c8e61f0", func := "barque/barquelaw08.PressLong", spec := "pressLong", apart := false, narrowed := true }
def PressLongUptoSaid : Prop := pressLongUptoRow.holds Try.pinned (OpenSpec.upto pressLongSpec)

end Rows
end Go.Proofs.Ytjlhhnkfedfdnaa
