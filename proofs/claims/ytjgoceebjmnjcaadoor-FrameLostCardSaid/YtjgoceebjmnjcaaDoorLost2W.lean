/- The law FrameLost, by what first does. -/
import Derived.Test.YtjgoceebjmnjcaaDoorLostW
import Derived.Test.YtjgoceebjmnjcaaDoorSumsFW
set_option linter.unusedVariables false
namespace Go.Proofs.YtjgoceebjmnjcaaDoor
open Go.RowKit
theorem frameLost_walk (ns : List UInt8) (hn : ns.length ≤ 140737488351232) (x : List UInt8) (hx : x.length ≤ 140737488351232) (w : World) (ht : Tab w) (hT : BTab w) :
    Calls Tryd.prog 11 #[.string ⟨ns.toArray⟩, .string ⟨x.toArray⟩] w fun e w' => e = .returned (.bool true) ∧ Below w.heap.size w w' :=
  frameLost_go ns hn x hx w ht hT first_is
end Go.Proofs.YtjgoceebjmnjcaaDoor
