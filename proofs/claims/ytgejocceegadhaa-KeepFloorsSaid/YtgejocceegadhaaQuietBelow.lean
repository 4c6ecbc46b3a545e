/- A region that draws its order, whose operations only read, whose callees may make memory: walked once, in the order of the text. -/
import Derived.Test.YtgejocceegadhaaGen
import Derived.BigQuiet
import Derived.Deep.QuietTactic
set_option linter.unusedVariables false
namespace Go.Proofs.Ytgejocceegadhaa
open Go.RowKit

/-- A world behind w0 in which all that stood stands. -/
structure BelowOf (w0 : World) where
  w : World
  h : Below w0.heap.size w0 w
instance belowOf_inh (w0 : World) : Inhabited (BelowOf w0) := ⟨⟨w0, Below.refl _ _⟩⟩
theorem wp_region_below {P : Program} {id : Nat} {Q : Exit → Act → World → Prop} {a : Act} {w0 : World} {l : List Oper} (hm : P.follows .mixedOrders = true) (hB : Region.lexB .any l.toArray = true)
    (h : wpQuiet P l.toArray (fun w' => ∃ p : BelowOf w0, w' = p.w) (fun a' => ∀ w', (∃ p : BelowOf w0, w' = p.w) → Q .normal a' w') l a) : (Code.region id l.toArray true).wp P Q a w0 :=
  wp_region_quiet (C := fun w' => ∃ p : BelowOf w0, w' = p.w) hm hB ⟨⟨w0.drew, Below_drew (Below.refl _ _)⟩, rfl⟩ (by simpa using h)
theorem below_calls {P : Program} {f : FuncId} {args : Array Value} {w0 : World} {p : BelowOf w0} {v : Value} (h : Calls P f args p.w fun e w' => e = .returned v ∧ Below p.w.heap.size p.w w') :
    Calls P f args p.w fun e w'' => e = .returned v ∧ ∃ p' : BelowOf w0, w'' = p'.w :=
  h.mono fun _ w' ⟨he, hb⟩ => ⟨he, ⟨w', p.h.trans (hb.mono p.h.size)⟩, rfl⟩
theorem below_calls_same {P : Program} {f : FuncId} {args : Array Value} {w0 : World} {p : BelowOf w0} {v : Value} (h : Calls P f args p.w fun e w' => e = .returned v ∧ p.w = w') :
    Calls P f args p.w fun e w'' => e = .returned v ∧ ∃ p' : BelowOf w0, w'' = p'.w :=
  h.mono fun _ w' ⟨he, hb⟩ => ⟨he, p, hb.symm⟩
theorem below_cell {w0 : World} {a : Addr} {v : Value} (h : w0.cell? a = some v) (p : BelowOf w0) : p.w.cell? a = some v := (p.h.cell (World.block_lt_of_cell? w0 _ h)).trans h
end Go.Proofs.Ytgejocceegadhaa
