/- Walks of a table's Size and Block. -/
import Derived.Test.YtfblkhmhelmjlaaCmpW
import Derived.Test.YtfblkhmhelmjlaaProg
import Derived.Test.YtfblkhmhelmjlaaReadW
import Derived.Test.YtfblkhmhelmjlaaRows
import Derived.Test.YtfblkhmhelmjlaaShelf
import Derived.BigQuiet
import Derived.BigRegion
import Derived.ChangeAlike
import Derived.Deep.AppendLies
import Derived.Deep.CutBlock
import Derived.Deep.CutRange
import Derived.Deep.DeepCutAuto
import Derived.Deep.Draws
import Derived.Deep.QuietTactic
import Derived.Deep.RegionHeld3
import Derived.Deep.RegionLaw
import Derived.IntWalk
import Derived.Laws.Bits128
import Derived.Laws.BitsAllLaws
import Derived.Laws.IdiomStrings
import Derived.Laws.Rows
import Derived.Laws.Tables
import Derived.Lib.AppendStr
import Derived.Lib.Hide
import Derived.Maps.OwnSet
import Derived.Maps.Views
import Derived.OpenShut
import Derived.Outline
import Derived.ProofKit
import Derived.RegionTactic
import Derived.Shelf.Abstract
import Derived.ShutString
import Derived.SizedLaws
import Derived.SliceStrings
import Derived.StillTailTactics
import Derived.WalkKit
import Derived.WalkLawsBesides
import Derived.WalkSpells
set_option linter.unusedVariables false
namespace Go.Proofs.Ytfblkhmhelmjlaa
open Go.RowKit

set_option maxRecDepth 100000 in
set_option maxHeartbeats 1000000 in
theorem tabSize_any (p B M : Nat) (vw vs vo : Value) (w : World) (h : w.heap[p]? = some (tabC B M vw vs vo)) : Calls Try.prog 95 #[.pointer (some ⟨p, 0, none⟩)] w fun e w' => e = .returned (.int .i64 M) ∧ w = w' := by
  obtain ⟨d0, d1, d2, d3, d4⟩ := tab_c h
  clear h
  go_enter Try.func95, Try.ntmps95
  go_wp2
  go_ret
  exact ⟨rfl, rfl⟩
theorem tabBlock_any (p B M : Nat) (vw vs vo : Value) (w : World) (h : w.heap[p]? = some (tabC B M vw vs vo)) : Calls Try.prog 86 #[.pointer (some ⟨p, 0, none⟩)] w fun e w' => e = .returned (.int .i64 B) ∧ w = w' := by
  obtain ⟨d0, d1, d2, d3, d4⟩ := tab_c h
  clear h
  go_enter Try.func86, Try.ntmps86
  go_wp2
  go_ret
  exact ⟨rfl, rfl⟩
end Go.Proofs.Ytfblkhmhelmjlaa
