/- A part, calls of a box that came in. -/
import Derived.Test.YtiknfohadnjkiaaBoxC
import Derived.Test.YtiknfohadnjkiaaChunkMath
import Derived.Test.YtiknfohadnjkiaaChunkStepW
import Derived.Test.YtiknfohadnjkiaaFrame
import Derived.Test.YtiknfohadnjkiaaGen
import Derived.Test.YtiknfohadnjkiaaOpen
import Derived.Test.YtiknfohadnjkiaaOwnL
import Derived.Test.YtiknfohadnjkiaaRowN
import Derived.Test.YtiknfohadnjkiaaRows
import Derived.BigQuiet
import Derived.BigRegion
import Derived.Deep.QuietTactic
import Derived.Deep.RegionHeld3
import Derived.Laws.Concat
import Derived.Laws.ResultCell
import Derived.Lib.Hide
import Derived.Outline
import Derived.WalkKit
import Derived.WalkLawsBesides
import Derived.WalkSpells
set_option linter.unusedVariables false
namespace Go.Proofs.Ytiknfohadnjkiaa
open Go.RowKit

abbrev PartTy : Ty := .cons .int (.cons .int (.cons .text .nil))
abbrev OpcTy : Ty := .cons .int (.cons .int (.cons PartTy .nil))
theorem part_cells {W : World} {cs : List Value} (h : TyIn W PartTy cs) : ∃ p : PartD, PartOk p ∧ cs = encPt p := by
  obtain ⟨_, _, rfl, ⟨a, ha, rfl⟩, _, _, rfl, ⟨b, hb, rfl⟩, _, _, rfl, ⟨c, hc, rfl⟩, hn⟩ := h
  have hn' : _ = [] := hn
  subst hn'
  exact ⟨⟨a, b, c⟩, ⟨ha, hb, hc⟩, rfl⟩
theorem part_in {W : World} {v : Value} (h : ∃ l : List Value, v = .agg l.toArray ∧ TyIn W PartTy l) : ∃ p : PartD, PartOk p ∧ v = partV p := by
  obtain ⟨l, rfl, h⟩ := h
  obtain ⟨p, hp, rfl⟩ := part_cells h
  exact ⟨p, hp, rfl⟩
theorem opsc_in {W : World} {v : Value} (h : TyIn W (.list OpcTy) [v]) : ∃ xs : List OpC, RowN encOc 5 (· < W.heap.size) W v xs ∧ (∀ x ∈ xs, OpOk x) ∧ xs.length ≤ 140737488351232 := by
  refine TyIn.rows (u := OpcTy) rfl (fun els he => ?_) h
  obtain ⟨_, _, rfl, ⟨a, ha, rfl⟩, _, _, rfl, ⟨b, hb, rfl⟩, _, _, rfl, hp, hn⟩ := he
  obtain ⟨p, hpo, rfl⟩ := part_cells hp
  have hn' : _ = [] := hn
  subst hn'
  exact ⟨⟨a, b, p⟩, ⟨ha, hb, hpo⟩, rfl⟩
end Go.Proofs.Ytiknfohadnjkiaa
