/- Generations, a policy, numbers that came in. -/
import Derived.Test.YtiknfohadnjkiaaFrame
import Derived.Test.YtiknfohadnjkiaaGen
import Derived.Test.YtiknfohadnjkiaaKeepMath
import Derived.Test.YtiknfohadnjkiaaOpen
import Derived.Test.YtiknfohadnjkiaaOwnL
import Derived.Test.YtiknfohadnjkiaaRefKeep2W
import Derived.Test.YtiknfohadnjkiaaRefKeepW
import Derived.Test.YtiknfohadnjkiaaRowN
import Derived.Test.YtiknfohadnjkiaaRows
import Derived.BigQuiet
import Derived.Deep.QuietTactic
set_option linter.unusedVariables false
namespace Go.Proofs.Ytiknfohadnjkiaa
open Go.RowKit

abbrev GenTy : Ty := .cons .int (.cons .int (.cons .int (.cons .text .nil)))
abbrev PolTy : Ty := .cons .int (.cons .int .nil)
theorem gens_in {W : World} {v : Value} (h : TyIn W (.list GenTy) [v]) : ∃ xs : List GenD, RowN encGn 4 (· < W.heap.size) W v xs ∧ (∀ x ∈ xs, GenOk x) ∧ xs.length ≤ 140737488351232 := by
  refine TyIn.rows (u := GenTy) rfl (fun els he => ?_) h
  obtain ⟨_, _, rfl, ⟨a, ha, rfl⟩, _, _, rfl, ⟨b, hb, rfl⟩, _, _, rfl, ⟨c, hc, rfl⟩, _, _, rfl, ⟨m, hm, rfl⟩, hn⟩ := he
  have hn' : _ = [] := hn
  subst hn'
  exact ⟨⟨a, b, c, m⟩, ⟨ha, hb, hc, hm⟩, rfl⟩
theorem ints_in {W : World} {v : Value} (h : TyIn W (.list .int) [v]) : ∃ xs : List Int, RowN encI1 1 (· < W.heap.size) W v xs ∧ (∀ x ∈ xs, -9223372036854775808 ≤ x ∧ x ≤ 9223372036854775807) ∧ xs.length ≤ 140737488351232 := by
  refine TyIn.rows (u := .int) rfl (fun els he => ?_) h
  obtain ⟨a, ha, rfl⟩ := he
  exact ⟨a, ha, rfl⟩
theorem pol_in {W : World} {v : Value} (h : ∃ l : List Value, v = .agg l.toArray ∧ TyIn W PolTy l) : ∃ a b : Int, PolIn a b ∧ v = polV a b := by
  obtain ⟨l, rfl, _, _, rfl, ⟨a, ha, rfl⟩, _, _, rfl, ⟨b, hb, rfl⟩, hn⟩ := h
  have hn' : _ = [] := hn
  subst hn'
  exact ⟨a, b, ⟨ha, hb⟩, rfl⟩
end Go.Proofs.Ytiknfohadnjkiaa
