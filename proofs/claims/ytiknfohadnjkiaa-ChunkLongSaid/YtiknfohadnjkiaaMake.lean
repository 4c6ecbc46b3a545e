/- make of bytes: the call owns zeros. Of no program. -/
import Derived.Test.YtiknfohadnjkiaaGen
import Derived.Laws.OwnMore
set_option linter.unusedVariables false
namespace Go.Proofs.Ytiknfohadnjkiaa
open Go.RowKit

theorem make_zeros {P : Program} (w : World) (t e : TypeId) (ht : P.underlying t = some (.slice e))
    (hinfo : (P.info? e).map (fun i => (i.zero, i.size, i.bytes)) = some (some (.int .u8 0), 1, 1)) (base n : Nat) (N : Int) (hN : N = n) (hn : n ≤ 140737488355328) (hbase : base ≤ w.heap.size) :
    ∃ v w', (Instr.makeSlice t (.int .i64 N) (.int .i64 N)).run P w = .ok v w' ∧ Own w' base e v (List.replicate n 0) ∧ Below base w w' := by
  subst hN
  obtain ⟨i0, hi, hz0, hz1, hz2⟩ := info_parts hinfo
  obtain ⟨w', hr, hown, hg⟩ := run_make_full (P := P) w base t e i0 (.int .u8 0) 1 ht hi hz0 hz1 .i64 .i64 n (by rw [hz2]; omega) (by unfold maxLen; omega) hbase
  refine ⟨_, w', hr, ?_, (Below.refl base w).grown hg hbase (fun k hk => by cases hk)⟩
  unfold Own
  rw [List.length_replicate, cellsOf, List.map_replicate]
  have e1 : (madeCells (Value.int .u8 0).cells (n * 1)).toList = List.replicate n (Value.int .u8 0) := by
    rw [Nat.mul_one]; exact toList_madeCells_one _ _
  rw [e1] at hown
  exact hown
end Go.Proofs.Ytiknfohadnjkiaa
