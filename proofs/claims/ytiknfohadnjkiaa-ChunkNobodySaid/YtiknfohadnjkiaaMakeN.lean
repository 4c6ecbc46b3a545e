/- A list of zero values, made: in any world. Of no program. -/
import Derived.Test.YtiknfohadnjkiaaClearN
import Derived.Test.YtiknfohadnjkiaaFrame
import Derived.Test.YtiknfohadnjkiaaGen
import Derived.Test.YtiknfohadnjkiaaOwnL
import Derived.Test.YtiknfohadnjkiaaRowN
set_option linter.unusedVariables false
namespace Go.Proofs.Ytiknfohadnjkiaa
open Go.RowKit

section
variable {α : Type} {enc : α → List Value} {k : Nat}
theorem made_flatN (hE : EncN enc k) (hk : 0 < k) (x : α) (n : Nat) : (madeCells (enc x).toArray (n * k)).toList = flatN enc (List.replicate n x) := by
  have h := zero_flat hE hk x (enc x).toArray rfl n
  rw [← h]
  unfold madeCells Builtin.zeroCells
  rw [List.size_toArray, hE.len]
theorem make_own {P : Program} (hE : EncN enc k) (hk : 0 < k) (x0 : α) (t e : TypeId) (z : Value) (bytes n : Nat) (ht : P.underlying t = some (.slice e))
    (hinfo : (P.info? e).map (fun i => (i.zero, i.size, i.bytes)) = some (some z, k, bytes)) (hz : z.cells = (enc x0).toArray) (hn : n * bytes ≤ 140737488355328) (hn2 : n ≤ maxLen) :
    ∃ W : World → World, ∀ w, (Instr.makeSlice t (.int .i64 (n : Int)) (.int .i64 (n : Int))).run P w = .ok (.slice (some ⟨w.heap.size, 0, none⟩) n n) (W w) ∧ OwnN enc k (W w) w.heap.size e (.slice (some ⟨w.heap.size, 0, none⟩) n n) (List.replicate n x0) ∧ Below w.heap.size w (W w) := by
  have key : ∀ w : World, ∃ w', (Instr.makeSlice t (.int .i64 (n : Int)) (.int .i64 (n : Int))).run P w = .ok (.slice (some ⟨w.heap.size, 0, none⟩) n n) w' ∧ OwnN enc k w' w.heap.size e (.slice (some ⟨w.heap.size, 0, none⟩) n n) (List.replicate n x0) ∧ Below w.heap.size w w' := by
    intro w
    obtain ⟨i0, hi, hz0, hz1, hz2⟩ := info_parts hinfo
    obtain ⟨w', hr, hown, hg⟩ := run_make_full (P := P) w w.heap.size t e i0 _ k ht hi hz0 hz1 .i64 .i64 n (by rw [hz2, Nat.mul_comm]; omega) hn2 (Nat.le_refl _)
    refine ⟨w', hr, ?_, (Below.refl w.heap.size w).grown hg (Nat.le_refl _) (fun k hk => by cases hk)⟩
    unfold OwnN
    rw [List.length_replicate, ← made_flatN hE hk x0 n, ← hz]
    exact hown
  exact ⟨fun w => (key w).choose, fun w => (key w).choose_spec⟩
end
end Go.Proofs.Ytiknfohadnjkiaa
