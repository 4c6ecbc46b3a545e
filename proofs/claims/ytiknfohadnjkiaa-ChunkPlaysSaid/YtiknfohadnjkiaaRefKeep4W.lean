/- The document's keep: Road. -/
import Derived.Test.YtiknfohadnjkiaaFrame
import Derived.Test.YtiknfohadnjkiaaGen
import Derived.Test.YtiknfohadnjkiaaKeepMath
import Derived.Test.YtiknfohadnjkiaaRefKeep2W
import Derived.Test.YtiknfohadnjkiaaRefKeep3W
import Derived.Test.YtiknfohadnjkiaaRowN
import Derived.Test.YtiknfohadnjkiaaRows
import Derived.BigQuiet
import Derived.Deep.QuietTactic
import Derived.Deep.RegionHeld3
import Derived.Lib.Hide
import Derived.Outline
import Derived.WalkKit
import Derived.WalkLawsBesides
import Derived.WalkSpells
set_option linter.unusedVariables false
namespace Go.Proofs.Ytiknfohadnjkiaa
open Go.RowKit

theorem info_int12 : (Try.prog.info? 3).map (fun i => (i.zero, i.size, i.bytes)) = some (some (.int .i64 0), 1, 8) := by kernel_rfl
theorem own_one12 (w : World) (base : Nat) (g : Int) (hb : base ≤ w.heap.size) : OwnN encI1 1 (w.alloc (.cells #[.int .i64 g] 3)) base 3 (.slice (some ⟨w.heap.size, 0, none⟩) 1 1) [g] :=
  ⟨rfl, .inr ⟨w.heap.size, 1, #[.int .i64 g], rfl, hb, heap_alloc_new w _, Nat.le_refl _, by unfold maxLen; omega, rfl, rfl⟩⟩
theorem chkG_bad : ∀ {l : List GenD} {i : Nat} (hi : i < l.length), chkG [] l = 0 → badG (l.take i) l[i] = 0 := fun {l i} hi h => by
  have h1 := chkG_take l [] i h
  obtain ⟨a, _⟩ := chk_step hi h1
  by_cases c : badG (l.take i) l[i] = 0
  · exact c
  · have := a c
    rw [h] at this
    exact absurd this.symm c
theorem check_bad {l : List GenD} (h : checkG l = 0) {i : Nat} (hi : i < l.length) : badG (l.take i) l[i] = 0 := by
  unfold checkG at h
  split at h
  · cases h
  · exact chkG_bad hi h
/-- What a right generation hangs on is there. -/
theorem check_basis {l : List GenD} (h : checkG l = 0) {i : Nat} (hi : i < l.length) (hb : l[i].basis ≠ l[i].gen) : atN (l.take i) l[i].basis < (l.take i).length := by
  rw [atN_lt]
  have := check_bad h hi
  unfold badG at this
  split at this
  · cases this
  · split at this
    · cases this
    · split at this
      · cases this
      · rename_i c
        exact Classical.byContradiction fun k => c ⟨hb, k⟩
theorem roadF_fuel : ∀ (f k : Nat) (l : List GenD) (g : Int), l.length < f → l.length < k → roadF f l g = roadF k l g
  | 0, _, _, _, h, _ => by omega
  | _, 0, _, _, _, h => by omega
  | f + 1, k + 1, l, g, h1, h2 => by
    unfold roadF
    cases hx : l[atN l g]? with
    | none => rfl
    | some x =>
      dsimp only
      have hlt : atN l g < l.length := (List.getElem?_eq_some_iff.1 hx).1
      have hl : (l.take (atN l g)).length = atN l g := by rw [List.length_take]; omega
      rw [roadF_fuel f k (l.take (atN l g)) x.basis (by omega) (by omega)]
theorem roadL_step {l : List GenD} {g : Int} (h : atN l g < l.length) : roadL l g = if l[atN l g].basis = g then [g] else roadL (l.take (atN l g)) l[atN l g].basis ++ [g] := by
  have hl : (l.take (atN l g)).length = atN l g := by rw [List.length_take]; omega
  unfold roadL
  rw [roadF, List.getElem?_eq_getElem h]
  dsimp only
  rw [roadF_fuel l.length ((l.take (atN l g)).length + 1) _ _ (by omega) (by omega)]
theorem roadL_len : ∀ (n : Nat) (l : List GenD) (g : Int), l.length ≤ n → (roadL l g).length ≤ l.length
  | 0, l, g, h => by
    have : l = [] := List.eq_nil_of_length_eq_zero (by omega)
    subst this
    exact Nat.le_refl _
  | n + 1, l, g, h => by
    by_cases c : atN l g < l.length
    · rw [roadL_step c]
      split
      · simp; omega
      · have hl : (l.take (atN l g)).length = atN l g := by rw [List.length_take]; omega
        have := roadL_len n (l.take (atN l g)) l[atN l g].basis (by omega)
        rw [List.length_append]
        simp
        omega
    · have : l[atN l g]? = none := List.getElem?_eq_none (by omega)
      unfold roadL
      rw [roadF, this]
      exact Nat.zero_le _
end Go.Proofs.Ytiknfohadnjkiaa
