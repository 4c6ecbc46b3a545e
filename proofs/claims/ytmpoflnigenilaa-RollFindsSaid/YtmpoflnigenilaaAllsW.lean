/- The walk of the law RollAlls. -/
import Derived.Test.YtmpoflnigenilaaIntsW
set_option linter.unusedVariables false
namespace Go.Proofs.Ytmpoflnigenilaa
open Go.RowKit

theorem all_any (l : List UInt8) (n : Nat) (z : Int) (w : World) (hz : z = (n : Int)) (hn : 1 ≤ n) (hn2 : n ≤ 1024) (hl : l.length ≤ 10000) :
    Calls Try.prog 21 #[.string ⟨l.toArray⟩, .int .i64 z] w fun e w' => ∃ v, e = .returned (.tuple #[v, .int .i64 0]) ∧ OwnL encN w' w.heap.size 3 v (allS l n) ∧ Below w.heap.size w w' := by
  by_cases h : n ≤ l.length
  · exact all_ok l n z w hz hn hn2 h hl
  · refine (all_short l n z w hz hn hn2 (by omega)).mono ?_
    rintro e w' ⟨rfl, rfl⟩
    refine ⟨_, rfl, ?_, Below.refl _ _⟩
    have e : allS l n = [] := by unfold allS; rw [show l.length + 1 - n = 0 by omega]; rfl
    rw [e]
    exact OwnL.nil _ _ _ _

theorem allS_length (l : List UInt8) (n : Nat) : (allS l n).length = l.length + 1 - n := by simp [allS]

set_option maxRecDepth 100000 in
set_option maxHeartbeats 1000000 in
theorem alls_some (s t : List UInt8) (z : Int) (n : Nat) (w : World) (CUT : ∀ w', Hid (Calls Try.prog 11 #[.string ⟨s.toArray⟩, .int .i64 600] w' fun e w'' => e = .returned (.string ⟨t.toArray⟩) ∧ w' = w'')) (ht : t.length ≤ 600)
    (hz : z = (n : Int)) (h1 : 1 ≤ n) (h2 : n ≤ 1024) :
    Calls Try.prog 7 #[.string ⟨s.toArray⟩, .int .i64 z] w fun e w' => e = .returned (.bool true) ∧ Below w.heap.size w w' := by
  have A := fun w' => Lib.hid (all_any t n z w' hz h1 h2 (by omega))
  have R := fun w' => Lib.hid (refAll_any t n z w' hz h1 h2 (by omega))
  have LL := Lib.hid (allS_length t n)
  have z1 : ¬ z < 1 := by omega
  have z2 : ¬ z > 1024 := by omega
  clear hz
  generalize allS t n = xs at *
  go_enter Try.func7, Try.ntmps7
  go_wp2_with fail
  refine (CUT _).out.mono ?_
  rintro e w' ⟨rfl, rfl⟩
  go_wp2_with fail
  refine (A _).out.mono ?_
  rintro e w1 ⟨v1, rfl, o1, b1⟩
  have O1 := Lib.hid o1; clear o1
  go_wp2_with fail
  refine (R _).out.mono ?_
  rintro e w2 ⟨v2, rfl, o2, b2⟩
  have O1' := Lib.hid (O1.out.kept (Kept.new b2 (fun _ => False)) (fun _ _ h => h))
  have S := Lib.hid (ints_same xs v1 v2 _ _ w2 O1'.out.row o2.row (by rw [LL.out]; omega))
  clear O1 O1' o2
  go_wp2_with fail
  refine S.out.mono ?_
  rintro e w3 ⟨rfl, b3⟩
  go_wp2_with fail
  refine (awake_any _).mono ?_
  rintro e w4 ⟨rfl, b4⟩
  go_wp2
  go_ret
  exact ⟨rfl, below2 b1 (below2 b2 (below2 b3 b4))⟩

set_option maxRecDepth 100000 in
set_option maxHeartbeats 1000000 in
theorem alls_arg (s t : List UInt8) (z : Int) (w : World) (CUT : ∀ w', Hid (Calls Try.prog 11 #[.string ⟨s.toArray⟩, .int .i64 600] w' fun e w'' => e = .returned (.string ⟨t.toArray⟩) ∧ w' = w'')) (hz : z < 1 ∨ z > 1024) :
    Calls Try.prog 7 #[.string ⟨s.toArray⟩, .int .i64 z] w fun e w' => e = .returned (.bool true) ∧ Below w.heap.size w w' := by
  have A := fun w' => Lib.hid (all_arg t z w' hz)
  by_cases h1 : z < 1
  · clear hz
    go_enter Try.func7, Try.ntmps7
    go_wp2_with fail
    refine (CUT _).out.mono ?_
    rintro e w' ⟨rfl, rfl⟩
    go_wp2_with fail
    refine (A _).out.mono ?_
    rintro e w' ⟨rfl, rfl⟩
    go_wp2_with fail
    refine (awake_any _).mono ?_
    rintro e w4 ⟨rfl, b4⟩
    go_wp2
    go_ret
    exact ⟨rfl, b4⟩
  · have h2 : z > 1024 := by omega
    clear hz
    go_enter Try.func7, Try.ntmps7
    go_wp2_with fail
    refine (CUT _).out.mono ?_
    rintro e w' ⟨rfl, rfl⟩
    go_wp2_with fail
    refine (A _).out.mono ?_
    rintro e w' ⟨rfl, rfl⟩
    go_wp2_with fail
    refine (awake_any _).mono ?_
    rintro e w4 ⟨rfl, b4⟩
    go_wp2
    go_ret
    exact ⟨rfl, b4⟩
theorem rollAlls_walk (s : List UInt8) (hs : s.length ≤ 140737488351232) (z : Int) (h1 : -9223372036854775808 ≤ z) (h2 : z ≤ 9223372036854775807) (w : World) :
    Calls Try.prog 7 #[.string ⟨s.toArray⟩, .int .i64 z] w fun e w' => e = .returned (.bool true) ∧ Below w.heap.size w w' := by
  have CUT := fun w => Lib.hid (cut_any s 600 w (by decide) hs)
  have ht : (s.take 600).length ≤ 600 := by rw [List.length_take]; omega
  by_cases hz : z < 1 ∨ z > 1024
  · exact alls_arg s _ z w CUT hz
  · obtain ⟨n, hn⟩ : ∃ n : Nat, z = (n : Int) := ⟨z.toNat, by omega⟩
    exact alls_some s _ z n w CUT ht hn (by omega) (by omega)
end Go.Proofs.Ytmpoflnigenilaa
