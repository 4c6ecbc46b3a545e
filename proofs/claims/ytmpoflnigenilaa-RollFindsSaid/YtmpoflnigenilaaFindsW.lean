/- The walk of the law RollFinds. -/
import Derived.Test.YtmpoflnigenilaaFindRW
set_option linter.unusedVariables false
namespace Go.Proofs.Ytmpoflnigenilaa
open Go.RowKit

theorem find_any (l m : List UInt8) (w : World) (hn : 1 ≤ m.length) (hn2 : m.length ≤ 1024) (hl : l.length ≤ 10000) :
    Calls Try.prog 24 #[.string ⟨l.toArray⟩, .string ⟨m.toArray⟩] w fun e w' => ∃ v, e = .returned (.tuple #[v, .int .i64 0]) ∧ OwnL encN w' w.heap.size 3 v (findS l m) ∧ Below w.heap.size w w' := by
  by_cases h : m.length ≤ l.length
  · exact find_ok l m w hn hn2 h hl
  · refine (find_short l m w hn hn2 (by omega)).mono ?_
    rintro e w' ⟨rfl, hb⟩
    refine ⟨_, rfl, ?_, hb⟩
    have e : findS l m = [] := by unfold findS; rw [show l.length + 1 - m.length = 0 by omega]; rfl
    rw [e]
    exact OwnL.nil _ _ _ _
theorem findS_length (l m : List UInt8) : (findS l m).length ≤ l.length + 1 - m.length := findK_length l m _

set_option maxRecDepth 100000 in
set_option maxHeartbeats 1000000 in
theorem finds_some (s t m : List UInt8) (w : World) (CUT : ∀ w', Hid (Calls Try.prog 11 #[.string ⟨s.toArray⟩, .int .i64 3000] w' fun e w'' => e = .returned (.string ⟨t.toArray⟩) ∧ w' = w'')) (ht : t.length ≤ 3000)
    (h1 : 1 ≤ m.length) (h2 : m.length ≤ 1024) :
    Calls Try.prog 8 #[.string ⟨s.toArray⟩, .string ⟨m.toArray⟩] w fun e w' => e = .returned (.bool true) ∧ Below w.heap.size w w' := by
  have A := fun w' => Lib.hid (find_any t m w' h1 h2 (by omega))
  have R := fun w' => Lib.hid (refFind_any t m w' h1 h2 (by omega))
  have LL := Lib.hid (findS_length t m)
  have L2 := Lib.hid (show (⟨m.toArray⟩ : ByteArray).size = m.length from rfl)
  have z1 : ¬ (m.length : Int) > 1024 := by omega
  have z2 : (m == []) = false := by cases m with
    | nil => simp at h1
    | cons c m => rfl
  generalize findS t m = xs at *
  go_enter Try.func8, Try.ntmps8
  go_wp2_with fail
  refine (CUT _).out.mono ?_
  rintro e w' ⟨rfl, rfl⟩
  go_wp2_with fail
  refine (A _).out.mono ?_
  rintro e w1 ⟨v1, rfl, o1, b1⟩
  have O1 := Lib.hid o1; clear o1
  go_wp2_with fail
  refine (R _).out.mono ?_
  rintro e w2 ⟨v2, rfl, o2, b2⟩
  have O1' := Lib.hid (O1.out.kept (Kept.new b2 (fun _ => False)) (fun _ _ h => h))
  have S := Lib.hid (ints_same xs v1 v2 _ _ w2 O1'.out.row o2.row (by have := LL.out; omega))
  clear O1 O1' o2
  go_wp2_with fail
  refine S.out.mono ?_
  rintro e w3 ⟨rfl, b3⟩
  go_wp2_with fail
  refine (awake_any _).mono ?_
  rintro e w4 ⟨rfl, b4⟩
  go_wp2
  go_ret
  exact ⟨rfl, below2 b1 (below2 b2 (below2 b3 b4))⟩

set_option maxRecDepth 100000 in
set_option maxHeartbeats 1000000 in
theorem finds_none (s t : List UInt8) (w : World) (CUT : ∀ w', Hid (Calls Try.prog 11 #[.string ⟨s.toArray⟩, .int .i64 3000] w' fun e w'' => e = .returned (.string ⟨t.toArray⟩) ∧ w' = w'')) :
    Calls Try.prog 8 #[.string ⟨s.toArray⟩, .string ⟨([] : List UInt8).toArray⟩] w fun e w' => e = .returned (.bool true) ∧ Below w.heap.size w w' := by
  have A := fun w' => Lib.hid (find_arg t [] w' (by decide))
  go_enter Try.func8, Try.ntmps8
  go_wp2_with fail
  refine (CUT _).out.mono ?_
  rintro e w' ⟨rfl, rfl⟩
  go_wp2_with fail
  refine (A _).out.mono ?_
  rintro e w' ⟨rfl, rfl⟩
  go_wp2_with fail
  refine (awake_any _).mono ?_
  rintro e w4 ⟨rfl, b4⟩
  go_wp2
  go_ret
  exact ⟨rfl, b4⟩
set_option maxRecDepth 100000 in
set_option maxHeartbeats 1000000 in
theorem finds_long (s t m : List UInt8) (w : World) (CUT : ∀ w', Hid (Calls Try.prog 11 #[.string ⟨s.toArray⟩, .int .i64 3000] w' fun e w'' => e = .returned (.string ⟨t.toArray⟩) ∧ w' = w'')) (hm : 1024 < m.length) :
    Calls Try.prog 8 #[.string ⟨s.toArray⟩, .string ⟨m.toArray⟩] w fun e w' => e = .returned (.bool true) ∧ Below w.heap.size w w' := by
  have A := fun w' => Lib.hid (find_arg t m w' (by omega))
  have L2 := Lib.hid (show (⟨m.toArray⟩ : ByteArray).size = m.length from rfl)
  have z1 : (m.length : Int) > 1024 := by omega
  have z2 : (m == []) = false := by cases m with
    | nil => simp at hm
    | cons c m => rfl
  go_enter Try.func8, Try.ntmps8
  go_wp2_with fail
  refine (CUT _).out.mono ?_
  rintro e w' ⟨rfl, rfl⟩
  go_wp2_with fail
  refine (A _).out.mono ?_
  rintro e w' ⟨rfl, rfl⟩
  go_wp2_with fail
  refine (awake_any _).mono ?_
  rintro e w4 ⟨rfl, b4⟩
  go_wp2
  go_ret
  exact ⟨rfl, b4⟩
theorem rollFinds_walk (s : List UInt8) (hs : s.length ≤ 140737488351232) (m : List UInt8) (hm : m.length ≤ 140737488351232) (w : World) :
    Calls Try.prog 8 #[.string ⟨s.toArray⟩, .string ⟨m.toArray⟩] w fun e w' => e = .returned (.bool true) ∧ Below w.heap.size w w' := by
  have CUT := fun w => Lib.hid (cut_any s 3000 w (by decide) hs)
  have ht : (s.take 3000).length ≤ 3000 := by rw [List.length_take]; omega
  by_cases h0 : m.length < 1
  · have : m = [] := List.eq_nil_of_length_eq_zero (by omega)
    subst this
    exact finds_none s _ w CUT
  · by_cases h1 : 1024 < m.length
    · exact finds_long s _ m w CUT h1
    · exact finds_some s _ m w CUT ht (by omega) (by omega)
end Go.Proofs.Ytmpoflnigenilaa
