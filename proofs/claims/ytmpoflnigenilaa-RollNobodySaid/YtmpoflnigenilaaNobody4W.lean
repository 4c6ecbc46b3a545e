/- The walk of the law RollNobody. -/
import Derived.Test.YtmpoflnigenilaaGo2W
set_option linter.unusedVariables false
namespace Go.Proofs.Ytmpoflnigenilaa
open Go.RowKit

set_option maxRecDepth 100000 in
theorem at_nil (w : World) : Calls Try.prog 19 #[.pointer none] w fun e w' => e = .returned (.int .i64 (-1)) ∧ w = w' := by
  have R := fun w' => Lib.hid (ready_nil w')
  go_enter Try.func19, Try.ntmps19
  go_wp2_with fail
  refine (R _).out.mono ?_
  rintro e w' ⟨rfl, rfl⟩
  go_wp2
  go_ret
  exact ⟨rfl, rfl⟩
set_option maxRecDepth 100000 in
theorem at_zero (p k a b : Nat) (l : List UInt8) (w : World) (h : RollAt w p l 0 k a b) : Calls Try.prog 19 #[rollP p] w fun e w' => e = .returned (.int .i64 (-1)) ∧ w = w' := by
  have R := Lib.hid (ready_zero p k a b l w h)
  clear h
  go_enter Try.func19, Try.ntmps19
  go_wp2_with fail
  refine R.out.mono ?_
  rintro e w' ⟨rfl, rfl⟩
  go_wp2
  go_ret
  exact ⟨rfl, rfl⟩
set_option maxRecDepth 100000 in
theorem sumR_nil (w : World) : Calls Try.prog 20 #[.pointer none] w fun e w' => e = .returned (.int .i64 0) ∧ w = w' := by
  have R := fun w' => Lib.hid (ready_nil w')
  go_enter Try.func20, Try.ntmps20
  go_wp2_with fail
  refine (R _).out.mono ?_
  rintro e w' ⟨rfl, rfl⟩
  go_wp2
  go_ret
  exact ⟨rfl, rfl⟩
set_option maxRecDepth 100000 in
theorem sumR_zero (p k a b : Nat) (l : List UInt8) (w : World) (h : RollAt w p l 0 k a b) : Calls Try.prog 20 #[rollP p] w fun e w' => e = .returned (.int .i64 0) ∧ w = w' := by
  have R := Lib.hid (ready_zero p k a b l w h)
  clear h
  go_enter Try.func20, Try.ntmps20
  go_wp2_with fail
  refine R.out.mono ?_
  rintro e w' ⟨rfl, rfl⟩
  go_wp2
  go_ret
  exact ⟨rfl, rfl⟩
set_option maxRecDepth 100000 in
theorem next_nil (w : World) : Calls Try.prog 17 #[.pointer none] w fun e w' => e = .returned (.bool false) ∧ w = w' := by
  have R := fun w' => Lib.hid (ready_nil w')
  go_enter Try.func17, Try.ntmps17
  go_wp2_with fail
  refine (R _).out.mono ?_
  rintro e w' ⟨rfl, rfl⟩
  go_wp2
  go_ret
  exact ⟨rfl, rfl⟩
set_option maxRecDepth 100000 in
theorem next_zero (p k a b : Nat) (l : List UInt8) (w : World) (h : RollAt w p l 0 k a b) : Calls Try.prog 17 #[rollP p] w fun e w' => e = .returned (.bool false) ∧ w = w' := by
  have R := Lib.hid (ready_zero p k a b l w h)
  clear h
  go_enter Try.func17, Try.ntmps17
  go_wp2_with fail
  refine R.out.mono ?_
  rintro e w' ⟨rfl, rfl⟩
  go_wp2
  go_ret
  exact ⟨rfl, rfl⟩
set_option maxRecDepth 100000 in
theorem skip_nil (z : Int) (w : World) : Calls Try.prog 18 #[.pointer none, .int .i64 z] w fun e w' => e = .returned (.bool false) ∧ w = w' := by
  have R := fun w' => Lib.hid (ready_nil w')
  go_enter Try.func18, Try.ntmps18
  go_wp2_with fail
  refine (R _).out.mono ?_
  rintro e w' ⟨rfl, rfl⟩
  go_wp2
  go_ret
  exact ⟨rfl, rfl⟩
set_option maxRecDepth 100000 in
theorem skip_zero (p k a b : Nat) (l : List UInt8) (z : Int) (w : World) (h : RollAt w p l 0 k a b) : Calls Try.prog 18 #[rollP p, .int .i64 z] w fun e w' => e = .returned (.bool false) ∧ w = w' := by
  have R := Lib.hid (ready_zero p k a b l w h)
  clear h
  go_enter Try.func18, Try.ntmps18
  go_wp2_with fail
  refine R.out.mono ?_
  rintro e w' ⟨rfl, rfl⟩
  go_wp2
  go_ret
  exact ⟨rfl, rfl⟩

set_option maxRecDepth 100000 in
set_option maxHeartbeats 1000000 in
theorem rollNobody_walk (n : Int) (h1 : -9223372036854775808 ≤ n) (h2 : n ≤ 9223372036854775807) (w : World) :
    Calls Try.prog 10 #[.int .i64 n] w fun e w' => e = .returned (.bool true) ∧ Below w.heap.size w w' := by
  obtain ⟨w0, hw0⟩ : ∃ w0, w0 = w.alloc (.cells #[.string ⟨#[]⟩, .int .i64 0, .int .i64 0, .int .u16 0, .int .u16 0] 49) := ⟨_, rfl⟩
  have H : Hid (RollAt w0 w.heap.size [] 0 0 0 0) := Lib.hid (by rw [hw0]; exact heap_alloc_new _ _)
  have B : Hid (Below w.heap.size w w0) := Lib.hid (by rw [hw0]; exact (Below.refl _ _).alloc (Nat.le_refl _) _)
  have HW := Lib.hid hw0; clear hw0
  have A0 := fun w' => Lib.hid (at_nil w')
  have A1 := Lib.hid (at_zero _ _ _ _ _ w0 H.out)
  have S0 := fun w' => Lib.hid (sumR_nil w')
  have S1 := Lib.hid (sumR_zero _ _ _ _ _ w0 H.out)
  have N0 := fun w' => Lib.hid (next_nil w')
  have N1 := Lib.hid (next_zero _ _ _ _ _ w0 H.out)
  have K0 := fun w' => Lib.hid (skip_nil n w')
  have K1 := Lib.hid (skip_zero _ _ _ _ _ n w0 H.out)
  clear h1 h2 H
  go_enter Try.func10, Try.ntmps10
  go_wp2_with fail
  refine (A0 _).out.mono ?_
  rintro e w' ⟨rfl, rfl⟩
  rw [← HW.out]
  go_wp2_with fail
  refine A1.out.mono ?_
  rintro e w' ⟨rfl, hw'⟩
  obtain rfl := hw'
  go_wp2_with fail
  refine (S0 _).out.mono ?_
  rintro e w' ⟨rfl, hw'⟩
  obtain rfl := hw'
  go_wp2_with fail
  refine S1.out.mono ?_
  rintro e w' ⟨rfl, hw'⟩
  obtain rfl := hw'
  go_wp2_with fail
  refine (N0 _).out.mono ?_
  rintro e w' ⟨rfl, hw'⟩
  obtain rfl := hw'
  go_wp2_with fail
  refine N1.out.mono ?_
  rintro e w' ⟨rfl, hw'⟩
  obtain rfl := hw'
  go_wp2_with fail
  refine (K0 _).out.mono ?_
  rintro e w' ⟨rfl, hw'⟩
  obtain rfl := hw'
  go_wp2_with fail
  refine K1.out.mono ?_
  rintro e w' ⟨rfl, hw'⟩
  obtain rfl := hw'
  go_wp2_with fail
  refine (awake_any _).mono ?_
  rintro e w2 ⟨rfl, hb2⟩
  go_wp2
  go_ret
  exact ⟨rfl, B.out.trans (hb2.mono B.out.size)⟩
end Go.Proofs.Ytmpoflnigenilaa
