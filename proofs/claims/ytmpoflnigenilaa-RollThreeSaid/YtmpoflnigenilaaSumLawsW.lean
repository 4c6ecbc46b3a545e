/- Walks of the laws RollSums, RollJoins and RollThree. -/
import Derived.Test.YtmpoflnigenilaaWeak3W
set_option linter.unusedVariables false
namespace Go.Proofs.Ytmpoflnigenilaa
open Go.RowKit

set_option maxRecDepth 100000 in
theorem rollSums_walk (s : List UInt8) (hs : s.length ≤ 140737488351232) (w : World) :
    Calls Try.prog 3 #[.string ⟨s.toArray⟩] w fun e w' => e = .returned (.bool true) ∧ Below w.heap.size w w' := by
  have CUT := Lib.hid (cut_any s 100000 w (by decide) hs)
  have hl : (s.take 100000).length ≤ 1000000 := by rw [List.length_take]; omega
  have S1 := fun w' => Lib.hid (refSum_any (s.take 100000) w' hl)
  have S2 := fun w' => Lib.hid (sum_any (s.take 100000) w' (by omega))
  generalize wk (s.take 100000) = r at *
  generalize s.take 100000 = t at *
  clear hs hl
  go_enter Try.func3, Try.ntmps3
  go_wp2_with fail
  refine CUT.out.mono ?_
  rintro e w' ⟨rfl, rfl⟩
  go_wp2_with fail
  refine (S2 _).out.mono ?_
  rintro e w1 ⟨rfl, hb1⟩
  go_wp2_with fail
  refine (S1 _).out.mono ?_
  rintro e w' ⟨rfl, rfl⟩
  go_wp2_with fail
  refine (awake_any _).mono ?_
  rintro e w2 ⟨rfl, hb2⟩
  go_wp2
  go_ret
  exact ⟨rfl, below2 hb1 hb2⟩

theorem append_text_eq (s t : List UInt8) : (⟨s.toArray⟩ : ByteArray) ++ ⟨t.toArray⟩ = ⟨(s ++ t).toArray⟩ := by
  apply ByteArray.ext
  simp

set_option maxRecDepth 100000 in
theorem rollJoins_walk (s : List UInt8) (hs : s.length ≤ 140737488351232) (t : List UInt8) (ht : t.length ≤ 140737488351232) (w : World) :
    Calls Try.prog 4 #[.string ⟨s.toArray⟩, .string ⟨t.toArray⟩] w fun e w' => e = .returned (.bool true) ∧ Below w.heap.size w w' := by
  have CUT1 := fun w => Lib.hid (cut_any s 5000 w (by decide) hs)
  have CUT2 := fun w => Lib.hid (cut_any t 5000 w (by decide) ht)
  have hl1 : (s.take 5000).length ≤ 5000 := by rw [List.length_take]; omega
  have hl2 : (t.take 5000).length ≤ 5000 := by rw [List.length_take]; omega
  generalize s.take 5000 = a at *
  generalize t.take 5000 = b at *
  have L1 := Lib.hid (show (⟨a.toArray⟩ : ByteArray).size = a.length from rfl)
  have L2 := Lib.hid (show (⟨b.toArray⟩ : ByteArray).size = b.length from rfl)
  have S0 := fun w' => Lib.hid (refSum_any (a ++ b) w' (by rw [List.length_append]; omega))
  have S1 := fun w' => Lib.hid (sum_any a w' (by omega))
  have S2 := fun w' => Lib.hid (sum_any b w' (by omega))
  have J := fun w' => Lib.hid (join_ok (wk a : Nat) (wk b : Nat) (b.length : Nat) (wk a) (wk b) b.length w' rfl rfl rfl (wk_lt a) (wk_lt b) (by omega))
  rw [jn_wk] at J
  have E := append_text_eq a b
  clear hs ht
  go_enter Try.func4, Try.ntmps4
  go_wp2_with fail
  refine (CUT1 _).out.mono ?_
  rintro e w' ⟨rfl, rfl⟩
  go_wp2_with fail
  refine (CUT2 _).out.mono ?_
  rintro e w' ⟨rfl, rfl⟩
  go_wp2_with fail
  refine (S1 _).out.mono ?_
  rintro e w1 ⟨rfl, hb1⟩
  go_wp2_with fail
  refine (S2 _).out.mono ?_
  rintro e w2 ⟨rfl, hb2⟩
  go_wp2_with fail
  refine (J _).out.mono ?_
  rintro e w3 ⟨rfl, hb3⟩
  go_wp2_with fail
  refine (S0 _).out.mono ?_
  rintro e w' ⟨rfl, rfl⟩
  go_wp2_with fail
  refine (awake_any _).mono ?_
  rintro e w4 ⟨rfl, hb4⟩
  go_wp2
  go_ret
  exact ⟨rfl, below2 hb1 (below2 hb2 (below2 hb3 hb4))⟩

set_option maxRecDepth 100000 in
set_option maxHeartbeats 1000000 in
theorem rollThree_wrong (x y z n m : Int) (b : x < 0 ∨ y < 0 ∨ 4294967295 < x ∨ 4294967295 < y ∨ n < 0 ∨ 524288 < n) (w : World) :
    Calls Try.prog 5 #[.int .i64 x, .int .i64 y, .int .i64 z, .int .i64 n, .int .i64 m] w fun e w' => e = .returned (.bool true) ∧ Below w.heap.size w w' := by
  have J := fun w' => Lib.hid (join_bad x y n w' b)
  have AW := fun w' => Lib.hid (awake_any w')
  by_cases h1 : x < 0
  · clear b
    go_enter Try.func5, Try.ntmps5
    go_wp2_with fail
    refine (J _).out.mono ?_
    rintro e w' ⟨rfl, rfl⟩
    go_wp2_with fail
    refine (AW _).out.mono ?_
    rintro e w4 ⟨rfl, hb4⟩
    go_wp2
    go_ret
    exact ⟨rfl, hb4⟩
  by_cases h2 : y < 0
  · clear b
    go_enter Try.func5, Try.ntmps5
    go_wp2_with fail
    refine (J _).out.mono ?_
    rintro e w' ⟨rfl, rfl⟩
    go_wp2_with fail
    refine (AW _).out.mono ?_
    rintro e w4 ⟨rfl, hb4⟩
    go_wp2
    go_ret
    exact ⟨rfl, hb4⟩
  by_cases h3 : x > 4294967295
  · clear b
    go_enter Try.func5, Try.ntmps5
    go_wp2_with fail
    refine (J _).out.mono ?_
    rintro e w' ⟨rfl, rfl⟩
    go_wp2_with fail
    refine (AW _).out.mono ?_
    rintro e w4 ⟨rfl, hb4⟩
    go_wp2
    go_ret
    exact ⟨rfl, hb4⟩
  by_cases h4 : y > 4294967295
  · clear b
    go_enter Try.func5, Try.ntmps5
    go_wp2_with fail
    refine (J _).out.mono ?_
    rintro e w' ⟨rfl, rfl⟩
    go_wp2_with fail
    refine (AW _).out.mono ?_
    rintro e w4 ⟨rfl, hb4⟩
    go_wp2
    go_ret
    exact ⟨rfl, hb4⟩
  by_cases h5 : n < 0
  · clear b
    go_enter Try.func5, Try.ntmps5
    go_wp2_with fail
    refine (J _).out.mono ?_
    rintro e w' ⟨rfl, rfl⟩
    go_wp2_with fail
    refine (AW _).out.mono ?_
    rintro e w4 ⟨rfl, hb4⟩
    go_wp2
    go_ret
    exact ⟨rfl, hb4⟩
  have h6 : n > 524288 := by omega
  clear b
  go_enter Try.func5, Try.ntmps5
  go_wp2_with fail
  refine (J _).out.mono ?_
  rintro e w' ⟨rfl, rfl⟩
  go_wp2_with fail
  refine (AW _).out.mono ?_
  rintro e w4 ⟨rfl, hb4⟩
  go_wp2
  go_ret
  exact ⟨rfl, hb4⟩

set_option maxRecDepth 100000 in
set_option maxHeartbeats 1000000 in
theorem rollThree_right (x y z n m : Int) (X Y N : Nat) (hx : x = (X : Int)) (hy : y = (Y : Int)) (hn : n = (N : Int)) (hX : X < 4294967296) (hY : Y < 4294967296) (hN : N ≤ 524288) (hm : -9223372036854775808 ≤ m ∧ m ≤ 9223372036854775807) (w : World) :
    Calls Try.prog 5 #[.int .i64 x, .int .i64 y, .int .i64 z, .int .i64 n, .int .i64 m] w fun e w' => e = .returned (.bool true) ∧ Below w.heap.size w w' := by
  have J := fun w' => Lib.hid (join_ok x y n X Y N w' hx hy hn hX hY hN)
  have AW := fun w' => Lib.hid (awake_any w')
  have p1 : ¬ x < 0 := by omega
  have p2 : ¬ y < 0 := by omega
  have p3 : ¬ x > 4294967295 := by omega
  have p4 : ¬ y > 4294967295 := by omega
  have p5 : ¬ n < 0 := by omega
  have p6 : ¬ n > 524288 := by omega
  by_cases b : y < 0 ∨ z < 0 ∨ 4294967295 < y ∨ 4294967295 < z ∨ m < 0 ∨ 524288 < m
  · have J2 := fun w' => Lib.hid (join_bad y z m w' b)
    generalize jn X Y N = r at *
    clear b hm hx hy hn
    go_enter Try.func5, Try.ntmps5
    go_wp2_with fail
    refine (J _).out.mono ?_
    rintro e w1 ⟨rfl, hb1⟩
    go_wp2_with fail
    refine (J2 _).out.mono ?_
    rintro e w' ⟨rfl, rfl⟩
    go_wp2_with fail
    refine (AW _).out.mono ?_
    rintro e w4 ⟨rfl, hb4⟩
    go_wp2
    go_ret
    exact ⟨rfl, below2 hb1 hb4⟩
  · obtain ⟨Z, hz⟩ : ∃ Z : Nat, z = (Z : Int) := ⟨z.toNat, by omega⟩
    obtain ⟨M, hM⟩ : ∃ M : Nat, m = (M : Int) := ⟨m.toNat, by omega⟩
    have J2 := fun w' => Lib.hid (join_ok y z m Y Z M w' hy hz hM hY (by omega) (by omega))
    by_cases hg : m > 524288 - n
    · generalize jn X Y N = r at *
      generalize jn Y Z M = r2 at *
      clear b hm hx hy hn hz hM
      go_enter Try.func5, Try.ntmps5
      go_wp2_with fail
      refine (J _).out.mono ?_
      rintro e w1 ⟨rfl, hb1⟩
      go_wp2_with fail
      refine (J2 _).out.mono ?_
      rintro e w2 ⟨rfl, hb2⟩
      go_wp2_with fail
      refine (AW _).out.mono ?_
      rintro e w4 ⟨rfl, hb4⟩
      go_wp2
      go_ret
      exact ⟨rfl, below2 hb1 (below2 hb2 hb4)⟩
    · have J3 := fun w' => Lib.hid (join_ok (jn X Y N : Nat) z m (jn X Y N) Z M w' rfl hz hM (jn_lt _ _ _) (by omega) (by omega))
      have J4 := fun w' => Lib.hid (join_ok x (jn Y Z M : Nat) (n + m) X (jn Y Z M) (N + M) w' hx rfl (by omega) hX (jn_lt _ _ _) (by omega))
      rw [← jn_three] at J4
      generalize jn (jn X Y N) Z M = r3 at *
      generalize jn X Y N = r at *
      generalize jn Y Z M = r2 at *
      have q1 : 0 ≤ m := by omega
      have q2 : n + m ≤ 524288 := by omega
      clear b hm hx hy hn hz hM
      go_enter Try.func5, Try.ntmps5
      go_wp2_with fail
      refine (J _).out.mono ?_
      rintro e w1 ⟨rfl, hb1⟩
      go_wp2_with fail
      refine (J2 _).out.mono ?_
      rintro e w2 ⟨rfl, hb2⟩
      go_wp2_with fail
      refine (J3 _).out.mono ?_
      rintro e w3 ⟨rfl, hb3⟩
      go_wp2_with fail
      refine (J4 _).out.mono ?_
      rintro e w5 ⟨rfl, hb5⟩
      go_wp2_with fail
      refine (AW _).out.mono ?_
      rintro e w4 ⟨rfl, hb4⟩
      go_wp2
      go_ret
      exact ⟨rfl, below2 hb1 (below2 hb2 (below2 hb3 (below2 hb5 hb4)))⟩
theorem rollThree_walk (x : Int) (hx : -9223372036854775808 ≤ x) (gx : x ≤ 9223372036854775807) (y : Int) (hy : -9223372036854775808 ≤ y) (gy : y ≤ 9223372036854775807) (z : Int) (hz : -9223372036854775808 ≤ z) (gz : z ≤ 9223372036854775807)
    (n : Int) (hn : -9223372036854775808 ≤ n) (gn : n ≤ 9223372036854775807) (m : Int) (hm : -9223372036854775808 ≤ m) (gm : m ≤ 9223372036854775807) (w : World) :
    Calls Try.prog 5 #[.int .i64 x, .int .i64 y, .int .i64 z, .int .i64 n, .int .i64 m] w fun e w' => e = .returned (.bool true) ∧ Below w.heap.size w w' := by
  by_cases b : x < 0 ∨ y < 0 ∨ 4294967295 < x ∨ 4294967295 < y ∨ n < 0 ∨ 524288 < n
  · exact rollThree_wrong x y z n m b w
  · exact rollThree_right x y z n m x.toNat y.toNat n.toNat (by omega) (by omega) (by omega) (by omega) (by omega) (by omega) ⟨hm, gm⟩ w
end Go.Proofs.Ytmpoflnigenilaa
