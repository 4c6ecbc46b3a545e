/- Numbers with a sign: made and read. -/
import Derived.Test.YtegdabdnbglhaaaAwake
import Derived.Test.YtegdabdnbglhaaaRoundTrip
import Derived.WalkKit
import Derived.WalkSpells
import Derived.WalkLawsBesides
import Derived.BigQuiet
set_option linter.unusedVariables false
namespace Go.Proofs.Ytegdabdnbglhaaa
open Go.RowKit

theorem signed_no (n : Int) (w : World) (h : n < -2305843009213693952 ∨ 2305843009213693951 < n) :
    Calls Try.prog 14 #[.int .i64 n] w fun e w' => e = .returned (.tuple #[.string ⟨#[]⟩, .int .i64 2]) ∧ w' = w := by
  rcases h with h | h
  · go_enter Try.func14, Try.ntmps14
    go_wp2
    go_ret2
    exact ⟨rfl, rfl⟩
  · have h' : ¬ n < -2305843009213693952 := by omega
    go_enter Try.func14, Try.ntmps14
    go_wp2
    go_ret2
    exact ⟨rfl, rfl⟩

theorem refSigned_no (n : Int) (w : World) (h : n < -2305843009213693952 ∨ 2305843009213693951 < n) :
    Calls Try.prog 15 #[.int .i64 n] w fun e w' => e = .returned (.tuple #[.string ⟨#[]⟩, .int .i64 2]) ∧ w' = w := by
  rcases h with h | h
  · go_enter Try.func15, Try.ntmps15
    go_wp2
    go_ret2
    exact ⟨rfl, rfl⟩
  · have h' : ¬ n < -2305843009213693952 := by omega
    go_enter Try.func15, Try.ntmps15
    go_wp2
    go_ret2
    exact ⟨rfl, rfl⟩

theorem signed_neg (n : Int) (m : Nat) (w : World) (h : -2305843009213693952 ≤ n) (h1 : n < 0) (hm : -2 * n - 1 = m) :
    Calls Try.prog 14 #[.int .i64 n] w fun e w' => e = .returned (.tuple #[.string ⟨(nb m).toArray⟩, .int .i64 0]) ∧ Below w.heap.size w w' := by
  have Hm := Lib.hid hm
  have Hn := Lib.hid (num_ok m w (by omega))
  clear hm
  go_enter Try.func14, Try.ntmps14
  go_wp2_with fail
  rw [Hm.out]
  refine Hn.out.mono ?_
  rintro e w1 ⟨rfl, hb⟩
  go_wp2
  go_ret2
  exact ⟨rfl, hb⟩

theorem signed_pos (n : Nat) (w : World) (h : n ≤ 2305843009213693951) :
    Calls Try.prog 14 #[.int .i64 n] w fun e w' => e = .returned (.tuple #[.string ⟨(nb (2 * n)).toArray⟩, .int .i64 0]) ∧ Below w.heap.size w w' := by
  have Hn := Lib.hid (num_ok (2 * n) w (by omega))
  go_enter Try.func14, Try.ntmps14
  go_wp2_with fail
  rw [show (2 * (n : Int)) = ((2 * n : Nat) : Int) from by omega]
  refine Hn.out.mono ?_
  rintro e w1 ⟨rfl, hb⟩
  go_wp2
  go_ret2
  exact ⟨rfl, hb⟩

theorem refSigned_neg (n : Int) (m : Nat) (w : World) (h : -2305843009213693952 ≤ n) (h1 : n < 0) (hm : -2 * n - 1 = m) :
    Calls Try.prog 15 #[.int .i64 n] w fun e w' => e = .returned (.tuple #[.string ⟨(nb m).toArray⟩, .int .i64 0]) ∧ Below w.heap.size w w' := by
  have Hm := Lib.hid hm
  have Hn := Lib.hid (refNum_ok m w (by omega))
  clear hm
  go_enter Try.func15, Try.ntmps15
  go_wp2_with fail
  rw [show (-(2 * n) - 1) = (m : Int) from by rw [← Hm.out]; omega]
  refine Hn.out.mono ?_
  rintro e w1 ⟨rfl, hb⟩
  go_wp2
  go_ret2
  exact ⟨rfl, hb⟩

theorem refSigned_pos (n : Nat) (w : World) (h : n ≤ 2305843009213693951) :
    Calls Try.prog 15 #[.int .i64 n] w fun e w' => e = .returned (.tuple #[.string ⟨(nb (2 * n)).toArray⟩, .int .i64 0]) ∧ Below w.heap.size w w' := by
  have Hn := Lib.hid (refNum_ok (2 * n) w (by omega))
  go_enter Try.func15, Try.ntmps15
  go_wp2_with fail
  rw [show (2 * (n : Int)) = ((2 * n : Nat) : Int) from by omega]
  refine Hn.out.mono ?_
  rintro e w1 ⟨rfl, hb⟩
  go_wp2
  go_ret2
  exact ⟨rfl, hb⟩

/-- The number with a sign that a number stands for. -/
def unsg (m : Int) : Int := if m % 2 = 1 then -(m / 2) - 1 else m / 2
theorem rsigned_any (w : World) (g : Nat) (s : RS) (h : Rd w g s) (hok : s.ok) (m : Nat) (hm : (rNum s).1 = m) (hm2 : m ≤ 4611686018427387903) :
    Calls Try.prog 17 #[ptr g] w (Does w g (.int .i64 (unsg m)) (rNum s).2) := by
  have Hn := Lib.hid (rnum_any w g s h hok)
  rw [hm] at Hn
  clear hm
  by_cases hp : m % 2 = 1
  · have Hs := Lib.hid (show unsg m = -((m : Int) / 2) - 1 by unfold unsg; rw [if_pos (by omega)])
    have hb : ((m : Int) % 2 == 1) = true := by simp; omega
    clear hp
    go_enter Try.func17, Try.ntmps17
    go_wp2_with fail
    refine Hn.out.mono ?_
    rintro e w1 ⟨rfl, hr1, hk1⟩
    go_wp2
    go_ret
    rw [Hs.out]
    exact ⟨rfl, hr1, hk1⟩
  · have Hs := Lib.hid (show unsg m = (m : Int) / 2 by unfold unsg; rw [if_neg (by omega)])
    have hb : ((m : Int) % 2 == 1) = false := by simp; omega
    clear hp
    go_enter Try.func17, Try.ntmps17
    go_wp2_with fail
    refine Hn.out.mono ?_
    rintro e w1 ⟨rfl, hr1, hk1⟩
    go_wp2
    go_ret
    rw [Hs.out]
    exact ⟨rfl, hr1, hk1⟩

theorem signed_ok (n : Int) (h0 : -2305843009213693952 ≤ n) (h1 : n ≤ 2305843009213693951) : ∃ m : Nat, m ≤ 4611686018427387903 ∧ unsg m = n ∧
    (∀ w, Calls Try.prog 14 #[.int .i64 n] w fun e w' => e = .returned (.tuple #[.string ⟨(nb m).toArray⟩, .int .i64 0]) ∧ Below w.heap.size w w') ∧
    (∀ w, Calls Try.prog 15 #[.int .i64 n] w fun e w' => e = .returned (.tuple #[.string ⟨(nb m).toArray⟩, .int .i64 0]) ∧ Below w.heap.size w w') := by
  by_cases hn : n < 0
  · obtain ⟨m, hm⟩ := Int.eq_ofNat_of_zero_le (show 0 ≤ -2 * n - 1 by omega)
    exact ⟨m, by omega, by unfold unsg; rw [if_pos (by omega)]; omega, fun w => signed_neg n m w h0 hn hm, fun w => refSigned_neg n m w h0 hn hm⟩
  · obtain ⟨k, rfl⟩ := Int.eq_ofNat_of_zero_le (show 0 ≤ n by omega)
    exact ⟨2 * k, by omega, by unfold unsg; rw [if_neg (by omega)]; omega, fun w => signed_pos k w (by omega), fun w => refSigned_pos k w (by omega)⟩

theorem int_self (n : Int) : (n == n) = true := by simp

set_option maxHeartbeats 400000 in
theorem codeSigns_walk (n : Int) (_ : -9223372036854775808 ≤ n) (_ : n ≤ 9223372036854775807) (w : World) :
    Calls Try.prog 4 #[.int .i64 n] w fun e w' => e = .returned (.bool true) ∧ Below w.heap.size w w' := by
  by_cases h : n < -2305843009213693952 ∨ 2305843009213693951 < n
  · have H1 := fun w => Lib.hid (signed_no n w h)
    have H2 := fun w => Lib.hid (refSigned_no n w h)
    clear h
    go_enter Try.func4, Try.ntmps4
    go_wp2_with fail
    refine (H1 _).out.mono ?_
    rintro e w1 ⟨rfl, rfl⟩
    go_wp2_with fail
    refine (H2 _).out.mono ?_
    rintro e w1 ⟨rfl, rfl⟩
    go_wp2_with fail
    refine (read_any [] _).mono ?_
    rintro e w2 ⟨rfl, hr, hb⟩
    go_wp2_with fail
    refine (awake_any _).mono ?_
    rintro e w3 ⟨rfl, hb3⟩
    go_wp2
    go_ret
    exact ⟨rfl, below2 hb hb3⟩
  · obtain ⟨m, hm, hun, H1, H2⟩ := signed_ok n (by omega) (by omega)
    have K1 := fun w => Lib.hid (H1 w)
    have K2 := fun w => Lib.hid (H2 w)
    have hrd := rNum_nb m [] hm
    rw [List.append_nil] at hrd
    have Hrd := Lib.hid hrd
    have Hun := Lib.hid hun
    clear h H1 H2 hrd hun
    have hself := int_self n
    generalize hbs : nb m = bs at K1 K2 Hrd
    clear hbs
    go_enter Try.func4, Try.ntmps4
    go_wp2_with fail
    refine (K1 _).out.mono ?_
    rintro e w1 ⟨rfl, hb1⟩
    go_wp2_with fail
    refine (K2 _).out.mono ?_
    rintro e w2 ⟨rfl, hb2⟩
    go_wp2_with fail
    refine (read_any bs _).mono ?_
    rintro e w3 ⟨rfl, hr, hb3⟩
    have Hs := Lib.hid (rsigned_any _ _ _ hr (.inl rfl) m (by rw [Hrd.out]) hm)
    rw [Hrd.out, Hun.out] at Hs
    go_wp2_with fail
    refine Hs.out.mono ?_
    rintro e w4 ⟨rfl, hr4, hk4⟩
    have He := Lib.hid (end_any _ _ _ hr4)
    go_wp2_with fail
    refine He.out.mono ?_
    rintro e w5 ⟨rfl, hr5, hk5⟩
    go_wp2_with fail
    refine (awake_any _).mono ?_
    rintro e w6 ⟨rfl, hb6⟩
    go_wp2
    go_ret
    refine ⟨rfl, below2 (below2 (below2 hb1 hb2) hb3 |>.trans ((hk4.trans hk5).below ?_ ?_)) hb6⟩
    · exact (below2 (below2 hb1 hb2) hb3).size
    · rintro k rfl; exact (below2 hb1 hb2).size
end Go.Proofs.Ytegdabdnbglhaaa
