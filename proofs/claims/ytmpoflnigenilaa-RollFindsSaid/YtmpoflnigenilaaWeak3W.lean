/- Walks of Sum and Join, of the document's Sum, and of the law's cut and awake. -/
import Derived.Test.YtmpoflnigenilaaWeak2W
set_option linter.unusedVariables false
namespace Go.Proofs.Ytmpoflnigenilaa
open Go.RowKit

set_option maxRecDepth 100000 in
theorem sum_any (l : List UInt8) (w : World) (hl : l.length ≤ 140737488351232) :
    Calls Try.prog 12 #[.string ⟨l.toArray⟩] w fun e w' => e = .returned (.int .i64 (wk l : Nat)) ∧ Below w.heap.size w w' := by
  have C := Lib.hid (of_any l w hl)
  have N := fun w' => Lib.hid (number_any (lo l) (hi l) w' (lo_lt l) (hi_lt l))
  rw [show lo l + 65536 * hi l = wk l from rfl] at N
  go_enter Try.func12, Try.ntmps12
  go_wp2_with fail
  refine C.out.mono ?_
  rintro e w1 ⟨rfl, b1⟩
  go_wp2_with fail
  refine (N _).out.mono ?_
  rintro e w2 ⟨rfl, b2⟩
  go_wp2
  go_ret
  exact ⟨rfl, below2 b1 b2⟩
theorem wk_ab : wk [97, 98] = 19136707 := by decide +kernel
set_option maxRecDepth 100000 in
theorem awake_any (w : World) : Calls Try.prog 14 #[] w fun e w' => e = .returned (.bool true) ∧ Below w.heap.size w w' := by
  have C := fun w' => Lib.hid (sum_any [97, 98] w' (by decide))
  rw [wk_ab] at C
  go_enter Try.func14, Try.ntmps14
  go_wp2_with fail
  refine (C _).out.mono ?_
  rintro e w' ⟨rfl, hb⟩
  go_wp2
  go_ret
  exact ⟨rfl, hb⟩
set_option maxRecDepth 100000 in
theorem cut_any (s : List UInt8) (n : Nat) (w : World) (hn : n ≤ 1000000) (hl : s.length ≤ 140737488351232) :
    Calls Try.prog 11 #[.string ⟨s.toArray⟩, .int .i64 n] w fun e w' => e = .returned (.string ⟨(s.take n).toArray⟩) ∧ w = w' := by
  have L := Lib.hid (show (⟨s.toArray⟩ : ByteArray).size = s.length from rfl)
  by_cases h : s.length > n
  · have E := take_toArray s n
    go_enter Try.func11, Try.ntmps11
    go_wp2
    go_ret
    exact ⟨rfl, rfl⟩
  · have E : s.take n = s := List.take_of_length_le (by omega)
    go_enter Try.func11, Try.ntmps11
    go_wp2
    go_ret
    exact ⟨by rw [E]; rfl, rfl⟩

/-! ### Join -/
set_option maxRecDepth 100000 in
theorem join_ok (x y n : Int) (X Y N : Nat) (w : World) (hx : x = (X : Int)) (hy : y = (Y : Int)) (hn : n = (N : Int)) (hX : X < 4294967296) (hY : Y < 4294967296) (hN : N ≤ 524288) :
    Calls Try.prog 15 #[.int .i64 x, .int .i64 y, .int .i64 n] w fun e w' => e = .returned (.tuple #[.int .i64 (jn X Y N : Nat), .int .i64 0]) ∧ Below w.heap.size w w' := by
  have I1 := fun w' => Lib.hid (isSum_any x true w' (by rw [hx]; simp; omega))
  have I2 := fun w' => Lib.hid (isSum_any y true w' (by rw [hy]; simp; omega))
  have H1 := fun w' => Lib.hid (halves_any x X w' hx hX)
  have H2 := fun w' => Lib.hid (halves_any y Y w' hy hY)
  have W1 := fun w' => Lib.hid (with_any (X % 65536) (X / 65536) (Y % 65536) (Y / 65536) N n w' hn)
  have N1 := fun w' => Lib.hid (number_any ((X % 65536 + Y % 65536) % 65536) ((X / 65536 + N % 65536 * (X % 65536) % 65536 + Y / 65536) % 65536) w' (Nat.mod_lt _ (by decide)) (Nat.mod_lt _ (by decide)))
  rw [show (X % 65536 + Y % 65536) % 65536 + 65536 * ((X / 65536 + N % 65536 * (X % 65536) % 65536 + Y / 65536) % 65536) = jn X Y N from rfl] at N1
  generalize (X / 65536 + N % 65536 * (X % 65536) % 65536 + Y / 65536) % 65536 = b at *
  generalize (X % 65536 + Y % 65536) % 65536 = a at *
  have b1 : 0 ≤ n := by omega
  have b2 : n ≤ 524288 := by omega
  clear hx hy hn
  go_enter Try.func15, Try.ntmps15
  go_wp2_with fail
  refine (I1 _).out.mono ?_
  rintro e w' ⟨rfl, rfl⟩
  go_wp2_with fail
  refine (I2 _).out.mono ?_
  rintro e w' ⟨rfl, rfl⟩
  go_wp2_with fail
  refine (H1 _).out.mono ?_
  rintro e w1 ⟨rfl, B1⟩
  go_wp2_with fail
  refine (H2 _).out.mono ?_
  rintro e w2 ⟨rfl, B2⟩
  go_wp2_with fail
  refine (W1 _).out.mono ?_
  rintro e w3 ⟨rfl, B3⟩
  go_wp2_with fail
  refine (N1 _).out.mono ?_
  rintro e w4 ⟨rfl, B4⟩
  go_wp2
  go_ret2
  exact ⟨rfl, below2 B1 (below2 B2 (below2 B3 B4))⟩
set_option maxRecDepth 100000 in
theorem join_bad (x y n : Int) (w : World) (h : x < 0 ∨ y < 0 ∨ 4294967295 < x ∨ 4294967295 < y ∨ n < 0 ∨ 524288 < n) :
    Calls Try.prog 15 #[.int .i64 x, .int .i64 y, .int .i64 n] w fun e w' => e = .returned (.tuple #[.int .i64 0, .int .i64 1]) ∧ w = w' := by
  by_cases h1 : x < 0 ∨ 4294967295 < x
  · have I1 := fun w' => Lib.hid (isSum_any x false w' (by simp; omega))
    clear h h1
    go_enter Try.func15, Try.ntmps15
    go_wp2_with fail
    refine (I1 _).out.mono ?_
    rintro e w' ⟨rfl, rfl⟩
    go_wp2
    go_ret2
    exact ⟨rfl, rfl⟩
  · have I1 := fun w' => Lib.hid (isSum_any x true w' (by simp; omega))
    by_cases h2 : y < 0 ∨ 4294967295 < y
    · have I2 := fun w' => Lib.hid (isSum_any y false w' (by simp; omega))
      clear h h1 h2
      go_enter Try.func15, Try.ntmps15
      go_wp2_with fail
      refine (I1 _).out.mono ?_
      rintro e w' ⟨rfl, rfl⟩
      go_wp2_with fail
      refine (I2 _).out.mono ?_
      rintro e w' ⟨rfl, rfl⟩
      go_wp2
      go_ret2
      exact ⟨rfl, rfl⟩
    · have I2 := fun w' => Lib.hid (isSum_any y true w' (by simp; omega))
      by_cases h3 : n < 0
      · clear h h1 h2
        go_enter Try.func15, Try.ntmps15
        go_wp2_with fail
        refine (I1 _).out.mono ?_
        rintro e w' ⟨rfl, rfl⟩
        go_wp2_with fail
        refine (I2 _).out.mono ?_
        rintro e w' ⟨rfl, rfl⟩
        go_wp2
        go_ret2
        exact ⟨rfl, rfl⟩
      · have h4 : 524288 < n := by omega
        clear h h1 h2
        go_enter Try.func15, Try.ntmps15
        go_wp2_with fail
        refine (I1 _).out.mono ?_
        rintro e w' ⟨rfl, rfl⟩
        go_wp2_with fail
        refine (I2 _).out.mono ?_
        rintro e w' ⟨rfl, rfl⟩
        go_wp2
        go_ret2
        exact ⟨rfl, rfl⟩

/-! ### The document's Sum -/
theorem wrap64_small (z : Nat) (h : z < 9223372036854775808) : wrap64 (z : Int) = (z : Int) := by simp only [wrap64]; omega
theorem doc_a (a c : Nat) (ha : a < 65536) (hc : c < 256) : (wrap64 ((a : Int) + wrap64 (c : Int))).tmod 65536 = (((a + c) % 65536 : Nat) : Int) := by
  rw [wrap64_small c (by omega), show (a : Int) + (c : Int) = ((a + c : Nat) : Int) by omega, wrap64_small _ (by omega), Int.tmod_eq_emod_of_nonneg (by omega)]
  omega
theorem doc_b (n k b c : Nat) (hk : k < n) (hb : b < 65536) (hc : c < 256) : (wrap64 ((b : Int) + wrap64 (((n : Int) - (k : Int)) % 65536 * wrap64 (c : Int)))).tmod 65536 = (((b + (n - k) % 65536 * c) % 65536 : Nat) : Int) := by
  rw [wrap64_small c (by omega), show ((n : Int) - (k : Int)) % 65536 = (((n - k) % 65536 : Nat) : Int) by omega, ← Int.natCast_mul]
  have h1 : (n - k) % 65536 < 65536 := Nat.mod_lt _ (by decide)
  have h2 : (n - k) % 65536 * c ≤ 65536 * 256 := Nat.mul_le_mul (by omega) (by omega)
  generalize (n - k) % 65536 * c = z at *
  rw [wrap64_small z (by omega), show (b : Int) + (z : Int) = ((b + z : Nat) : Int) by omega, wrap64_small _ (by omega), Int.tmod_eq_emod_of_nonneg (by omega)]
  omega
set_option maxRecDepth 100000 in
set_option maxHeartbeats 1000000 in
theorem refSum_any (l : List UInt8) (w : World) (hl : l.length ≤ 1000000) :
    Calls Try.prog 13 #[.string ⟨l.toArray⟩] w fun e w' => e = .returned (.int .i64 (wk l : Nat)) ∧ w = w' := by
  have L := Lib.hid (show (⟨l.toArray⟩ : ByteArray).size = l.length from rfl)
  go_enter Try.func13, Try.ntmps13
  go_wp2
  go_loop [3, 4, 5] (fun a b i => ∃ k : Nat, k ≤ l.length ∧ i = .int .i64 k ∧ a = .int .i64 (lo (l.take k) : Nat) ∧ b = .int .i64 (bW l.length (l.take k) % 65536 : Nat)) (fun _ _ i => l.length - (intOf i).toNat)
  case atStart => exact ⟨0, Nat.zero_le _, rfl, rfl, rfl⟩
  case round =>
    obtain ⟨k, hk, rfl, rfl, rfl⟩ := hrel
    have a1 := lo_lt (l.take k)
    have a2 : bW l.length (l.take k) % 65536 < 65536 := Nat.mod_lt _ (by decide)
    by_cases hlt : k < l.length
    · have E1 := Lib.hid (lo_take l k hlt)
      have E2 := Lib.hid (bW_take l l.length k hlt)
      have hc := l[k].toNat_lt
      generalize lo (l.take k) = a at *
      generalize bW l.length (l.take k) % 65536 = b at *
      have D1 := Lib.hid (doc_a a _ a1 hc)
      have D2 := Lib.hid (doc_b l.length k b _ hlt a2 hc)
      go_wp2
      refine ⟨⟨k + 1, by omega, by go_num, ?_, ?_⟩, by simp [intOf]; omega⟩
      · rw [E1.out, ← D1.out]; rfl
      · rw [E2.out, ← D2.out]; rfl
    · have S := Lib.hid (show l.take k = l from List.take_of_length_le (by omega))
      rw [S.out] at a1 a2 ⊢
      rw [bW_self] at a2 ⊢
      have E := Lib.hid (show lo l + 65536 * (bS l % 65536) = wk l from rfl)
      go_wp2
      go_ret
      exact ⟨by rw [← E.out]; rfl, rfl⟩
end Go.Proofs.Ytmpoflnigenilaa
