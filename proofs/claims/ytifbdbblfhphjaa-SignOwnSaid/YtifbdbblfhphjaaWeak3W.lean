/- Walks of Sum and Join, of the document's Sum, and of the law's cut and awake. -/
import Derived.Test.YtifbdbblfhphjaaGen
import Derived.Test.YtifbdbblfhphjaaRollMath
import Derived.Test.YtifbdbblfhphjaaRows
import Derived.Test.YtifbdbblfhphjaaWeak2W
import Derived.BigQuiet
import Derived.Deep.QuietTactic
import Derived.IntWalk
import Derived.Laws.BitsAllLaws
import Derived.Laws.Rows
import Derived.Lib.Hide
import Derived.Outline
import Derived.StillTailTactics
import Derived.WalkKit
import Derived.WalkLawsBesides
import Derived.WalkSpells
set_option linter.unusedVariables false
namespace Go.Proofs.Ytifbdbblfhphjaa
open Go.RowKit

set_option maxRecDepth 100000 in
theorem sum_any (l : List UInt8) (w : World) (hl : l.length ≤ 140737488351232) :
    Calls Try.prog 42 #[.string ⟨l.toArray⟩] w fun e w' => e = .returned (.int .i64 (wk l : Nat)) ∧ Below w.heap.size w w' := by
  have C := Lib.hid (wof_any l w hl)
  have N := fun w' => Lib.hid (wnum_any (lo l) (hi l) w' (lo_lt l) (hi_lt l))
  rw [show lo l + 65536 * hi l = wk l from rfl] at N
  go_enter Try.func42, Try.ntmps42
  go_wp2_with fail
  refine C.out.mono ?_
  rintro e w1 ⟨rfl, b1⟩
  go_wp2_with fail
  refine (N _).out.mono ?_
  rintro e w2 ⟨rfl, b2⟩
  go_wp2
  go_ret
  exact ⟨rfl, below2 b1 b2⟩
theorem wk_ab : wk [97, 98] = 19136707 := by decide +kernel

/-! ### Join -/

/-! ### The document's Sum -/
theorem wrap64_lt (z : Nat) (h : z < 9223372036854775808) : wrap64 (z : Int) = (z : Int) := by simp only [wrap64]; omega
theorem doc_a (a c : Nat) (ha : a < 65536) (hc : c < 256) : (wrap64 ((a : Int) + wrap64 (c : Int))).tmod 65536 = (((a + c) % 65536 : Nat) : Int) := by
  rw [wrap64_lt c (by omega), show (a : Int) + (c : Int) = ((a + c : Nat) : Int) by omega, wrap64_lt _ (by omega), Int.tmod_eq_emod_of_nonneg (by omega)]
  omega
theorem doc_b (n k b c : Nat) (hk : k < n) (hb : b < 65536) (hc : c < 256) : (wrap64 ((b : Int) + wrap64 (((n : Int) - (k : Int)) % 65536 * wrap64 (c : Int)))).tmod 65536 = (((b + (n - k) % 65536 * c) % 65536 : Nat) : Int) := by
  rw [wrap64_lt c (by omega), show ((n : Int) - (k : Int)) % 65536 = (((n - k) % 65536 : Nat) : Int) by omega, ← Int.natCast_mul]
  have h1 : (n - k) % 65536 < 65536 := Nat.mod_lt _ (by decide)
  have h2 : (n - k) % 65536 * c ≤ 65536 * 256 := Nat.mul_le_mul (by omega) (by omega)
  generalize (n - k) % 65536 * c = z at *
  rw [wrap64_lt z (by omega), show (b : Int) + (z : Int) = ((b + z : Nat) : Int) by omega, wrap64_lt _ (by omega), Int.tmod_eq_emod_of_nonneg (by omega)]
  omega
set_option maxRecDepth 100000 in
set_option maxHeartbeats 1000000 in
theorem wrefSum_any (l : List UInt8) (w : World) (hl : l.length ≤ 1000000) :
    Calls Try.prog 38 #[.string ⟨l.toArray⟩] w fun e w' => e = .returned (.int .i64 (wk l : Nat)) ∧ w = w' := by
  have L := Lib.hid (show (⟨l.toArray⟩ : ByteArray).size = l.length from rfl)
  go_enter Try.func38, Try.ntmps38
  go_wp2
  go_loop [3, 4, 5] (fun a b i => ∃ k : Nat, k ≤ l.length ∧ i = .int .i64 k ∧ a = .int .i64 (lo (l.take k) : Nat) ∧ b = .int .i64 (bW l.length (l.take k) % 65536 : Nat)) (fun _ _ i => l.length - (intOf i).toNat)
  case atStart => exact ⟨0, Nat.zero_le _, rfl, rfl, rfl⟩
  case round =>
    obtain ⟨k, hk, rfl, rfl, rfl⟩ := hrel
    have a1 := lo_lt (l.take k)
    have a2 : bW l.length (l.take k) % 65536 < 65536 := Nat.mod_lt _ (by decide)
    by_cases hlt : k < l.length
    · have E1 := Lib.hid (lo_take l k hlt)
      have E2 := Lib.hid (bW_take l l.length k hlt)
      have hc := l[k].toNat_lt
      generalize lo (l.take k) = a at *
      generalize bW l.length (l.take k) % 65536 = b at *
      have D1 := Lib.hid (doc_a a _ a1 hc)
      have D2 := Lib.hid (doc_b l.length k b _ hlt a2 hc)
      go_wp2
      refine ⟨⟨k + 1, by omega, by go_num, ?_, ?_⟩, by simp [intOf]; omega⟩
      · rw [E1.out, ← D1.out]; rfl
      · rw [E2.out, ← D2.out]; rfl
    · have S := Lib.hid (show l.take k = l from List.take_of_length_le (by omega))
      rw [S.out] at a1 a2 ⊢
      rw [bW_self] at a2 ⊢
      have E := Lib.hid (show lo l + 65536 * (bS l % 65536) = wk l from rfl)
      go_wp2
      go_ret
      exact ⟨by rw [← E.out]; rfl, rfl⟩
end Go.Proofs.Ytifbdbblfhphjaa
