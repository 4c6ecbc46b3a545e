/- Walks of package frame's sums. -/
import Derived.Test.YtjgoceebjmnjcaaDoorRows
import Derived.Test.YtjgoceebjmnjcaaDoorCrc
import Derived.Test.YtjgoceebjmnjcaaDoorBitLaw
import Derived.WalkKit
import Derived.WalkSpells
import Derived.Lib.Hide
import Derived.WalkLawsBesides
import Derived.Outline
set_option linter.unusedVariables false
namespace Go.Proofs.YtjgoceebjmnjcaaDoor
open Go.RowKit

/-- The table of package frame, as it was laid. -/
def Tab (w : World) : Prop := 0 < w.heap.size ∧ ∀ i, i < 16 → w.cell? ⟨0, i, none⟩ = some (.int .u32 (halfL.getD i 0 : Nat))

set_option maxHeartbeats 400000 in
theorem takeIn_any (r c : Nat) (w : World) (hr : r < 4294967296) (hc : c < 256) (ht : Tab w) :
    Calls Tryd.prog 26 #[.int .u32 r, .int .u8 c] w fun e w' => e = .returned (.int .u32 (takeB r c : Nat)) ∧ w = w' := by
  have hx := Nat.xor_lt_two_pow (n := 32) (x := r) (y := c) (by omega) (by omega)
  have e1 := u32_xor_nat r c hr (by omega)
  have t1 := takeB_halves r c
  have f1 := four_steps (r ^^^ c)
  generalize hxd : r ^^^ c = x at hx e1 t1 f1
  have c1 := ht.2 (x % 16) (by omega)
  have b1 := half_lt (x % 16) (by omega)
  have a1 := u32_low4 x (by omega)
  have e2 := u32_xor_nat (x / 16) (halfL.getD (x % 16) 0) (by omega) b1
  have hy := Nat.xor_lt_two_pow (n := 32) (x := x / 16) (y := halfL.getD (x % 16) 0) (by omega) (by omega)
  rw [f1] at t1
  generalize hyd : x / 16 ^^^ halfL.getD (x % 16) 0 = y at hy e2 t1
  generalize halfL.getD (x % 16) 0 = z1 at *
  have c2 := ht.2 (y % 16) (by omega)
  have b2 := half_lt (y % 16) (by omega)
  have a2 := u32_low4 y (by omega)
  have e3 := u32_xor_nat (y / 16) (halfL.getD (y % 16) 0) (by omega) b2
  rw [← t1] at e3
  generalize halfL.getD (y % 16) 0 = z2 at *
  generalize hu : x % 16 = u at *
  generalize hv : y % 16 = v at *
  have hu' : u < 16 := by omega
  have hv' : v < 16 := by omega
  rw [show ((x / 16 : Nat) : Int) = (x : Int) / 16 from by omega] at e2
  rw [show ((y / 16 : Nat) : Int) = (y : Int) / 16 from by omega] at e3
  have T := Lib.hid ht
  clear ht hxd hyd f1 t1 hu hv
  go_enter Tryd.func26, Tryd.ntmps26
  go_wp2
  go_ret
  exact ⟨rfl, rfl⟩

theorem Tab.below {w w' : World} (h : Tab w) (hb : Below w.heap.size w w') : Tab w' :=
  ⟨Nat.lt_of_lt_of_le h.1 hb.size, fun i hi => by rw [hb.cell (p := ⟨0, i, none⟩) h.1]; exact h.2 i hi⟩

theorem Tab.drewN {w : World} (h : Tab w) (n : Nat) : Tab (w.drewN n) := h

theorem take_snoc8 (l : List UInt8) (k : Nat) (h : k < l.length) : l.take (k + 1) = l.take k ++ [l[k]] := List.take_succ_eq_append_getElem h

set_option maxRecDepth 100000 in
set_option maxHeartbeats 400000 in
theorem add_any (sum : Int) (s : Nat) (l : List UInt8) (w : World) (hs : sum % 4294967296 = (s : Int)) (hs2 : s < 4294967296) (hl : l.length ≤ 140737488351232) (ht : Tab w) :
    Calls Tryd.prog 15 #[.int .i64 sum, .string ⟨l.toArray⟩] w fun e w' => e = .returned (.int .i64 (addS s l : Nat)) ∧ w = w' := by
  have t0 := turn_lt s hs2
  have e1 := u32_turn s hs2
  rw [← turn_def] at e1
  have Ha := Lib.hid (show turn (crcN (turn s) l) = addS s l from rfl)
  generalize turn s = r0 at t0 e1 Ha
  have L := Lib.hid (show (⟨l.toArray⟩ : ByteArray).size = l.length from rfl)
  have T := Lib.hid ht
  clear ht
  go_enter Tryd.func15, Tryd.ntmps15
  go_wp2
  go_loop [5, 12] (fun r i => ∃ k : Nat, k ≤ l.length ∧ i = .int .i64 k ∧ r = .int .u32 (crcN r0 (l.take k) : Nat)) (fun _ i => l.length - (intOf i).toNat)
  case atStart => exact ⟨0, Nat.zero_le _, rfl, rfl⟩
  case round =>
    obtain ⟨k, hk, rfl, rfl⟩ := hrel
    have hb := crcN_lt r0 (l.take k) t0
    by_cases hlt : k < l.length
    · have S := Lib.hid (crcN_snoc r0 (l.take k) l[k])
      rw [← take_snoc8 l k hlt] at S
      have C := fun w' => Lib.hid (takeIn_any (crcN r0 (l.take k)) l[k].toNat w' hb l[k].toNat_lt)
      generalize crcN r0 (l.take k) = r at *
      go_wp2_with fail
      refine ((C _).out T.out).mono ?_
      rintro e w' ⟨rfl, rfl⟩
      go_wp2
      go_round
      case rel => exact ⟨k + 1, by omega, by go_num, by rw [S.out]⟩
      case measure => simp [intOf]; omega
    · have hk2 : k = l.length := by omega
      have S := Lib.hid (show l.take k = l from List.take_of_length_le (by omega))
      rw [S.out] at hb ⊢
      have h2 := turn_lt _ hb
      have e2 := u32_turn _ hb
      rw [← turn_def] at e2
      rw [Ha.out] at h2 e2
      generalize crcN r0 l = r at *
      clear hk2
      go_wp2
      go_ret
      exact ⟨rfl, rfl⟩

theorem sum_any (l : List UInt8) (w : World) (hl : l.length ≤ 140737488351232) (ht : Tab w) :
    Calls Tryd.prog 12 #[.string ⟨l.toArray⟩] w fun e w' => e = .returned (.int .i64 (sumS l : Nat)) ∧ w = w' := by
  have C := fun w' => Lib.hid (add_any 0 0 l w' rfl (by decide) hl)
  have T := Lib.hid ht
  clear ht
  go_enter Tryd.func12, Tryd.ntmps12
  go_wp2_with fail
  refine ((C _).out T.out).mono ?_
  rintro e w' ⟨rfl, rfl⟩
  go_wp2
  go_ret
  exact ⟨rfl, rfl⟩

theorem sum_digits : sumS [49, 50, 51, 52, 53, 54, 55, 56, 57] = 3421780262 := by decide +kernel

theorem awake_any (w : World) (ht : Tab w) : Calls Tryd.prog 14 #[] w fun e w' => e = .returned (.bool true) ∧ w = w' := by
  have C := fun w' => Lib.hid (sum_any [49, 50, 51, 52, 53, 54, 55, 56, 57] w' (by decide))
  rw [sum_digits] at C
  have T := Lib.hid ht
  clear ht
  go_enter Tryd.func14, Tryd.ntmps14
  go_wp2_with fail
  refine ((C _).out T.out).mono ?_
  rintro e w' ⟨rfl, rfl⟩
  go_wp2
  go_ret
  exact ⟨rfl, rfl⟩
end Go.Proofs.YtjgoceebjmnjcaaDoor
