/- Walks of the program's weak sums: of, number and what else is of no window. -/
import Derived.Test.YtifbdbblfhphjaaGen
import Derived.Test.YtifbdbblfhphjaaRollMath
import Derived.Test.YtifbdbblfhphjaaRows
import Derived.Test.YtifbdbblfhphjaaWeakW
import Derived.Laws.BitsAllLaws
import Derived.WalkKit
set_option linter.unusedVariables false
namespace Go.Proofs.Ytifbdbblfhphjaa
open Go.RowKit

abbrev weakV (a b : Nat) : Value := .agg #[.int .u16 (a : Int), .int .u16 (b : Int)]
theorem WeakAt.kept {w w' : World} {p a b : Nat} {M : Nat → Prop} (h : WeakAt w p a b) (hk : Kept M w w') (hp : ¬ M p) : WeakAt w' p a b := hk.old h hp

theorem weak_info : (Try.prog.info? 92).map (·.size) = some 2 := by kernel_rfl
theorem halves_num (x : Nat) : IntKind.u16.wrap (x : Int) = ((x % 65536 : Nat) : Int) ∧ ((x : Int) / 65536) = ((x / 65536 : Nat) : Int) := by rw [IntKind.wrap_u16]; omega
theorem number_num (a b : Nat) (ha : a < 65536) (hb : b < 65536) : bits .or .i64 (a : Int) ((b : Int) * 65536) = ((a + 65536 * b : Nat) : Int) := by
  rw [i64_or_comm, i64_or_join 16 _ _ (by omega) (by omega) (by omega) (by omega) (by omega) (by omega)]
  omega
set_option maxRecDepth 100000 in
theorem wnum_any (a b : Nat) (w : World) (ha : a < 65536) (hb : b < 65536) :
    Calls Try.prog 79 #[weakV a b] w fun e w' => e = .returned (.int .i64 ((a + 65536 * b : Nat) : Int)) ∧ Below w.heap.size w w' := by
  have E := Lib.hid (number_num a b ha hb)
  go_enter Try.func79, Try.ntmps79
  go_wp2
  go_ret
  exact ⟨by rw [E.out]; rfl, (Below.refl _ _).alloc (Nat.le_refl _) _⟩
theorem with_num (a b d m : Nat) : IntKind.u16.wrap (IntKind.u16.wrap (↑b + IntKind.u16.wrap (IntKind.u16.wrap (m : Int) * ↑a)) + ↑d) = (((b + m % 65536 * a % 65536 + d) % 65536 : Nat) : Int) := by
  simp only [IntKind.wrap_u16]
  rw [show ((m : Int) % 65536) = ((m % 65536 : Nat) : Int) by omega, ← Int.natCast_mul]
  generalize m % 65536 * a = z
  omega

set_option maxRecDepth 100000 in
set_option maxHeartbeats 1000000 in
theorem wof_any (l : List UInt8) (w : World) (hl : l.length ≤ 140737488351232) :
    Calls Try.prog 78 #[.string ⟨l.toArray⟩] w fun e w' => e = .returned (weakV (lo l) (hi l)) ∧ Below w.heap.size w w' := by
  have L := Lib.hid (show (⟨l.toArray⟩ : ByteArray).size = l.length from rfl)
  have W1 := Lib.hid (show WeakAt ((w.alloc (.cells #[.int .u16 0, .int .u16 0] 92)).alloc (.cells #[.int .u16 0, .int .u16 0] 92)) w.heap.size 0 0 ∧ WeakAt ((w.alloc (.cells #[.int .u16 0, .int .u16 0] 92)).alloc (.cells #[.int .u16 0, .int .u16 0] 92)) (w.heap.size + 1) 0 0 ∧
      Below w.heap.size w ((w.alloc (.cells #[.int .u16 0, .int .u16 0] 92)).alloc (.cells #[.int .u16 0, .int .u16 0] 92)) from
    ⟨(Below.heap_alloc _ _ _ (by simp)).trans (heap_alloc_new _ _), by rw [show w.heap.size + 1 = (w.alloc (.cells #[.int .u16 0, .int .u16 0] 92)).heap.size by simp]; exact heap_alloc_new _ _, ((Below.refl _ _).alloc (Nat.le_refl _) _).alloc (by simp) _⟩)
  go_enter Try.func78, Try.ntmps78
  go_wp2
  generalize (w.alloc (.cells #[.int .u16 0, .int .u16 0] 92)).alloc (.cells #[.int .u16 0, .int .u16 0] 92) = w0 at *
  go_loopw [7] (fun i wr => ∃ k : Nat, k ≤ l.length ∧ i = .int .i64 k ∧ WeakAt wr (w.heap.size + 1) (lo (l.take k)) (hi (l.take k)) ∧ WeakAt wr w.heap.size 0 0 ∧ Below w.heap.size w wr) (fun i _ => l.length - (intOf i).toNat)
  case atStart => exact ⟨0, Nat.zero_le _, rfl, W1.out.2.1, W1.out.1, W1.out.2.2⟩
  case round =>
    obtain ⟨k, hk, rfl, hat, hres, hbel⟩ := hrel
    have Hat := Lib.hid hat; clear hat
    have Hres := Lib.hid hres; clear hres
    have Hbel := Lib.hid hbel; clear hbel
    have a1 := lo_lt (l.take k)
    have a2 := hi_lt (l.take k)
    by_cases hlt : k < l.length
    · have C := Lib.hid (takeInW_any (w.heap.size + 1) (lo (l.take k)) (hi (l.take k)) l[k].toNat wr a1 a2 l[k].toNat_lt Hat.out)
      rw [← hi_take l k hlt, ← lo_take l k hlt] at C
      go_wp2_with fail
      refine C.out.mono ?_
      rintro e w' ⟨rfl, hat, hkp⟩
      go_wp2
      go_roundw
      case rel => exact ⟨k + 1, by omega, by go_num, hat, Hres.out.kept hkp (by omega), Hbel.out.trans (hkp.below Hbel.out.size (fun k h => by omega))⟩
      case measure => simp [intOf]; omega
    · have S := Lib.hid (show l.take k = l from List.take_of_length_le (by omega))
      rw [S.out] at Hat
      have c0 : wr.cell? ⟨w.heap.size + 1, 0, none⟩ = some (.int .u16 (lo l : Nat)) := by rw [cell_of_row _ _ _ _ _ _ Hat.out]; rfl
      have c1 : wr.cell? ⟨w.heap.size + 1, 1, none⟩ = some (.int .u16 (hi l : Nat)) := by rw [cell_of_row _ _ _ _ _ _ Hat.out]; rfl
      have d0 : wr.cell? ⟨w.heap.size, 0, none⟩ = some (.int .u16 ((0 : Nat) : Int)) := by rw [cell_of_row _ _ _ _ _ _ Hres.out]; rfl
      have f0 := frozen_of_row wr w.heap.size 0 _ _ Hres.out
      have h1 := heap_setCell_same wr w.heap.size 0 _ _ (.int .u16 (lo l : Nat)) Hres.out
      have d1 : (wr.setCell ⟨w.heap.size, 0, none⟩ (.int .u16 (lo l : Nat))).cell? ⟨w.heap.size, 1, none⟩ = some (.int .u16 ((0 : Nat) : Int)) := by rw [cell_of_row _ _ _ _ _ _ h1]; rfl
      have f1 := frozen_of_row _ w.heap.size 1 _ _ h1
      have h2 := Lib.hid (heap_setCell_same _ w.heap.size 1 _ _ (.int .u16 (hi l : Nat)) h1)
      clear h1
      go_wp2
      exact bodyPost_ret (v := weakV (lo l) (hi l)) (results_cell_row Try.results78 _ _ w.heap.size _ _ _ _ rfl h2.out Try.underlying92 rfl weak_info) rfl
        ⟨rfl, (Hbel.out.setCell (p := ⟨w.heap.size, 0, none⟩) (Nat.le_refl _) _).setCell (p := ⟨w.heap.size, 1, none⟩) (Nat.le_refl _) _⟩
end Go.Proofs.Ytifbdbblfhphjaa
