/- Several texts in one: WeakW, Weak2W, Weak3W. -/
import Derived.Test.YtpkgjokehgihjaaGreatGen
import Derived.Test.YtpkgjokehgihjaaGreatRows
import Derived.BigQuiet
import Derived.Deep.QuietTactic
import Derived.IntWalk
import Derived.Laws.BitsAllLaws
import Derived.Laws.Rows
import Derived.Lib.Hide
import Derived.Outline
import Derived.StillTailTactics
import Derived.WalkKit
import Derived.WalkLawsBesides
import Derived.WalkSpells
import Derived.Test.YtpkgjokehgihjaaGreatRollMath
/- Walks of the program's weak sums. -/
set_option linter.unusedVariables false
namespace Go.Proofs.YtpkgjokehgihjaaGreat
open Go.RowKit

/-- A weak sum in a block of its own. -/
def WeakAt (w : World) (p a b : Nat) : Prop := w.heap[p]? = some (.cells #[.int .u16 (a : Int), .int .u16 (b : Int)] 105 (0, 0))
/-- A window in a block. -/
def RollAt (w : World) (p : Nat) (l : List UInt8) (n k a b : Nat) : Prop := w.heap[p]? = some (.cells #[.string ⟨l.toArray⟩, .int .i64 (n : Int), .int .i64 (k : Int), .int .u16 (a : Int), .int .u16 (b : Int)] 137 (0, 0))

set_option maxRecDepth 100000 in
set_option maxHeartbeats 1000000 in
theorem takeInW_any (p a b c : Nat) (w : World) (ha : a < 65536) (hb : b < 65536) (hc : c < 256) (h : WeakAt w p a b) :
    Calls Tryz.prog 73 #[.pointer (some ⟨p, 0, none⟩), .int .u8 c] w fun e w' => e = .returned (.tuple #[]) ∧ WeakAt w' p ((a + c) % 65536) ((b + (a + c) % 65536) % 65536) ∧ Kept (· = p) w w' := by
  obtain ⟨x, hx⟩ : ∃ x, (a + c) % 65536 = x := ⟨_, rfl⟩
  obtain ⟨y, hy⟩ : ∃ y, (b + x) % 65536 = y := ⟨_, rfl⟩
  rw [hx, hy]
  have hx1 : x < 65536 := by omega
  have wx : IntKind.u16.wrap ((a : Int) + (c : Int)) = (x : Int) := by rw [IntKind.wrap_u16]; omega
  have wy : IntKind.u16.wrap ((b : Int) + (x : Int)) = (y : Int) := by rw [IntKind.wrap_u16]; omega
  clear hx hy
  have c0 : w.cell? ⟨p, 0, none⟩ = some (.int .u16 (a : Int)) := by rw [cell_of_row _ _ _ _ _ _ h]; rfl
  have f0 := frozen_of_row w p 0 _ _ h
  have h1 := Lib.hid (heap_setCell_same w p 0 _ _ (.int .u16 (x : Int)) h)
  have k1 := Lib.hid ((Kept.refl (· = p) w).setCell (p := ⟨p, 0, none⟩) rfl (.int .u16 (x : Int)))
  have H := Lib.hid h; clear h
  go_enter Tryz.func73, Tryz.ntmps73
  go_wp2
  generalize w.setCell ⟨p, 0, none⟩ (.int .u16 (x : Int)) = w1 at *
  clear c0 f0
  have h2 : w1.heap[p]? = some (.cells #[.int .u16 (x : Int), .int .u16 (b : Int)] 105 (0, 0)) := h1.out
  have c0 : w1.cell? ⟨p, 0, none⟩ = some (.int .u16 (x : Int)) := by rw [cell_of_row _ _ _ _ _ _ h2]; rfl
  have c1 : w1.cell? ⟨p, 1, none⟩ = some (.int .u16 (b : Int)) := by rw [cell_of_row _ _ _ _ _ _ h2]; rfl
  have f1 : w1.drew.frozen? ⟨p, 1, none⟩ = false := frozen_of_row w1 p 1 _ _ h2
  have c1d : w1.drew.cell? ⟨p, 1, none⟩ = some (.int .u16 (b : Int)) := c1
  have h3 := Lib.hid (heap_setCell_same w1.drew p 1 _ _ (.int .u16 (y : Int)) h2)
  have k3 := Lib.hid (k1.out.drew.setCell (p := ⟨p, 1, none⟩) rfl (.int .u16 (y : Int)))
  clear h1 h2 k1
  go_still_tail 9, (by kernel_rfl)
  change wpList _ _ _ _ _ w1.drew
  go_wp2
  go_end0
  exact ⟨rfl, h3.out, k3.out⟩

set_option maxRecDepth 100000 in
set_option maxHeartbeats 1000000 in
theorem takeInR_any (p n k a b c : Nat) (l : List UInt8) (w : World) (ha : a < 65536) (hb : b < 65536) (hc : c < 256) (h : RollAt w p l n k a b) :
    Calls Tryz.prog 73 #[.pointer (some ⟨p, 3, none⟩), .int .u8 c] w fun e w' => e = .returned (.tuple #[]) ∧ RollAt w' p l n k ((a + c) % 65536) ((b + (a + c) % 65536) % 65536) ∧ Kept (· = p) w w' := by
  obtain ⟨x, hx⟩ : ∃ x, (a + c) % 65536 = x := ⟨_, rfl⟩
  obtain ⟨y, hy⟩ : ∃ y, (b + x) % 65536 = y := ⟨_, rfl⟩
  rw [hx, hy]
  have hx1 : x < 65536 := by omega
  have wx : IntKind.u16.wrap ((a : Int) + (c : Int)) = (x : Int) := by rw [IntKind.wrap_u16]; omega
  have wy : IntKind.u16.wrap ((b : Int) + (x : Int)) = (y : Int) := by rw [IntKind.wrap_u16]; omega
  clear hx hy
  have c0 : w.cell? ⟨p, 3, none⟩ = some (.int .u16 (a : Int)) := by rw [cell_of_row _ _ _ _ _ _ h]; rfl
  have f0 := frozen_of_row w p 3 _ _ h
  have h1 := Lib.hid (heap_setCell_same w p 3 _ _ (.int .u16 (x : Int)) h)
  have k1 := Lib.hid ((Kept.refl (· = p) w).setCell (p := ⟨p, 3, none⟩) rfl (.int .u16 (x : Int)))
  have H := Lib.hid h; clear h
  go_enter Tryz.func73, Tryz.ntmps73
  go_wp2
  generalize w.setCell ⟨p, 3, none⟩ (.int .u16 (x : Int)) = w1 at *
  clear c0 f0
  have h2 : w1.heap[p]? = some (.cells #[.string ⟨l.toArray⟩, .int .i64 (n : Int), .int .i64 (k : Int), .int .u16 (x : Int), .int .u16 (b : Int)] 137 (0, 0)) := h1.out
  have c0 : w1.cell? ⟨p, 3, none⟩ = some (.int .u16 (x : Int)) := by rw [cell_of_row _ _ _ _ _ _ h2]; rfl
  have c1 : w1.cell? ⟨p, 4, none⟩ = some (.int .u16 (b : Int)) := by rw [cell_of_row _ _ _ _ _ _ h2]; rfl
  have f1 : w1.drew.frozen? ⟨p, 4, none⟩ = false := frozen_of_row w1 p 4 _ _ h2
  have c1d : w1.drew.cell? ⟨p, 4, none⟩ = some (.int .u16 (b : Int)) := c1
  have h3 := Lib.hid (heap_setCell_same w1.drew p 4 _ _ (.int .u16 (y : Int)) h2)
  have k3 := Lib.hid (k1.out.drew.setCell (p := ⟨p, 4, none⟩) rfl (.int .u16 (y : Int)))
  clear h1 h2 k1
  go_still_tail 9, (by kernel_rfl)
  change wpList _ _ _ _ _ w1.drew
  go_wp2
  go_end0
  exact ⟨rfl, h3.out, k3.out⟩
end Go.Proofs.YtpkgjokehgihjaaGreat
/- Walks of the program's weak sums: of, number and what else is of no window. -/
set_option linter.unusedVariables false
namespace Go.Proofs.YtpkgjokehgihjaaGreat
open Go.RowKit

abbrev weakV (a b : Nat) : Value := .agg #[.int .u16 (a : Int), .int .u16 (b : Int)]
theorem WeakAt.kept {w w' : World} {p a b : Nat} {M : Nat → Prop} (h : WeakAt w p a b) (hk : Kept M w w') (hp : ¬ M p) : WeakAt w' p a b := hk.old h hp

theorem weak_info : (Tryz.prog.info? 105).map (·.size) = some 2 := by kernel_rfl
theorem halves_num (x : Nat) : IntKind.u16.wrap (x : Int) = ((x % 65536 : Nat) : Int) ∧ ((x : Int) / 65536) = ((x / 65536 : Nat) : Int) := by rw [IntKind.wrap_u16]; omega
theorem number_num (a b : Nat) (ha : a < 65536) (hb : b < 65536) : bits .or .i64 (a : Int) ((b : Int) * 65536) = ((a + 65536 * b : Nat) : Int) := by
  rw [i64_or_comm, i64_or_join 16 _ _ (by omega) (by omega) (by omega) (by omega) (by omega) (by omega)]
  omega
set_option maxRecDepth 100000 in
theorem wnum_any (a b : Nat) (w : World) (ha : a < 65536) (hb : b < 65536) :
    Calls Tryz.prog 49 #[weakV a b] w fun e w' => e = .returned (.int .i64 ((a + 65536 * b : Nat) : Int)) ∧ Below w.heap.size w w' := by
  have E := Lib.hid (number_num a b ha hb)
  go_enter Tryz.func49, Tryz.ntmps49
  go_wp2
  go_ret
  exact ⟨by rw [E.out]; rfl, (Below.refl _ _).alloc (Nat.le_refl _) _⟩
theorem with_num (a b d m : Nat) : IntKind.u16.wrap (IntKind.u16.wrap (↑b + IntKind.u16.wrap (IntKind.u16.wrap (m : Int) * ↑a)) + ↑d) = (((b + m % 65536 * a % 65536 + d) % 65536 : Nat) : Int) := by
  simp only [IntKind.wrap_u16]
  rw [show ((m : Int) % 65536) = ((m % 65536 : Nat) : Int) by omega, ← Int.natCast_mul]
  generalize m % 65536 * a = z
  omega

set_option maxRecDepth 100000 in
set_option maxHeartbeats 1000000 in
theorem wof_any (l : List UInt8) (w : World) (hl : l.length ≤ 140737488351232) :
    Calls Tryz.prog 48 #[.string ⟨l.toArray⟩] w fun e w' => e = .returned (weakV (lo l) (hi l)) ∧ Below w.heap.size w w' := by
  have L := Lib.hid (show (⟨l.toArray⟩ : ByteArray).size = l.length from rfl)
  have W1 := Lib.hid (show WeakAt ((w.alloc (.cells #[.int .u16 0, .int .u16 0] 105)).alloc (.cells #[.int .u16 0, .int .u16 0] 105)) w.heap.size 0 0 ∧ WeakAt ((w.alloc (.cells #[.int .u16 0, .int .u16 0] 105)).alloc (.cells #[.int .u16 0, .int .u16 0] 105)) (w.heap.size + 1) 0 0 ∧
      Below w.heap.size w ((w.alloc (.cells #[.int .u16 0, .int .u16 0] 105)).alloc (.cells #[.int .u16 0, .int .u16 0] 105)) from
    ⟨(Below.heap_alloc _ _ _ (by simp)).trans (heap_alloc_new _ _), by rw [show w.heap.size + 1 = (w.alloc (.cells #[.int .u16 0, .int .u16 0] 105)).heap.size by simp]; exact heap_alloc_new _ _, ((Below.refl _ _).alloc (Nat.le_refl _) _).alloc (by simp) _⟩)
  go_enter Tryz.func48, Tryz.ntmps48
  go_wp2
  generalize (w.alloc (.cells #[.int .u16 0, .int .u16 0] 105)).alloc (.cells #[.int .u16 0, .int .u16 0] 105) = w0 at *
  go_loopw [7] (fun i wr => ∃ k : Nat, k ≤ l.length ∧ i = .int .i64 k ∧ WeakAt wr (w.heap.size + 1) (lo (l.take k)) (hi (l.take k)) ∧ WeakAt wr w.heap.size 0 0 ∧ Below w.heap.size w wr) (fun i _ => l.length - (intOf i).toNat)
  case atStart => exact ⟨0, Nat.zero_le _, rfl, W1.out.2.1, W1.out.1, W1.out.2.2⟩
  case round =>
    obtain ⟨k, hk, rfl, hat, hres, hbel⟩ := hrel
    have Hat := Lib.hid hat; clear hat
    have Hres := Lib.hid hres; clear hres
    have Hbel := Lib.hid hbel; clear hbel
    have a1 := lo_lt (l.take k)
    have a2 := hi_lt (l.take k)
    by_cases hlt : k < l.length
    · have C := Lib.hid (takeInW_any (w.heap.size + 1) (lo (l.take k)) (hi (l.take k)) l[k].toNat wr a1 a2 l[k].toNat_lt Hat.out)
      rw [← hi_take l k hlt, ← lo_take l k hlt] at C
      go_wp2_with fail
      refine C.out.mono ?_
      rintro e w' ⟨rfl, hat, hkp⟩
      go_wp2
      go_roundw
      case rel => exact ⟨k + 1, by omega, by go_num, hat, Hres.out.kept hkp (by omega), Hbel.out.trans (hkp.below Hbel.out.size (fun k h => by omega))⟩
      case measure => simp [intOf]; omega
    · have S := Lib.hid (show l.take k = l from List.take_of_length_le (by omega))
      rw [S.out] at Hat
      have c0 : wr.cell? ⟨w.heap.size + 1, 0, none⟩ = some (.int .u16 (lo l : Nat)) := by rw [cell_of_row _ _ _ _ _ _ Hat.out]; rfl
      have c1 : wr.cell? ⟨w.heap.size + 1, 1, none⟩ = some (.int .u16 (hi l : Nat)) := by rw [cell_of_row _ _ _ _ _ _ Hat.out]; rfl
      have d0 : wr.cell? ⟨w.heap.size, 0, none⟩ = some (.int .u16 ((0 : Nat) : Int)) := by rw [cell_of_row _ _ _ _ _ _ Hres.out]; rfl
      have f0 := frozen_of_row wr w.heap.size 0 _ _ Hres.out
      have h1 := heap_setCell_same wr w.heap.size 0 _ _ (.int .u16 (lo l : Nat)) Hres.out
      have d1 : (wr.setCell ⟨w.heap.size, 0, none⟩ (.int .u16 (lo l : Nat))).cell? ⟨w.heap.size, 1, none⟩ = some (.int .u16 ((0 : Nat) : Int)) := by rw [cell_of_row _ _ _ _ _ _ h1]; rfl
      have f1 := frozen_of_row _ w.heap.size 1 _ _ h1
      have h2 := Lib.hid (heap_setCell_same _ w.heap.size 1 _ _ (.int .u16 (hi l : Nat)) h1)
      clear h1
      go_wp2
      exact bodyPost_ret (v := weakV (lo l) (hi l)) (results_cell_row Tryz.results48 _ _ w.heap.size _ _ _ _ rfl h2.out Tryz.underlying105 rfl weak_info) rfl
        ⟨rfl, (Hbel.out.setCell (p := ⟨w.heap.size, 0, none⟩) (Nat.le_refl _) _).setCell (p := ⟨w.heap.size, 1, none⟩) (Nat.le_refl _) _⟩
end Go.Proofs.YtpkgjokehgihjaaGreat
/- Walks of Sum and Join, of the document's Sum, and of the law's cut and awake. -/
set_option linter.unusedVariables false
namespace Go.Proofs.YtpkgjokehgihjaaGreat
open Go.RowKit

set_option maxRecDepth 100000 in
theorem sum_any (l : List UInt8) (w : World) (hl : l.length ≤ 140737488351232) :
    Calls Tryz.prog 39 #[.string ⟨l.toArray⟩] w fun e w' => e = .returned (.int .i64 (wk l : Nat)) ∧ Below w.heap.size w w' := by
  have C := Lib.hid (wof_any l w hl)
  have N := fun w' => Lib.hid (wnum_any (lo l) (hi l) w' (lo_lt l) (hi_lt l))
  rw [show lo l + 65536 * hi l = wk l from rfl] at N
  go_enter Tryz.func39, Tryz.ntmps39
  go_wp2_with fail
  refine C.out.mono ?_
  rintro e w1 ⟨rfl, b1⟩
  go_wp2_with fail
  refine (N _).out.mono ?_
  rintro e w2 ⟨rfl, b2⟩
  go_wp2
  go_ret
  exact ⟨rfl, below2 b1 b2⟩
theorem wk_ab : wk [97, 98] = 19136707 := by decide +kernel

/-! ### Join -/

/-! ### The document's Sum -/
theorem wrap64_lt (z : Nat) (h : z < 9223372036854775808) : wrap64 (z : Int) = (z : Int) := by simp only [wrap64]; omega
theorem doc_a (a c : Nat) (ha : a < 65536) (hc : c < 256) : (wrap64 ((a : Int) + wrap64 (c : Int))).tmod 65536 = (((a + c) % 65536 : Nat) : Int) := by
  rw [wrap64_lt c (by omega), show (a : Int) + (c : Int) = ((a + c : Nat) : Int) by omega, wrap64_lt _ (by omega), Int.tmod_eq_emod_of_nonneg (by omega)]
  omega
theorem doc_b (n k b c : Nat) (hk : k < n) (hb : b < 65536) (hc : c < 256) : (wrap64 ((b : Int) + wrap64 (((n : Int) - (k : Int)) % 65536 * wrap64 (c : Int)))).tmod 65536 = (((b + (n - k) % 65536 * c) % 65536 : Nat) : Int) := by
  rw [wrap64_lt c (by omega), show ((n : Int) - (k : Int)) % 65536 = (((n - k) % 65536 : Nat) : Int) by omega, ← Int.natCast_mul]
  have h1 : (n - k) % 65536 < 65536 := Nat.mod_lt _ (by decide)
  have h2 : (n - k) % 65536 * c ≤ 65536 * 256 := Nat.mul_le_mul (by omega) (by omega)
  generalize (n - k) % 65536 * c = z at *
  rw [wrap64_lt z (by omega), show (b : Int) + (z : Int) = ((b + z : Nat) : Int) by omega, wrap64_lt _ (by omega), Int.tmod_eq_emod_of_nonneg (by omega)]
  omega
end Go.Proofs.YtpkgjokehgihjaaGreat
