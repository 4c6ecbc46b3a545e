/- Walks of the small ones of sign: isBlock, isSize, isSum, isMark, blocks; the law's cut. -/
import Derived.Test.YtpkgjokehgihjaaGreatFrame
import Derived.Test.YtpkgjokehgihjaaGreatGen
import Derived.Test.YtpkgjokehgihjaaGreatInfos
import Derived.Test.YtpkgjokehgihjaaGreatRows
import Derived.BigQuiet
import Derived.Deep.QuietTactic
import Derived.IntWalk
import Derived.Laws.Rows
import Derived.Laws.Tables
import Derived.Lib.Hide
import Derived.Outline
import Derived.WalkKit
import Derived.WalkLawsBesides
import Derived.WalkSpells
set_option linter.unusedVariables false
namespace Go.Proofs.YtpkgjokehgihjaaGreat
open Go.RowKit

/-- A signature's value, and its cells. -/
abbrev sigV (b s : Int) (vw vs : Value) : Value := .agg #[.int .i64 b, .int .i64 s, vw, vs]
abbrev sigC (b s : Int) (vw vs : Value) : Obj := .cells #[.int .i64 b, .int .i64 s, vw, vs] 58 (0, 0)
theorem sig_info : (Tryz.prog.info? 58).map (·.size) = some 4 := by kernel_rfl

set_option maxRecDepth 100000 in
theorem isBlock_any (n : Int) (w : World) : Calls Tryz.prog 38 #[.int .i64 n] w fun e w' => e = .returned (.bool (decide (16 ≤ n ∧ n ≤ 1024))) ∧ w = w' := by
  by_cases h1 : 16 ≤ n
  · by_cases h2 : n ≤ 1024
    · rw [decide_eq_true ⟨h1, h2⟩]
      go_enter Tryz.func38, Tryz.ntmps38
      go_wp2
      go_ret
      exact ⟨rfl, rfl⟩
    · rw [decide_eq_false (fun h => h2 h.2)]
      go_enter Tryz.func38, Tryz.ntmps38
      go_wp2
      go_ret
      exact ⟨rfl, rfl⟩
  · rw [decide_eq_false (fun h => h1 h.1)]
    go_enter Tryz.func38, Tryz.ntmps38
    go_wp2
    go_ret
    exact ⟨rfl, rfl⟩
set_option maxRecDepth 100000 in
theorem isSize_any (n : Int) (w : World) : Calls Tryz.prog 74 #[.int .i64 n] w fun e w' => e = .returned (.bool (decide (0 ≤ n ∧ n ≤ 524288))) ∧ w = w' := by
  by_cases h1 : 0 ≤ n
  · by_cases h2 : n ≤ 524288
    · rw [decide_eq_true ⟨h1, h2⟩]
      go_enter Tryz.func74, Tryz.ntmps74
      go_wp2
      go_ret
      exact ⟨rfl, rfl⟩
    · rw [decide_eq_false (fun h => h2 h.2)]
      go_enter Tryz.func74, Tryz.ntmps74
      go_wp2
      go_ret
      exact ⟨rfl, rfl⟩
  · rw [decide_eq_false (fun h => h1 h.1)]
    go_enter Tryz.func74, Tryz.ntmps74
    go_wp2
    go_ret
    exact ⟨rfl, rfl⟩
set_option maxRecDepth 100000 in
theorem sIsSum_any (n : Int) (w : World) : Calls Tryz.prog 77 #[.int .i64 n] w fun e w' => e = .returned (.bool (decide (0 ≤ n ∧ n ≤ 4294967295))) ∧ w = w' := by
  by_cases h1 : 0 ≤ n
  · by_cases h2 : n ≤ 4294967295
    · rw [decide_eq_true ⟨h1, h2⟩]
      go_enter Tryz.func77, Tryz.ntmps77
      go_wp2
      go_ret
      exact ⟨rfl, rfl⟩
    · rw [decide_eq_false (fun h => h2 h.2)]
      go_enter Tryz.func77, Tryz.ntmps77
      go_wp2
      go_ret
      exact ⟨rfl, rfl⟩
  · rw [decide_eq_false (fun h => h1 h.1)]
    go_enter Tryz.func77, Tryz.ntmps77
    go_wp2
    go_ret
    exact ⟨rfl, rfl⟩
set_option maxRecDepth 100000 in
theorem isMark_any (m : List UInt8) (w : World) : Calls Tryz.prog 79 #[.string ⟨m.toArray⟩] w fun e w' => e = .returned (.bool (decide (m.length = 32))) ∧ w = w' := by
  have L := Lib.hid (show (⟨m.toArray⟩ : ByteArray).size = m.length from rfl)
  by_cases h : m.length = 32
  · have h2 : ((m.length : Int) == 32) = true := by simp; omega
    rw [decide_eq_true h]
    go_enter Tryz.func79, Tryz.ntmps79
    go_wp2
    go_ret
    exact ⟨rfl, rfl⟩
  · have h2 : ((m.length : Int) == 32) = false := by simp; omega
    rw [decide_eq_false h]
    go_enter Tryz.func79, Tryz.ntmps79
    go_wp2
    go_ret
    exact ⟨rfl, rfl⟩
/-- How many blocks. -/
def nBlk (s b : Nat) : Nat := (s + b - 1) / b
theorem nBlk_num (s b : Nat) (hb : 16 ≤ b) (hb2 : b ≤ 1024) (hs : s ≤ 524288) : (IntKind.i64.wrap (IntKind.i64.wrap ((s : Int) + (b : Int)) - 1)).tdiv (b : Int) = (nBlk s b : Int) ∧ IntKind.i64.wrap (nBlk s b : Int) = (nBlk s b : Int) ∧ nBlk s b ≤ 40000 := by
  have h1 : nBlk s b ≤ 40000 := by unfold nBlk; exact Nat.le_trans (Nat.div_le_div_left hb (by decide)) (by omega)
  refine ⟨?_, by rw [IntKind.wrap_i64]; omega, h1⟩
  rw [IntWalk.i64_in ((s : Int) + b) (by omega), IntWalk.i64_in _ (by omega), Int.tdiv_eq_ediv_of_nonneg (by omega), show (s : Int) + b - 1 = ((s + b - 1 : Nat) : Int) by omega]
  rfl
set_option maxRecDepth 100000 in
theorem blocks_any (s b : Nat) (vw vs : Value) (w : World) (hb : 16 ≤ b) (hb2 : b ≤ 1024) (hs : s ≤ 524288) :
    Calls Tryz.prog 75 #[sigV b s vw vs] w fun e w' => e = .returned (.int .i64 (nBlk s b : Nat)) ∧ Below w.heap.size w w' := by
  obtain ⟨E1, E2, _⟩ := nBlk_num s b hb hb2 hs
  have E3 : ((s : Int) + (b : Int) - 1) / (b : Int) = ((nBlk s b : Nat) : Int) := by rw [show (s : Int) + b - 1 = ((s + b - 1 : Nat) : Int) by omega]; rfl
  have hb0 : ((b : Int) == 0) = false := by simp; omega
  go_enter Tryz.func75, Tryz.ntmps75
  go_wp2
  go_ret
  exact ⟨by rw [← E3]; rfl, (Below.refl _ _).alloc (Nat.le_refl _) _⟩
/-- May a number be a weak sum, a text a mark? -/
def sumOk (n : Int) : Bool := decide (0 ≤ n ∧ n ≤ 4294967295)
def markOk (m : List UInt8) : Bool := decide (m.length = 32)
/-- A list's elements, all such. -/
theorem wp_ret_bool {a b : Bool} (h : a = b) : Ending.returned (.bool a) = .returned (.bool b) := by rw [h]

set_option maxRecDepth 100000 in
set_option maxHeartbeats 1000000 in
theorem allSums_any (xs : List Int) (v : Value) (N : Nat → Prop) (w : World) (h : Row (Value.int .i64) N w v xs) (hl : xs.length ≤ 1000000) :
    Calls Tryz.prog 76 #[v, .func (.func 77) #[] #[]] w fun e w' => e = .returned (.bool (xs.all sumOk)) ∧ w = w' := by
  obtain ⟨a1, cap1, rfl, hc1⟩ := h
  have H1 := Lib.hid hc1; clear hc1
  go_enter Tryz.func76, Tryz.ntmps76
  go_wp2
  go_loop [9] (fun i => ∃ k : Nat, k ≤ xs.length ∧ i = .int .i64 k ∧ (xs.take k).all sumOk = true) (fun i => xs.length - (intOf i).toNat)
  case atStart => exact ⟨0, by omega, rfl, rfl⟩
  case round =>
    obtain ⟨k, hk, rfl, hall⟩ := hrel
    have Hall := Lib.hid hall; clear hall
    by_cases hlt : k < xs.length
    · obtain ⟨b1, o1, rfl, _, c1⟩ := H1.out k hlt
      have IS := fun w' => Lib.hid (show Calls _ _ _ w' fun e w'' => e = .returned (.bool (sumOk xs[k])) ∧ w' = w'' from sIsSum_any xs[k] w')
      by_cases hy : sumOk xs[k] = true
      · have NX := Lib.hid (show (xs.take (k + 1)).all sumOk = true by
          rw [List.take_succ_eq_append_getElem hlt, List.all_append, Hall.out]; simpa using hy)
        rw [hy] at IS
        clear hy
        generalize xs[k] = x at *
        go_wp2_with fail
        refine (IS _).out.mono ?_
        rintro e w' ⟨rfl, rfl⟩
        go_wp2
        go_round
        case rel => exact ⟨k + 1, by omega, by go_num, NX.out⟩
        case measure => simp [intOf]; omega
      · have NX := Lib.hid (show (xs.all sumOk) = false by
          rw [List.all_eq_false]; exact ⟨xs[k], List.getElem_mem _, by simpa using hy⟩)
        have hy' := Bool.eq_false_iff.2 hy
        rw [hy'] at IS
        clear hy'
        clear hy
        generalize xs[k] = x at *
        go_wp2_with fail
        refine (IS _).out.mono ?_
        rintro e w' ⟨rfl, rfl⟩
        go_wp2
        go_ret
        exact ⟨wp_ret_bool NX.out.symm, rfl⟩
    · have NX := Lib.hid (show (xs.all sumOk) = true by
        have := Hall.out; rwa [List.take_of_length_le (by omega)] at this)
      go_wp2
      go_ret
      exact ⟨wp_ret_bool NX.out.symm, rfl⟩
set_option maxRecDepth 100000 in
set_option maxHeartbeats 1000000 in
theorem allMarks_any (xs : List (List UInt8)) (v : Value) (N : Nat → Prop) (w : World) (h : Row encT N w v xs) (hl : xs.length ≤ 1000000) :
    Calls Tryz.prog 78 #[v, .func (.func 79) #[] #[]] w fun e w' => e = .returned (.bool (xs.all markOk)) ∧ w = w' := by
  obtain ⟨a1, cap1, rfl, hc1⟩ := h
  have H1 := Lib.hid hc1; clear hc1
  go_enter Tryz.func78, Tryz.ntmps78
  go_wp2
  go_loop [9] (fun i => ∃ k : Nat, k ≤ xs.length ∧ i = .int .i64 k ∧ (xs.take k).all markOk = true) (fun i => xs.length - (intOf i).toNat)
  case atStart => exact ⟨0, by omega, rfl, rfl⟩
  case round =>
    obtain ⟨k, hk, rfl, hall⟩ := hrel
    have Hall := Lib.hid hall; clear hall
    by_cases hlt : k < xs.length
    · obtain ⟨b1, o1, rfl, _, c1⟩ := H1.out k hlt
      have IS := fun w' => Lib.hid (show Calls _ _ _ w' fun e w'' => e = .returned (.bool (markOk xs[k])) ∧ w' = w'' from isMark_any xs[k] w')
      unfold encT at c1
      by_cases hy : markOk xs[k] = true
      · have NX := Lib.hid (show (xs.take (k + 1)).all markOk = true by
          rw [List.take_succ_eq_append_getElem hlt, List.all_append, Hall.out]; simpa using hy)
        rw [hy] at IS
        clear hy
        generalize xs[k] = x at *
        go_wp2_with fail
        refine (IS _).out.mono ?_
        rintro e w' ⟨rfl, rfl⟩
        go_wp2
        go_round
        case rel => exact ⟨k + 1, by omega, by go_num, NX.out⟩
        case measure => simp [intOf]; omega
      · have NX := Lib.hid (show (xs.all markOk) = false by
          rw [List.all_eq_false]; exact ⟨xs[k], List.getElem_mem _, by simpa using hy⟩)
        have hy' := Bool.eq_false_iff.2 hy
        rw [hy'] at IS
        clear hy'
        clear hy
        generalize xs[k] = x at *
        go_wp2_with fail
        refine (IS _).out.mono ?_
        rintro e w' ⟨rfl, rfl⟩
        go_wp2
        go_ret
        exact ⟨wp_ret_bool NX.out.symm, rfl⟩
    · have NX := Lib.hid (show (xs.all markOk) = true by
        have := Hall.out; rwa [List.take_of_length_le (by omega)] at this)
      go_wp2
      go_ret
      exact ⟨wp_ret_bool NX.out.symm, rfl⟩
end Go.Proofs.YtpkgjokehgihjaaGreat
