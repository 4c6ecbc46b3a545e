/- Walks of isStep, makes, Right: what steps and deltas may be. -/
import Derived.Test.YtpkgjokehgihjaaGreatDelX
import Derived.Test.YtpkgjokehgihjaaGreatFrame
import Derived.Test.YtpkgjokehgihjaaGreatGen
import Derived.Test.YtpkgjokehgihjaaGreatProg
import Derived.Test.YtpkgjokehgihjaaGreatRowKeep
import Derived.Test.YtpkgjokehgihjaaGreatRows
import Derived.Test.YtpkgjokehgihjaaGreatSignMath
import Derived.BigQuiet
import Derived.Deep.QuietTactic
import Derived.IntWalk
import Derived.Laws.Rows
import Derived.Laws.Tables
import Derived.Lib.Hide
import Derived.Outline
import Derived.WalkKit
import Derived.WalkLawsBesides
import Derived.WalkSpells
set_option linter.unusedVariables false
namespace Go.Proofs.YtpkgjokehgihjaaGreat
open Go.RowKit

abbrev stV (x : DSt) : Value := .agg #[.int .i64 x.pos, .int .i64 x.len, .string ⟨x.txt.toArray⟩]
abbrev stO (x : DSt) : Obj := .cells #[.int .i64 x.pos, .int .i64 x.len, .string ⟨x.txt.toArray⟩] 42
/-- What numbers and texts of a machine may be. -/
structure StOk (x : DSt) : Prop where
  p1 : -9223372036854775808 ≤ x.pos
  p2 : x.pos ≤ 9223372036854775807
  l1 : -9223372036854775808 ≤ x.len
  l2 : x.len ≤ 9223372036854775807
  t : x.txt.length ≤ 140737488351232
theorem stO_at (w : World) (x : DSt) : DStAt (w.alloc (stO x)) w.heap.size 0 x := by
  refine ⟨?_, ?_, ?_⟩ <;> (rw [cell_of_row _ _ _ _ _ _ (heap_alloc_new _ _)]; rfl)

set_option maxRecDepth 100000 in
set_option maxHeartbeats 1000000 in
theorem isStep_any (x : DSt) (w : World) (h : StOk x) :
    Calls Tryz.prog 26 #[stV x] w fun e w' => e = .returned (.bool (stS x)) ∧ Below w.heap.size w w' := by
  obtain ⟨p, n, t⟩ := x
  have hp1 := h.p1
  have hp2 := h.p2
  have hn1 := h.l1
  have hn2 := h.l2
  have ht := h.t
  dsimp only at hp1 hp2 hn1 hn2 ht
  have B0 := Lib.hid (below_self_alloc w (stO ⟨p, n, t⟩))
  obtain ⟨c0, c1, c2⟩ := stO_at w ⟨p, n, t⟩
  dsimp only at c0 c1 c2
  rw [Nat.zero_add] at c1 c2
  have TL := Lib.hid (show (⟨t.toArray⟩ : ByteArray).size = t.length from rfl)
  have HR := Lib.hid (show stS ⟨p, n, t⟩ = if t ≠ [] then decide (t.length ≤ 4096 ∧ p = 0 ∧ n = 0) else decide (0 < n ∧ n ≤ 524288 ∧ 0 ≤ p ∧ p ≤ 524288 - n) from rfl)
  generalize stS ⟨p, n, t⟩ = res at *
  clear h
  by_cases h0 : 0 < t.length
  · have hne : t.isEmpty = false := by cases t <;> simp_all
    have HR2 := Lib.hid (show res = decide (t.length ≤ 4096 ∧ p = 0 ∧ n = 0) by rw [HR.out, if_pos (by rintro rfl; simp at h0)])
    clear HR
    by_cases h1 : t.length ≤ 4096
    · have i1 : (t.length : Int) ≤ 4096 := by omega
      by_cases h2 : p = 0
      · by_cases h3 : n = 0
        · have q1 : (p == 0) = true := by simp [h2]
          have q2 : (n == 0) = true := by simp [h3]
          have HRR := Lib.hid (show res = true by rw [HR2.out]; exact decide_eq_true ⟨h1, h2, h3⟩)
          clear h2 h3 HR2
          go_enter Tryz.func26, Tryz.ntmps26
          go_wp2
          go_ret
          exact ⟨by rw [HRR.out]; rfl, B0.out⟩
        · have q1 : (p == 0) = true := by simp [h2]
          have q2 : (n == 0) = false := by simp [h3]
          have HRR := Lib.hid (show res = false by rw [HR2.out]; exact decide_eq_false (fun c => h3 c.2.2))
          clear h2 h3 HR2
          go_enter Tryz.func26, Tryz.ntmps26
          go_wp2
          go_ret
          exact ⟨by rw [HRR.out]; rfl, B0.out⟩
      · have q1 : (p == 0) = false := by simp [h2]
        have HRR := Lib.hid (show res = false by rw [HR2.out]; exact decide_eq_false (fun c => h2 c.2.1))
        clear h2 HR2
        go_enter Tryz.func26, Tryz.ntmps26
        go_wp2
        go_ret
        exact ⟨by rw [HRR.out]; rfl, B0.out⟩
    · have i1 : ¬ (t.length : Int) ≤ 4096 := by omega
      have HRR := Lib.hid (show res = false by rw [HR2.out]; exact decide_eq_false (fun c => h1 c.1))
      clear HR2 h1
      go_enter Tryz.func26, Tryz.ntmps26
      go_wp2
      go_ret
      exact ⟨by rw [HRR.out]; rfl, B0.out⟩
  · obtain rfl : t = [] := List.eq_nil_of_length_eq_zero (by omega)
    have HR2 := Lib.hid (show res = decide (0 < n ∧ n ≤ 524288 ∧ 0 ≤ p ∧ p ≤ 524288 - n) by rw [HR.out, if_neg (by simp)])
    clear HR
    by_cases h1 : 0 < n
    · by_cases h2 : n ≤ 524288
      · by_cases h3 : 0 ≤ p
        · by_cases h4 : p ≤ 524288 - n
          · have HRR := Lib.hid (show res = true by rw [HR2.out]; exact decide_eq_true ⟨h1, h2, h3, h4⟩)
            clear HR2
            go_enter Tryz.func26, Tryz.ntmps26
            go_wp2
            go_ret
            exact ⟨by rw [HRR.out]; rfl, B0.out⟩
          · have HRR := Lib.hid (show res = false by rw [HR2.out]; exact decide_eq_false (fun c => h4 c.2.2.2))
            clear HR2
            go_enter Tryz.func26, Tryz.ntmps26
            go_wp2
            go_ret
            exact ⟨by rw [HRR.out]; rfl, B0.out⟩
        · have HRR := Lib.hid (show res = false by rw [HR2.out]; exact decide_eq_false (fun c => h3 c.2.2.1))
          clear HR2
          go_enter Tryz.func26, Tryz.ntmps26
          go_wp2
          go_ret
          exact ⟨by rw [HRR.out]; rfl, B0.out⟩
      · have HRR := Lib.hid (show res = false by rw [HR2.out]; exact decide_eq_false (fun c => h2 c.2.1))
        clear HR2
        go_enter Tryz.func26, Tryz.ntmps26
        go_wp2
        go_ret
        exact ⟨by rw [HRR.out]; rfl, B0.out⟩
    · have HRR := Lib.hid (show res = false by rw [HR2.out]; exact decide_eq_false (fun c => h1 c.1))
      clear HR2
      go_enter Tryz.func26, Tryz.ntmps26
      go_wp2
      go_ret
      exact ⟨by rw [HRR.out]; rfl, B0.out⟩

set_option maxRecDepth 100000 in
set_option maxHeartbeats 1000000 in
theorem makes_any (x : DSt) (w : World) (h : stS x = true) :
    Calls Tryz.prog 27 #[stV x] w fun e w' => e = .returned (.int .i64 (mkS x)) ∧ Below w.heap.size w w' := by
  obtain ⟨p, n, t⟩ := x
  have hb : t.length ≤ 4096 ∧ 0 ≤ n ∧ n ≤ 524288 := by
    unfold stS at h; dsimp only at h
    split at h
    · have := of_decide_eq_true h; omega
    · rename_i c; have := of_decide_eq_true h; simp at c; subst c; simp; omega
  obtain ⟨h1, h2, h3⟩ := hb
  clear h
  have B0 := Lib.hid (below_self_alloc w (stO ⟨p, n, t⟩))
  obtain ⟨c0, c1, c2⟩ := stO_at w ⟨p, n, t⟩
  dsimp only at c0 c1 c2
  rw [Nat.zero_add] at c1 c2
  have TL := Lib.hid (show (⟨t.toArray⟩ : ByteArray).size = t.length from rfl)
  have HR := Lib.hid (show mkS ⟨p, n, t⟩ = (t.length : Int) + n from rfl)
  rw [HR.out]
  go_enter Tryz.func27, Tryz.ntmps27
  go_wp2
  go_ret
  exact ⟨rfl, B0.out⟩
end Go.Proofs.YtpkgjokehgihjaaGreat
